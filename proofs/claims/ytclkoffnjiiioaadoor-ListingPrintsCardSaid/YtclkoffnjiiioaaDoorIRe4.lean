import Derived.Test.YtclkoffnjiiioaaDoorIRe1
import Derived.Test.YtclkoffnjiiioaaDoorIRb
import Derived.Test.YtclkoffnjiiioaaDoorCLast
namespace Go.Proofs.YtclkoffnjiiioaaDoor
open Go.RowKit
set_option linter.unusedVariables false
set_option linter.unusedSimpArgs false
attribute [local go_sem ↓] Go.wp_at_zero Go.wp_at_succ
set_option maxRecDepth 100000 in
set_option maxHeartbeats 4000000 in
theorem rlit_ok (w0 : World) (hpw : Pw w0) (p : Option Addr) (c : Nat) (ts : List LitT) (h : LitsR w0 p c ts) (t : LitT) (ht : t ∈ ts) (hF : FineT t) (hl : (wrT t).length ≤ 100000000) (V : World) (hf : Fr [] w0 V) : Calls Tryd.prog 20 #[.agg #[.int .i64 t.kind, .string t.text, .int .i64 t.num, t.items]] V fun e w' => e = .returned (.string (ba (litW t))) ∧ Fr [] V w' := by
  obtain ⟨V1, hV1⟩ : ∃ U, V.alloc (.cells #[.int .i64 t.kind, .string t.text, .int .i64 t.num, .slice t.p t.kids.length t.c] 39) = U := ⟨_, rfl⟩
  have hb : V1.heap[V.heap.size]? = some (.cells #[.int .i64 t.kind, .string t.text, .int .i64 t.num, .slice t.p t.kids.length t.c] 39 (0, 0)) := by rw [← hV1]; exact heap_alloc_new V _
  have f1 : Fr [] V V1 := by rw [← hV1]; exact Fr.alloc [] V _
  have k0 : V1.cell? ⟨V.heap.size, 0, none⟩ = some (.int .i64 t.kind) := cell_in hb 0
  have k1 : V1.cell? ⟨V.heap.size, 1, none⟩ = some (.string t.text) := cell_in hb 1
  have k2 : V1.cell? ⟨V.heap.size, 2, none⟩ = some (.int .i64 t.num) := cell_in hb 2
  have k3 : V1.cell? ⟨V.heap.size, 3, none⟩ = some (.slice t.p t.kids.length t.c) := cell_in hb 3
  have HF1 := mkHid f1
  have HE := mkHid (relement_all w0 hpw p c ts h t ht hF (by omega) V1 (hf.tr0 f1))
  by_cases hk : t.kind = 2
  · have hW : wrT t = textW t.text := by rw [wrT_at, if_neg (by omega), if_pos hk]
    have hts : t.text.size ≤ 256 := by obtain ⟨_, h0, h1, h2, h3, kk⟩ := hF; exact h2 hk
    have HI := mkHid (rtext_ok t.text (by omega) V1 ((hpw.idle hf).idle f1))
    have HL : Hid ((⟨#[116, 101, 120, 116, 32]⟩ : ByteArray) ++ ba (textW t.text) ++ (⟨#[10]⟩ : ByteArray) = ba (litW t)) := by
      show _ = _
      unfold litW
      rw [if_pos hk, hW, show (⟨#[116, 101, 120, 116, 32]⟩ : ByteArray) = ba [116, 101, 120, 116, 32] from rfl, show (⟨#[10]⟩ : ByteArray) = ba [10] from rfl, ba_app, ba_app]
    have hs1 := ba_size (textW t.text)
    have hs2 := textW_len t.text hts
    have hs3 : ((⟨#[116, 101, 120, 116, 32]⟩ : ByteArray) ++ ba (textW t.text)).size = 5 + (textW t.text).length := by rw [show (⟨#[116, 101, 120, 116, 32]⟩ : ByteArray) = ba [116, 101, 120, 116, 32] from rfl, ba_app, ba_size, List.length_append]; rfl
    unfold LitT.items
    rw [hk] at k0 hV1 ⊢
    clear h hF hl hf hb f1 HE hk hW hts
    go_enter Tryd.func20, Tryd.ntmps20
    go_wp2_with (go_at_call 31; refine HI.out.mono ?_; rintro e w1 ⟨rfl, hf1⟩; have H1 := mkHid hf1; clear hf1)
    go_ret
    exact ⟨by rw [← HL.out]; rfl, HF1.out.tr0 H1.out⟩
  · have q2 : (t.kind == 2) = false := beq_eq_false_iff_ne.2 hk
    have HL : Hid ((⟨#[97, 114, 114, 97, 121, 32]⟩ : ByteArray) ++ ba (wrT t) ++ (⟨#[10]⟩ : ByteArray) = ba (litW t)) := by
      show _ = _
      unfold litW
      rw [if_neg hk, show (⟨#[97, 114, 114, 97, 121, 32]⟩ : ByteArray) = ba [97, 114, 114, 97, 121, 32] from rfl, show (⟨#[10]⟩ : ByteArray) = ba [10] from rfl, ba_app, ba_app]
    have hs1 := ba_size (wrT t)
    have hs3 : ((⟨#[97, 114, 114, 97, 121, 32]⟩ : ByteArray) ++ ba (wrT t)).size = 6 + (wrT t).length := by rw [show (⟨#[97, 114, 114, 97, 121, 32]⟩ : ByteArray) = ba [97, 114, 114, 97, 121, 32] from rfl, ba_app, ba_size, List.length_append]; rfl
    have hw1 : ¬ 9223372036854775807 < 6 + (wrT t).length := by omega
    have hw2 : ¬ 9223372036854775807 < 6 + (wrT t).length + 1 := by omega
    unfold LitT.items at HE ⊢
    clear h hF hf hb f1 hk
    go_enter Tryd.func20, Tryd.ntmps20
    go_wp2_with (go_at_call 32; refine HE.out.mono ?_; rintro e w1 ⟨rfl, hf1⟩; have H1 := mkHid hf1; clear hf1)
    go_ret
    exact ⟨by rw [← HL.out]; rfl, HF1.out.tr0 H1.out⟩
end Go.Proofs.YtclkoffnjiiioaaDoor

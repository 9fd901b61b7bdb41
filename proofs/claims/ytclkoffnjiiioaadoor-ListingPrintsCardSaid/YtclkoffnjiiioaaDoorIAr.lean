import Derived.Test.YtclkoffnjiiioaaDoorITx
namespace Go.Proofs.YtclkoffnjiiioaaDoor
open Go.RowKit
set_option linter.unusedVariables false
set_option linter.unusedSimpArgs false
attribute [local go_sem ↓] Go.wp_at_zero Go.wp_at_succ
/-- a literal whose numbers are Go's and whose texts are short -/
inductive FineT : LitT → Prop
  | mk (t : LitT) (h0 : 1 ≤ t.kind ∧ t.kind ≤ 7) (h1 : -9223372036854775808 ≤ t.num ∧ t.num ≤ 9223372036854775807) (h2 : t.kind = 2 → t.text.size ≤ 256) (h3 : t.kind = 4 → t.kids.length ≤ 32) (k : t.kind = 4 → ∀ u ∈ t.kids, FineT u) : FineT t
/-- the method that writes an element: whose it is, what it does -/
def EW (W0 : World) (B : Nat) (v : Value) (t : LitT) : Prop := ∃ T u K, v = .iface T u ∧ (∀ w, (method 221 T u "kiln/listing.write").run Tryd.prog w = .ok (K, u) w) ∧ (∀ args w, (callFunc K args).run Tryd.prog w = .ok (.enter K args) w) ∧ (∀ w, (nilAhead 221 T u "kiln/listing.write").run Tryd.prog w = .ok (some false) w) ∧ ∀ (W : World) (pg : Value) (bs : List UInt8), Below B W0 W → Pg W B pg bs → bs.length + (wrT t).length + 64 ≤ 70368744177664 → Calls Tryd.prog K #[u, pg] W fun e w' => WrP W B bs (wrT t) e w'
theorem m65 (n : Int) (w : World) : (method 221 77 (.int .i64 n) "kiln/listing.write").run Tryd.prog w = .ok (65, .int .i64 n) w := by kernel_rfl
theorem m66 (s : ByteArray) (w : World) : (method 221 78 (.string s) "kiln/listing.write").run Tryd.prog w = .ok (66, .string s) w := by kernel_rfl
theorem m70 (n : Int) (w : World) : (method 221 79 (.int .i64 n) "kiln/listing.write").run Tryd.prog w = .ok (70, .int .i64 n) w := by kernel_rfl
theorem m71 (w : World) : (method 221 81 (.agg #[]) "kiln/listing.write").run Tryd.prog w = .ok (71, .agg #[]) w := by kernel_rfl
theorem m72 (w : World) : (method 221 82 (.agg #[]) "kiln/listing.write").run Tryd.prog w = .ok (72, .agg #[]) w := by kernel_rfl
theorem m73 (w : World) : (method 221 83 (.agg #[]) "kiln/listing.write").run Tryd.prog w = .ok (73, .agg #[]) w := by kernel_rfl
theorem m74 (p : Option Addr) (n c : Nat) (w : World) : (method 221 84 (.slice p n c) "kiln/listing.write").run Tryd.prog w = .ok (74, .slice p n c) w := by kernel_rfl
theorem n65 (n : Int) (w : World) : (nilAhead 221 77 (.int .i64 n) "kiln/listing.write").run Tryd.prog w = .ok (some false) w := by kernel_rfl
theorem e65 (args : Array Value) (w : World) : (callFunc 65 args).run Tryd.prog w = .ok (.enter 65 args) w := by kernel_rfl
theorem n66 (s : ByteArray) (w : World) : (nilAhead 221 78 (.string s) "kiln/listing.write").run Tryd.prog w = .ok (some false) w := by kernel_rfl
theorem e66 (args : Array Value) (w : World) : (callFunc 66 args).run Tryd.prog w = .ok (.enter 66 args) w := by kernel_rfl
theorem n70 (n : Int) (w : World) : (nilAhead 221 79 (.int .i64 n) "kiln/listing.write").run Tryd.prog w = .ok (some false) w := by kernel_rfl
theorem e70 (args : Array Value) (w : World) : (callFunc 70 args).run Tryd.prog w = .ok (.enter 70 args) w := by kernel_rfl
theorem n71 (w : World) : (nilAhead 221 81 (.agg #[]) "kiln/listing.write").run Tryd.prog w = .ok (some false) w := by kernel_rfl
theorem e71 (args : Array Value) (w : World) : (callFunc 71 args).run Tryd.prog w = .ok (.enter 71 args) w := by kernel_rfl
theorem n72 (w : World) : (nilAhead 221 82 (.agg #[]) "kiln/listing.write").run Tryd.prog w = .ok (some false) w := by kernel_rfl
theorem e72 (args : Array Value) (w : World) : (callFunc 72 args).run Tryd.prog w = .ok (.enter 72 args) w := by kernel_rfl
theorem n73 (w : World) : (nilAhead 221 83 (.agg #[]) "kiln/listing.write").run Tryd.prog w = .ok (some false) w := by kernel_rfl
theorem e73 (args : Array Value) (w : World) : (callFunc 73 args).run Tryd.prog w = .ok (.enter 73 args) w := by kernel_rfl
theorem n74 (p : Option Addr) (n c : Nat) (w : World) : (nilAhead 221 84 (.slice p n c) "kiln/listing.write").run Tryd.prog w = .ok (some false) w := by kernel_rfl
theorem e74 (args : Array Value) (w : World) : (callFunc 74 args).run Tryd.prog w = .ok (.enter 74 args) w := by kernel_rfl
set_option maxRecDepth 100000 in
set_option maxHeartbeats 4000000 in
/-- an array is written where its elements are -/
theorem array_ok (W0 : World) (B : Nat) (ts : List LitT) (p : Option Addr) (c : Nat) (vs : List Value) (row : W0.ownsRow 0 50 1 (.slice p ts.length c) ts.length vs) (hB : W0.heap.size ≤ B) (hE : ∀ (i : Nat) (u : LitT) (v : Value), ts[i]? = some u → vs[i]? = some v → EW W0 B v u) (hn : ts.length ≤ 100000)
    (W : World) (pg : Value) (bs : List UInt8) (hb : Below B W0 W) (h : Pg W B pg bs) (hl : bs.length + (wrL ts true).length + 66 ≤ 70368744177664) : Calls Tryd.prog 74 #[.slice p ts.length c, pg] W fun e w' => WrP W B bs (40 :: (wrL ts true ++ [41])) e w' := by
  obtain ⟨v1, w1, hr, hp, hf⟩ := h.push [40] (by simp; omega)
  have HR := mkHid hr
  have H1 : Hid (Pg w1 B v1 (bs ++ [40] ++ []) ∧ Pf B W w1 ∧ wrL (ts.drop 0) true = wrL (ts.drop 0) true) := ⟨by simpa using hp, hf, rfl⟩
  have HRow := mkHid row
  have HE := mkHid hE
  have HBw := mkHid hb
  have HB0 := mkHid hB
  clear h hr hp hf row hE hb hB
  go_enter Tryd.func74, Tryd.ntmps74
  go_wp2_with (at_builtin; refine Lib.wpList_append_run _ rfl (.tmp 7) (.tmp 8) 47 47 rfl _ _ rfl rfl _ _ HR.out ?_)
  go_loopw [1, 12] (fun pg q wr => ∃ i : Nat, i ≤ ts.length ∧ q = .int .i64 (i : Int) ∧ Hid (∃ done, Pg wr B pg (bs ++ [40] ++ done) ∧ Pf B W wr ∧ done ++ wrL (ts.drop i) (decide (i = 0)) = wrL ts true)) (fun _ q _ => ts.length - (intOf q).toNat)
  case atStart => exact ⟨0, Nat.zero_le _, rfl, [], H1.out.1, H1.out.2.1, by simp⟩
  case round =>
    clear HR H1
    obtain ⟨i, hi, rfl, hst⟩ := hrel
    have i0 : (0 : Int) ≤ (i : Int) := by omega
    obtain ⟨done, hp, hf, hd⟩ := hst.out
    by_cases hlt : i < ts.length
    · have i1 : (i : Int) < (ts.length : Int) := by omega
      obtain ⟨t, ht⟩ : ∃ t, ts[i]? = some t := ⟨_, List.getElem?_eq_getElem hlt⟩
      have hvl : vs.length = ts.length := by have := HRow.out.1; omega
      obtain ⟨v, hv⟩ : ∃ v, vs[i]? = some v := ⟨_, List.getElem?_eq_getElem (by omega)⟩
      obtain ⟨T, u, K, rfl, hm, hen, -, hK⟩ := HE.out i t v ht hv
      obtain ⟨g, rfl⟩ : ∃ g, p = some ⟨g, 0, none⟩ := by
        rcases HRow.out.2 with ⟨e, e0⟩ | ⟨g, cap, cur, e, q1, q2, q3, q4⟩
        · omega
        · injection e with e1 _ e3
          exact ⟨g, e1⟩
      have hbl := HBw.out.trans hf.below
      have c0 : wr.cell? ⟨g, i, none⟩ = some (.iface T u) := by
        have hgl := (own_lt HRow.out g rfl).2
        have h1 : wr.heap[g]? = W0.heap[g]? := hbl.block g (Nat.lt_of_lt_of_le hgl HB0.out)
        rw [World.cell?_of_block (w := W0) (a := ⟨g, i, none⟩) h1, HRow.out.cellAt i (by omega), hv]
      rw [drop_at ht, wrL_cons] at hd
      have hlen : done.length + (wrL ts true).length = done.length + (wrL ts true).length := rfl
      have hsum := congrArg List.length hd
      simp only [List.length_append] at hsum
      by_cases hz : i = 0
      · subst hz
        rw [if_pos (by decide)] at hd hsum
        simp only [List.nil_append] at hd
        have HK := mkHid (hK wr u1 (bs ++ [40] ++ done) hbl hp (by simp only [List.length_append, List.length_singleton]; simp at hsum; omega))
        have HX : Hid (∀ v' w', Pg w' B v' (bs ++ [40] ++ done ++ wrT t) → Pf B wr w' → ∃ done, Pg w' B v' (bs ++ [40] ++ done) ∧ Pf B W w' ∧ done ++ wrL (ts.drop (0 + 1)) (decide (0 + 1 = 0)) = wrL ts true) := fun v' w' h1 h2 => ⟨done ++ wrT t, by rw [← List.append_assoc]; exact h1, hf.trans h2, by rw [List.append_assoc]; exact hd⟩
        clear hst hp hf hd hsum hK hbl
        go_wp2_with fail
        refine HK.out.mono ?_
        rintro e w2 ⟨v', rfl, h1, h2⟩
        have HY := mkHid (HX.out v' w2 h1 h2)
        clear h1 h2
        go_wp2_with fail
        go_roundw
        case rel => exact ⟨0 + 1, by omega, by go_num, HY.out⟩
        case measure => simp [intOf]; omega
      · have hz1 : (i : Int) ≠ 0 := by omega
        have hz2 : (0 : Int) < (i : Int) := by omega
        rw [decide_eq_false hz, if_neg (by decide)] at hd hsum
        obtain ⟨v2, w2, hr2, hp2, hf2⟩ := hp.push [32] (by simp only [List.length_append, List.length_singleton] at hsum ⊢; omega)
        have HR2 := mkHid hr2
        have HK := mkHid (hK w2 v2 (bs ++ [40] ++ done ++ [32]) (hbl.trans hf2.below) hp2 (by simp only [List.length_append, List.length_singleton] at hsum ⊢; omega))
        have HX : Hid (∀ v' w', Pg w' B v' (bs ++ [40] ++ done ++ [32] ++ wrT t) → Pf B w2 w' → ∃ done, Pg w' B v' (bs ++ [40] ++ done) ∧ Pf B W w' ∧ done ++ wrL (ts.drop (i + 1)) (decide (i + 1 = 0)) = wrL ts true) := fun v' w' h1 h2 => ⟨done ++ ([32] ++ wrT t), by rw [← List.append_assoc, ← List.append_assoc]; exact h1, (hf.trans hf2).trans h2, by rw [← hd, show decide (i + 1 = 0) = false by simp, List.append_assoc]⟩
        clear hst hp hf hd hsum hK hbl hr2 hp2 hf2
        go_wp2_with (at_builtin; refine Lib.wpList_append_run _ rfl (.tmp 19) (.tmp 20) 47 47 rfl _ _ rfl rfl _ _ HR2.out ?_)
        refine HK.out.mono ?_
        rintro e w3 ⟨v', rfl, h1, h2⟩
        have HY := mkHid (HX.out v' w3 h1 h2)
        clear h1 h2
        go_wp2_with fail
        go_roundw
        case rel => exact ⟨i + 1, by omega, by go_num, HY.out⟩
        case measure => simp [intOf]; omega
    · have hie : i = ts.length := by omega
      subst hie
      rw [List.drop_eq_nil_of_le (Nat.le_refl _), wrL_nil, List.append_nil] at hd
      rw [hd] at hp
      obtain ⟨v2, w2, hr2, hp2, hf2⟩ := hp.push [41] (by simp only [List.length_append, List.length_singleton]; omega)
      have HR2 := mkHid hr2
      have HX : Hid (WrP W B bs (40 :: (wrL ts true ++ [41])) (.returned v2) w2) := by
        refine ⟨v2, rfl, ?_, hf.trans hf2⟩
        have e : bs ++ [40] ++ wrL ts true ++ [41] = bs ++ 40 :: (wrL ts true ++ [41]) := by simp
        rw [← e]
        exact hp2
      clear hst hp hf hd hr2 hp2 hf2
      go_wp2_with (at_builtin; refine Lib.wpList_append_run _ rfl (.tmp 26) (.tmp 27) 47 47 rfl _ _ rfl rfl _ _ HR2.out ?_)
      go_ret
      exact HX.out
/-- an element is written -/
theorem elem_ok (W0 : World) (B : Nat) (Ok : Nat → Prop) (hB : W0.heap.size ≤ B) (v : Value) (t : LitT) (h : ElR W0 Ok v t) : FineT t → EW W0 B v t := by
  induction h with
  | int t h =>
    rintro ⟨_, h0, h1, h2, h3, k⟩
    refine ⟨77, _, 65, rfl, m65 _, e65, n65 _, fun W pg bs hb hp hl => ?_⟩
    rw [wrT_at, if_pos h] at hl ⊢
    exact number_ok hp t.num h1.1 h1.2 (by omega)
  | text t h =>
    rintro ⟨_, h0, h1, h2, h3, k⟩
    refine ⟨78, _, 66, rfl, m66 _, e66, n66 _, fun W pg bs hb hp hl => ?_⟩
    rw [wrT_at, if_neg (by omega), if_pos h] at hl ⊢
    exact text_ok hp t.text (by have := h2 h; omega) (by omega)
  | sym t h =>
    rintro ⟨_, h0, h1, h2, h3, k⟩
    refine ⟨79, _, 70, rfl, m70 _, e70, n70 _, fun W pg bs hb hp hl => ?_⟩
    rw [wrT_at, if_neg (by omega), if_neg (by omega), if_pos h] at hl ⊢
    exact symbol_ok hp t.num h1.1 h1.2 (by omega)
  | nil t h =>
    intro _
    refine ⟨81, _, 71, rfl, m71, e71, n71, fun W pg bs hb hp hl => ?_⟩
    rw [wrT_at, if_neg (by omega), if_neg (by omega), if_neg (by omega), if_pos h]
    exact nothing_ok hp (by omega)
  | yes t h =>
    intro _
    refine ⟨82, _, 72, rfl, m72, e72, n72, fun W pg bs hb hp hl => ?_⟩
    rw [wrT_at, if_neg (by omega), if_neg (by omega), if_neg (by omega), if_neg (by omega), if_pos h]
    exact yes_ok hp (by omega)
  | no t h =>
    intro _
    refine ⟨83, _, 73, rfl, m73, e73, n73, fun W pg bs hb hp hl => ?_⟩
    rw [wrT_at, if_neg (by omega), if_neg (by omega), if_neg (by omega), if_neg (by omega), if_neg (by omega), if_pos h]
    exact no_ok hp (by omega)
  | arr t h p c vs row ok kids ih =>
    rintro ⟨_, h0, h1, h2, h3, k⟩
    refine ⟨84, _, 74, rfl, m74 _ _ _, e74, n74 _ _ _, fun W pg bs hb hp hl => ?_⟩
    rw [wrT_at, if_neg (by omega), if_neg (by omega), if_neg (by omega), if_neg (by omega), if_neg (by omega), if_neg (by omega)] at hl ⊢
    simp only [List.length_cons, List.length_append, List.length_singleton] at hl
    exact array_ok W0 B t.kids p c vs row hB (fun i u v hu hv => ih i u v hu hv (k h u (List.mem_of_getElem? hu))) (by have := h3 h; omega) W pg bs hb hp (by omega)
end Go.Proofs.YtclkoffnjiiioaaDoor

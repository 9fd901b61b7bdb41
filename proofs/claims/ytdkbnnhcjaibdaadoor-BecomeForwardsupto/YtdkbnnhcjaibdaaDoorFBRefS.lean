import Derived.Test.YtdkbnnhcjaibdaaDoorFBMay
import Derived.Test.YtdkbnnhcjaibdaaDoorFBSwap
import Derived.Deep.DeepCutAuto
import Derived.Deep.RegionHeld3
namespace Go.Proofs.YtdkbnnhcjaibdaaDoor
open Go.RowKit Go.Maps
set_option linter.unusedVariables false
set_option linter.unusedSimpArgs false
attribute [local go_sem ↓] Go.wp_at_zero Go.wp_at_succ
/-- the blocks of the document's heap that an exchange writes -/
def rFoot (r : Nat) (R : RS) : List Nat := r :: R.ov.ownBlock.toList
theorem mem_rFoot {r g : Nat} {R : RS} : g ∈ rFoot r R ↔ g = r ∨ R.ov.ownBlock = some g := by
  unfold rFoot
  rw [List.mem_cons, Option.mem_toList]
theorem rhas_key {words oops mark N : Nat} {ks : List Key} {R : RS} {q : Int} (h : rhas R q = true) : ¬ RNo R q := fun hn => by
  rw [rhas_no hn] at h
  cases h
theorem rhas_nat {R : RS} {q : Int} (h : rhas R q = true) : 0 ≤ q := by
  unfold rhas at h
  obtain ⟨o, -, h2⟩ := List.any_eq_true.1 h
  have := of_decide_eq_true h2
  omega
/-- a stage of the document's swap -/
structure RSw (words oops mark N : Nat) (ks : List Key) (B r : Nat) (R : RS) (k : Nat) (w : World) (R' : RS) : Prop where
  rep : RRep w B r R'
  rk : RK words oops mark ks N R'.bare
  nodup : (R'.objs.map fun o => o.oop).Nodup
  turn : R'.turn = R.turn + k
  ov : R'.ov = R.ov
  has : ∀ q, ¬ RNo R q → ¬ RNo R' q
  same : k = 0 → R' = R
set_option maxRecDepth 20000 in
set_option maxHeartbeats 2000000 in
theorem rSwap_ok {words oops mark N : Nat} {ks : List Key} (sa sb : List Int) (va vb : Value) (B r : Nat) (R : RS) (w : World) (h : RRep w B r R) (hnd : (R.objs.map fun o => o.oop).Nodup) (hr : RK words oops mark ks N R.bare) (hl : R.objs.length ≤ 65538) (ht : R.turn ≤ 1000000) (hra : Rd w va sa) (hrb : Rd w vb sb) (hs : sa.length + sb.length ≤ 1048576)
    (hba : 0 < sa.length → ∀ g, va.ownBlock = some g → g ∉ rFoot r R) (hbb : 0 < sb.length → ∀ g, vb.ownBlock = some g → g ∉ rFoot r R) :
    Calls Tryd.prog 45 #[.pointer (some ⟨r, 0, none⟩), va, vb] w fun e w' =>
      (fitN (rhas R) sa sb ≠ 0 ∧ e = .returned (.int .i64 (fitN (rhas R) sa sb)) ∧ Fr [] w w') ∨
      (fitN (rhas R) sa sb = 0 ∧ e = .returned (.int .i64 0) ∧ ∃ R', RSw words oops mark N (swapK (sa.zip sb) ks) B r R sa.length w' R' ∧ Fr (rFoot r R) w w') := by
  have HP := mkHid (may_ok sa sb va vb B r R w h (by omega) hra hrb (by omega))
  obtain ⟨pa, ca, rfl, hpa⟩ := hra.at_
  obtain ⟨pb, cb, rfl, hpb⟩ := hrb.at_
  have HR := mkHid h
  have HK := mkHid hr
  have HN := mkHid hnd
  have HPa := mkHid hpa
  have HPb := mkHid hpb
  have HArg := mkHid hba
  have HBrg := mkHid hbb
  clear h hr hnd hra hrb hpa hpb hba hbb
  obtain ⟨F, hF⟩ : ∃ F, F = fitN (rhas R) sa sb := ⟨_, rfl⟩
  rw [← hF] at HP ⊢
  have HF := mkHid hF
  clear hF
  go_enter Tryd.func45, Tryd.ntmps45
  go_wp2_with fail
  refine Calls.mono HP.out ?_
  rintro e w1 ⟨rfl, hf1⟩
  have HF1 := mkHid hf1
  clear hf1 HP
  by_cases h0 : F = 0
  rotate_left
  · have hb0 : (F != 0) = true := by simpa using h0
    have HNe := mkHid h0
    clear h0
    go_wp2_with fail
    go_ret
    exact .inl ⟨HNe.out, rfl, HF1.out⟩
  · subst h0
    obtain ⟨f1, f2, f3, f4⟩ := fit0 HF.out.symm
    have HFt := mkHid (And.intro f1 (And.intro f2 (And.intro f3 f4)))
    clear f1 f2 f3 f4
    go_wp2_with fail
    go_loopw [8] (fun q wr => ∃ k : Nat, k ≤ sa.length ∧ q = .int .i64 k ∧ Hid (∃ R', RSw words oops mark N (swapK ((sa.zip sb).take k) ks) B r R k wr R') ∧ Hid (Fr (rFoot r R) w1 wr)) (fun q _ => sa.length - (intOf q).toNat)
    case atStart => exact ⟨0, Nat.zero_le _, rfl, ⟨R, HR.out.idle HF1.out, by rw [List.take_zero, swapK_nil]; exact HK.out, HN.out, rfl, rfl, fun _ h => h, fun _ => rfl⟩, Fr.refl _ _⟩
    case round =>
      obtain ⟨k, hkn, rfl, hst, hfr⟩ := hrel
      have k1 : (0 : Int) ≤ (k : Int) := by omega
      by_cases hlt : k < sa.length
      · have k2 : (k : Int) < (sa.length : Int) := by omega
        obtain ⟨f1, f2, f3, f4⟩ := HFt.out
        have hltb : k < sb.length := by omega
        have k3 : (k : Int) < (sb.length : Int) := by omega
        obtain ⟨ga, oa, rfl, hga, hca⟩ := HPa.out (by omega)
        obtain ⟨gb, ob, rfl, hgb, hcb⟩ := HPb.out (by omega)
        have HCl : Hid (∀ V, Hid (Fr (rFoot r R) w1 V) → V.cell? ⟨ga, oa + k, none⟩ = some (.int .i64 (sa.getD k 0)) ∧ V.cell? ⟨gb, ob + k, none⟩ = some (.int .i64 (sb.getD k 0)) ∧ Hid (Fr (rFoot r R) w1 V)) := fun V hV => by
          have hsz := HF1.out.size
          refine ⟨?_, ?_, hV⟩
          · rw [hV.out.cell (p := ⟨ga, oa + k, none⟩) (by show ga < w1.heap.size; omega) (HArg.out (by omega) ga rfl), HF1.out.cell (p := ⟨ga, oa + k, none⟩) hga (by simp), hca k hlt]
          · rw [hV.out.cell (p := ⟨gb, ob + k, none⟩) (by show gb < w1.heap.size; omega) (HBrg.out (by omega) gb rfl), HF1.out.cell (p := ⟨gb, ob + k, none⟩) hgb (by simp), hcb k hltb]
        have htk := zip_get sa sb f1 k hlt
        have hpm : (sa.getD k 0, sb.getD k 0) ∈ sa.zip sb := by
          have : (sa.getD k 0, sb.getD k 0) ∈ (sa.zip sb).take (k + 1) := by rw [htk]; simp
          exact List.mem_of_mem_take this
        have hnd := nodup_take (k + 1) f4
        rw [htk] at hnd
        have hxy : sa.getD k 0 ≠ sb.getD k 0 := by
          have h2 := hnd
          rw [nums_append] at h2
          obtain ⟨n1, n2, n3⟩ := List.nodup_append.1 h2
          exact fun e => (List.nodup_cons.1 n2).1 (List.mem_singleton.2 e)
        have hha := f2 _ (List.of_mem_zip hpm).1
        have hhb := f3 _ (List.of_mem_zip hpm).2
        have HNx : Hid (swapK ((sa.zip sb).take (k + 1)) ks = (swapK ((sa.zip sb).take k) ks).map (swk (sa.getD k 0) (sb.getD k 0))) := by
          show swapK ((sa.zip sb).take (k + 1)) ks = _
          rw [htk, swap_snoc _ _ _ hnd]
        have hxa := rhas_nat hha
        have hxb := rhas_nat hhb
        have hna := rhas_key (words := words) (oops := oops) (mark := mark) (N := N) (ks := ks) hha
        have hnb := rhas_key (words := words) (oops := oops) (mark := mark) (N := N) (ks := ks) hhb
        generalize sa.getD k 0 = x0 at *
        generalize sb.getD k 0 = y0 at *
        obtain ⟨x, rfl⟩ : ∃ n : Nat, x0 = (n : Int) := ⟨x0.toNat, by omega⟩
        obtain ⟨y, rfl⟩ : ∃ n : Nat, y0 = (n : Int) := ⟨y0.toNat, by omega⟩
        have HEx : Hid (∀ V, Hid (Fr [] wr V) → Calls Tryd.prog 87 #[.pointer (some ⟨r, 0, none⟩), .int .i64 (x : Int), .int .i64 (y : Int)] V fun e w' => e = .returned (.int .i64 0) ∧ Hid (∃ R', RSw words oops mark N (swapK ((sa.zip sb).take (k + 1)) ks) B r R (k + 1) w' R') ∧ Hid (Fr (rFoot r R) w1 w')) := fun V hV => by
          obtain ⟨Ri, hri⟩ := hst.out
          have hlen : Ri.objs.length = R.objs.length := by
            have h1 := hri.rk.len
            have h2 := HK.out.len
            rw [swapK_len] at h1
            show Ri.bare.objs.length = R.bare.objs.length
            omega
          refine (rExch_ok x y B r Ri V (hri.rep.idle hV.out) (by omega) (by rw [hri.turn]; omega) (hri.has _ hna) (hri.has _ hnb)).mono ?_
          rintro e w' ⟨rfl, i, j, g, hi, hj, hg, hrep, hf⟩
          have hxn : x ≠ y := fun e => hxy (by rw [e])
          have hrk := exch_rk hri.nodup hri.rk hi hj hxn
          refine ⟨rfl, ⟨rExchR Ri i j x y, hrep, by rw [HNx.out]; exact hrk, exch_oops hri.nodup (by rw [show (rExchR Ri i j x y).objs.map roKey = _ from hrk.keys, ← show Ri.objs.map roKey = _ from hri.rk.keys]), by show Ri.turn + 1 = _; rw [hri.turn]; omega, hri.ov, fun q hq => exch_has hri.nodup hi hj hxn (hri.has q hq), fun e => by omega⟩, ?_⟩
          refine (hfr.out.trans hV.out (by simp)).trans hf (fun b hb => .inl (mem_rFoot.2 ?_))
          rcases List.mem_cons.1 hb with e | hb
          · right; rw [← hri.ov, hg, e]
          · left; simpa using hb
        have hR : Hid (Fr [] wr wr) := Fr.refl _ _
        clear hca hcb f1 f2 f3 f4 htk hpm hnd hxy hha hhb hna hnb hxa hxb hst
        obtain ⟨c1, c2, -⟩ := HCl.out wr hfr
        go_wp2_with fail
        go_region_held3 (fun V => V.cell? ⟨ga, oa + k, none⟩ = some (.int .i64 (x : Int)) ∧ V.cell? ⟨gb, ob + k, none⟩ = some (.int .i64 (y : Int)) ∧ Hid (Fr (rFoot r R) w1 V))
          (first
            | exact HCl.out _ (hid_drew hfr)
            | exact HCl.out _ (by assumption))
          (first | (go_at_call 87; refine (HEx.out _ (hid_drew hR)).mono ?_; rintro e w' ⟨rfl, hst', hfr'⟩))
        all_goals go_wp2_with fail
        all_goals
          go_roundw
          case rel => exact ⟨k + 1, by omega, by go_num, by assumption, by assumption⟩
          case measure => simp [intOf]; omega
      · have hke : k = sa.length := by omega
        subst hke
        have hz : (sa.zip sb).take sa.length = sa.zip sb := List.take_of_length_le (by rw [List.length_zip]; omega)
        have HFin : Hid (∃ R', RSw words oops mark N (swapK (sa.zip sb) ks) B r R sa.length wr R' ∧ Fr (rFoot r R) w wr) := by
          obtain ⟨R', h1⟩ := hst.out
          rw [hz] at h1
          have hf : Fr (rFoot r R) w w1 := ⟨HF1.out.os, HF1.out.tape, HF1.out.output, HF1.out.size, fun i hi _ => HF1.out.block i hi (by simp)⟩
          exact ⟨R', h1, hf.trans hfr.out (fun b hb => .inl hb)⟩
        clear hst hz hlt
        go_wp2_with fail
        go_ret
        obtain ⟨R', h1, h2⟩ := HFin.out
        exact ⟨rfl, ⟨R', h1⟩, h2⟩
end Go.Proofs.YtdkbnnhcjaibdaaDoor

import Derived.Test.YtclkoffnjiiioaaGreatDoorRows
import Derived.Test.YtclkoffnjiiioaaGreatDoorG40JEnv
import Derived.Test.YtclkoffnjiiioaaGreatDoorG02IOpen
import Derived.WalkKit
import Derived.ProofKit
import Derived.OpenShut
import Derived.LaidMore
import Derived.Lay
import Derived.Lib.SmallJoins
import Derived.Stop.Joined
import Derived.SizedLaws
import Derived.Deep.DeepHandedRow
import Derived.Deep.Strs
import Derived.JoinedCond
import Derived.ChangeMaps5
namespace Go.Proofs.YtclkoffnjiiioaaGreatDoor.listingReads
open Go.ChangeShapes Go.WideShapes Go.ChangeAt Go.RowKit
set_option linter.unusedVariables false
theorem reads (os : Os) {H : Type} (enc : TypeId × Value → H) : ∃ places, DataW.whole enc Tryz.prog ((World.laidAll Tryz.prog os eLaid).forCall (fun _ _ => 0) ⟨#[], #[.slice none 0 0], []⟩).memory Tryz.f5.params.toList Rows.listingReadsSpec.vars false #[Value.slice none 0 0].toList 8 = some ([.nil], [], places) :=
  ⟨[], by kernel_rfl⟩
theorem bulk_mem {H : Type} {d : DataW H} : ∀ {l : List (DataW H)}, d ∈ l → Rows.uptoBulk d ≤ Rows.uptoBulkAll l
  | [], h => by cases h
  | x :: l, h => by
    rw [Rows.uptoBulkAll]
    rcases List.mem_cons.1 h with rfl | h
    · omega
    · have := bulk_mem h; omega
theorem bulk_strs {H : Type} (f : Nat → List UInt8) : ∀ l : List Nat, l.length ≤ Rows.uptoBulkAll (l.map fun i => (.lit (.string (f i)) : DataW H))
  | [] => Nat.zero_le _
  | i :: l => by
    have := bulk_strs (H := H) f l
    rw [List.map_cons, Rows.uptoBulkAll, Rows.uptoBulk, List.length_cons]
    omega
/-- the texts, opened -/
theorem open_texts {H : Type} {enc : TypeId × Value → H} {w : World} {spare : Nat → Bool} {held : Bool} {fuel : Nat} {u : Value} {y : DataW H × List MemPlace} (h : DataW.trod enc Tryz.prog w 0 spare held fuel 38 [u] = some y) (hb : Rows.uptoBulk y.1 ≤ 1048576) :
    ∃ p n c, u = .slice p n c ∧ n ≤ 2000000 ∧ ∀ i, i < n → ∃ g off t, p = some ⟨g, off, none⟩ ∧ w.cell? ⟨g, off + i, none⟩ = some (.string (bA t)) ∧ t.length ≤ 1100000 := by
  rcases Go.Deep.open_strs Tryz.underlying38 Tryz.underlying9 oc9 h with ⟨hcs, _⟩ | ⟨a, len, cap, m, Sx, hcs, _, hl, hm, hmm, hx, hc⟩
  · simp at hcs
    exact ⟨none, 0, 0, hcs, Nat.zero_le _, fun i hi => by omega⟩
  · simp at hcs
    have hlm : len ≤ m := by rw [hmm]; split <;> omega
    rw [hx, Rows.uptoBulk] at hb
    have h1 := bulk_strs (H := H) (fun i => (Sx i).data.toList) (List.range len)
    rw [List.length_range] at h1
    refine ⟨some a, len, cap, hcs, by omega, fun i hi => ?_⟩
    obtain ⟨b, off, spot⟩ := a
    have hspot : spot = none := by simpa [Addr.add] using World.cell?_spot (hc 0 (by omega)).1
    subst hspot
    have hcell : w.cell? ⟨b, off + i, none⟩ = some (.string (Sx i)) := by
      have := (hc i (by omega)).1
      rwa [Addr.add_lit] at this
    refine ⟨b, off, (Sx i).data.toList, rfl, by rw [bA_of]; exact hcell, ?_⟩
    have h2 := bulk_mem (d := (.lit (.string (Sx i).data.toList) : DataW H)) (List.mem_map.2 ⟨i, List.mem_range.2 hi, rfl⟩ : _ ∈ (List.range len).map fun i => (.lit (.string (Sx i).data.toList) : DataW H))
    rw [Rows.uptoBulk] at h2
    omega
set_option maxRecDepth 100000 in
theorem lifted (os : Os) (started : os.Started) (H : Type) (enc : TypeId × Value → H) (F : Stop.Interp) :
    ReturnsInHanded {} Tryz.checked os 5 .any ((Rows.OpenSpec.upto Rows.listingReadsSpec).preRow enc Tryz.prog Tryz.f5 Rows.listingReadsUptoRow.domain false Rows.listingReadsUptoRow.laid) (((Rows.OpenSpec.upto Rows.listingReadsSpec).at F).post enc Tryz.prog Tryz.f5 false true false false) := by
  obtain ⟨places, hx⟩ := reads os enc
  refine returnsInHanded_of_row (C := Tryz.checked) (s := Rows.OpenSpec.upto Rows.listingReadsSpec) eOwn started (by kernel_rfl) Tryz.func5
    (witness_row_at (enc := enc) (C := Tryz.checked) false (World.laidAll Tryz.prog os eLaid) #[.slice none 0 0] (World.laidAll_os _ _ _) (by kernel_rfl) (by kernel_rfl) (by kernel_rfl)
      (OpenSpec.preRow_of_cond 8 hx (by kernel_rfl) (fun k hk => by cases hk; kernel_rfl) (by kernel_rfl) (laid_met os _))) ?_
  intro W base args ds gs before hval0 hW0 _ hcond hZ hL _ _
  have hk : Rows.uptoSmall H (ds ++ gs) = true := hcond _ rfl
  have hW : DataW.Whole enc Tryz.prog Tryz.f5.params.toList Rows.listingReadsSpec.vars false W args.toList ds gs before := hW0
  show Calls Tryz.prog 5 args W fun e W' => ∃ v, e = .returned v ∧ Rows.listingReadsSpec.post enc Tryz.prog Tryz.f5 false true false false W args v W'
  have hval : ∀ (j : Nat) t v, Tryz.f5.params[j]? = some t → args[j]? = some v → Value.okWide Tryz.prog W .any base t v := hval0
  have hW' := hW
  obtain ⟨p, q, hA0, hV, rfl, hfz, hnd⟩ := hW
  have hA : DataW.TrodAll enc Tryz.prog W 0 (fun _ => true) true Tryz.f5.params.toList args.toList ds p := hA0
  rw [Tryz.params5] at hA hval
  obtain ⟨v1, vs1, d1, ds1, p1, q1, hargs, rfl, rfl, h1, r1⟩ := trodAll_cons hA
  obtain ⟨rfl, rfl, rfl⟩ := trodAll_nil r1
  obtain rfl : args = #[v1] := by cases args; simp_all
  obtain ⟨rfl, rfl⟩ := trodVars_none hV
  have k1 := h1
  have lt1 : ∀ x ∈ p1, x.block < W.heap.size := by obtain ⟨m, hm⟩ := k1; exact DataW.trod_lt m _ _ _ hm
  have hT := of_laid hL
  have hbig : Rows.uptoBulkAll _ ≤ 1048576 := of_decide_eq_true hk
  simp only [List.append_nil, Rows.uptoBulkAll] at hbig
  have hcalls : Calls Tryz.prog 5 #[v1] W fun e w' => e = .returned (.bool true) ∧ Fr [] W w' := by
    obtain ⟨fuel, hf⟩ := h1
    obtain ⟨a1, len1, cap1, rfl⟩ := okWide_slice Tryz.underlying38 (hval 0 38 v1 rfl rfl)
    obtain ⟨p, n, c, e, hn, hr⟩ := open_texts hf (by show Rows.uptoBulk d1 ≤ _; omega)
    rw [e]
    exact reads_ok W hT.1 hT.2 p n c hn hr
  clear hA0 hval0 hW0
  refine hcalls.mono fun e W' ⟨he, hfr⟩ => ?_
  subst he
  have bel := toBelow hfr
  exact ⟨_, rfl, _, _, _, [], _, [], hW', trodAll_mk1 (shut_bool Tryz.underlying4 _), (trodAll_cons_mk (Below.trod eLaidOut (by kernel_rfl) (of_decide_eq_true (by kernel_rfl)) k1 bel lt1) trodAll_mk0), rfl, bel.frame _, fun h => by cases h⟩
theorem proved : Rows.ListingReadsUptoSaid :=
  OpenClaim.holds_of_cond 5 Tryz.f5 rfl rfl rfl rfl rfl rfl rfl ⟨rfl, rfl, rfl, rfl, rfl⟩ rfl rfl rfl rfl rfl (by kernel_rfl) Tryz.func5 (by kernel_rfl)
    (of_decide_eq_true (by kernel_rfl)) (by unfold Func.isWrapper; first | (rw [if_pos (by decide +kernel)]; kernel_rfl) | (rw [if_neg (by decide +kernel)]; exact ⟨rfl, rfl⟩))
    (fun os started H enc _ F => by rw [OpenClaim.pre_eq_preRow]; exact lifted os started H enc F)
end Go.Proofs.YtclkoffnjiiioaaGreatDoor.listingReads

import Derived.Test.YtklfnjlenbgmoaaDoorAG26HStepA
namespace Go.Proofs.YtklfnjlenbgmoaaDoor
open Go.RowKit
set_option linter.unusedVariables false
attribute [local go_sem ↓] Go.wp_at_zero Go.wp_at_succ
/-- a slot is written, and the relation stands -/
theorem Put_inv (k i : Nat) (v : Int) (a : Nat) (l : Lay) (H : HS) (M : MS) (w : World) (h : Rep w a l H) (hi : Inv H M) (hk : k < M.things.length) (hb : (M.things.getD k noTh).there = true) (hil : i < (M.things.getD k noTh).slots.length) (hm : mayB v ((M.things.getD k noTh).fmt : Int) = true) (hT : Tab w) :
    ∃ H', Inv H' { M with things := M.things.set k (withSlot (M.things.getD k noTh) i v) } ∧ H'.age = H.age ∧ Calls Tryd.prog 29 #[.pointer (some ⟨a, 0, none⟩), .int .i64 ((k : Int) + 1), .int .i64 i, .int .i64 v] w fun e w' => e = .returned (.int .i64 0) ∧ Rep w' a l H' ∧ Nx a l l w w' := by
  have hI := hi.is k hk hb
  obtain ⟨h1, h2, h3⟩ := has_yes hI.has
  have hmem : (H.mem.length : Int) ≤ 1048576 := by have := hi.safe.small.mem; have := hi.safe.small.words; omega
  have hroom := hI.room
  have h22 := lenN_two (M.things.getD k noTh).slots.length (M.things.getD k noTh).fmt
  have hfl := hI.fmt
  have hlen := hI.len
  have e1 : ((k + 1 : Nat) : Int) = (k : Int) + 1 := by omega
  rw [← e1]
  rcases (show (M.things.getD k noTh).fmt = 0 ∨ (M.things.getD k noTh).fmt = 1 from by omega) with hf | hf
  · have hw := lenN_word (M.things.getD k noTh).slots.length i (M.things.getD k noTh).fmt hf hil
    refine ⟨_, hi.putW k hk hb i v hil hf, rfl, ?_⟩
    exact Put_ok (k + 1) i (M.things.getD k noTh).slots.length (M.things.getD k noTh).fmt v a l H _ w h hmem h1 h2 h3 (by omega) hI.shape (by omega) (by omega) (by omega) hm hT (fun V hV => by
      rw [hf]
      exact setSlot_w (H.seats.getD (k + 1) (0, 0, 0)) i v a l H V hV (by omega) hmem)
  · have hw := lenN_byte (M.things.getD k noTh).slots.length i hil
    rw [← hf] at hw
    obtain ⟨old, o1, o2, o3⟩ := hI.byte hf i hil
    have hv : 0 ≤ v ∧ v ≤ 255 := by
      unfold mayB at hm
      rw [if_pos (by omega)] at hm
      exact of_decide_eq_true hm
    obtain ⟨vn, rfl⟩ : ∃ vn : Nat, v = (vn : Int) := ⟨v.toNat, by omega⟩
    refine ⟨_, hi.putB' k hk hb i vn old hil hf (by omega) o1 o2, rfl, ?_⟩
    exact Put_ok (k + 1) i (M.things.getD k noTh).slots.length (M.things.getD k noTh).fmt vn a l H _ w h hmem h1 h2 h3 (by omega) hI.shape (by omega) (by omega) (by omega) hm hT (fun V hV => by
      rw [hf]
      exact setB_any (H.seats.getD (k + 1) (0, 0, 0)) i vn old a l H V hV (by omega) hmem o1 (by omega) (by omega) o2)
set_option maxRecDepth 20000 in
set_option maxHeartbeats 4000000 in
theorem step_cls_no (O A B C X : Int) (ls : Value) (D : List Nat) (w0 : World) (a m : Nat) (W : World) (l : Lay) (H : HS) (M : MS) (hS : Side D w0 a m W l H M) (hi : Inv H M) (hA : mhas M A = false) :
    Calls Tryd.prog 25 #[.pointer (some ⟨m, 0, none⟩), .pointer (some ⟨a, 0, none⟩), stepV 5 O A B C X ls] W fun e w' => e = .returned (.bool true) ∧ Went D w0 a m H M w' := by
  have hA1 := hS.box (stepO 5 O A B C X ls)
  have HF := mkHid (SetClass_no A X a l H _ hA1.side.rep (by rw [hi.hasM]; exact hA))
  have HA := mkHid hA1
  have HI := mkHid hi
  obtain ⟨W1, hW1⟩ : ∃ W1, W1 = W.alloc (stepO 5 O A B C X ls) := ⟨_, rfl⟩
  rw [← hW1] at HF HA
  unfold stepV
  unfold stepO at hW1
  clear hS hi hA1
  go_enter Tryd.func25, Tryd.ntmps25
  go_wp2_with fail
  rw [← hW1]
  refine Calls.mono HF.out ?_
  rintro e w2 ⟨rfl, hf2⟩
  have hA2 := HA.out.idle hf2
  obtain ⟨q2, -, -, -⟩ := stepO_cells hA2.box
  have HHas := has_ok A m M w2 hA2.side.mrep HI.out.model.len
  rw [hA] at HHas
  have HH := mkHid HHas
  have HE : Hid (Went D w0 a m H M w2) := ⟨l, H, M, hA2.side, HI.out, by omega, Lk.refl _⟩
  clear hf2 hA2 HHas
  go_wp2_with (first | (go_at_call 65; refine Calls.mono HH.out ?_; rintro e w1 ⟨rfl, rfl⟩) | (go_at_call 11; refine (num_any _ _ (by omega) (by omega)).mono ?_; rintro e w1 ⟨rfl, rfl⟩))
  go_ret
  exact ⟨rfl, HE.out⟩
set_option maxRecDepth 20000 in
set_option maxHeartbeats 4000000 in
theorem step_cls_word (O B C X : Int) (k : Nat) (ls : Value) (D : List Nat) (w0 : World) (a m : Nat) (W : World) (l : Lay) (H : HS) (M : MS) (hS : Side D w0 a m W l H M) (hi : Inv H M) (hk : k < M.things.length) (hb : (M.things.getD k noTh).there = true) (hX : isW X = false) (hT : Tab w0) (h2 : 2 ≤ w0.heap.size) (hD : ∀ b ∈ D, 2 ≤ b) :
    Calls Tryd.prog 25 #[.pointer (some ⟨m, 0, none⟩), .pointer (some ⟨a, 0, none⟩), stepV 5 O ((k : Int) + 1) B C X ls] W fun e w' => e = .returned (.bool true) ∧ Went D w0 a m H M w' := by
  have hA1 := hS.box (stepO 5 O ((k : Int) + 1) B C X ls)
  have hlen := hi.model.len
  have HF := mkHid (SetClass_word (k + 1) X a l H _ hA1.side.rep (hi.is k hk hb).has hX (tab_of hT h2 hD hA1.side.fr))
  have HA := mkHid hA1
  have HI := mkHid hi
  have hK := rKind_any X
  have hK0 : kindOf X = 0 := by unfold isW at hX; simpa using hX
  rw [hK0] at hK
  have HK := mkHid hK
  obtain ⟨W1, hW1⟩ : ∃ W1, W1 = W.alloc (stepO 5 O ((k : Int) + 1) B C X ls) := ⟨_, rfl⟩
  rw [← hW1] at HF HA
  unfold stepV
  unfold stepO at hW1
  clear hS hi hA1 hK hK0 hX
  rw [show ((k + 1 : Nat) : Int) = (k : Int) + 1 from by omega] at HF
  go_enter Tryd.func25, Tryd.ntmps25
  go_wp2_with fail
  rw [← hW1]
  refine Calls.mono HF.out ?_
  rintro e w2 ⟨rfl, hf2⟩
  have hA2 := HA.out.idle hf2
  obtain ⟨q2, -, q5, -⟩ := stepO_cells hA2.box
  have HHas := has_ok ((k : Int) + 1) m M w2 hA2.side.mrep HI.out.model.len
  rw [mhas_of k hk hb] at HHas
  have HH := mkHid HHas
  have HE : Hid (Went D w0 a m H M w2) := ⟨l, H, M, hA2.side, HI.out, by omega, Lk.refl _⟩
  clear hf2 hA2 HHas
  go_wp2_with (first | (go_at_call 65; refine Calls.mono HH.out ?_; rintro e w1 ⟨rfl, rfl⟩) | (go_at_call 56; refine Calls.mono (HK.out _) ?_; rintro e w1 ⟨rfl, rfl⟩) | (go_at_call 11; refine (num_any _ _ (by omega) (by omega)).mono ?_; rintro e w1 ⟨rfl, rfl⟩))
  go_ret
  exact ⟨rfl, HE.out⟩
set_option maxRecDepth 20000 in
set_option maxHeartbeats 4000000 in
theorem step_cls_in (O B C X : Int) (k : Nat) (ls : Value) (D : List Nat) (w0 : World) (a m : Nat) (W : World) (l : Lay) (H : HS) (M : MS) (hS : Side D w0 a m W l H M) (hi : Inv H M) (hk : k < M.things.length) (hb : (M.things.getD k noTh).there = true) (hX : isW X = true) (hT : Tab w0) (h2 : 2 ≤ w0.heap.size) (hD : ∀ b ∈ D, 2 ≤ b) :
    Calls Tryd.prog 25 #[.pointer (some ⟨m, 0, none⟩), .pointer (some ⟨a, 0, none⟩), stepV 5 O ((k : Int) + 1) B C X ls] W fun e w' => e = .returned (.bool true) ∧ Went D w0 a m H { M with things := M.things.set k (withCls (M.things.getD k noTh) X) } w' := by
  have hA1 := hS.box (stepO 5 O ((k : Int) + 1) B C X ls)
  have hlen := hi.model.len
  have hI := hi.is k hk hb
  have h22 := lenN_two (M.things.getD k noTh).slots.length (M.things.getD k noTh).fmt
  have hroom := hI.room
  have HF := mkHid (SetClass_ok (k + 1) X a l H _ hA1.side.rep hI.has hX (tab_of hT h2 hD hA1.side.fr) (by omega) (by have := hi.safe.small.mem; have := hi.safe.small.words; omega))
  have HA := mkHid hA1
  have HI := mkHid hi
  have HV := mkHid (hi.setCls k hk hb X)
  have hK := rKind_any X
  have hK0 : (kindOf X != 0) = true := hX
  have HK := mkHid hK
  generalize kindOf X = kx at *
  obtain ⟨W1, hW1⟩ : ∃ W1, W1 = W.alloc (stepO 5 O ((k : Int) + 1) B C X ls) := ⟨_, rfl⟩
  rw [← hW1] at HF HA
  unfold stepV
  unfold stepO at hW1
  clear hS hi hA1 hK hX hI hroom h22
  rw [show ((k + 1 : Nat) : Int) = (k : Int) + 1 from by omega] at HF
  go_enter Tryd.func25, Tryd.ntmps25
  go_wp2_with fail
  rw [← hW1]
  refine Calls.mono HF.out ?_
  rintro e w2 ⟨rfl, hr2, hx2⟩
  have hA2 := HA.out.heap hr2 hx2
  obtain ⟨q2, -, q5, -⟩ := stepO_cells hA2.box
  have HHas := has_ok ((k : Int) + 1) m M w2 hA2.side.mrep HI.out.model.len
  rw [mhas_of k hk hb] at HHas
  have HH := mkHid HHas
  have hmr := hA2.side.mrep
  obtain ⟨g, hg, hc, hf, hgl⟩ := hmr.thAt (by omega)
  obtain ⟨-, y1, -⟩ := hc k hk
  have z1 := hf (k * 5 + 1)
  have c3 := hmr.c3
  have hgQ : g ≠ W.heap.size := fun e => hA2.nm (by rw [← e]; simp [mfoot, hg, blk])
  have k1 : (0 : Int) ≤ (k : Int) := by omega
  have k2 : (k : Int) < (M.things.length : Int) := by omega
  have HE : Hid (∀ V, Eqw (w2.setCell ⟨g, k * 5 + 1, none⟩ (.int .i64 X)) V → Went D w0 a m H { M with things := M.things.set k (withCls (M.things.getD k noTh) X) } V) := by
    intro V hV
    have hset := hmr.set1 hg k 1 (.int .i64 X) (withCls (M.things.getD k noTh) X) hk (by omega) rfl rfl rfl rfl
    refine ⟨l, _, { M with things := M.things.set k (withCls (M.things.getD k noTh) X) }, (hA2.side.model hset (Fr.setCell _ _ _ (by simp [mfoot, hg, blk])) (fun g hg => .inl (mfoot_set k (withCls (M.things.getD k noTh) X) (fun b hb => blk_mfoot k hk b hb) g hg))).eqw hV, HV.out, Nat.le_succ _, Lk.refl _⟩
  have wk : IntKind.i64.wrap ((k : Int) + 1 - 1) = (k : Int) := by rw [iwrap]; unfold wrap64; omega
  rw [hg] at c3
  clear hr2 hx2 hA2 HHas hmr hc hf hg HF HV
  go_wp2_with (first | (go_at_call 65; refine Calls.mono HH.out ?_; rintro e w1 ⟨rfl, rfl⟩) | (go_at_call 56; refine Calls.mono (HK.out _) ?_; rintro e w1 ⟨rfl, rfl⟩) | (go_at_call 11; refine (num_any _ _ (by omega) (by omega)).mono ?_; rintro e w1 ⟨rfl, rfl⟩))
  go_region
  all_goals go_wp2_with (go_at_call 11; refine (num_any _ _ (by omega) (by omega)).mono ?_; rintro e w1 ⟨rfl, rfl⟩)
  all_goals
    go_ret
    exact ⟨rfl, HE.out _ (eqw_drew _)⟩
end Go.Proofs.YtklfnjlenbgmoaaDoor
namespace Go.Proofs.YtklfnjlenbgmoaaDoor
open Go.RowKit
set_option linter.unusedVariables false
attribute [local go_sem ↓] Go.wp_at_zero Go.wp_at_succ
theorem fits_may (n : Int) (f : Nat) (hf : f ≤ 1) : mfits n f = mayB n (f : Int) := by
  unfold mfits mayB
  rcases (show f = 0 ∨ f = 1 from by omega) with rfl | rfl
  · simp
  · rw [if_neg (by omega), if_pos (by omega)]
    have e : (0 ≤ n ∧ n < 256) ↔ (0 ≤ n ∧ n ≤ 255) := by omega
    simp only [e]
    simp
theorem slot_val (L : List Int) (i : Nat) (h : i < L.length) : (L.map (Value.int .i64))[i]? = some (.int .i64 (L.getD i 0)) := by
  rw [List.getElem?_map, List.getD_eq_getElem?_getD, List.getElem?_eq_getElem h]
  rfl
theorem first_bad (p : Int → Bool) : ∀ zs : List Int, zs.all p = false → ∃ j0, j0 < zs.length ∧ (∀ j, j < j0 → p (zs.getD j 0) = true) ∧ p (zs.getD j0 0) = false := by
  intro zs
  induction zs with
  | nil => intro h; simp at h
  | cons z zs ih =>
    intro h
    cases hz : p z with
    | false => exact ⟨0, by simp, fun j hj => by omega, by simpa using hz⟩
    | true =>
      have h2 : zs.all p = false := by simpa [hz] using h
      obtain ⟨j0, h3, h4, h5⟩ := ih h2
      refine ⟨j0 + 1, by simp; omega, fun j hj => ?_, by simpa using h5⟩
      cases j with
      | zero => simpa using hz
      | succ j => have := h4 j (by omega); simpa using this
theorem all_nat (M : MS) : ∀ zs : List Int, zs.all (mhas M) = true → ∃ ks : List Nat, zs = ks.map (fun n : Nat => (n : Int)) ∧ ∀ j ∈ ks, mhas M (j : Int) = true := by
  intro zs
  induction zs with
  | nil => intro _; exact ⟨[], rfl, by simp⟩
  | cons z zs ih =>
    intro h
    rw [List.all_cons, Bool.and_eq_true] at h
    obtain ⟨ks, h1, h2⟩ := ih h.2
    obtain ⟨k, k1, k2, k3⟩ := mhas_yes h.1
    refine ⟨(k + 1) :: ks, ?_, ?_⟩
    · rw [h1, k1]; simp
    · intro j hj
      rcases List.mem_cons.1 hj with rfl | hj
      · have := h.1; rw [k1] at this; simpa using this
      · exact h2 j hj
theorem all_take_succ (p : Int → Bool) (zs : List Int) (k : Nat) (hk : k < zs.length) : (zs.take (k + 1)).all p = ((zs.take k).all p && p (zs.getD k 0)) := by
  rw [List.take_succ_eq_append_getElem hk, List.all_append, List.getD_eq_getElem?_getD, List.getElem?_eq_getElem hk]
  simp
theorem mem_take_succ (zs : List Int) (z : Int) (k : Nat) (hk : k < zs.length) : decide (z ∈ zs.take (k + 1)) = (decide (z ∈ zs.take k) || (zs.getD k 0 == z)) := by
  rw [List.take_succ_eq_append_getElem hk, List.getD_eq_getElem?_getD, List.getElem?_eq_getElem hk]
  simp only [List.mem_append, List.mem_singleton, Option.getD_some]
  by_cases h1 : z ∈ zs.take k
  · simp [h1]
  · by_cases h2 : z = zs[k]
    · simp [h2]
    · have h3 : ¬ zs[k] = z := fun e => h2 e.symm
      simp [h1, h2, h3]
/-- a list of numbers that lies in old memory -/
structure LsAt (w0 : World) (ao : Option Addr) (c : Nat) (zs : List Int) : Prop where
  nil : ao = none → zs = [] ∧ c = 0
  row : zs ≠ [] → ∃ b off, ao = some ⟨b, off, none⟩ ∧ b < w0.heap.size ∧ ∀ j, j < zs.length → w0.cell? ⟨b, off + j, none⟩ = some (.int .i64 (zs.getD j 0))
  short : zs.length ≤ 17592186044416
end Go.Proofs.YtklfnjlenbgmoaaDoor

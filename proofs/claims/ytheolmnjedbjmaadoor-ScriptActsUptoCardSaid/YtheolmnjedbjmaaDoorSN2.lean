import Derived.Test.YtheolmnjedbjmaaDoorSN1
namespace Go.Proofs.YtheolmnjedbjmaaDoor
open Go.RowKit
set_option linter.unusedVariables false
set_option linter.unusedSimpArgs false
attribute [local go_sem ↓] Go.wp_at_zero Go.wp_at_succ
/-- an act, with its list of names apart -/
structure AK where
  kind : Int
  name : ByteArray
  other : ByteArray
  names : List ByteArray
  text : ByteArray
  num : Int
  fuel : Int
deriving DecidableEq
def AK.v (a : AK) (p : Option Addr) (c : Nat) : Value := .agg #[.int .i64 a.kind, .string a.name, .string a.other, .slice p a.names.length c, .string a.text, .int .i64 a.num, .int .i64 a.fuel]
theorem ba_ne {x y : ByteArray} (h : ¬ x = y) : ¬ x.toList = y.toList := fun e => h (by
  have e2 : x.data.toList = y.data.toList := by rw [← toList_data, ← toList_data]; exact e
  exact ByteArray.ext (Array.toList_inj.1 e2))
theorem Rs.bl {W W' : World} {p : Option Addr} {l : List ByteArray} (h : Rs W p l) (k : Bl W W') : Rs W' p l := fun j hj => by
  obtain ⟨g, off, e, hc⟩ := h j hj
  refine ⟨g, off, e, ?_⟩
  have hlt : g < W.heap.size := by
    rcases Nat.lt_or_ge g W.heap.size with h1 | h1
    · exact h1
    · simp [World.cell?, Array.getElem?_eq_none h1] at hc
  rw [World.cell?_of_block (w := W) (k.block g hlt)]
  exact hc
set_option maxRecDepth 100000 in
set_option maxHeartbeats 8000000 in
theorem same_ok (W : World) (a b : AK) (p q : Option Addr) (ca cb : Nat) (ha : Rs W p a.names) (hb : Rs W q b.names) (hla : a.names.length ≤ 4611686018427387904) (hlb : b.names.length ≤ 4611686018427387904) : Calls Tryd.prog 22 #[a.v p ca, b.v q cb] W fun e w' => e = .returned (.bool (decide (a = b))) ∧ Bl W w' := by
  obtain ⟨k1, n1, o1, l1, t1, x1, y1⟩ := a
  obtain ⟨k2, n2, o2, l2, t2, x2, y2⟩ := b
  simp only [AK.v] at *
  have HSm : Hid (∀ U, Bl W U → Calls Tryd.prog 37 #[.slice p l1.length ca, .slice q l2.length cb] U fun e w' => e = .returned (.bool (decide (l1 = l2))) ∧ Bl U w') := fun U hU => sameNames_ok U p q l1 l2 ca cb (ha.bl hU) (hb.bl hU) hla hlb
  clear ha hb hla hlb
  obtain ⟨o1x, hbx1⟩ : ∃ o : Obj, o = .cells #[.int .i64 k1, .string n1, .string o1, .slice p l1.length ca, .string t1, .int .i64 x1, .int .i64 y1] 38 := ⟨_, rfl⟩
  obtain ⟨o2x, hbx2⟩ : ∃ o : Obj, o = .cells #[.int .i64 k2, .string n2, .string o2, .slice q l2.length cb, .string t2, .int .i64 x2, .int .i64 y2] 38 := ⟨_, rfl⟩
  have HBL : Hid (Bl W ((W.alloc o1x).alloc o2x)) := (Bl.alloc W _).trans (Bl.alloc _ _)
  have HSm2 := mkHid (HSm.out _ HBL.out)
  subst hbx1 hbx2
  clear HSm
  by_cases hk : k1 = k2
  rotate_left
  · have hD : decide ((⟨k1, n1, o1, l1, t1, x1, y1⟩ : AK) = ⟨k2, n2, o2, l2, t2, x2, y2⟩) = false := decide_eq_false (fun e => hk (by injection e))
    clear HSm2
    go_enter Tryd.func22, Tryd.ntmps22
    go_wp2_with fail
    go_ret
    exact ⟨by rw [hD]; rfl, HBL.out⟩
  subst hk
  by_cases hn : n1 = n2
  rotate_left
  · have hD : decide ((⟨k1, n1, o1, l1, t1, x1, y1⟩ : AK) = ⟨k1, n2, o2, l2, t2, x2, y2⟩) = false := decide_eq_false (fun e => hn (by injection e))
    have hns := ba_ne hn
    clear HSm2
    go_enter Tryd.func22, Tryd.ntmps22
    go_wp2_with fail
    go_ret
    exact ⟨by rw [hD]; rfl, HBL.out⟩
  subst hn
  by_cases ho : o1 = o2
  rotate_left
  · have hD : decide ((⟨k1, n1, o1, l1, t1, x1, y1⟩ : AK) = ⟨k1, n1, o2, l2, t2, x2, y2⟩) = false := decide_eq_false (fun e => ho (by injection e))
    have hos := ba_ne ho
    clear HSm2
    go_enter Tryd.func22, Tryd.ntmps22
    go_wp2_with fail
    go_ret
    exact ⟨by rw [hD]; rfl, HBL.out⟩
  subst ho
  by_cases ht : t1 = t2
  rotate_left
  · have hD : decide ((⟨k1, n1, o1, l1, t1, x1, y1⟩ : AK) = ⟨k1, n1, o1, l2, t2, x2, y2⟩) = false := decide_eq_false (fun e => ht (by injection e))
    have hts := ba_ne ht
    clear HSm2
    go_enter Tryd.func22, Tryd.ntmps22
    go_wp2_with fail
    go_ret
    exact ⟨by rw [hD]; rfl, HBL.out⟩
  subst ht
  by_cases hx : x1 = x2
  rotate_left
  · have hD : decide ((⟨k1, n1, o1, l1, t1, x1, y1⟩ : AK) = ⟨k1, n1, o1, l2, t1, x2, y2⟩) = false := decide_eq_false (fun e => hx (by injection e))
    clear HSm2
    go_enter Tryd.func22, Tryd.ntmps22
    go_wp2_with fail
    go_ret
    exact ⟨by rw [hD]; rfl, HBL.out⟩
  subst hx
  by_cases hy : y1 = y2
  rotate_left
  · have hD : decide ((⟨k1, n1, o1, l1, t1, x1, y1⟩ : AK) = ⟨k1, n1, o1, l2, t1, x1, y2⟩) = false := decide_eq_false (fun e => hy (by injection e))
    clear HSm2
    go_enter Tryd.func22, Tryd.ntmps22
    go_wp2_with fail
    go_ret
    exact ⟨by rw [hD]; rfl, HBL.out⟩
  subst hy
  have hD : decide ((⟨k1, n1, o1, l1, t1, x1, y1⟩ : AK) = ⟨k1, n1, o1, l2, t1, x1, y1⟩) = decide (l1 = l2) := by
    by_cases h : l1 = l2
    · subst h; simp
    · rw [decide_eq_false h]; exact decide_eq_false (fun e => h (by injection e))
  go_enter Tryd.func22, Tryd.ntmps22
  go_wp2_with (go_at_call 37; refine HSm2.out.mono ?_; rintro e w3 ⟨rfl, b3⟩; have B3 := mkHid b3; clear b3)
  go_ret
  exact ⟨by rw [hD]; rfl, HBL.out.trans B3.out⟩
end Go.Proofs.YtheolmnjedbjmaaDoor

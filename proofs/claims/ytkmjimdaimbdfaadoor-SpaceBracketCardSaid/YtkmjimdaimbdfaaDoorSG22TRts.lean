import Derived.Test.YtkmjimdaimbdfaaDoorSG16RKeep
import Derived.Test.YtkmjimdaimbdfaaDoorSG09HInvF
import Derived.Test.YtkmjimdaimbdfaaDoorSG06HTold
import Derived.Test.YtkmjimdaimbdfaaDoorSG10HInvT
import Derived.Test.YtkmjimdaimbdfaaDoorSG21SBak
import Derived.Deep.RegionHeld3
import Derived.Lib.SliceRun
import Derived.Laws.AppendOwnNone
import Derived.Maps.AppendAt
import Derived.Test.YtkmjimdaimbdfaaDoorSG14CRise
namespace Go.Proofs.YtkmjimdaimbdfaaDoor
open Go.RowKit
set_option linter.unusedVariables false
theorem exch_order_map {H : HS} {M : MS} (h : Inv H M) (x y : Nat) (hx : x < M.things.length) (hy : y < M.things.length) (bx : (M.things.getD x noTh).there = true) (by_ : (M.things.getD y noTh).there = true) : (exchH H (x + 1) (y + 1)).order = H.order.map (sw1 x y) := by
  obtain ⟨a1, a2⟩ := h.turn x hx bx
  obtain ⟨b1, b2⟩ := h.turn y hy by_
  have hOl : (exchH H (x + 1) (y + 1)).order.length = H.order.length := by show ((H.order.set _ _).set _ _).length = _; rw [List.length_set, List.length_set]
  have hO : ∀ r, (exchH H (x + 1) (y + 1)).order.getD r 0 = sw1 x y (H.order.getD r 0) := fun r => by
    show ((H.order.set (H.seats.getD (y + 1) (0, 0, 0)).2.2 (x + 1)).set (H.seats.getD (x + 1) (0, 0, 0)).2.2 (y + 1)).getD r 0 = _
    rw [List.getD_eq_getElem?_getD, List.getElem?_set, List.getElem?_set, List.length_set]
    by_cases h1 : (H.seats.getD (x + 1) (0, 0, 0)).2.2 = r
    · rw [if_pos h1, if_pos (by omega), ← h1, a2]; unfold sw1; rw [if_pos rfl]; rfl
    · rw [if_neg h1]
      by_cases h2 : (H.seats.getD (y + 1) (0, 0, 0)).2.2 = r
      · rw [if_pos h2, if_pos (by omega), ← h2, b2]; unfold sw1
        split
        · rename_i e; rw [e]; rfl
        · rw [if_pos rfl]; rfl
      · rw [if_neg h2, ← List.getD_eq_getElem?_getD]
        by_cases h3 : r < H.order.length
        · by_cases h4 : H.order.getD r 0 = 0
          · rw [h4]; unfold sw1; rw [if_neg (by omega), if_neg (by omega)]
          · have hr := (h.order r h3 h4).2.2
            unfold sw1
            rw [if_neg (fun e => h1 (by rw [← e]; exact hr)), if_neg (fun e => h2 (by rw [← e]; exact hr))]
        · have e : H.order.getD r 0 = 0 := by rw [List.getD_eq_getElem?_getD, List.getElem?_eq_none (by omega)]; rfl
          rw [e]; unfold sw1; rw [if_neg (by omega), if_neg (by omega)]
  refine List.ext_getElem (by rw [hOl, List.length_map]) fun r h1 h2 => ?_
  have := hO r
  rw [List.getD_eq_getElem?_getD, List.getElem?_eq_getElem h1, List.getD_eq_getElem?_getD, List.getElem?_eq_getElem (by omega)] at this
  rw [List.getElem_map]
  exact this
/-- two numbers change places -/
def swz (x y q : Int) : Int := if q = x then y else if q = y then x else q
def swk (x y : Int) (k : Key) : Key := (swz x y k.1, k.2)
theorem endK_snd (f : Key → Key) (hf : ∀ k, (f k).2 = k.2) : ∀ ks : List Key, endK (ks.map f) = endK ks
  | [] => rfl
  | k :: t => by
    rw [List.map_cons]
    simp only [endK, hf]
    rw [endK_snd f hf t]
theorem swz_nat (x y o : Nat) : swz ((x : Int) + 1) ((y : Int) + 1) (o : Int) = (sw1 x y o : Nat) := by
  unfold swz sw1
  by_cases h1 : o = x + 1
  · rw [if_pos (by omega), if_pos h1]; omega
  · rw [if_neg (by omega), if_neg h1]
    by_cases h2 : o = y + 1
    · rw [if_pos (by omega), if_pos h2]; omega
    · rw [if_neg (by omega), if_neg h2]
theorem KA.exch {words oops mark : Nat} {ks : List Key} {H : HS} {M : MS} (h : KA words oops mark ks H M) (x y : Nat) (bx : (M.things.getD x noTh).there = true) (by_ : (M.things.getD y noTh).there = true) :
    KA words oops mark (ks.map (swk ((x : Int) + 1) ((y : Int) + 1))) (exchH H (x + 1) (y + 1)) { M with things := (M.things.set x (M.things.getD y noTh)).set y (M.things.getD x noTh) } := by
  have hx := there_lt bx
  have hy := there_lt by_
  have hpos : ∀ k ∈ ks, ∃ o : Nat, k.1 = (o : Int) ∧ 1 ≤ o := fun k hk => ⟨k.1.toNat, by have := (h.at_ k hk).1; omega, by have := (h.at_ k hk).1; omega⟩
  refine ⟨h.inv.exch x y hx hy bx by_, h.words, h.oops, h.mark, ?_, ?_, fun k hk => ?_, fun i hi => ?_⟩
  · rw [exch_order_map h.inv x y hx hy bx by_, h.order, List.map_map, List.map_map]
    refine List.map_congr_left fun k hk => ?_
    obtain ⟨o, ho, h1⟩ := hpos k hk
    show sw1 x y k.1.toNat = (swz ((x : Int) + 1) ((y : Int) + 1) k.1).toNat
    rw [ho, swz_nat]; rfl
  · rw [endK_snd (swk ((x : Int) + 1) ((y : Int) + 1)) (fun k => rfl)]
    exact h.mem
  · obtain ⟨k0, hk0, rfl⟩ := List.mem_map.1 hk
    obtain ⟨o, ho, h1⟩ := hpos k0 hk0
    obtain ⟨b0, b1, b2, b3, b4⟩ := h.at_ k0 hk0
    have e1 : (swk ((x : Int) + 1) ((y : Int) + 1) k0).1 = (sw1 x y o : Nat) := by
      show swz _ _ k0.1 = _
      rw [ho, swz_nat]
    have e0 : sw1 x y o = sw x y (o - 1) + 1 := by rw [← sw1_succ, Nat.sub_add_cancel h1]
    have e2 : ((M.things.set x (M.things.getD y noTh)).set y (M.things.getD x noTh)).getD ((swk ((x : Int) + 1) ((y : Int) + 1) k0).1.toNat - 1) noTh = M.things.getD (k0.1.toNat - 1) noTh := by
      rw [exch_th _ _ _ _ hx hy, e1, e0]
      show M.things.getD (sw x y (sw x y (o - 1) + 1 - 1)) noTh = _
      rw [Nat.add_sub_cancel, sw_sw, ho]; rfl
    refine ⟨by rw [e1, e0]; omega, ?_, ?_, ?_, ?_⟩
    · show (List.getD ((M.things.set x (M.things.getD y noTh)).set y (M.things.getD x noTh)) _ noTh).there = true
      rw [e2]; exact b1
    · show (List.getD ((M.things.set x (M.things.getD y noTh)).set y (M.things.getD x noTh)) _ noTh).cls = _
      rw [e2]; exact b2
    · show ((List.getD ((M.things.set x (M.things.getD y noTh)).set y (M.things.getD x noTh)) _ noTh).fmt : Int) = _
      rw [e2]; exact b3
    · show (List.getD ((M.things.set x (M.things.getD y noTh)).set y (M.things.getD x noTh)) _ noTh).slots = _
      rw [e2]; exact b4
  · have hi' : (M.things.getD (sw x y i) noTh).there = true := by
      rw [← exch_th _ _ _ _ hx hy]; exact hi
    obtain ⟨k, k1, k2⟩ := h.only _ hi'
    refine ⟨swk ((x : Int) + 1) ((y : Int) + 1) k, List.mem_map_of_mem k1, ?_⟩
    show swz _ _ k.1 = _
    rw [k2, show ((sw x y i : Nat) : Int) + 1 = ((sw x y i + 1 : Nat) : Int) from by omega, swz_nat, sw1_succ, sw_sw]
    omega
/-- what an oop changes places with -/
def partnerZ : List (Int × Int) → Int → Int
  | [], q => q
  | p :: t, q => if p.1 = q then p.2 else if p.2 = q then p.1 else partnerZ t q
/-- the numbers of a list of pairs, pair by pair -/
def nums : List (Int × Int) → List Int
  | [] => []
  | p :: t => p.1 :: p.2 :: nums t
theorem partner_out : ∀ (ps : List (Int × Int)) (q : Int), q ∉ nums ps → partnerZ ps q = q
  | [], q, _ => rfl
  | p :: t, q, h => by
    unfold nums at h
    rw [List.mem_cons, List.mem_cons, not_or, not_or] at h
    unfold partnerZ
    rw [if_neg (fun e => h.1 e.symm), if_neg (fun e => h.2.1 e.symm), partner_out t q h.2.2]
theorem partner_cons (p : Int × Int) (t : List (Int × Int)) (hd : (nums (p :: t)).Nodup) (q : Int) : partnerZ t (swz p.1 p.2 q) = partnerZ (p :: t) q := by
  unfold nums at hd
  obtain ⟨h1, h2⟩ := List.nodup_cons.1 hd
  obtain ⟨h3, h4⟩ := List.nodup_cons.1 h2
  rw [List.mem_cons, not_or] at h1
  show partnerZ t (swz p.1 p.2 q) = if p.1 = q then p.2 else if p.2 = q then p.1 else partnerZ t q
  unfold swz
  by_cases e1 : q = p.1
  · rw [if_pos e1, if_pos e1.symm, partner_out t _ h3]
  · rw [if_neg e1, if_neg (show ¬ p.1 = q from fun e => e1 e.symm)]
    by_cases e2 : q = p.2
    · rw [if_pos e2, if_pos e2.symm, partner_out t _ h1.2]
    · rw [if_neg e2, if_neg (show ¬ p.2 = q from fun e => e2 e.symm)]
def swapK (ps : List (Int × Int)) (ks : List Key) : List Key := ks.map fun k => (partnerZ ps k.1, k.2)
theorem swap_fold : ∀ (ps : List (Int × Int)) (ks : List Key), (nums ps).Nodup → ps.foldl (fun ks p => ks.map (swk p.1 p.2)) ks = swapK ps ks
  | [], ks, _ => by
    unfold swapK
    conv => lhs; rw [← List.map_id ks]
    rfl
  | p :: t, ks, hd => by
    have hd2 : (nums t).Nodup := (List.nodup_cons.1 (List.nodup_cons.1 hd).2).2
    rw [List.foldl_cons, swap_fold t _ hd2]
    unfold swapK
    rw [List.map_map]
    refine List.map_congr_left fun k hk => ?_
    show (partnerZ t (swz p.1 p.2 k.1), k.2) = _
    rw [partner_cons p t hd]
theorem partner_mem : ∀ (ps : List (Int × Int)) (q : Int), q ∈ nums ps → partnerZ ps q ∈ nums ps
  | [], q, h => by simp [nums] at h
  | p :: t, q, h => by
    unfold partnerZ
    unfold nums at h ⊢
    by_cases e1 : p.1 = q
    · rw [if_pos e1]; simp
    · rw [if_neg e1]
      by_cases e2 : p.2 = q
      · rw [if_pos e2]; simp
      · rw [if_neg e2]
        have h3 : q ∈ nums t := by
          rcases List.mem_cons.1 h with h | h
          · exact absurd h.symm e1
          · rcases List.mem_cons.1 h with h | h
            · exact absurd h.symm e2
            · exact h
        exact List.mem_cons_of_mem _ (List.mem_cons_of_mem _ (partner_mem t q h3))
theorem partner_twice : ∀ (ps : List (Int × Int)), (nums ps).Nodup → ∀ q, partnerZ ps (partnerZ ps q) = q
  | [], _, q => rfl
  | p :: t, hd, q => by
    have h0 : nums (p :: t) = p.1 :: p.2 :: nums t := rfl
    rw [h0] at hd
    obtain ⟨h1, h2⟩ := List.nodup_cons.1 hd
    obtain ⟨h3, h4⟩ := List.nodup_cons.1 h2
    rw [List.mem_cons, not_or] at h1
    by_cases e1 : p.1 = q
    · have : partnerZ (p :: t) q = p.2 := by show (if p.1 = q then p.2 else _) = _; rw [if_pos e1]
      rw [this]
      show (if p.1 = p.2 then p.2 else if p.2 = p.2 then p.1 else _) = _
      rw [if_neg h1.1, if_pos rfl, e1]
    · by_cases e2 : p.2 = q
      · have : partnerZ (p :: t) q = p.1 := by show (if p.1 = q then p.2 else if p.2 = q then p.1 else _) = _; rw [if_neg e1, if_pos e2]
        rw [this]
        show (if p.1 = p.1 then p.2 else _) = _
        rw [if_pos rfl, e2]
      · have e3 : partnerZ (p :: t) q = partnerZ t q := by show (if p.1 = q then p.2 else if p.2 = q then p.1 else _) = _; rw [if_neg e1, if_neg e2]
        rw [e3]
        by_cases hq : q ∈ nums t
        · have hm := partner_mem t q hq
          show (if p.1 = partnerZ t q then p.2 else if p.2 = partnerZ t q then p.1 else partnerZ t (partnerZ t q)) = _
          rw [if_neg (fun e => h1.2 (by rw [e]; exact hm)), if_neg (fun e => h3 (by rw [e]; exact hm)), partner_twice t h4 q]
        · rw [partner_out t q hq]
          show (if p.1 = q then p.2 else if p.2 = q then p.1 else partnerZ t q) = _
          rw [if_neg e1, if_neg e2, partner_out t q hq]
theorem swap_twice (ps : List (Int × Int)) (hd : (nums ps).Nodup) (ks : List Key) : swapK ps (swapK ps ks) = ks := by
  unfold swapK
  rw [List.map_map]
  conv => rhs; rw [← List.map_id ks]
  refine List.map_congr_left fun k hk => ?_
  show (partnerZ ps (partnerZ ps k.1), k.2) = k
  rw [partner_twice ps hd]
end Go.Proofs.YtkmjimdaimbdfaaDoor

namespace Go.Proofs.YtkmjimdaimbdfaaDoor
open Go.RowKit
set_option linter.unusedVariables false
/-- one object becomes another one -/
def updK (k' x : Key) : Key := if x.1 = k'.1 then k' else x
section
variable {words oops mark : Nat} {ks : List Key} {H : HS} {M : MS} {a : Nat} {l : Lay} {w : World}
theorem KA.th (h : KA words oops mark ks H M) {k : Key} (hk : k ∈ ks) : ∃ q : Nat, k.1 = (q : Int) + 1 ∧ q < M.things.length ∧ (M.things.getD q noTh).there = true ∧ Is H (q + 1) (M.things.getD q noTh) ∧ (M.things.getD q noTh).cls = k.2.1 ∧ ((M.things.getD q noTh).fmt : Int) = k.2.2.1 ∧ (M.things.getD q noTh).slots = k.2.2.2 := by
  obtain ⟨b0, b1, b2, b3, b4⟩ := h.at_ k hk
  have hl := there_lt b1
  exact ⟨k.1.toNat - 1, by omega, hl, b1, h.inv.is _ hl b1, b2, b3, b4⟩
theorem KA.memLe (h : KA words oops mark ks H M) : (H.mem.length : Int) ≤ 1048576 := by
  have := h.inv.safe.small.mem
  have := h.inv.safe.small.words
  omega
theorem class_at (hR : Rep w a l H) (h : KA words oops mark ks H M) {k : Key} (hk : k ∈ ks) :
    Calls Tryd.prog 55 #[.pointer (some ⟨a, 0, none⟩), .int .i64 k.1] w fun e w' => e = .returned (.tuple #[.int .i64 k.2.1, .int .i64 0]) ∧ Fr [] w w' := by
  obtain ⟨q, hq, hl, hb, hI, h1, h2, h3⟩ := h.th hk
  have hr := hI.room
  have h22 := lenN_two (M.things.getD q noTh).slots.length (M.things.getD q noTh).fmt
  have := Class_ok (q + 1) a l H w hR hI.has (by omega) h.memLe
  rw [hI.cls, h1, show ((q + 1 : Nat) : Int) = (q : Int) + 1 from by omega, ← hq] at this
  exact this
theorem class_not (hR : Rep w a l H) (q : Int) (hh : has H q = false) :
    Calls Tryd.prog 55 #[.pointer (some ⟨a, 0, none⟩), .int .i64 q] w fun e w' => e = .returned (.tuple #[.int .i64 0, .int .i64 20]) ∧ Fr [] w w' := Class_no q a l H w hR hh
theorem size_at (hR : Rep w a l H) (h : KA words oops mark ks H M) {k : Key} (hk : k ∈ ks) :
    Calls Tryd.prog 61 #[.pointer (some ⟨a, 0, none⟩), .int .i64 k.1] w fun e w' => e = .returned (.tuple #[.int .i64 (k.2.2.2.length : Nat), .int .i64 k.2.2.1, .int .i64 0]) ∧ Fr [] w w' := by
  obtain ⟨q, hq, hl, hb, hI, h1, h2, h3⟩ := h.th hk
  have hr := hI.room
  have hf := hI.fmt
  have h22 := lenN_two (M.things.getD q noTh).slots.length (M.things.getD q noTh).fmt
  have := Size_ok (q + 1) _ _ a l H w hR hI.has h.memLe (by omega) hI.shape (by omega)
  rw [h2, h3, show ((q + 1 : Nat) : Int) = (q : Int) + 1 from by omega, ← hq] at this
  exact this
theorem at_w (hR : Rep w a l H) (h : KA words oops mark ks H M) {k : Key} (hk : k ∈ ks) (hf : k.2.2.1 = 0) (i : Nat) (hi : i < k.2.2.2.length) :
    Calls Tryd.prog 103 #[.pointer (some ⟨a, 0, none⟩), .int .i64 k.1, .int .i64 (i : Int)] w fun e w' => e = .returned (.tuple #[.int .i64 (k.2.2.2.getD i 0), .int .i64 0]) ∧ Fr [] w w' := by
  obtain ⟨q, hq, hl, hb, hI, h1, h2, h3⟩ := h.th hk
  have hf0 : (M.things.getD q noTh).fmt = 0 := by omega
  have hr := hI.room
  have hlen := hI.len
  rw [← h3] at hi
  have hw := lenN_word _ i _ hf0 hi
  have h22 := lenN_two (M.things.getD q noTh).slots.length (M.things.getD q noTh).fmt
  obtain ⟨y1, y2, y3⟩ := has_yes hI.has
  have := At_ok (q + 1) i _ _ (k.2.2.2.getD i 0) a l H w hR h.memLe y1 y2 y3 (by omega) hI.shape (by omega) (by omega) (by omega) (fun W hW => by
    have := slot_w (H.seats.getD (q + 1) (0, 0, 0)) i a l H W hW (by omega) h.memLe
    rw [hI.word hf0 i hi, h3] at this
    rw [hf0]
    exact this)
  rw [show ((q + 1 : Nat) : Int) = (q : Int) + 1 from by omega, ← hq] at this
  exact this
theorem endK_upd (k' : Key) : ∀ ks : List Key, (∀ x ∈ ks, x.1 = k'.1 → lenOf (k'.2.2.2.length : Int) k'.2.2.1 = lenOf (x.2.2.2.length : Int) x.2.2.1) → endK (ks.map (updK k')) = endK ks
  | [], _ => rfl
  | x :: t, h => by
    rw [List.map_cons]
    simp only [endK]
    rw [endK_upd k' t fun y hy => h y (by simp [hy])]
    unfold updK
    by_cases e : x.1 = k'.1
    · rw [if_pos e, h x (by simp) e]
    · rw [if_neg e]
theorem KA.uniq (h : KA words oops mark ks H M) {k x : Key} (hk : k ∈ ks) (hx : x ∈ ks) (e : x.1 = k.1) : x = k := by
  obtain ⟨b0, b1, b2, b3, b4⟩ := h.at_ k hk
  obtain ⟨c0, c1, c2, c3, c4⟩ := h.at_ x hx
  rw [e] at c2 c3 c4
  obtain ⟨x1, x2, x3, x4⟩ := x
  obtain ⟨k1, k2, k3, k4⟩ := k
  dsimp only at *
  rw [e, ← b2, ← b3, ← b4, c2, c3, c4]
theorem KA.change (h : KA words oops mark ks H M) {k : Key} (hk : k ∈ ks) {q : Nat} (hq : k.1 = (q : Int) + 1) (hl : q < M.things.length) (t : Th) (mem : List Int) (hm : mem.length = H.mem.length) (ht : t.there = true) (hlen : t.slots.length = k.2.2.2.length) (hfm : (t.fmt : Int) = k.2.2.1)
    (hi : Inv { H with mem := mem } { M with things := M.things.set q t }) : KA words oops mark (ks.map (updK (k.1, t.cls, (t.fmt : Int), t.slots))) { H with mem := mem } { M with things := M.things.set q t } := by
  have hg : ∀ i, (M.things.set q t).getD i noTh = if i = q then t else M.things.getD i noTh := fun i => by
    rw [List.getD_eq_getElem?_getD, List.getElem?_set]
    by_cases e : q = i
    · rw [if_pos e, if_pos hl, if_pos e.symm]; rfl
    · rw [if_neg e, if_neg (fun e2 => e e2.symm), List.getD_eq_getElem?_getD]
  have hfst : ∀ x ∈ ks, (updK (k.1, t.cls, (t.fmt : Int), t.slots) x).1 = x.1 := fun x hx => by
    unfold updK
    by_cases e : x.1 = k.1
    · rw [if_pos e, e]
    · rw [if_neg e]
  refine ⟨hi, h.words, h.oops, h.mark, ?_, ?_, fun x hx => ?_, fun i hi2 => ?_⟩
  · show H.order = _
    rw [h.order, List.map_map]
    refine List.map_congr_left fun x hx => ?_
    show x.1.toNat = (updK _ x).1.toNat
    rw [hfst x hx]
  · show (mem.length : Int) = _
    rw [hm, h.mem]
    symm
    refine endK_upd _ ks fun x hx e => ?_
    have := h.uniq hk hx e
    subst this
    show lenOf (t.slots.length : Int) (t.fmt : Int) = _
    rw [hlen, hfm]
  · obtain ⟨x0, hx0, rfl⟩ := List.mem_map.1 hx
    obtain ⟨b0, b1, b2, b3, b4⟩ := h.at_ x0 hx0
    rw [hfst x0 hx0]
    show 1 ≤ x0.1 ∧ ((M.things.set q t).getD (x0.1.toNat - 1) noTh).there = true ∧ ((M.things.set q t).getD (x0.1.toNat - 1) noTh).cls = _ ∧ (((M.things.set q t).getD (x0.1.toNat - 1) noTh).fmt : Int) = _ ∧ ((M.things.set q t).getD (x0.1.toNat - 1) noTh).slots = _
    rw [hg]
    unfold updK
    by_cases e : x0.1 = k.1
    · rw [if_pos (by omega), if_pos e]
      exact ⟨b0, ht, rfl, rfl, rfl⟩
    · rw [if_neg (by omega), if_neg e]
      exact ⟨b0, b1, b2, b3, b4⟩
  · have hi3 : ((M.things.set q t).getD i noTh).there = true := hi2
    rw [hg] at hi3
    by_cases e : i = q
    · exact ⟨_, List.mem_map_of_mem hk, by rw [hfst k hk, hq, e]⟩
    · rw [if_neg e] at hi3
      obtain ⟨x, x1, x2⟩ := h.only i hi3
      exact ⟨_, List.mem_map_of_mem x1, by rw [hfst x x1]; exact x2⟩
theorem put_w (hR : Rep w a l H) (h : KA words oops mark ks H M) {k : Key} (hk : k ∈ ks) (hf : k.2.2.1 = 0) (i : Nat) (hi : i < k.2.2.2.length) (v : Int) (hv : mayB v 0 = true) (hT : Tab w) :
    Calls Tryd.prog 40 #[.pointer (some ⟨a, 0, none⟩), .int .i64 k.1, .int .i64 (i : Int), .int .i64 v] w fun e w' => e = .returned (.int .i64 0) ∧ ∃ H' M', Rep w' a l H' ∧ KA words oops mark (ks.map (updK (k.1, k.2.1, k.2.2.1, k.2.2.2.set i v))) H' M' ∧ H'.age = H.age ∧ Nx a l l w w' := by
  obtain ⟨q, hq, hl, hb, hI, h1, h2, h3⟩ := h.th hk
  have hf0 : (M.things.getD q noTh).fmt = 0 := by omega
  have hr := hI.room
  have hlen := hI.len
  rw [← h3] at hi
  have hw := lenN_word _ i _ hf0 hi
  have h22 := lenN_two (M.things.getD q noTh).slots.length (M.things.getD q noTh).fmt
  obtain ⟨y1, y2, y3⟩ := has_yes hI.has
  have := Put_ok (q + 1) i _ _ v a l H { H with mem := H.mem.set ((H.seats.getD (q + 1) (0, 0, 0)).1 + 2 + i) v } w hR h.memLe y1 y2 y3 (by omega) hI.shape (by omega) (by omega) (by omega) (by rw [hf0]; exact hv) hT (fun W hW => by
    rw [hf0]
    exact setSlot_w (H.seats.getD (q + 1) (0, 0, 0)) i v a l H W hW (by omega) h.memLe)
  rw [show ((q + 1 : Nat) : Int) = (q : Int) + 1 from by omega, ← hq] at this
  refine this.mono ?_
  rintro e w' ⟨rfl, hr', hn⟩
  have hc := h.change hk hq hl (withSlot (M.things.getD q noTh) i v) (H.mem.set ((H.seats.getD (q + 1) (0, 0, 0)).1 + 2 + i) v) (by simp) hb (by show ((M.things.getD q noTh).slots.set i v).length = _; rw [List.length_set, h3]) h2 (h.inv.putW q hl hb i v hi hf0)
  have e1 : (k.1, (withSlot (M.things.getD q noTh) i v).cls, ((withSlot (M.things.getD q noTh) i v).fmt : Int), (withSlot (M.things.getD q noTh) i v).slots) = (k.1, k.2.1, k.2.2.1, k.2.2.2.set i v) := by
    show (k.1, (M.things.getD q noTh).cls, ((M.things.getD q noTh).fmt : Int), (M.things.getD q noTh).slots.set i v) = _
    rw [h1, h2, h3]
  rw [e1] at hc
  exact ⟨rfl, _, _, hr', hc, rfl, hn⟩
end
end Go.Proofs.YtkmjimdaimbdfaaDoor

namespace Go.Proofs.YtkmjimdaimbdfaaDoor
open Go.RowKit
set_option linter.unusedVariables false
set_option linter.unusedSimpArgs false
attribute [local go_sem ↓] Go.wp_at_zero Go.wp_at_succ
/-- what a space holds -/
structure SpS where
  words : Nat
  oops : Nat
  mark : Nat
  ks : List Key
  H : HS
  M : MS
  root : Int
  st : List Int
  sv : Value
  br : Option Addr
/-- a space in memory: its own block s, its heap at a -/
structure Spc (w : World) (s a : Nat) (l : Lay) (X : SpS) : Prop where
  top : w.heap[s]? = some (.cells #[.pointer (some ⟨s, 0, none⟩), .pointer (some ⟨a, 0, none⟩), .int .i64 (X.words : Int), .int .i64 (X.oops : Int), .int .i64 X.root, X.sv, .pointer X.br] 75 (0, 0))
  rep : Rep w a l X.H
  ka : KA X.words X.oops X.mark X.ks X.H X.M
  stk : w.ownsRow 0 28 1 X.sv X.st.length (X.st.map (Value.int .i64))
  sepS : s ∉ foot a l
  sepV : ∀ g, X.sv.ownBlock = some g → g ∉ foot a l ∧ g ≠ s
theorem Spc.idle {w w' : World} {s a : Nat} {l : Lay} {X : SpS} (h : Spc w s a l X) (hf : Fr [] w w') : Spc w' s a l X :=
  ⟨(hf.block s (lt_of_heap h.top) (by simp)).trans h.top, h.rep.keep hf (by simp), h.ka, own_congr h.stk fun g hg => hf.block g (h.stk.lt g hg).2 (by simp), h.sepS, h.sepV⟩
/-- the heap below has changed -/
theorem Spc.heap {w w' : World} {s a : Nat} {l l' : Lay} {X : SpS} {mark : Nat} {ks : List Key} {H : HS} {M : MS} (h : Spc w s a l X) (hR : Rep w' a l' H) (hk : KA X.words X.oops mark ks H M) (hx : Nx a l l' w w') : Spc w' s a l' { X with mark := mark, ks := ks, H := H, M := M } := by
  refine ⟨(hx.1.block s (lt_of_heap h.top) h.sepS).trans h.top, hR, hk, own_congr h.stk fun g hg => hx.1.block g (h.stk.lt g hg).2 (h.sepV g hg).1, fun hm => ?_, fun g hg => ⟨fun hm => ?_, (h.sepV g hg).2⟩⟩
  · rcases hx.2 s hm with h1 | h1
    · exact h.sepS h1
    · have := lt_of_heap h.top
      omega
  · rcases hx.2 g hm with h1 | h1
    · exact (h.sepV g hg).1 h1
    · have := (h.stk.lt g hg).2
      omega
theorem Spc.cells {w : World} {s a : Nat} {l : Lay} {X : SpS} (h : Spc w s a l X) : w.cell? ⟨s, 0, none⟩ = some (.pointer (some ⟨s, 0, none⟩)) ∧ w.cell? ⟨s, 1, none⟩ = some (.pointer (some ⟨a, 0, none⟩)) ∧ w.cell? ⟨s, 2, none⟩ = some (.int .i64 (X.words : Int)) ∧ w.cell? ⟨s, 3, none⟩ = some (.int .i64 (X.oops : Int)) ∧ w.cell? ⟨s, 4, none⟩ = some (.int .i64 X.root) ∧ w.cell? ⟨s, 5, none⟩ = some X.sv ∧ w.cell? ⟨s, 6, none⟩ = some (.pointer X.br) :=
  ⟨by rw [cell_in h.top]; rfl, by rw [cell_in h.top]; rfl, by rw [cell_in h.top]; rfl, by rw [cell_in h.top]; rfl, by rw [cell_in h.top]; rfl, by rw [cell_in h.top]; rfl, by rw [cell_in h.top]; rfl⟩
/-- one of the space's own cells is written -/
theorem Spc.write {w w' : World} {s a : Nat} {l : Lay} {X X' : SpS} (h : Spc w s a l X) (hf : Fr [s] w w') (ht : w'.heap[s]? = some (.cells #[.pointer (some ⟨s, 0, none⟩), .pointer (some ⟨a, 0, none⟩), .int .i64 (X'.words : Int), .int .i64 (X'.oops : Int), .int .i64 X'.root, X'.sv, .pointer X'.br] 75 (0, 0))) (hH : X'.H = X.H) (hk : KA X'.words X'.oops X'.mark X'.ks X'.H X'.M) (hs : X'.sv = X.sv) (hst : X'.st = X.st) : Spc w' s a l X' := by
  refine ⟨ht, ?_, hk, ?_, h.sepS, by rw [hs]; exact h.sepV⟩
  · rw [hH]
    exact h.rep.keep hf (fun g hg hm => by have e : g = s := by simpa using hm
                                           rw [e] at hg; exact h.sepS hg)
  · rw [hs, hst]
    exact own_congr h.stk fun g hg => hf.block g (h.stk.lt g hg).2 (by simpa using (h.sepV g hg).2)
theorem info75 : (Tryd.prog.info? 75).isSome = true := by kernel_rfl
set_option maxRecDepth 20000 in
set_option maxHeartbeats 1000000 in
theorem smade_ok {w : World} {s a : Nat} {l : Lay} {X : SpS} (h : Spc w s a l X) : Calls Tryd.prog 42 #[.pointer (some ⟨s, 0, none⟩)] w fun e w' => e = .returned (.bool true) ∧ Fr [] w w' := by
  obtain ⟨c0, -⟩ := h.cells
  obtain ⟨j, hj⟩ := Option.isSome_iff_exists.1 info75
  have hq := run_eql_ptr_same (P := Tryd.prog) w ⟨s, 0, none⟩ Tryd.underlying23 hj
  clear h hj
  go_enter Tryd.func42, Tryd.ntmps42
  go_wp2
  go_ret
  exact ⟨rfl, Fr.refl _ _⟩
set_option maxRecDepth 20000 in
set_option maxHeartbeats 1000000 in
theorem sHeap_ok {w : World} {s a : Nat} {l : Lay} {X : SpS} (h : Spc w s a l X) : Calls Tryd.prog 12 #[.pointer (some ⟨s, 0, none⟩)] w fun e w' => e = .returned (.pointer (some ⟨a, 0, none⟩)) ∧ Fr [] w w' := by
  have HM := mkHid (smade_ok h)
  have HS := mkHid h
  clear h
  go_enter Tryd.func12, Tryd.ntmps12
  go_wp2_with fail
  refine Calls.mono HM.out ?_
  rintro e w1 ⟨rfl, hf⟩
  obtain ⟨c0, c1, -⟩ := (HS.out.idle hf).cells
  have HF := mkHid hf
  clear hf HM
  go_wp2_with fail
  go_ret
  exact ⟨rfl, HF.out⟩
set_option maxRecDepth 20000 in
set_option maxHeartbeats 1000000 in
theorem closed_ok {w : World} {s a : Nat} {l : Lay} {X : SpS} (h : Spc w s a l X) : Calls Tryd.prog 53 #[.pointer (some ⟨s, 0, none⟩)] w fun e w' =>
    (X.br = none ∧ e = .returned (.tuple #[.pointer none, .int .i64 25]) ∧ Fr [] w w') ∨ (∃ b, X.br = some b ∧ e = .returned (.tuple #[.pointer (some b), .int .i64 0]) ∧ Spc w' s a l { X with br := none } ∧ Fr [s] w w') := by
  have HM := mkHid (smade_ok h)
  have HS := mkHid h
  clear h
  go_enter Tryd.func53, Tryd.ntmps53
  go_wp2_with fail
  refine Calls.mono HM.out ?_
  rintro e w1 ⟨rfl, hf⟩
  have hs1 := HS.out.idle hf
  obtain ⟨c0, c1, c2, c3, c4, c5, c6⟩ := hs1.cells
  have fz := frozen_in hs1.top 6
  have HF := mkHid hf
  have HS1 := mkHid hs1
  cases hb : X.br with
  | none =>
    rw [hb] at c6
    clear hf HM hs1
    go_wp2_with fail
    go_ret2
    exact .inl ⟨hb, rfl, HF.out⟩
  | some b =>
    rw [hb] at c6
    have HZ : Hid (Spc (w1.setCell ⟨s, 6, none⟩ (.pointer none)) s a l { X with br := none } ∧ Fr [s] w (w1.setCell ⟨s, 6, none⟩ (.pointer none))) := by
      have f2 : Fr [s] w1 (w1.setCell ⟨s, 6, none⟩ (.pointer none)) := Fr.setCell (S := [s]) w1 ⟨s, 6, none⟩ _ (by simp)
      refine ⟨HS1.out.write f2 ?_ rfl HS1.out.ka rfl rfl, (HF.out.mono (by simp)).trans f2 (fun q hq => .inl hq)⟩
      rw [set_in HS1.out.top 6 _]
      rfl
    clear hf HM hs1
    go_wp2_with fail
    go_ret2
    exact .inr ⟨b, hb, rfl, HZ.out.1, HZ.out.2⟩
end Go.Proofs.YtkmjimdaimbdfaaDoor
namespace Go.Proofs.YtkmjimdaimbdfaaDoor
open Go.RowKit
set_option linter.unusedVariables false
set_option linter.unusedSimpArgs false
attribute [local go_sem ↓] Go.wp_at_zero Go.wp_at_succ
def hasK (ks : List Key) (q : Int) : Bool := ks.any fun x => x.1 == q
/-- Class of any oop, by keys -/
theorem class_any {words oops mark : Nat} {ks : List Key} {H : HS} {M : MS} {a : Nat} {l : Lay} {w : World} (hR : Rep w a l H) (h : KA words oops mark ks H M) (q : Int) :
    Calls Tryd.prog 55 #[.pointer (some ⟨a, 0, none⟩), .int .i64 q] w fun e w' => ∃ c, e = .returned (.tuple #[.int .i64 c, .int .i64 (if hasK ks q = true then 0 else 20)]) ∧ Fr [] w w' := by
  cases hh : hasK ks q with
  | false =>
    have h2 : has H q = false := by rw [h.has]; exact hh
    exact (Class_no q a l H w hR h2).mono fun e w' ⟨h3, h4⟩ => ⟨0, h3, h4⟩
  | true =>
    obtain ⟨k, k1, k2⟩ := List.any_eq_true.1 hh
    have e : k.1 = q := by simpa using k2
    subst e
    exact (class_at hR h k1).mono fun e w' ⟨h3, h4⟩ => ⟨_, h3, h4⟩
set_option maxRecDepth 20000 in
set_option maxHeartbeats 1000000 in
theorem crown_ok {w : World} {s a : Nat} {l : Lay} {X : SpS} (h : Spc w s a l X) (q : Int) : Calls Tryd.prog 36 #[.pointer (some ⟨s, 0, none⟩), .int .i64 q] w fun e w' =>
    (hasK X.ks q = false ∧ e = .returned (.int .i64 20) ∧ Fr [] w w') ∨ (hasK X.ks q = true ∧ e = .returned (.int .i64 0) ∧ Spc w' s a l { X with root := q } ∧ Fr [s] w w') := by
  have HM := mkHid (smade_ok h)
  have HS := mkHid h
  clear h
  go_enter Tryd.func36, Tryd.ntmps36
  go_wp2_with fail
  refine Calls.mono HM.out ?_
  rintro e w1 ⟨rfl, hf⟩
  have hs1 := HS.out.idle hf
  obtain ⟨c0, c1, -⟩ := hs1.cells
  have HC := mkHid (class_any hs1.rep hs1.ka q)
  have HF := mkHid hf
  have HS1 := mkHid hs1
  clear hf HM hs1
  go_wp2_with fail
  refine Calls.mono HC.out ?_
  rintro e w2 ⟨c, rfl, hf2⟩
  have hs2 := HS1.out.idle hf2
  obtain ⟨-, -, -, -, c4, -⟩ := hs2.cells
  have fz := frozen_in hs2.top 4
  have HF2 : Hid (Fr [] w w2) := HF.out.trans hf2 (by simp)
  have HZ : Hid (Spc (w2.setCell ⟨s, 4, none⟩ (.int .i64 q)) s a l { X with root := q } ∧ Fr [s] w (w2.setCell ⟨s, 4, none⟩ (.int .i64 q))) := by
    have f2 : Fr [s] w2 (w2.setCell ⟨s, 4, none⟩ (.int .i64 q)) := Fr.setCell (S := [s]) w2 ⟨s, 4, none⟩ _ (by simp)
    refine ⟨hs2.write f2 ?_ rfl hs2.ka rfl rfl, (HF2.out.mono (by simp)).trans f2 (fun q hq => .inl hq)⟩
    rw [set_in hs2.top 4 _]
    rfl
  clear hf2 hs2 HC HS1
  cases hh : hasK X.ks q with
  | false =>
    simp only [Bool.false_eq_true, if_false]
    go_wp2_with fail
    go_ret
    exact .inl ⟨hh, rfl, HF2.out⟩
  | true =>
    simp only [if_true]
    go_wp2_with fail
    go_ret
    exact .inr ⟨hh, rfl, HZ.out.1, HZ.out.2⟩
set_option maxRecDepth 20000 in
set_option maxHeartbeats 1000000 in
theorem crowned_ok {w : World} {s a : Nat} {l : Lay} {X : SpS} (h : Spc w s a l X) : Calls Tryd.prog 25 #[.pointer (some ⟨s, 0, none⟩)] w fun e w' => e = .returned (.int .i64 (if hasK X.ks X.root = true then X.root else 0)) ∧ Fr [] w w' := by
  have HM := mkHid (smade_ok h)
  have HS := mkHid h
  clear h
  go_enter Tryd.func25, Tryd.ntmps25
  go_wp2_with fail
  refine Calls.mono HM.out ?_
  rintro e w1 ⟨rfl, hf⟩
  have hs1 := HS.out.idle hf
  obtain ⟨c0, c1, -, -, c4, -⟩ := hs1.cells
  have HC : Hid (∀ V, Hid (Fr [] w1 V) → Calls Tryd.prog 55 #[.pointer (some ⟨a, 0, none⟩), .int .i64 X.root] V fun e w' => ∃ c, e = .returned (.tuple #[.int .i64 c, .int .i64 (if hasK X.ks X.root = true then 0 else 20)]) ∧ Fr [] V w') := fun V hV => class_any (hs1.idle hV.out).rep hs1.ka X.root
  have HCl : Hid (∀ V, Hid (Fr [] w1 V) → V.cell? ⟨s, 1, none⟩ = some (.pointer (some ⟨a, 0, none⟩)) ∧ V.cell? ⟨s, 4, none⟩ = some (.int .i64 X.root)) := fun V hV => by
    obtain ⟨-, d1, -, -, d4, -⟩ := (hs1.idle hV.out).cells
    exact ⟨d1, d4⟩
  have HF := mkHid hf
  have hR : Hid (Fr [] w1 w1) := Fr.refl _ _
  clear hf HM hs1
  cases hh : hasK X.ks X.root
  case' false => simp only [hh, Bool.false_eq_true, if_false] at HC ⊢
  case' true => simp only [hh, if_true] at HC ⊢
  all_goals
    go_wp2_with fail
    go_region_held3 (fun V => V.cell? ⟨s, 1, none⟩ = some (.pointer (some ⟨a, 0, none⟩)) ∧ V.cell? ⟨s, 4, none⟩ = some (.int .i64 X.root))
      (first
        | exact HCl.out _ (hid_drew hR)
        | exact HCl.out _ hR
        | exact HCl.out _ (by assumption))
      (first | (go_at_call 55; refine (HC.out _ (hid_drew hR)).mono ?_; rintro e w2 ⟨c, rfl, hf2⟩; have hf3 : Hid (Fr [] w1 w2) := (hid_drew hR).out.trans hf2 (by simp)))
    all_goals go_wp2_with fail
    all_goals
      go_ret
      exact ⟨rfl, HF.out.trans hf3.out (by simp)⟩
end Go.Proofs.YtkmjimdaimbdfaaDoor
namespace Go.Proofs.YtkmjimdaimbdfaaDoor
open Go.RowKit
set_option linter.unusedVariables false
set_option linter.unusedSimpArgs false
attribute [local go_sem ↓] Go.wp_at_zero Go.wp_at_succ
theorem ka_empty (words oops : Nat) (h1 : (words : Int) ≤ 1048576) (h2 : (oops : Int) ≤ 65536) : KA words oops 0 [] (emptyH words oops) (emptyM words oops) :=
  ⟨inv_empty words oops h1 h2, rfl, rfl, rfl, rfl, rfl, fun k hk => by simp at hk, fun i hi => by simp [emptyM, noTh] at hi⟩
/-- an empty space -/
def sp0 (words oops : Nat) : SpS := ⟨words, oops, 0, [], emptyH words oops, emptyM words oops, 0, [], .slice none 0 0, none⟩
set_option maxRecDepth 20000 in
set_option maxHeartbeats 1000000 in
theorem over_ok {w : World} {a : Nat} {l : Lay} {mark : Nat} {ks : List Key} {H : HS} {M : MS} (words oops : Nat) (hR : Rep w a l H) (hk : KA words oops mark ks H M) :
    Calls Tryd.prog 57 #[.pointer (some ⟨a, 0, none⟩), .int .i64 (words : Int), .int .i64 (oops : Int)] w fun e w' => e = .returned (.pointer (some ⟨w.heap.size, 0, none⟩)) ∧ Spc w' w.heap.size a l ⟨words, oops, mark, ks, H, M, 0, [], .slice none 0 0, none⟩ ∧ Fr [] w w' := by
  have HZ : Hid (∀ V, V = w.alloc (.cells #[.pointer (some ⟨w.heap.size, 0, none⟩), .pointer (some ⟨a, 0, none⟩), .int .i64 (words : Int), .int .i64 (oops : Int), .int .i64 0, .slice none 0 0, .pointer none] 75) → Spc V w.heap.size a l ⟨words, oops, mark, ks, H, M, 0, [], .slice none 0 0, none⟩ ∧ Fr [] w V) := fun V hV => by
    subst hV
    have F3 : Fr [] w (w.alloc (.cells #[.pointer (some ⟨w.heap.size, 0, none⟩), .pointer (some ⟨a, 0, none⟩), .int .i64 (words : Int), .int .i64 (oops : Int), .int .i64 0, .slice none 0 0, .pointer none] 75)) := Fr.alloc [] _ _
    refine ⟨⟨heap_alloc_new _ _, hR.keep F3 (by simp), hk, World.ownsRow_nil _ _ _ _, fun hm => ?_, fun g hg => by simp [Value.ownBlock] at hg⟩, F3⟩
    have := hR.lt _ hm
    omega
  clear hR hk
  go_enter Tryd.func57, Tryd.ntmps57
  go_wp2_with fail
  go_ret
  exact ⟨rfl, HZ.out _ rfl⟩
set_option maxRecDepth 20000 in
set_option maxHeartbeats 1000000 in
theorem sNew_ok (words oops : Nat) (w : World) (h1 : (words : Int) ≤ 1048576) (h2 : (oops : Int) ≤ 65536) :
    Calls Tryd.prog 32 #[.int .i64 (words : Int), .int .i64 (oops : Int)] w fun e w' => ∃ s, e = .returned (.tuple #[.pointer (some ⟨s, 0, none⟩), .int .i64 0]) ∧ Spc w' s w.heap.size nilLay (sp0 words oops) ∧ w.heap.size ≤ s ∧ Fr [] w w' := by
  have HN := mkHid (New_in words oops w h1 h2)
  have HK := mkHid (ka_empty words oops h1 h2)
  go_enter Tryd.func32, Tryd.ntmps32
  go_wp2_with fail
  refine Calls.mono HN.out ?_
  rintro e w1 ⟨rfl, hrep, hf, hsz⟩
  have HO := mkHid (over_ok words oops hrep HK.out)
  have HF := mkHid hf
  clear hrep hf HN
  go_wp2_with fail
  refine Calls.mono HO.out ?_
  rintro e w2 ⟨rfl, hsp, hf2⟩
  have HS := mkHid hsp
  have HF2 : Hid (Fr [] w w2) := HF.out.trans hf2 (by simp)
  clear hsp hf2 HO
  go_wp2_with fail
  go_ret2
  exact ⟨_, rfl, by have := HS.out; rw [hsz] at this; exact this, by omega, HF2.out⟩
end Go.Proofs.YtkmjimdaimbdfaaDoor
namespace Go.Proofs.YtkmjimdaimbdfaaDoor
open Go.RowKit Go.Maps
set_option linter.unusedVariables false
set_option linter.unusedSimpArgs false
attribute [local go_sem ↓] Go.wp_at_zero Go.wp_at_succ
theorem run_moreW (ss ts : List Int) (v u : Value) (w : World) (B : Nat) (h : w.ownsRow B 28 1 v ss.length (ss.map (Value.int .i64))) (hu : Rd w u ts) (hb : ss.length + ts.length ≤ 1099511627776) (hB : B ≤ w.heap.size) :
    ∃ v' w', (Builtin.append_ #[29, 29] 29 #[v, u]).run Tryd.prog w = .ok v' w' ∧ w'.ownsRow B 28 1 v' (ss ++ ts).length ((ss ++ ts).map (Value.int .i64)) ∧ w.grownBy w' v.ownBlock := by
  obtain ⟨p, c, rfl, h1⟩ := hu.at_
  obtain ⟨i33, ii, iz, is, ib⟩ := info_parts info33
  cases p with
  | none =>
    have h0 : ts.length = 0 := by
      rcases Nat.eq_zero_or_pos ts.length with h0 | h0
      · exact h0
      · obtain ⟨g, off, e2, _⟩ := h1 h0; cases e2
    have hs : ts = [] := List.length_eq_zero_iff.1 h0
    have hc := hu.nil c rfl
    subst hs
    subst hc
    rw [List.append_nil]
    exact ⟨_, _, run_append_owned_none (P := Tryd.prog) (w := w) B 29 29 28 i33 1 Tryd.underlying29 ii _ _ _ h, h, ⟨rfl, rfl, rfl, Nat.le_refl _, fun _ _ _ => rfl⟩⟩
  | some ad =>
    have hnews : ∀ j x, (ts.map (Value.int .i64))[j]? = some x → w.cell? (ad.add j) = some x := fun j x hx => by
      rw [List.getElem?_map] at hx
      cases hz : ts[j]? with
      | none => rw [hz] at hx; simp at hx
      | some z =>
        rw [hz] at hx
        simp at hx
        obtain ⟨hj, hjz⟩ := List.getElem?_eq_some_iff.1 hz
        obtain ⟨g, off, e2, h2, h3⟩ := h1 (by omega)
        rw [Option.some.inj e2, Addr.add_mid, h3 j hj, List.getD_eq_getElem?_getD, hz, ← hx]
        rfl
    obtain ⟨v', w', hr, h2, h3, _, h5⟩ := run_append_own_at (P := Tryd.prog) w B 29 29 28 i33 (.int .i64 0) 1 8 Tryd.underlying29 ii iz is ib rfl (by decide) _ _ _ h ad ts.length c (ts.map (Value.int .i64)) (by simp) hnews (fun x hx => by obtain ⟨z, _, rfl⟩ := List.mem_map.1 hx; rfl) (by unfold maxLen; omega) (by omega) hB
    refine ⟨v', w', hr, ?_, h3⟩
    rw [List.length_append, List.map_append]
    exact h2
set_option maxRecDepth 20000 in
set_option maxHeartbeats 1000000 in
/-- slices.Clone -/
theorem wClone_ok (ss : List Int) (v : Value) (w : World) (h : Rd w v ss) (hl : ss.length ≤ 1000000) :
    Calls Tryd.prog 48 #[v] w fun e w' => ∃ v', e = .returned v' ∧ w'.ownsRow w.heap.size 28 1 v' ss.length (ss.map (Value.int .i64)) ∧ Fr [] w w' := by
  have q29 : ∀ (w : World) (a : Option Addr) (n c n' c' : Nat), (binOp .eql 29 (.slice a n c) (.slice none n' c')).run Tryd.prog w = .ok (.bool a.isNone) w := fun w a n c n' c' => Lib.run_eql_slice_nil w _ _ a n c n' c' Tryd.underlying29
  obtain ⟨p, c, e, h1⟩ := h.at_
  cases p with
  | none =>
    have h0 : ss.length = 0 := by
      rcases Nat.eq_zero_or_pos ss.length with h0 | h0
      · exact h0
      · obtain ⟨g, off, e2, _⟩ := h1 h0; cases e2
    have hs : ss = [] := List.length_eq_zero_iff.1 h0
    subst hs
    subst e
    clear h h1
    go_enter Tryd.func48, Tryd.ntmps48
    go_wp2
    go_ret
    exact ⟨_, rfl, World.ownsRow_nil _ _ _ _, Fr.refl _ _⟩
  | some ad =>
    have F0 : Fr [] w (w.alloc (.cells #[] 28)) := Fr.alloc [] w _
    obtain ⟨v', w', hr, ho, hg⟩ := run_moreW [] ss (.slice (some ⟨w.heap.size, 0, none⟩) 0 0) v (w.alloc (.cells #[] 28)) w.heap.size (World.ownsRow_made w #[] 0 (Nat.le_refl _) (Nat.zero_le _) rfl) (h.idle F0) (by simp; omega) (by simp)
    have HF : Hid (Fr [] w w') := mkHid (F0.trans (Fr.grown (S := [w.heap.size]) hg (fun k hk => by simp [Value.ownBlock] at hk; simp [hk])) (by simp))
    rw [List.nil_append] at ho
    have HO := mkHid ho
    have HR := mkHid hr
    subst e
    clear h h1 F0 hg ho hr
    go_enter Tryd.func48, Tryd.ntmps48
    go_wp2_with (at_builtin; refine Lib.wpList_append_run _ rfl (.tmp 5) (.tmp 6) 29 29 rfl _ _ rfl rfl _ _ HR.out ?_)
    go_ret
    exact ⟨_, rfl, HO.out, HF.out⟩
/-- a stack that can be read -/
theorem Spc.rd {w : World} {s a : Nat} {l : Lay} {X : SpS} (h : Spc w s a l X) (hl : X.st.length ≤ 1000000) : Rd w X.sv X.st := own_rd h.stk (by omega)
set_option maxRecDepth 20000 in
set_option maxHeartbeats 1000000 in
theorem kept_ok {w : World} {s a : Nat} {l : Lay} {X : SpS} (h : Spc w s a l X) (hl : X.st.length ≤ 1000000) : Calls Tryd.prog 16 #[.pointer (some ⟨s, 0, none⟩)] w fun e w' => ∃ v', e = .returned v' ∧ w'.ownsRow w.heap.size 28 1 v' X.st.length (X.st.map (Value.int .i64)) ∧ Fr [] w w' := by
  have HM := mkHid (smade_ok h)
  have HS := mkHid h
  clear h
  go_enter Tryd.func16, Tryd.ntmps16
  go_wp2_with fail
  refine Calls.mono HM.out ?_
  rintro e w1 ⟨rfl, hf⟩
  have hs1 := HS.out.idle hf
  obtain ⟨-, -, -, -, -, c5, -⟩ := hs1.cells
  have HC := mkHid (wClone_ok X.st X.sv w1 (hs1.rd hl) hl)
  have HF := mkHid hf
  clear hf HM hs1
  go_wp2_with fail
  refine Calls.mono HC.out ?_
  rintro e w2 ⟨v', rfl, ho, hf2⟩
  have HO : Hid (w2.ownsRow w.heap.size 28 1 v' X.st.length (X.st.map (Value.int .i64)) ∧ Fr [] w w2) := ⟨own_base ho HF.out.size, HF.out.trans hf2 (by simp)⟩
  clear ho hf2 HC
  go_wp2_with fail
  go_ret
  exact ⟨_, rfl, HO.out.1, HO.out.2⟩
end Go.Proofs.YtkmjimdaimbdfaaDoor
namespace Go.Proofs.YtkmjimdaimbdfaaDoor
open Go.RowKit
set_option linter.unusedVariables false
attribute [local go_sem ↓] Go.wp_at_zero Go.wp_at_succ
set_option maxHeartbeats 1000000 in
theorem objectWord_ok (k : Int) (w : World) (h1 : 0 ≤ k) (h2 : k ≤ 1000000000) : Calls Tryd.prog 93 #[.int .i64 k] w fun e w' => e = .returned (.int .i64 (4 * k)) ∧ w' = w := by
  go_enter Tryd.func93, Tryd.ntmps93
  go_wp2
  go_ret
  exact ⟨rfl, rfl⟩
set_option maxHeartbeats 1000000 in
theorem Object_ok (k : Int) (w : World) (h1 : 1 ≤ k) (h2 : k ≤ 65536) : Calls Tryd.prog 74 #[.int .i64 k] w fun e w' => e = .returned (.tuple #[.int .i64 (4 * k), .int .i64 0]) ∧ w' = w := by
  have HO := mkHid (objectWord_ok k w (by omega) (by omega))
  go_enter Tryd.func74, Tryd.ntmps74
  go_wp2_with (go_at_call 93; refine Calls.mono HO.out ?_; rintro e w' ⟨rfl, hw'⟩; rw [hw']; clear hw' w')
  go_ret2
  exact ⟨rfl, rfl⟩
end Go.Proofs.YtkmjimdaimbdfaaDoor
namespace Go.Proofs.YtkmjimdaimbdfaaDoor
open Go.RowKit Go.Maps
set_option linter.unusedVariables false
set_option linter.unusedSimpArgs false
attribute [local go_sem ↓] Go.wp_at_zero Go.wp_at_succ
set_option maxRecDepth 20000 in
set_option maxHeartbeats 1000000 in
theorem Object_zero (w : World) : Calls Tryd.prog 74 #[.int .i64 0] w fun e w' => e = .returned (.tuple #[.int .i64 0, .int .i64 1]) ∧ w' = w := by
  go_enter Tryd.func74, Tryd.ntmps74
  go_wp2_with fail
  go_ret2
  exact ⟨rfl, rfl⟩
/-- the words that say what is live -/
def rootsOf (X : SpS) : List Int := X.st ++ (if X.root = 0 then [] else [4 * X.root])
theorem rd_one (w : World) (z : Int) : Rd (w.alloc (.cells #[.int .i64 z] 28)) (.slice (some ⟨w.heap.size, 0, none⟩) 1 1) [z] := by
  refine ⟨⟨some ⟨w.heap.size, 0, none⟩, 1, rfl, fun _ => ⟨w.heap.size, 0, rfl, by simp, fun i hi => ?_⟩⟩, fun c hc => (by injection hc with e; cases e), by simp⟩
  have e : i = 0 := by simpa using hi
  subst e
  rw [cell_in (heap_alloc_new w (.cells #[.int .i64 z] 28))]
  rfl
set_option maxRecDepth 20000 in
set_option maxHeartbeats 1000000 in
theorem roots_ok {w : World} {s a : Nat} {l : Lay} {X : SpS} (h : Spc w s a l X) (hl : X.st.length ≤ 100000) (hr : X.root = 0 ∨ (1 ≤ X.root ∧ X.root ≤ 65536)) :
    Calls Tryd.prog 52 #[.pointer (some ⟨s, 0, none⟩)] w fun e w' => ∃ v', e = .returned v' ∧ w'.ownsRow w.heap.size 28 1 v' (rootsOf X).length ((rootsOf X).map (Value.int .i64)) ∧ Fr [] w w' := by
  have HC := mkHid (wClone_ok X.st X.sv w (h.rd (by omega)) (by omega))
  have HS := mkHid h
  obtain ⟨-, -, -, -, -, c5, -⟩ := h.cells
  clear h
  go_enter Tryd.func52, Tryd.ntmps52
  go_wp2_with fail
  refine Calls.mono HC.out ?_
  rintro e w1 ⟨v', rfl, ho, hf⟩
  obtain ⟨-, -, -, -, c4, -⟩ := (HS.out.idle hf).cells
  obtain ⟨p, c, rfl⟩ := row_is ho
  have HF := mkHid hf
  have HO := mkHid ho
  have z1 := hf.size
  clear ho hf HC c5
  by_cases h0 : X.root = 0
  · have HR : Hid (rootsOf X = X.st) := by show rootsOf X = X.st; unfold rootsOf; rw [if_pos h0, List.append_nil]
    rw [h0] at c4
    clear h0 hr
    go_wp2_with (first | (go_at_call 74; refine Calls.mono (Object_zero _) ?_; rintro e w' ⟨rfl, hw'⟩; rw [hw']; clear hw' w') | go_in)
    go_ret
    exact ⟨_, rfl, by rw [HR.out]; exact HO.out, HF.out⟩
  · have hr2 : 1 ≤ X.root ∧ X.root ≤ 65536 := by omega
    have HR : Hid (rootsOf X = X.st ++ [4 * X.root]) := by show rootsOf X = _; unfold rootsOf; rw [if_neg h0]
    have HOb := mkHid (Object_ok X.root w1 hr2.1 hr2.2)
    have F2 : Fr [] w1 (w1.alloc (.cells #[.int .i64 (4 * X.root)] 28)) := Fr.alloc [] _ _
    obtain ⟨v2, w2, r2, o2, g2⟩ := run_moreW X.st [4 * X.root] (.slice p X.st.length c) (.slice (some ⟨w1.heap.size, 0, none⟩) 1 1) (w1.alloc (.cells #[.int .i64 (4 * X.root)] 28)) w.heap.size (HO.out.alloc _) (rd_one w1 _) (by simp; omega) (by simp; omega)
    have HF2 : Hid (Fr [] w w2) := by
      have h1 := HF.out.trans F2 (by simp)
      refine ⟨g2.os.trans h1.os, g2.tape.trans h1.tape, g2.output.trans h1.output, Nat.le_trans h1.size g2.size, fun i hi hn => ?_⟩
      rw [g2.block i (Nat.lt_of_lt_of_le hi h1.size) (fun e => ?_)]
      · exact h1.block i hi hn
      · have := (HO.out.lt i e.symm).1
        omega
    obtain ⟨p2, c2, rfl⟩ := row_is o2
    have HO2 := mkHid o2
    have HR2 := mkHid r2
    generalize hz : 4 * X.root = z at *
    clear hz r2 o2 g2 F2 h0 hr hr2
    generalize X.root = q at *
    go_wp2_with (first | (go_at_call 74; refine Calls.mono HOb.out ?_; rintro e w' ⟨rfl, hw'⟩; rw [hw']; clear hw' w') | (at_builtin; refine Lib.wpList_append_run _ rfl (.tmp 21) (.tmp 23) 29 29 rfl _ _ rfl rfl _ _ HR2.out ?_) | go_in)
    go_ret
    have hlz : (X.st ++ [z]).length = X.st.length + 1 := by simp
    have ho3 := HO2.out
    rw [hlz] at ho3
    exact ⟨_, rfl, by rw [HR.out, hlz]; exact ho3, HF2.out⟩
set_option maxRecDepth 20000 in
set_option maxHeartbeats 1000000 in
/-- a collection, by keys -/
theorem collect_ok {w : World} {s a : Nat} {l : Lay} {X : SpS} (h : Spc w s a l X) (hl : X.st.length ≤ 100000) (hr : X.root = 0 ∨ (1 ≤ X.root ∧ X.root ≤ 65536)) (hage : X.H.age ≤ 1000) (hT : Tab w) (hT0 : 0 < w.heap.size) :
    Calls Tryd.prog 19 #[.pointer (some ⟨s, 0, none⟩)] w fun e w' =>
      (X.br ≠ none ∧ e = .returned (.tuple #[.int .i64 0, .int .i64 0, .int .i64 25]) ∧ Fr [] w w') ∨
      (X.br = none ∧ ∃ st H' M', Sts X.H X.M (rootsOf X) st ∧ e = .returned (.tuple #[.int .i64 ((X.ks.length : Int) - (keepK X.ks st).length), .int .i64 (endK X.ks - endK (keepK X.ks st)), .int .i64 0]) ∧ Spc w' s a l { X with ks := keepK X.ks st, H := H', M := M' } ∧ H'.age = X.H.age + 1 ∧ Nx a l l w w') := by
  have HM := mkHid (smade_ok h)
  have HS := mkHid h
  have HT : Hid (∀ V, Fr [] w V → Tab V) := fun V hV => hT.fr hV hT0
  clear h hT hT0
  go_enter Tryd.func19, Tryd.ntmps19
  go_wp2_with fail
  refine Calls.mono HM.out ?_
  rintro e w1 ⟨rfl, hf⟩
  have hs1 := HS.out.idle hf
  obtain ⟨-, c1, -, -, -, -, c6⟩ := hs1.cells
  have HF := mkHid hf
  have HS1 := mkHid hs1
  cases hb : X.br with
  | some b =>
    rw [hb] at c6
    clear hf HM hs1
    go_wp2_with fail
    refine bodyPost_ret (results_tmp3 rfl _ _ _) rfl ?_
    exact .inl ⟨by rw [hb]; simp, rfl, HF.out⟩
  | none =>
    rw [hb] at c6
    have HRo : Hid (∀ V, Hid (Fr [] w1 V) → Calls Tryd.prog 52 #[.pointer (some ⟨s, 0, none⟩)] V fun e w' => ∃ p c, e = .returned (.slice p (rootsOf X).length c) ∧ Hid (Rd w' (.slice p (rootsOf X).length c) (rootsOf X)) ∧ Hid (Fr [] w1 w')) := fun V hV => by
      refine (roots_ok (hs1.idle hV.out) hl hr).mono ?_
      rintro e w2 ⟨v2, rfl, ho2, hf2⟩
      obtain ⟨p2, c2, rfl⟩ := row_is ho2
      refine ⟨p2, c2, rfl, own_rd ho2 ?_, hV.out.trans hf2 (by simp)⟩
      unfold rootsOf
      rw [List.length_append]
      split
      · simp; omega
      · simp; omega
    have HRn : Hid (∀ V p c, Hid (Fr [] w1 V) → Hid (Rd V (.slice p (rootsOf X).length c) (rootsOf X)) → Calls Tryd.prog 51 #[.pointer (some ⟨a, 0, none⟩), .slice p (rootsOf X).length c] V fun e w' => ∃ st H' M', e = .returned (.tuple #[.int .i64 ((X.ks.length : Int) - (keepK X.ks st).length), .int .i64 (endK X.ks - endK (keepK X.ks st)), .int .i64 0]) ∧ Hid (Sts X.H X.M (rootsOf X) st) ∧ Hid (Spc w' s a l { X with ks := keepK X.ks st, H := H', M := M' }) ∧ Hid (H'.age = X.H.age + 1 ∧ Nx a l l w w')) := fun V p c hV hrd => by
      have hsV := hs1.idle hV.out
      refine (run_tw p c (rootsOf X) hsV.rep hsV.ka hage (HT.out V (HF.out.trans hV.out (by simp))) hrd.out).mono ?_
      rintro e w3 ⟨st, H', M', q1, rfl, q3, q4, q5, q6⟩
      exact ⟨st, H', M', rfl, q1, hsV.heap q3 q4 q6, q5, (((HF.out.trans hV.out (by simp)).mono (by simp)).trans q6.1 (fun b hb => .inl hb)), fun g hg => .inl hg⟩
    have HCl : Hid (∀ V, Hid (Fr [] w1 V) → V.cell? ⟨s, 1, none⟩ = some (.pointer (some ⟨a, 0, none⟩))) := fun V hV => (hs1.idle hV.out).cells.2.1
    have HCs : Hid (∀ V (Y : SpS), Hid (Spc V s a l Y) → V.cell? ⟨s, 1, none⟩ = some (.pointer (some ⟨a, 0, none⟩))) := fun V Y hV => hV.out.cells.2.1
    have hR : Hid (Fr [] w1 w1) := Fr.refl _ _
    clear hf HM hs1
    generalize (rootsOf X).length = rn at *
    go_wp2_with fail
    go_region_held3 (fun V => V.cell? ⟨s, 1, none⟩ = some (.pointer (some ⟨a, 0, none⟩)))
      (first
        | exact HCl.out _ (hid_drew hR)
        | exact HCl.out _ hR
        | exact HCs.out _ _ hsp3
        | exact HCl.out _ hg2)
      (first
        | (go_at_call 52; refine (HRo.out _ (hid_drew hR)).mono ?_; rintro e w2 ⟨p2, c2, rfl, hrd2, hg2⟩)
        | (go_at_call 51; refine (HRn.out _ _ _ hg2 hrd2).mono ?_; rintro e w3 ⟨st, H', M', rfl, hsts, hsp3, hend⟩))
    all_goals go_wp2_with fail
    all_goals
      refine bodyPost_ret (results_tmp3 rfl _ _ _) rfl ?_
      exact .inr ⟨hb, st, H', M', hsts.out, rfl, hsp3.out, hend.out.1, hend.out.2⟩
end Go.Proofs.YtkmjimdaimbdfaaDoor

import Derived.Test.YtdkbnnhcjaibdaaDoorSG15BPure
import Derived.Test.YtdkbnnhcjaibdaaDoorSG05HAll
import Derived.Test.YtdkbnnhcjaibdaaDoorSG10HInvS
import Derived.Test.YtdkbnnhcjaibdaaDoorSG02HSeat
import Derived.Maps.OwnOps
import Derived.Maps.OwnSet
import Derived.Maps.Views
import Derived.Test.YtdkbnnhcjaibdaaDoorSG13CMarks
import Derived.Test.YtdkbnnhcjaibdaaDoorSG07HSameS
import Derived.Test.YtdkbnnhcjaibdaaDoorSG06HSame
import Derived.Test.YtdkbnnhcjaibdaaDoorSG08HPutAll
import Derived.BigQuiet
import Derived.Deep.RegionHeld3
namespace Go.Proofs.YtdkbnnhcjaibdaaDoor
open Go.RowKit
set_option linter.unusedVariables false
/-- one object becomes another one -/
def updK (k' x : Key) : Key := if x.1 = k'.1 then k' else x
section
variable {words oops mark : Nat} {ks : List Key} {H : HS} {M : MS} {a : Nat} {l : Lay} {w : World}
theorem KA.th (h : KA words oops mark ks H M) {k : Key} (hk : k ∈ ks) : ∃ q : Nat, k.1 = (q : Int) + 1 ∧ q < M.things.length ∧ (M.things.getD q noTh).there = true ∧ Is H (q + 1) (M.things.getD q noTh) ∧ (M.things.getD q noTh).cls = k.2.1 ∧ ((M.things.getD q noTh).fmt : Int) = k.2.2.1 ∧ (M.things.getD q noTh).slots = k.2.2.2 := by
  obtain ⟨b0, b1, b2, b3, b4⟩ := h.at_ k hk
  have hl := there_lt b1
  exact ⟨k.1.toNat - 1, by omega, hl, b1, h.inv.is _ hl b1, b2, b3, b4⟩
theorem KA.memLe (h : KA words oops mark ks H M) : (H.mem.length : Int) ≤ 1048576 := by
  have := h.inv.safe.small.mem
  have := h.inv.safe.small.words
  omega
theorem class_at (hR : Rep w a l H) (h : KA words oops mark ks H M) {k : Key} (hk : k ∈ ks) :
    Calls Tryd.prog 76 #[.pointer (some ⟨a, 0, none⟩), .int .i64 k.1] w fun e w' => e = .returned (.tuple #[.int .i64 k.2.1, .int .i64 0]) ∧ Fr [] w w' := by
  obtain ⟨q, hq, hl, hb, hI, h1, h2, h3⟩ := h.th hk
  have hr := hI.room
  have h22 := lenN_two (M.things.getD q noTh).slots.length (M.things.getD q noTh).fmt
  have := Class_ok (q + 1) a l H w hR hI.has (by omega) h.memLe
  rw [hI.cls, h1, show ((q + 1 : Nat) : Int) = (q : Int) + 1 from by omega, ← hq] at this
  exact this
theorem class_not (hR : Rep w a l H) (q : Int) (hh : has H q = false) :
    Calls Tryd.prog 76 #[.pointer (some ⟨a, 0, none⟩), .int .i64 q] w fun e w' => e = .returned (.tuple #[.int .i64 0, .int .i64 20]) ∧ Fr [] w w' := Class_no q a l H w hR hh
theorem size_at (hR : Rep w a l H) (h : KA words oops mark ks H M) {k : Key} (hk : k ∈ ks) :
    Calls Tryd.prog 82 #[.pointer (some ⟨a, 0, none⟩), .int .i64 k.1] w fun e w' => e = .returned (.tuple #[.int .i64 (k.2.2.2.length : Nat), .int .i64 k.2.2.1, .int .i64 0]) ∧ Fr [] w w' := by
  obtain ⟨q, hq, hl, hb, hI, h1, h2, h3⟩ := h.th hk
  have hr := hI.room
  have hf := hI.fmt
  have h22 := lenN_two (M.things.getD q noTh).slots.length (M.things.getD q noTh).fmt
  have := Size_ok (q + 1) _ _ a l H w hR hI.has h.memLe (by omega) hI.shape (by omega)
  rw [h2, h3, show ((q + 1 : Nat) : Int) = (q : Int) + 1 from by omega, ← hq] at this
  exact this
theorem at_w (hR : Rep w a l H) (h : KA words oops mark ks H M) {k : Key} (hk : k ∈ ks) (hf : k.2.2.1 = 0) (i : Nat) (hi : i < k.2.2.2.length) :
    Calls Tryd.prog 53 #[.pointer (some ⟨a, 0, none⟩), .int .i64 k.1, .int .i64 (i : Int)] w fun e w' => e = .returned (.tuple #[.int .i64 (k.2.2.2.getD i 0), .int .i64 0]) ∧ Fr [] w w' := by
  obtain ⟨q, hq, hl, hb, hI, h1, h2, h3⟩ := h.th hk
  have hf0 : (M.things.getD q noTh).fmt = 0 := by omega
  have hr := hI.room
  have hlen := hI.len
  rw [← h3] at hi
  have hw := lenN_word _ i _ hf0 hi
  have h22 := lenN_two (M.things.getD q noTh).slots.length (M.things.getD q noTh).fmt
  obtain ⟨y1, y2, y3⟩ := has_yes hI.has
  have := At_ok (q + 1) i _ _ (k.2.2.2.getD i 0) a l H w hR h.memLe y1 y2 y3 (by omega) hI.shape (by omega) (by omega) (by omega) (fun W hW => by
    have := slot_w (H.seats.getD (q + 1) (0, 0, 0)) i a l H W hW (by omega) h.memLe
    rw [hI.word hf0 i hi, h3] at this
    rw [hf0]
    exact this)
  rw [show ((q + 1 : Nat) : Int) = (q : Int) + 1 from by omega, ← hq] at this
  exact this
theorem endK_upd (k' : Key) : ∀ ks : List Key, (∀ x ∈ ks, x.1 = k'.1 → lenOf (k'.2.2.2.length : Int) k'.2.2.1 = lenOf (x.2.2.2.length : Int) x.2.2.1) → endK (ks.map (updK k')) = endK ks
  | [], _ => rfl
  | x :: t, h => by
    rw [List.map_cons]
    simp only [endK]
    rw [endK_upd k' t fun y hy => h y (by simp [hy])]
    unfold updK
    by_cases e : x.1 = k'.1
    · rw [if_pos e, h x (by simp) e]
    · rw [if_neg e]
theorem KA.uniq (h : KA words oops mark ks H M) {k x : Key} (hk : k ∈ ks) (hx : x ∈ ks) (e : x.1 = k.1) : x = k := by
  obtain ⟨b0, b1, b2, b3, b4⟩ := h.at_ k hk
  obtain ⟨c0, c1, c2, c3, c4⟩ := h.at_ x hx
  rw [e] at c2 c3 c4
  obtain ⟨x1, x2, x3, x4⟩ := x
  obtain ⟨k1, k2, k3, k4⟩ := k
  dsimp only at *
  rw [e, ← b2, ← b3, ← b4, c2, c3, c4]
theorem KA.change (h : KA words oops mark ks H M) {k : Key} (hk : k ∈ ks) {q : Nat} (hq : k.1 = (q : Int) + 1) (hl : q < M.things.length) (t : Th) (mem : List Int) (hm : mem.length = H.mem.length) (ht : t.there = true) (hlen : t.slots.length = k.2.2.2.length) (hfm : (t.fmt : Int) = k.2.2.1)
    (hi : Inv { H with mem := mem } { M with things := M.things.set q t }) : KA words oops mark (ks.map (updK (k.1, t.cls, (t.fmt : Int), t.slots))) { H with mem := mem } { M with things := M.things.set q t } := by
  have hg : ∀ i, (M.things.set q t).getD i noTh = if i = q then t else M.things.getD i noTh := fun i => by
    rw [List.getD_eq_getElem?_getD, List.getElem?_set]
    by_cases e : q = i
    · rw [if_pos e, if_pos hl, if_pos e.symm]; rfl
    · rw [if_neg e, if_neg (fun e2 => e e2.symm), List.getD_eq_getElem?_getD]
  have hfst : ∀ x ∈ ks, (updK (k.1, t.cls, (t.fmt : Int), t.slots) x).1 = x.1 := fun x hx => by
    unfold updK
    by_cases e : x.1 = k.1
    · rw [if_pos e, e]
    · rw [if_neg e]
  refine ⟨hi, h.words, h.oops, h.mark, ?_, ?_, fun x hx => ?_, fun i hi2 => ?_⟩
  · show H.order = _
    rw [h.order, List.map_map]
    refine List.map_congr_left fun x hx => ?_
    show x.1.toNat = (updK _ x).1.toNat
    rw [hfst x hx]
  · show (mem.length : Int) = _
    rw [hm, h.mem]
    symm
    refine endK_upd _ ks fun x hx e => ?_
    have := h.uniq hk hx e
    subst this
    show lenOf (t.slots.length : Int) (t.fmt : Int) = _
    rw [hlen, hfm]
  · obtain ⟨x0, hx0, rfl⟩ := List.mem_map.1 hx
    obtain ⟨b0, b1, b2, b3, b4⟩ := h.at_ x0 hx0
    rw [hfst x0 hx0]
    show 1 ≤ x0.1 ∧ ((M.things.set q t).getD (x0.1.toNat - 1) noTh).there = true ∧ ((M.things.set q t).getD (x0.1.toNat - 1) noTh).cls = _ ∧ (((M.things.set q t).getD (x0.1.toNat - 1) noTh).fmt : Int) = _ ∧ ((M.things.set q t).getD (x0.1.toNat - 1) noTh).slots = _
    rw [hg]
    unfold updK
    by_cases e : x0.1 = k.1
    · rw [if_pos (by omega), if_pos e]
      exact ⟨b0, ht, rfl, rfl, rfl⟩
    · rw [if_neg (by omega), if_neg e]
      exact ⟨b0, b1, b2, b3, b4⟩
  · have hi3 : ((M.things.set q t).getD i noTh).there = true := hi2
    rw [hg] at hi3
    by_cases e : i = q
    · exact ⟨_, List.mem_map_of_mem hk, by rw [hfst k hk, hq, e]⟩
    · rw [if_neg e] at hi3
      obtain ⟨x, x1, x2⟩ := h.only i hi3
      exact ⟨_, List.mem_map_of_mem x1, by rw [hfst x x1]; exact x2⟩
theorem setClass_at (hR : Rep w a l H) (h : KA words oops mark ks H M) {k : Key} (hk : k ∈ ks) (v : Int) (hv : isW v = true) (hT : Tab w) :
    Calls Tryd.prog 58 #[.pointer (some ⟨a, 0, none⟩), .int .i64 k.1, .int .i64 v] w fun e w' => e = .returned (.int .i64 0) ∧ ∃ H' M', Rep w' a l H' ∧ KA words oops mark (ks.map (updK (k.1, v, k.2.2.1, k.2.2.2))) H' M' ∧ H'.age = H.age ∧ Nx a l l w w' := by
  obtain ⟨q, hq, hl, hb, hI, h1, h2, h3⟩ := h.th hk
  have hr := hI.room
  have h22 := lenN_two (M.things.getD q noTh).slots.length (M.things.getD q noTh).fmt
  have := SetClass_ok (q + 1) v a l H w hR hI.has hv hT (by omega) h.memLe
  rw [show ((q + 1 : Nat) : Int) = (q : Int) + 1 from by omega, ← hq] at this
  refine this.mono ?_
  rintro e w' ⟨rfl, hr', hn⟩
  have hc := h.change hk hq hl (withCls (M.things.getD q noTh) v) (H.mem.set (H.seats.getD (q + 1) (0, 0, 0)).1 v) (by simp) hb (by show (M.things.getD q noTh).slots.length = _; rw [h3]) h2 (h.inv.setCls q hl hb v)
  have e1 : (k.1, (withCls (M.things.getD q noTh) v).cls, ((withCls (M.things.getD q noTh) v).fmt : Int), (withCls (M.things.getD q noTh) v).slots) = (k.1, v, k.2.2.1, k.2.2.2) := by
    show (k.1, v, ((M.things.getD q noTh).fmt : Int), (M.things.getD q noTh).slots) = _
    rw [h2, h3]
  rw [e1] at hc
  exact ⟨rfl, _, _, hr', hc, rfl, hn⟩
theorem put_w (hR : Rep w a l H) (h : KA words oops mark ks H M) {k : Key} (hk : k ∈ ks) (hf : k.2.2.1 = 0) (i : Nat) (hi : i < k.2.2.2.length) (v : Int) (hv : mayB v 0 = true) (hT : Tab w) :
    Calls Tryd.prog 51 #[.pointer (some ⟨a, 0, none⟩), .int .i64 k.1, .int .i64 (i : Int), .int .i64 v] w fun e w' => e = .returned (.int .i64 0) ∧ ∃ H' M', Rep w' a l H' ∧ KA words oops mark (ks.map (updK (k.1, k.2.1, k.2.2.1, k.2.2.2.set i v))) H' M' ∧ H'.age = H.age ∧ Nx a l l w w' := by
  obtain ⟨q, hq, hl, hb, hI, h1, h2, h3⟩ := h.th hk
  have hf0 : (M.things.getD q noTh).fmt = 0 := by omega
  have hr := hI.room
  have hlen := hI.len
  rw [← h3] at hi
  have hw := lenN_word _ i _ hf0 hi
  have h22 := lenN_two (M.things.getD q noTh).slots.length (M.things.getD q noTh).fmt
  obtain ⟨y1, y2, y3⟩ := has_yes hI.has
  have := Put_ok (q + 1) i _ _ v a l H { H with mem := H.mem.set ((H.seats.getD (q + 1) (0, 0, 0)).1 + 2 + i) v } w hR h.memLe y1 y2 y3 (by omega) hI.shape (by omega) (by omega) (by omega) (by rw [hf0]; exact hv) hT (fun W hW => by
    rw [hf0]
    exact setSlot_w (H.seats.getD (q + 1) (0, 0, 0)) i v a l H W hW (by omega) h.memLe)
  rw [show ((q + 1 : Nat) : Int) = (q : Int) + 1 from by omega, ← hq] at this
  refine this.mono ?_
  rintro e w' ⟨rfl, hr', hn⟩
  have hc := h.change hk hq hl (withSlot (M.things.getD q noTh) i v) (H.mem.set ((H.seats.getD (q + 1) (0, 0, 0)).1 + 2 + i) v) (by simp) hb (by show ((M.things.getD q noTh).slots.set i v).length = _; rw [List.length_set, h3]) h2 (h.inv.putW q hl hb i v hi hf0)
  have e1 : (k.1, (withSlot (M.things.getD q noTh) i v).cls, ((withSlot (M.things.getD q noTh) i v).fmt : Int), (withSlot (M.things.getD q noTh) i v).slots) = (k.1, k.2.1, k.2.2.1, k.2.2.2.set i v) := by
    show (k.1, (M.things.getD q noTh).cls, ((M.things.getD q noTh).fmt : Int), (M.things.getD q noTh).slots.set i v) = _
    rw [h1, h2, h3]
  rw [e1] at hc
  exact ⟨rfl, _, _, hr', hc, rfl, hn⟩
theorem exchange_at (hR : Rep w a l H) (h : KA words oops mark ks H M) {x y : Int} (hx : has H x = true) (hy : has H y = true) (hne : x ≠ y) (hage : H.age ≤ 1000000) :
    Calls Tryd.prog 52 #[.pointer (some ⟨a, 0, none⟩), .int .i64 x, .int .i64 y] w fun e w' => e = .returned (.int .i64 0) ∧ ∃ H' M', Rep w' a l H' ∧ KA words oops mark (ks.map (swk x y)) H' M' ∧ H'.age = H.age + 1 ∧ Nx a l l w w' := by
  have mx : mhas M x = true := by rw [← h.inv.hasM]; exact hx
  have my : mhas M y = true := by rw [← h.inv.hasM]; exact hy
  obtain ⟨p, p1, p2, p3⟩ := mhas_yes mx
  obtain ⟨q, q1, q2, q3⟩ := mhas_yes my
  have hpl := there_lt p3
  have hql := there_lt q3
  have hIp := h.inv.is p hpl p3
  have hIq := h.inv.is q hql q3
  obtain ⟨a1, a2, a3⟩ := has_yes hIp.has
  obtain ⟨b1, b2, b3⟩ := has_yes hIq.has
  obtain ⟨t1, t2⟩ := h.inv.turn p hpl p3
  obtain ⟨u1, u2⟩ := h.inv.turn q hql q3
  have hpq : p ≠ q := fun e => hne (by rw [p1, q1, e])
  have hse := h.inv.told.seats
  have hsh := h.inv.short
  have hmm := h.memLe
  have := Exchange_ok (p + 1) (q + 1) a l H w hR a1 a2 a3 b1 b2 b3 (by omega) t1 u1 (fun e => hpq (by rw [e, u2] at t2; omega)) (by omega) (by omega) (by omega)
  rw [show ((p + 1 : Nat) : Int) = x from by omega, show ((q + 1 : Nat) : Int) = y from by omega] at this
  refine this.mono ?_
  rintro e w' ⟨rfl, hr', hn⟩
  have hc := h.exch p q p3 q3
  rw [show (p : Int) + 1 = x from by omega, show (q : Int) + 1 = y from by omega] at hc
  exact ⟨rfl, _, _, hr', hc, rfl, hn⟩
end
end Go.Proofs.YtdkbnnhcjaibdaaDoor
namespace Go.Proofs.YtdkbnnhcjaibdaaDoor
open Go.RowKit Go.Maps
set_option linter.unusedVariables false
attribute [local go_sem ↓] Go.wp_at_zero Go.wp_at_succ
theorem mlaw : Keyed Tryd.prog 3 := int_keyed Tryd.underlying3
theorem mzero (w : World) : (zeroValue 3).run Tryd.prog w = .ok (.int .i64 0) w := by kernel_rfl
/-- what a list of pairs has at a number -/
def look (f : List (Int × Int)) (q : Int) : Int := ((f.find? fun p => decide (p.1 = q)).map (·.2)).getD 0
def inK (f : List (Int × Int)) (q : Int) : Bool := f.any fun p => decide (p.1 = q)
/-- a map of numbers that has just these pairs -/
structure MapIs (w : World) (b : Nat) (f : List (Int × Int)) : Prop where
  at_ : ∃ (n : Nat) (D : DataW Unit), w.ownsMap Tryd.prog 3 (plainElem Tryd.prog 3) b n D ∧ n ≤ f.length ∧ (∀ q, Maps.has D (.int .i64 q) = inK f q) ∧ (∀ q, D.atKey (.int .i64 q) (.lit (.int .i64 0)) = .lit (.int .i64 (look f q))) ∧ IsMap D
theorem MapIs.congr {w w' : World} {b : Nat} {f : List (Int × Int)} (h : MapIs w b f) (hb : w'.heap[b]? = w.heap[b]?) : MapIs w' b f := by
  obtain ⟨n, D, ⟨es, clock, h1, h2⟩, h3⟩ := h.at_
  exact ⟨n, D, ⟨es, clock, hb.trans h1, h2⟩, h3⟩
theorem MapIs.lt {w : World} {b : Nat} {f : List (Int × Int)} (h : MapIs w b f) : b < w.heap.size := by
  obtain ⟨n, D, ⟨es, clock, h1, h2⟩, h3⟩ := h.at_
  exact (Array.getElem?_eq_some_iff.1 h1).1
theorem MapIs.idle {w w' : World} {b : Nat} {f : List (Int × Int)} {S : List Nat} (h : MapIs w b f) (hf : Fr S w w') (hb : b ∉ S) : MapIs w' b f := h.congr (hf.block b h.lt hb)
theorem wf_small {q : Int} (h1 : -1000000000 ≤ q) (h2 : q ≤ 1000000000) : (Lit.int .i64 q).wf = true := WalkArith.wf_i64 (by omega)
theorem isKey_int (q : Int) : WideAt.IsKeyLit (.int .i64 q) := trivial
theorem look_put_same {D : DataW Unit} (hD : IsMap D) (q v : Int) (z : DataW Unit) : (D.put (.int .i64 q) (.lit (.int .i64 v))).atKey (.int .i64 q) z = .lit (.int .i64 v) := atKey_put_same hD (isKey_int q) _ _
theorem inK_append (f : List (Int × Int)) (p : Int × Int) (q : Int) : inK (f ++ [p]) q = (inK f q || decide (p.1 = q)) := by unfold inK; rw [List.any_append]; simp
theorem look_append (f : List (Int × Int)) (p : Int × Int) (q : Int) : look (f ++ [p]) q = if inK f q then look f q else if p.1 = q then p.2 else 0 := by
  unfold look inK
  rw [List.find?_append]
  by_cases h : (f.any fun p => decide (p.1 = q)) = true
  · rw [if_pos h]
    cases hf : f.find? (fun p => decide (p.1 = q)) with
    | none =>
      obtain ⟨x, x1, x2⟩ := List.any_eq_true.1 h
      exact absurd x2 (by simpa using List.find?_eq_none.1 hf x x1)
    | some x => rfl
  · rw [if_neg h]
    have hn : f.find? (fun p => decide (p.1 = q)) = none := by
      rw [List.find?_eq_none]
      intro x hx hc
      exact h (List.any_eq_true.2 ⟨x, hx, hc⟩)
    rw [hn]
    by_cases hp : p.1 = q
    · simp [hp]
    · simp [hp]
theorem look_no (f : List (Int × Int)) (q : Int) (h : inK f q = false) : look f q = 0 := by
  unfold look
  have hn : f.find? (fun p => decide (p.1 = q)) = none := by
    rw [List.find?_eq_none]
    intro x hx hc
    have : inK f q = true := List.any_eq_true.2 ⟨x, hx, hc⟩
    rw [h] at this
    cases this
  rw [hn]
  rfl
theorem mapIs_made (w w' : World) (b : Nat) (h : w'.ownsMap Tryd.prog 3 (plainElem (H := Unit) Tryd.prog 3) b 0 (.map [])) : MapIs w' b [] :=
  ⟨0, .map [], h, Nat.le_refl _, fun q => rfl, fun q => rfl, isMap_empty⟩
set_option maxRecDepth 20000 in
set_option maxHeartbeats 1000000 in
theorem add_old (b : Nat) (f : List (Int × Int)) (q v : Int) (w : World) (h : MapIs w b f) (h1 : -1000000000 ≤ q) (h2 : q ≤ 1000000000) (hin : inK f q = true) :
    Calls Tryd.prog 128 #[.map (some b), .int .i64 q, .int .i64 v] w fun e w' => e = .returned (.bool false) ∧ w' = w := by
  obtain ⟨n, D, hown, hn, hh, ha, hm⟩ := h.at_
  have hkey : keyOf Tryd.prog 3 (.int .i64 q) = some (.int .i64 q) := keyOf_int_mk Tryd.underlying3 (wf_small h1 h2)
  have hhq := (hh q).trans hin
  go_enter Tryd.func128, Tryd.ntmps128
  go_wp2_with (at_lookup; refine wpList_lookup_own_ok_int _ rfl _ _ 155 rfl 3 3 .i64 mlaw Tryd.underlying155 Tryd.underlying3 (mzero _) b n _ rfl hown _ _ rfl hkey ?_; intro c hat hwc; rw [hhq])
  go_ret
  exact ⟨rfl, rfl⟩
set_option maxRecDepth 20000 in
set_option maxHeartbeats 1000000 in
theorem add_new (b : Nat) (f : List (Int × Int)) (q v : Int) (w : World) (h : MapIs w b f) (h1 : -1000000000 ≤ q) (h2 : q ≤ 1000000000) (v1 : -1000000000 ≤ v) (v2 : v ≤ 1000000000) (hf : f.length < 100000000000000) (hin : inK f q = false) :
    Calls Tryd.prog 128 #[.map (some b), .int .i64 q, .int .i64 v] w fun e w' => e = .returned (.bool true) ∧ MapIs w' b (f ++ [(q, v)]) ∧ Fr [b] w w' := by
  obtain ⟨n, D, hown, hn, hh, ha, hm⟩ := h.at_
  have hkey : keyOf Tryd.prog 3 (.int .i64 q) = some (.int .i64 q) := keyOf_int_mk Tryd.underlying3 (wf_small h1 h2)
  have hhq := (hh q).trans hin
  have HH := mkHid hh
  have HA := mkHid ha
  have HM := mkHid hm
  have HI := mkHid hin
  clear h hh ha hm hin
  go_enter Tryd.func128, Tryd.ntmps128
  go_wp2_with (first
    | (at_lookup; refine wpList_lookup_own_ok_int _ rfl _ _ 155 rfl 3 3 .i64 mlaw Tryd.underlying155 Tryd.underlying3 (mzero _) b n _ rfl hown _ _ rfl hkey ?_; intro c hat hwc; rw [hhq])
    | (at_mapUpdate; refine wpList_mapUpdate_own _ rfl _ _ _ 155 rfl 3 3 mlaw Tryd.underlying155 _ b n _ rfl hown (by unfold maxLen; omega) _ _ _ rfl rfl hkey _ [] (plainElem_int Tryd.underlying3 (wf_small v1 v2)) ?_; intro w1 hown1 hgrow1)
    | go_in)
  go_ret
  refine ⟨rfl, ⟨n + 1, _, hown1, by simp; omega, fun q' => ?_, fun q' => ?_, HM.out.put _ _⟩, Fr.grown hgrow1 (fun k hk => by cases hk; simp)⟩
  · rw [inK_append]
    by_cases e : q = q'
    · subst e
      rw [has_put_same HM.out (isKey_int q)]; simp
    · rw [has_put_other (by intro h; injection h with _ h; exact e h.symm), HH.out]
      simp [e]
  · rw [look_append]
    by_cases e : q = q'
    · subst e
      rw [if_neg (by rw [HI.out]; simp), if_pos rfl]
      exact look_put_same HM.out q v _
    · rw [atKey_put_other (by intro h; injection h with _ h; exact e h.symm), HA.out]
      by_cases c : inK f q' = true
      · rw [if_pos c]
      · rw [if_neg c, if_neg e, look_no f q' (by simpa using c)]
end Go.Proofs.YtdkbnnhcjaibdaaDoor
namespace Go.Proofs.YtdkbnnhcjaibdaaDoor
open Go.RowKit
set_option linter.unusedVariables false
attribute [local go_sem ↓] Go.wp_at_zero Go.wp_at_succ
/-- an object of the document's heap -/
structure RO where
  oop : Nat
  fmt : Nat
  place : Nat
  born : Nat
  cls : Int
  slots : List Int
  v : Value
def noRO : RO := ⟨0, 0, 0, 0, 0, [], .slice none 0 0⟩
def ro6 (o : RO) : List Value := [I o.oop, I o.fmt, I o.place, I o.born, .int .i64 o.cls, o.v]
def roCells (l : List RO) : List Value := l.flatMap ro6
def roKey (o : RO) : Key := ((o.oop : Int), o.cls, (o.fmt : Int), o.slots)
/-- the document's heap -/
structure RS where
  words : Nat
  oops : Nat
  mark : Nat
  born : Nat
  turn : Nat
  objs : List RO
  ov : Value
def rcells (R : RS) : Array Value := #[I R.words, I R.oops, I R.mark, I R.born, I R.turn, R.ov]
/-- where it lies: in block r, its lists behind B -/
structure RRep (w : World) (B r : Nat) (R : RS) : Prop where
  lo : B ≤ r
  top : w.heap[r]? = some (.cells (rcells R) 137 (0, 0))
  row : w.ownsRow B 153 6 R.ov R.objs.length (roCells R.objs)
  slots : ∀ o ∈ R.objs, w.ownsRow B 35 1 o.v o.slots.length (o.slots.map (Value.int .i64))
theorem RRep.keep {w w' : World} {B r : Nat} {R : RS} {S : List Nat} (h : RRep w B r R) (hf : Fr S w w') (hd : ∀ g ∈ S, g < B ∨ w.heap.size ≤ g) : RRep w' B r R := by
  have hk : ∀ g, B ≤ g → g < w.heap.size → w'.heap[g]? = w.heap[g]? := fun g h1 h2 => hf.block g h2 (fun hm => by have := hd g hm; omega)
  exact ⟨h.lo, (hk r h.lo (lt_of_heap h.top)).trans h.top, own_congr h.row fun g hg => hk g (h.row.lt g hg).1 (h.row.lt g hg).2, fun o ho => own_congr (h.slots o ho) fun g hg => hk g ((h.slots o ho).lt g hg).1 ((h.slots o ho).lt g hg).2⟩
theorem RRep.idle {w w' : World} {B r : Nat} {R : RS} (h : RRep w B r R) (hf : Fr [] w w') : RRep w' B r R := h.keep hf (by simp)
theorem RRep.c (i : Nat) {w : World} {B r : Nat} {R : RS} (h : RRep w B r R) : w.cell? ⟨r, i, none⟩ = (rcells R)[i]? := cell_in h.top i
theorem roCells_append (l : List RO) (o : RO) : roCells (l ++ [o]) = roCells l ++ ro6 o := by simp [roCells]
theorem roCells_at (l : List RO) : ∀ k, k < l.length → (roCells l)[k * 6]? = some (I (l.getD k noRO).oop) ∧ (roCells l)[k * 6 + 1]? = some (I (l.getD k noRO).fmt) ∧ (roCells l)[k * 6 + 2]? = some (I (l.getD k noRO).place) ∧ (roCells l)[k * 6 + 3]? = some (I (l.getD k noRO).born) ∧ (roCells l)[k * 6 + 4]? = some (.int .i64 (l.getD k noRO).cls) ∧ (roCells l)[k * 6 + 5]? = some (l.getD k noRO).v := by
  induction l with
  | nil => intro k hk; simp at hk
  | cons o l ih =>
    intro k hk
    have e : roCells (o :: l) = ro6 o ++ roCells l := by simp [roCells]
    rw [e]
    cases k with
    | zero => exact ⟨rfl, rfl, rfl, rfl, rfl, rfl⟩
    | succ k =>
      have := ih k (by simpa using hk)
      have e2 : ∀ j, (ro6 o ++ roCells l)[(k + 1) * 6 + j]? = (roCells l)[k * 6 + j]? := fun j => by
        rw [List.getElem?_append_right (by simp [ro6]; omega), show (k + 1) * 6 + j - (ro6 o).length = k * 6 + j from by simp [ro6]; omega]
      have e3 : (o :: l).getD (k + 1) noRO = l.getD k noRO := by simp
      rw [e3, e2, e2, e2, e2, e2]
      have := e2 0
      rw [Nat.add_zero, Nat.add_zero] at this
      rw [this]
      exact ih k (by simpa using hk)
theorem RRep.at_ {w : World} {B r : Nat} {R : RS} (h : RRep w B r R) (hp : 0 < R.objs.length) : ∃ g c, R.ov = .slice (some ⟨g, 0, none⟩) R.objs.length c ∧ (∀ k, k < R.objs.length → w.cell? ⟨g, k * 6, none⟩ = some (I (R.objs.getD k noRO).oop) ∧ w.cell? ⟨g, k * 6 + 1, none⟩ = some (I (R.objs.getD k noRO).fmt) ∧ w.cell? ⟨g, k * 6 + 2, none⟩ = some (I (R.objs.getD k noRO).place) ∧ w.cell? ⟨g, k * 6 + 3, none⟩ = some (I (R.objs.getD k noRO).born) ∧ w.cell? ⟨g, k * 6 + 4, none⟩ = some (.int .i64 (R.objs.getD k noRO).cls) ∧ w.cell? ⟨g, k * 6 + 5, none⟩ = some (R.objs.getD k noRO).v) := by
  have hs := h.row
  obtain ⟨g, c, hv, _, hgl⟩ := hs.form hp
  refine ⟨g, c, hv, fun k hk => ?_⟩
  rw [hv] at hs
  have := roCells_at R.objs k hk
  exact ⟨(hs.cellAt _ (by omega)).trans this.1, (hs.cellAt _ (by omega)).trans this.2.1, (hs.cellAt _ (by omega)).trans this.2.2.1, (hs.cellAt _ (by omega)).trans this.2.2.2.1, (hs.cellAt _ (by omega)).trans this.2.2.2.2.1, (hs.cellAt _ (by omega)).trans this.2.2.2.2.2⟩
theorem RRep.ovIs {w : World} {B r : Nat} {R : RS} (h : RRep w B r R) : ∃ p c, R.ov = .slice p R.objs.length c := by
  rcases h.row.2 with ⟨h2, h3⟩ | ⟨g, cap, cur, h2, h3⟩
  · exact ⟨none, 0, by rw [h2, h3]⟩
  · exact ⟨some ⟨g, 0, none⟩, cap, h2⟩
/-- where an oop stands -/
def FoundAt (l : List RO) (oop z : Int) : Prop := (∃ k : Nat, k < l.length ∧ z = k ∧ ((l.getD k noRO).oop : Int) = oop ∧ ∀ j, j < k → ((l.getD j noRO).oop : Int) ≠ oop) ∨ (z = -1 ∧ ∀ j, j < l.length → ((l.getD j noRO).oop : Int) ≠ oop)
set_option maxRecDepth 20000 in
set_option maxHeartbeats 1000000 in
theorem find_any (oop : Int) (B r : Nat) (R : RS) (w : World) (h : RRep w B r R) (hl : R.objs.length ≤ 1048576) :
    Calls Tryd.prog 121 #[.pointer (some ⟨r, 0, none⟩), .int .i64 oop] w fun e w' => ∃ z, e = .returned (.int .i64 z) ∧ FoundAt R.objs oop z ∧ w' = w := by
  obtain ⟨p, c, hov⟩ := h.ovIs
  have c5 : w.cell? ⟨r, 5, none⟩ = some (.slice p R.objs.length c) := by rw [h.c, ← hov]; rfl
  have HR := mkHid h
  clear h
  go_enter Tryd.func121, Tryd.ntmps121
  go_wp2_with fail
  go_loopw [5] (fun q wr => ∃ k : Nat, k ≤ R.objs.length ∧ q = .int .i64 k ∧ wr = w ∧ Hid (∀ j, j < k → ((R.objs.getD j noRO).oop : Int) ≠ oop)) (fun q _ => R.objs.length - (intOf q).toNat)
  case atStart => exact ⟨0, Nat.zero_le _, rfl, rfl, fun j hj => by omega⟩
  case round =>
    obtain ⟨k, hkn, rfl, rfl, hq⟩ := hrel
    by_cases hlt : k < R.objs.length
    · obtain ⟨g, c', hv, hc⟩ := HR.out.at_ (by omega)
      obtain ⟨q0, -, -, -, -, -⟩ := hc k hlt
      rw [hov] at hv
      injection hv with hv1 hv2 hv3
      subst hv1
      have k1 : (0 : Int) ≤ (k : Int) := by omega
      have k2 : (k : Int) < (R.objs.length : Int) := by omega
      simp only [I] at q0
      by_cases he : ((R.objs.getD k noRO).oop : Int) = oop
      · have HF : Hid (FoundAt R.objs oop k) := .inl ⟨k, hlt, rfl, he, hq.out⟩
        rw [he] at q0
        clear hc hq he hv2 hv3
        go_wp2_with fail
        go_ret
        exact ⟨_, rfl, HF.out, rfl⟩
      · have HQ : Hid (∀ j, j < k + 1 → ((R.objs.getD j noRO).oop : Int) ≠ oop) := fun j hj => by
          by_cases e : j = k
          · rw [e]; exact he
          · exact hq.out j (by omega)
        have he2 : ((((R.objs.getD k noRO).oop : Nat) : Int) == oop) = false := by simpa using he
        generalize (R.objs.getD k noRO).oop = z at *
        clear hc hq hv2 hv3
        go_wp2_with fail
        go_roundw
        case rel => exact ⟨k + 1, by omega, by go_num, trivial, HQ⟩
        case measure => simp [intOf]; omega
    · have hke : k = R.objs.length := by omega
      subst hke
      go_wp2_with fail
      go_ret
      exact ⟨_, rfl, .inr ⟨rfl, hq.out⟩, rfl⟩
theorem find_no (oop : Int) (B r : Nat) (R : RS) (w : World) (h : RRep w B r R) (hl : R.objs.length ≤ 1048576) (hn : (R.objs.map roKey).any (fun x => x.1 == oop) = false) :
    Calls Tryd.prog 121 #[.pointer (some ⟨r, 0, none⟩), .int .i64 oop] w fun e w' => e = .returned (.int .i64 (-1)) ∧ w' = w := by
  refine Calls.mono (find_any oop B r R w h hl) ?_
  rintro e w' ⟨z, rfl, h1, h2⟩
  refine ⟨?_, h2⟩
  rcases h1 with ⟨k, k1, k2, k3, k4⟩ | ⟨k1, k2⟩
  · exfalso
    have hm : R.objs.getD k noRO ∈ R.objs := by rw [List.getD_eq_getElem?_getD, List.getElem?_eq_getElem k1]; exact List.getElem_mem k1
    have : (R.objs.map roKey).any (fun x => x.1 == oop) = true := List.any_eq_true.2 ⟨_, List.mem_map_of_mem hm, by show (((R.objs.getD k noRO).oop : Int) == oop) = true; rw [k3]; simp⟩
    rw [hn] at this
    simp at this
  · rw [k1]
theorem find_yes (oop : Int) (B r : Nat) (R : RS) (w : World) (h : RRep w B r R) (hl : R.objs.length ≤ 1048576) (hn : (R.objs.map roKey).any (fun x => x.1 == oop) = true) :
    Calls Tryd.prog 121 #[.pointer (some ⟨r, 0, none⟩), .int .i64 oop] w fun e w' => ∃ k : Nat, e = .returned (.int .i64 (k : Int)) ∧ w' = w := by
  refine Calls.mono (find_any oop B r R w h hl) ?_
  rintro e w' ⟨z, rfl, h1, h2⟩
  rcases h1 with ⟨k, k1, k2, k3, k4⟩ | ⟨k1, k2⟩
  · exact ⟨k, by rw [k2], h2⟩
  · exfalso
    obtain ⟨x, x1, x2⟩ := List.any_eq_true.1 hn
    obtain ⟨o, o1, rfl⟩ := List.mem_map.1 x1
    obtain ⟨i, i1, i2⟩ := List.getElem_of_mem o1
    refine k2 i i1 ?_
    rw [List.getD_eq_getElem?_getD, List.getElem?_eq_getElem i1]
    show (R.objs[i].oop : Int) = oop
    rw [i2]
    simpa [roKey] using x2
end Go.Proofs.YtdkbnnhcjaibdaaDoor

namespace Go.Proofs.YtdkbnnhcjaibdaaDoor
open Go.RowKit
set_option linter.unusedVariables false
attribute [local go_sem ↓] Go.wp_at_zero Go.wp_at_succ
set_option maxHeartbeats 1000000 in
theorem rmay_any (n f : Int) (w : World) :
    Calls Tryd.prog 123 #[.int .i64 n, .int .i64 f] w fun e w' => e = .returned (.bool (mayB n f)) ∧ w' = w := by
  have hK := rKind_any n w
  by_cases h1 : f = 1
  · subst h1
    have e : Hid (mayB n 1 = decide (0 ≤ n ∧ n ≤ 255)) := by show mayB n 1 = _; unfold mayB; simp
    generalize mayB n 1 = q at *
    clear hK
    by_cases ha : 0 ≤ n
    · go_enter Tryd.func123, Tryd.ntmps123
      go_wp2
      go_ret
      exact ⟨ret_bool (by rw [e.out]; simp [ha]), rfl⟩
    · have ha' : n < 0 := by omega
      go_enter Tryd.func123, Tryd.ntmps123
      go_wp2
      go_ret
      exact ⟨ret_bool (by rw [e.out]; simp; omega), rfl⟩
  · have hb : (f == 1) = false := by simpa using h1
    have e : Hid (mayB n f = (kindOf n != 0)) := by show mayB n f = _; unfold mayB; rw [if_neg h1]; rfl
    generalize mayB n f = q at *
    clear h1
    rcases kind_cases n with h | h | h | h
    all_goals
      rw [h] at hK e
      clear h
      go_enter Tryd.func123, Tryd.ntmps123
      go_wp2_with (go_at_call 59; refine hK.mono ?_; rintro e w' ⟨rfl, rfl⟩)
      go_ret
      exact ⟨ret_bool (by rw [e.out]; rfl), rfl⟩
/-- the place behind the last object -/
def rEnd (l : List RO) : Nat := if l.length = 0 then 0 else (l.getD (l.length - 1) noRO).place + lenN (l.getD (l.length - 1) noRO).slots.length (l.getD (l.length - 1) noRO).fmt
/-- bounds that hold of every heap of the document's -/
structure ROk (R : RS) : Prop where
  len : R.objs.length ≤ 1048576
  place : ∀ o ∈ R.objs, o.place ≤ 1048576 ∧ o.slots.length ≤ 8192
theorem ROk.getD {R : RS} (h : ROk R) (k : Nat) (hk : k < R.objs.length) : (R.objs.getD k noRO).place ≤ 1048576 ∧ (R.objs.getD k noRO).slots.length ≤ 8192 := by
  rw [List.getD_eq_getElem?_getD, List.getElem?_eq_getElem hk]
  exact h.place _ (List.getElem_mem hk)
theorem RRep.vIs {w : World} {B r : Nat} {R : RS} (h : RRep w B r R) (k : Nat) (hk : k < R.objs.length) : ∃ p c, (R.objs.getD k noRO).v = .slice p (R.objs.getD k noRO).slots.length c := by
  have hm : R.objs.getD k noRO ∈ R.objs := by rw [List.getD_eq_getElem?_getD, List.getElem?_eq_getElem hk]; exact List.getElem_mem hk
  rcases (h.slots _ hm).2 with ⟨h2, h3⟩ | ⟨g, cap, cur, h2, h3⟩
  · exact ⟨none, 0, by rw [h2, h3]⟩
  · exact ⟨some ⟨g, 0, none⟩, cap, h2⟩
set_option maxRecDepth 20000 in
set_option maxHeartbeats 1000000 in
theorem rend_any (B r : Nat) (R : RS) (w : World) (h : RRep w B r R) (ho : ROk R) :
    Calls Tryd.prog 119 #[.pointer (some ⟨r, 0, none⟩)] w fun e w' => e = .returned (.int .i64 (rEnd R.objs : Nat)) ∧ Fr [] w w' := by
  obtain ⟨p, c, hov⟩ := h.ovIs
  have c5 : w.cell? ⟨r, 5, none⟩ = some (.slice p R.objs.length c) := by rw [h.c, ← hov]; rfl
  have hl := ho.len
  by_cases h0 : R.objs.length = 0
  · have e : rEnd R.objs = 0 := by unfold rEnd; rw [if_pos h0]
    rw [e]
    rw [h0] at c5
    clear h hov
    go_enter Tryd.func119, Tryd.ntmps119
    go_wp2_with fail
    go_ret
    exact ⟨rfl, Fr.refl _ _⟩
  · obtain ⟨g, c', hv, hc⟩ := h.at_ (by omega)
    rw [hov] at hv
    injection hv with hv1 hv2 hv3
    subst hv1
    obtain ⟨q0, q1, q2, q3, q4, q5⟩ := hc (R.objs.length - 1) (by omega)
    obtain ⟨p5, c5', hv5⟩ := h.vIs (R.objs.length - 1) (by omega)
    rw [hv5] at q5
    obtain ⟨o1, o2⟩ := ho.getD (R.objs.length - 1) (by omega)
    have e : Hid (rEnd R.objs = (R.objs.getD (R.objs.length - 1) noRO).place + lenN (R.objs.getD (R.objs.length - 1) noRO).slots.length (R.objs.getD (R.objs.length - 1) noRO).fmt) := by show rEnd R.objs = _; unfold rEnd; rw [if_neg h0]
    have k0 : ((R.objs.length : Int) == 0) = false := by simpa using (by omega : ¬ (R.objs.length : Int) = 0)
    have k1 : (0 : Int) ≤ (R.objs.length : Int) - 1 := by omega
    have k2 : (R.objs.length : Int) - 1 < (R.objs.length : Int) := by omega
    have k3 : ((R.objs.length : Int) - 1).toNat = R.objs.length - 1 := by omega
    have hll := lenN_le (R.objs.getD (R.objs.length - 1) noRO).slots.length (R.objs.getD (R.objs.length - 1) noRO).fmt
    have hgl : g < w.heap.size := World.block_lt_of_cell? w _ q0
    have hrl : r < w.heap.size := lt_of_heap h.top
    simp only [I] at q0 q1 q2 q3
    generalize rEnd R.objs = E at *
    generalize (R.objs.getD (R.objs.length - 1) noRO).oop = y0 at *
    generalize (R.objs.getD (R.objs.length - 1) noRO).fmt = y1 at *
    generalize (R.objs.getD (R.objs.length - 1) noRO).place = y2 at *
    generalize (R.objs.getD (R.objs.length - 1) noRO).born = y3 at *
    generalize (R.objs.getD (R.objs.length - 1) noRO).cls = y4 at *
    generalize (R.objs.getD (R.objs.length - 1) noRO).slots.length = y5 at *
    have HL := mkHid fun V => refLen_any y5 y1 V (by omega)
    clear h hc hov hv2 hv3 ho hv5
    go_enter Tryd.func119, Tryd.ntmps119
    go_wp2_with fail
    go_region
    all_goals go_wp2_with fail
    have F5 : Hid (Fr [] w ((w.alloc (.cells #[.int .i64 (y0 : Int), .int .i64 (y1 : Int), .int .i64 (y2 : Int), .int .i64 (y3 : Int), .int .i64 y4, .slice p5 y5 c5'] 153)).drew)) := (Fr.alloc [] w _).trans (Fr.drew [] _) (by simp)
    have hb5 : ((w.alloc (.cells #[.int .i64 (y0 : Int), .int .i64 (y1 : Int), .int .i64 (y2 : Int), .int .i64 (y3 : Int), .int .i64 y4, .slice p5 y5 c5'] 153)).drew).heap[w.heap.size]? = some (.cells #[.int .i64 (y0 : Int), .int .i64 (y1 : Int), .int .i64 (y2 : Int), .int .i64 (y3 : Int), .int .i64 y4, .slice p5 y5 c5'] 153 (0, 0)) := heap_alloc_new _ _
    generalize (w.alloc (.cells #[.int .i64 (y0 : Int), .int .i64 (y1 : Int), .int .i64 (y2 : Int), .int .i64 (y3 : Int), .int .i64 y4, .slice p5 y5 c5'] 153)).drew = W5 at *
    have x1 : W5.cell? ⟨w.heap.size, 1, none⟩ = some (.int .i64 (y1 : Int)) := by rw [cell_in hb5]; rfl
    have x2 : W5.cell? ⟨w.heap.size, 2, none⟩ = some (.int .i64 (y2 : Int)) := by rw [cell_in hb5]; rfl
    have x5 : W5.cell? ⟨w.heap.size, 5, none⟩ = some (.slice p5 y5 c5') := by rw [cell_in hb5]; rfl
    clear q0 q1 q2 q3 q4 q5 c5 hb5
    go_quiet ((go_at_call 67; exact Calls.quiet_of_same (HL.out _)))
    go_wp2_with fail
    go_ret
    refine ⟨ret_int ?_, ?_⟩
    · rw [e.out]; push_cast; first | rfl | omega
    · exact F5.out.trans (Fr.drewN [] _ _) (by simp)
end Go.Proofs.YtdkbnnhcjaibdaaDoor

namespace Go.Proofs.YtdkbnnhcjaibdaaDoor
open Go.RowKit
set_option linter.unusedVariables false
/-- each of a list is taken beside those ahead of it -/
def allK (words oops : Nat) (ks : List Key) : Prop := ∀ (i : Nat) (o : Key), ks[i]? = some o → takesK words oops (ks.take i) o = true
theorem allK_snoc {words oops : Nat} {ks : List Key} {k : Key} (h : allK words oops ks) (hk : takesK words oops ks k = true) : allK words oops (ks ++ [k]) := by
  intro i o ho
  have hi := (List.getElem?_eq_some_iff.1 ho).1
  rw [List.length_append, List.length_singleton] at hi
  by_cases e : i < ks.length
  · rw [List.getElem?_append_left e] at ho
    rw [List.take_append_of_le_length (by omega)]
    exact h i o ho
  · have e2 : i = ks.length := by omega
    subst e2
    rw [List.getElem?_append_right (Nat.le_refl _), Nat.sub_self] at ho
    have : k = o := by simpa using ho
    subst this
    rw [List.take_append_of_le_length (Nat.le_refl _), List.take_length]
    exact hk
/-- the document's heap holds just these objects, one behind the other -/
structure ROf (words oops mark : Nat) (ks : List Key) (R : RS) : Prop where
  eWords : R.words = words
  eOops : R.oops = oops
  eMark : R.mark = mark
  born : R.born = ks.length
  turn : R.turn = 0
  keys : R.objs.map roKey = ks
  fin : (rEnd R.objs : Int) = endK ks
  fits : endK ks ≤ (words : Int)
  twice : 2 * (ks.length : Int) ≤ endK ks
  slots : ∀ o ∈ R.objs, o.place ≤ words ∧ o.slots.length ≤ 8192
  good : allK words oops ks
theorem ROf.len {words oops mark : Nat} {ks : List Key} {R : RS} (h : ROf words oops mark ks R) : R.objs.length = ks.length := by rw [← h.keys, List.length_map]
theorem ROf.ok {words oops mark : Nat} {ks : List Key} {R : RS} (h : ROf words oops mark ks R) (hw : words ≤ 1048576) : ROk R :=
  ⟨by have := h.len; have := h.fits; have := h.twice; omega, fun o ho => ⟨by have := (h.slots o ho).1; omega, (h.slots o ho).2⟩⟩
theorem rEnd_snoc (l : List RO) (o : RO) : rEnd (l ++ [o]) = o.place + lenN o.slots.length o.fmt := by
  unfold rEnd
  rw [List.length_append, List.length_singleton, if_neg (by omega), Nat.add_sub_cancel]
  have : (l ++ [o]).getD l.length noRO = o := by rw [List.getD_eq_getElem?_getD, List.getElem?_append_right (Nat.le_refl _)]; simp
  rw [this]
theorem takesK_yes {words oops : Nat} {ks : List Key} {k : Key} (h : takesK words oops ks k = true) : 1 ≤ k.1 ∧ k.1 ≤ (oops : Int) ∧ (ks.any fun x => x.1 == k.1) = false ∧ isW k.2.1 = true ∧ isF k.2.2.1 = true ∧ (k.2.2.2.length : Int) ≤ 8192 ∧ (∀ j, j < k.2.2.2.length → mayB (k.2.2.2.getD j 0) k.2.2.1 = true) ∧ endK ks + lenOf (k.2.2.2.length : Int) k.2.2.1 ≤ (words : Int) := by
  unfold takesK at h
  simp only [Bool.and_eq_true, Bool.not_eq_true', decide_eq_true_eq] at h
  obtain ⟨⟨⟨⟨⟨⟨⟨h1, h2⟩, h3⟩, h4⟩, h5⟩, h6⟩, h7⟩, h8⟩ := h
  refine ⟨h1, h2, h3, h4, h5, h6, fun j hj => ?_, h8⟩
  rw [List.all_eq_true] at h7
  have e : k.2.2.2.getD j 0 = k.2.2.2[j] := by rw [List.getD_eq_getElem?_getD, List.getElem?_eq_getElem hj]; rfl
  rw [e]
  exact h7 _ (List.getElem_mem hj)
theorem ROf.nil (words oops mark : Nat) (ov : Value) : ROf words oops mark [] ⟨words, oops, mark, 0, 0, [], ov⟩ :=
  ⟨rfl, rfl, rfl, rfl, rfl, rfl, rfl, by simp [endK], by simp [endK], by simp, fun i o ho => by simp at ho⟩
theorem ROf.snoc {words oops mark : Nat} {ks : List Key} {R : RS} (h : ROf words oops mark ks R) (o : RO) (ov : Value) (ht : takesK words oops ks (roKey o) = true) (hp : o.place = rEnd R.objs) : ROf words oops mark (ks ++ [roKey o]) { R with objs := R.objs ++ [o], born := R.born + 1, ov := ov } := by
  obtain ⟨t1, t2, t3, t4, t5, t6, t7, t8⟩ := takesK_yes ht
  have hl : lenOf (o.slots.length : Int) (o.fmt : Int) = (lenN o.slots.length o.fmt : Nat) := lenOf_nat _ _
  have h2 := lenN_two o.slots.length o.fmt
  have e : endK (ks ++ [roKey o]) = endK ks + (lenN o.slots.length o.fmt : Nat) := by rw [endK_append]; simp only [endK, roKey]; omega
  have hf := h.fin
  simp only [roKey] at t8 t6
  refine ⟨h.eWords, h.eOops, h.eMark, by show R.born + 1 = _; rw [h.born, List.length_append]; rfl, h.turn, by show (R.objs ++ [o]).map roKey = _; rw [List.map_append, h.keys]; rfl, ?_, ?_, ?_, fun x hx => ?_, allK_snoc h.good ht⟩
  · show (rEnd (R.objs ++ [o]) : Int) = _
    rw [rEnd_snoc, e, hp]
    omega
  · rw [e]; omega
  · rw [e, List.length_append, List.length_singleton]
    have := h.twice
    omega
  · rcases List.mem_append.1 hx with h1 | h1
    · exact h.slots x h1
    · have : x = o := by simpa using h1
      rw [this]
      exact ⟨by omega, by omega⟩
theorem all_badK (f : Int → Bool) : ∀ ss : List Int, (ss.all f) = false → ∃ j, j < ss.length ∧ (∀ i, i < j → f (ss.getD i 0) = true) ∧ f (ss.getD j 0) = false
  | [], h => by simp at h
  | x :: t, h => by
    by_cases hx : f x = true
    · have ht : t.all f = false := by simpa [hx] using h
      obtain ⟨j, hj, hg, hb⟩ := all_badK f t ht
      refine ⟨j + 1, by simpa using hj, fun i hi => ?_, by simpa using hb⟩
      rcases i with _ | i
      · simpa using hx
      · simpa using hg i (by omega)
    · exact ⟨0, by simp, fun i hi => absurd hi (by omega), by simpa using hx⟩
theorem takesK_no {words oops : Nat} {ks : List Key} {k : Key} (h : takesK words oops ks k = false) :
    k.1 < 1 ∨ (1 ≤ k.1 ∧ (oops : Int) < k.1) ∨ (1 ≤ k.1 ∧ k.1 ≤ (oops : Int) ∧ (ks.any fun x => x.1 == k.1) = true) ∨
    (1 ≤ k.1 ∧ k.1 ≤ (oops : Int) ∧ (ks.any fun x => x.1 == k.1) = false ∧ (isW k.2.1 = false ∨ (isW k.2.1 = true ∧ (k.2.2.1 < 0 ∨ (0 ≤ k.2.2.1 ∧ 1 < k.2.2.1) ∨ (0 ≤ k.2.2.1 ∧ k.2.2.1 ≤ 1 ∧ (8192 < (k.2.2.2.length : Int) ∨ ((k.2.2.2.length : Int) ≤ 8192 ∧
      ((∃ j, j < k.2.2.2.length ∧ (∀ i, i < j → mayB (k.2.2.2.getD i 0) k.2.2.1 = true) ∧ mayB (k.2.2.2.getD j 0) k.2.2.1 = false) ∨ ((∀ j, j < k.2.2.2.length → mayB (k.2.2.2.getD j 0) k.2.2.1 = true) ∧ (words : Int) < endK ks + lenOf (k.2.2.2.length : Int) k.2.2.1))))))))) := by
  by_cases h1 : 1 ≤ k.1
  rotate_left
  · left; omega
  right
  by_cases h2 : k.1 ≤ (oops : Int)
  rotate_left
  · left; omega
  right
  by_cases h3 : (ks.any fun x => x.1 == k.1) = true
  · left; exact ⟨h1, h2, h3⟩
  right
  have h3 : (ks.any fun x => x.1 == k.1) = false := Bool.eq_false_iff.2 h3
  refine ⟨h1, h2, h3, ?_⟩
  by_cases h4 : isW k.2.1 = true
  rotate_left
  · left; simpa using h4
  right
  refine ⟨h4, ?_⟩
  by_cases h5 : 0 ≤ k.2.2.1
  rotate_left
  · left; omega
  right
  by_cases h6 : k.2.2.1 ≤ 1
  rotate_left
  · left; omega
  right
  refine ⟨h5, h6, ?_⟩
  by_cases h7 : (k.2.2.2.length : Int) ≤ 8192
  rotate_left
  · left; omega
  right
  refine ⟨h7, ?_⟩
  by_cases h8 : (k.2.2.2.all fun x => mayB x k.2.2.1) = true
  · right
    have hj : ∀ j, j < k.2.2.2.length → mayB (k.2.2.2.getD j 0) k.2.2.1 = true := fun j hj => by
      rw [List.all_eq_true] at h8
      have e : k.2.2.2.getD j 0 = k.2.2.2[j] := by rw [List.getD_eq_getElem?_getD, List.getElem?_eq_getElem hj]; rfl
      rw [e]
      exact h8 _ (List.getElem_mem hj)
    refine ⟨hj, ?_⟩
    by_cases h9 : endK ks + lenOf (k.2.2.2.length : Int) k.2.2.1 ≤ (words : Int)
    · exfalso
      have : takesK words oops ks k = true := by
        unfold takesK
        have h5' : isF k.2.2.1 = true := by unfold isF; simp; omega
        rw [decide_eq_true h1, decide_eq_true h2, h3, h4, h5', decide_eq_true h7, h8, decide_eq_true h9]
        rfl
      rw [h] at this
      simp at this
    · omega
  · left
    have h8 : (k.2.2.2.all fun x => mayB x k.2.2.1) = false := by simpa using h8
    exact all_badK _ _ h8
end Go.Proofs.YtdkbnnhcjaibdaaDoor

namespace Go.Proofs.YtdkbnnhcjaibdaaDoor
open Go.RowKit
set_option linter.unusedVariables false
/-- the objects that stay, slid together, and the place behind them -/
def kst (js : List Nat) (l : List RO) : List RO × Nat := l.foldl (fun s o => if o.oop ∈ js then (s.1 ++ [{ o with place := s.2 }], s.2 + lenN o.slots.length o.fmt) else s) ([], 0)
theorem kst_snoc (js : List Nat) (l : List RO) (o : RO) : kst js (l ++ [o]) = if o.oop ∈ js then ((kst js l).1 ++ [{ o with place := (kst js l).2 }], (kst js l).2 + lenN o.slots.length o.fmt) else kst js l := by
  unfold kst
  rw [List.foldl_append]
  rfl
/-- induction along a list, from its front on -/
theorem snoc_ind {α : Type} {P : List α → Prop} (h0 : P []) (h1 : ∀ l x, P l → P (l ++ [x])) : ∀ l, P l := fun l => by
  have : ∀ n (l : List α), l.length = n → P l := fun n => by
    induction n with
    | zero => intro l hl; rw [List.length_eq_zero_iff.1 hl]; exact h0
    | succ n ih =>
      intro l hl
      have hne : l ≠ [] := fun e => by rw [e] at hl; simp at hl
      rw [← List.dropLast_concat_getLast hne]
      exact h1 _ _ (ih _ (by simp [hl]))
  exact this _ l rfl
theorem kst_keys (js : List Nat) (l : List RO) : (kst js l).1.map roKey = (l.map roKey).filter fun k => decide (k.1.toNat ∈ js) := by
  induction l using snoc_ind with
  | h0 => rfl
  | h1 l o ih =>
    rw [kst_snoc, List.map_append, List.filter_append]
    by_cases h : o.oop ∈ js
    · rw [if_pos h, List.map_append, ih]
      congr 1
      have e : List.filter (fun k : Key => decide (k.1.toNat ∈ js)) [roKey o] = [roKey o] := by
        rw [List.filter_cons, show decide ((roKey o).1.toNat ∈ js) = true from decide_eq_true h]; rfl
      rw [List.map_singleton, List.map_singleton, e]
      rfl
    · rw [if_neg h, ih]
      have e : List.filter (fun k : Key => decide (k.1.toNat ∈ js)) [roKey o] = [] := by
        rw [List.filter_cons, show decide ((roKey o).1.toNat ∈ js) = false from decide_eq_false h]; rfl
      rw [List.map_singleton, e, List.append_nil]
theorem kst_end (js : List Nat) (l : List RO) : rEnd (kst js l).1 = (kst js l).2 := by
  induction l using snoc_ind with
  | h0 => rfl
  | h1 l o ih =>
    rw [kst_snoc]
    by_cases h : o.oop ∈ js
    · rw [if_pos h, rEnd_snoc]
    · rw [if_neg h, ih]
theorem kst_endK (js : List Nat) (l : List RO) : ((kst js l).2 : Int) = endK ((kst js l).1.map roKey) := by
  induction l using snoc_ind with
  | h0 => rfl
  | h1 l o ih =>
    rw [kst_snoc]
    by_cases h : o.oop ∈ js
    · rw [if_pos h, List.map_append, endK_append]
      have := lenOf_nat o.slots.length o.fmt
      simp only [List.map_cons, List.map_nil, endK, roKey] at this ⊢
      omega
    · rw [if_neg h, ih]
/-- each of those that stay is one of those that were there, but for its place -/
theorem kst_from (js : List Nat) (l : List RO) : ∀ o ∈ (kst js l).1, ∃ x ∈ l, o.oop = x.oop ∧ o.fmt = x.fmt ∧ o.cls = x.cls ∧ o.slots = x.slots ∧ o.v = x.v ∧ x.oop ∈ js ∧ o.place ≤ (kst js l).2 := by
  induction l using snoc_ind with
  | h0 => intro o ho; simp [kst] at ho
  | h1 l o ih =>
    rw [kst_snoc]
    by_cases h : o.oop ∈ js
    · rw [if_pos h]
      intro x hx
      rcases List.mem_append.1 hx with h1 | h1
      · obtain ⟨y, y1, y2, y3, y4, y5, y6, y7, y8⟩ := ih x h1
        exact ⟨y, List.mem_append_left _ y1, y2, y3, y4, y5, y6, y7, by show x.place ≤ _ + _; omega⟩
      · have e : x = { o with place := (kst js l).2 } := by simpa using h1
        subst e
        exact ⟨o, by simp, rfl, rfl, rfl, rfl, rfl, h, by show (kst js l).2 ≤ _ + _; omega⟩
    · rw [if_neg h]
      intro x hx
      obtain ⟨y, y1, y2⟩ := ih x hx
      exact ⟨y, List.mem_append_left _ y1, y2⟩
theorem kst_len (js : List Nat) (l : List RO) : (kst js l).1.length ≤ l.length := by
  have := congrArg List.length (kst_keys js l)
  rw [List.length_map] at this
  rw [this]
  refine Nat.le_trans (List.length_filter_le _ _) (by simp)
theorem kst_le (js : List Nat) (l : List RO) : ((kst js l).2 : Int) ≤ endK (l.map roKey) := by
  induction l using snoc_ind with
  | h0 => simp [kst, endK]
  | h1 l o ih =>
    have hl := lenOf_nat o.slots.length o.fmt
    rw [List.map_append, endK_append, kst_snoc]
    by_cases h : o.oop ∈ js
    · rw [if_pos h]
      simp only [List.map_cons, List.map_nil, endK, roKey] at hl ⊢
      omega
    · rw [if_neg h]
      simp only [List.map_cons, List.map_nil, endK, roKey] at hl ⊢
      omega
end Go.Proofs.YtdkbnnhcjaibdaaDoor

namespace Go.Proofs.YtdkbnnhcjaibdaaDoor
open Go.RowKit
set_option linter.unusedVariables false
attribute [local go_sem ↓] Go.wp_at_zero Go.wp_at_succ
set_option maxRecDepth 20000 in
set_option maxHeartbeats 1000000 in
theorem rIn2_ok (ss : List Int) (z : Int) (va : Value) (w : World) (ha : Rd w va ss) :
    Calls Tryd.prog 143 #[va, .int .i64 z] w fun e w' => e = .returned (.bool (decide (z ∈ ss))) ∧ w' = w := by
  obtain ⟨pa, ca, rfl, hpa⟩ := ha.at_
  have hl := ha.short
  clear ha
  have HA := mkHid hpa
  clear hpa
  go_enter Tryd.func143, Tryd.ntmps143
  go_wp2_with fail
  go_loopw [5] (fun q wr => ∃ k : Nat, k ≤ ss.length ∧ q = .int .i64 k ∧ wr = w ∧ Hid (z ∉ ss.take k)) (fun q _ => ss.length - (intOf q).toNat)
  case atStart => exact ⟨0, Nat.zero_le _, rfl, rfl, mkHid (by simp)⟩
  case round =>
    obtain ⟨k, hkn, rfl, rfl, HZ⟩ := hrel
    by_cases hlt : k < ss.length
    · obtain ⟨ga, oa, rfl, -, hca⟩ := HA.out (by omega)
      have x1 := hca k hlt
      have k1 : (0 : Int) ≤ (k : Int) := by omega
      have k2 : (k : Int) < (ss.length : Int) := by omega
      have HT : Hid (ss.take (k + 1) = ss.take k ++ [ss.getD k 0]) := by
        show ss.take (k + 1) = ss.take k ++ [ss.getD k 0]
        rw [List.take_succ_eq_append_getElem hlt, List.getD_eq_getElem?_getD, List.getElem?_eq_getElem hlt]; rfl
      have HM : Hid (ss.getD k 0 ∈ ss) := by
        show ss.getD k 0 ∈ ss
        rw [List.getD_eq_getElem?_getD, List.getElem?_eq_getElem hlt]; exact List.getElem_mem _
      generalize ss.getD k 0 = y at *
      clear hca HA
      by_cases he : y = z
      · subst he
        have HD : Hid (decide (y ∈ ss) = true) := decide_eq_true HM.out
        clear HM HT HZ
        go_wp2_with fail
        go_ret
        exact ⟨by rw [HD.out]; rfl, rfl⟩
      · have hb : (y == z) = false := by simpa using he
        have HN : Hid (z ∉ ss.take (k + 1)) := by
          show z ∉ ss.take (k + 1)
          rw [HT.out, List.mem_append]
          rintro (h1 | h1)
          · exact HZ.out h1
          · simp at h1; exact he h1.symm
        clear HT HM HZ he
        go_wp2_with fail
        go_roundw
        case rel => exact ⟨k + 1, by omega, by go_num, trivial, HN⟩
        case measure => simp [intOf]; omega
    · have hke : k = ss.length := by omega
      subst hke
      have HD : Hid (decide (z ∈ ss) = false) := decide_eq_false (by have := HZ.out; rwa [List.take_length] at this)
      go_wp2_with fail
      go_ret
      exact ⟨by rw [HD.out]; rfl, rfl⟩
end Go.Proofs.YtdkbnnhcjaibdaaDoor

namespace Go.Proofs.YtdkbnnhcjaibdaaDoor
open Go.RowKit
set_option linter.unusedVariables false
attribute [local go_sem ↓] Go.wp_at_zero Go.wp_at_succ
set_option maxHeartbeats 1000000 in
theorem rRoom_nil (w : World) : Calls Tryd.prog 89 #[.pointer none] w fun e w' => e = .returned (.tuple #[.int .i64 0, .int .i64 0]) ∧ w' = w := by
  go_enter Tryd.func89, Tryd.ntmps89
  go_wp2_with fail
  go_ret2
  exact ⟨rfl, rfl⟩
set_option maxHeartbeats 1000000 in
theorem made_nil (w : World) : Calls Tryd.prog 62 #[.pointer none] w fun e w' => e = .returned (.bool false) ∧ w' = w := by
  go_enter Tryd.func62, Tryd.ntmps62
  go_wp2_with fail
  go_ret
  exact ⟨rfl, rfl⟩
set_option maxHeartbeats 1000000 in
theorem Room_nil (w : World) : Calls Tryd.prog 31 #[.pointer none] w fun e w' => e = .returned (.tuple #[.int .i64 0, .int .i64 0]) ∧ w' = w := by
  have HM := mkHid (made_nil w)
  go_enter Tryd.func31, Tryd.ntmps31
  go_wp2_with (go_at_call 62; refine Calls.mono HM.out ?_; rintro e w' ⟨rfl, hw'⟩; rw [hw']; clear hw' w')
  go_ret2
  exact ⟨rfl, rfl⟩
set_option maxHeartbeats 1000000 in
theorem rState_nil (w : World) : Calls Tryd.prog 27 #[.pointer none] w fun e w' => e = .returned (.agg #[.int .i64 0, .int .i64 0, .int .i64 0, .slice none 0 0]) ∧ Fr [] w w' := by
  go_enter Tryd.func27, Tryd.ntmps27
  go_wp2_with fail
  have hB0 : (w.alloc (.cells #[.int .i64 0, .int .i64 0, .int .i64 0, .slice none 0 0] 45)).heap[w.heap.size]? = some (.cells #[.int .i64 0, .int .i64 0, .int .i64 0, .slice none 0 0] 45 (0, 0)) := heap_alloc_new _ _
  have F0 : Fr [] w (w.alloc (.cells #[.int .i64 0, .int .i64 0, .int .i64 0, .slice none 0 0] 45)) := Fr.alloc [] _ _
  generalize w.alloc (.cells #[.int .i64 0, .int .i64 0, .int .i64 0, .slice none 0 0] 45) = V at *
  have x0 : V.cell? ⟨w.heap.size, 0, none⟩ = some (.int .i64 0) := by rw [cell_in hB0]; rfl
  have x1 : V.cell? ⟨w.heap.size, 1, none⟩ = some (.int .i64 0) := by rw [cell_in hB0]; rfl
  have x2 : V.cell? ⟨w.heap.size, 2, none⟩ = some (.int .i64 0) := by rw [cell_in hB0]; rfl
  have x3 : V.cell? ⟨w.heap.size, 3, none⟩ = some (.slice none 0 0) := by rw [cell_in hB0]; rfl
  refine bodyPost_ret (v := .agg #[.int .i64 0, .int .i64 0, .int .i64 0, .slice none 0 0]) (by simp [results, Tryd.results27, go_sem, x0, x1, x2, x3]) rfl ?_
  exact ⟨rfl, F0⟩
set_option maxHeartbeats 1000000 in
theorem State_nil (w : World) : Calls Tryd.prog 18 #[.pointer none] w fun e w' => e = .returned (.agg #[.int .i64 0, .int .i64 0, .int .i64 0, .slice none 0 0]) ∧ Fr [] w w' := by
  have HM := mkHid fun V => made_nil V
  go_enter Tryd.func18, Tryd.ntmps18
  go_wp2_with (go_at_call 62; refine Calls.mono (HM.out _) ?_; rintro e w' ⟨rfl, hw'⟩; rw [hw']; clear hw' w')
  have hB0 : (w.alloc (.cells #[.int .i64 0, .int .i64 0, .int .i64 0, .slice none 0 0] 45)).heap[w.heap.size]? = some (.cells #[.int .i64 0, .int .i64 0, .int .i64 0, .slice none 0 0] 45 (0, 0)) := heap_alloc_new _ _
  have F0 : Fr [] w (w.alloc (.cells #[.int .i64 0, .int .i64 0, .int .i64 0, .slice none 0 0] 45)) := Fr.alloc [] _ _
  generalize w.alloc (.cells #[.int .i64 0, .int .i64 0, .int .i64 0, .slice none 0 0] 45) = V at *
  have x0 : V.cell? ⟨w.heap.size, 0, none⟩ = some (.int .i64 0) := by rw [cell_in hB0]; rfl
  have x1 : V.cell? ⟨w.heap.size, 1, none⟩ = some (.int .i64 0) := by rw [cell_in hB0]; rfl
  have x2 : V.cell? ⟨w.heap.size, 2, none⟩ = some (.int .i64 0) := by rw [cell_in hB0]; rfl
  have x3 : V.cell? ⟨w.heap.size, 3, none⟩ = some (.slice none 0 0) := by rw [cell_in hB0]; rfl
  refine bodyPost_ret (v := .agg #[.int .i64 0, .int .i64 0, .int .i64 0, .slice none 0 0]) (by simp [results, Tryd.results18, go_sem, x0, x1, x2, x3]) rfl ?_
  exact ⟨rfl, F0⟩
/-- numbers that no state has -/
def argBad (x y z : Int) : Prop := x < 0 ∨ 1048576 < x ∨ y < 0 ∨ 65536 < y ∨ z < 0 ∨ 1073741824 < z
set_option maxHeartbeats 2000000 in
theorem rLoad_bad (x y z : Int) (ov : Value) (w : World) (hb : argBad x y z) : Calls Tryd.prog 99 #[.agg #[.int .i64 x, .int .i64 y, .int .i64 z, ov]] w fun e w' => e = .returned (.tuple #[.pointer none, .int .i64 1]) ∧ Fr [] w w' := by
  by_cases a0 : x < 0
  · go_enter Tryd.func99, Tryd.ntmps99
    go_wp2_with fail
    go_ret2
    exact ⟨rfl, Fr.alloc [] _ _⟩
  have a0 : 0 ≤ x := by omega
  by_cases a1 : 1048576 < x
  · go_enter Tryd.func99, Tryd.ntmps99
    go_wp2_with fail
    go_ret2
    exact ⟨rfl, Fr.alloc [] _ _⟩
  have a1 : x ≤ 1048576 := by omega
  by_cases a2 : y < 0
  · go_enter Tryd.func99, Tryd.ntmps99
    go_wp2_with fail
    go_ret2
    exact ⟨rfl, Fr.alloc [] _ _⟩
  have a2 : 0 ≤ y := by omega
  by_cases a3 : 65536 < y
  · go_enter Tryd.func99, Tryd.ntmps99
    go_wp2_with fail
    go_ret2
    exact ⟨rfl, Fr.alloc [] _ _⟩
  have a3 : y ≤ 65536 := by omega
  by_cases a4 : z < 0
  · go_enter Tryd.func99, Tryd.ntmps99
    go_wp2_with fail
    go_ret2
    exact ⟨rfl, Fr.alloc [] _ _⟩
  have a4 : 0 ≤ z := by omega
  have a5 : 1073741824 < z := by unfold argBad at hb; omega
  go_enter Tryd.func99, Tryd.ntmps99
  go_wp2_with fail
  go_ret2
  exact ⟨rfl, Fr.alloc [] _ _⟩
set_option maxHeartbeats 1000000 in
theorem New_bad (x y : Int) (w : World) (hb : x < 0 ∨ 1048576 < x ∨ y < 0 ∨ 65536 < y) : Calls Tryd.prog 10 #[.int .i64 x, .int .i64 y] w fun e w' => e = .returned (.tuple #[.pointer none, .int .i64 1]) ∧ w' = w := by
  by_cases a0 : x < 0
  · go_enter Tryd.func10, Tryd.ntmps10
    go_wp2_with fail
    go_ret2
    exact ⟨rfl, rfl⟩
  have a0 : 0 ≤ x := by omega
  by_cases a1 : 1048576 < x
  · go_enter Tryd.func10, Tryd.ntmps10
    go_wp2_with fail
    go_ret2
    exact ⟨rfl, rfl⟩
  have a1 : x ≤ 1048576 := by omega
  by_cases a2 : y < 0
  · go_enter Tryd.func10, Tryd.ntmps10
    go_wp2_with fail
    go_ret2
    exact ⟨rfl, rfl⟩
  have a2 : 0 ≤ y := by omega
  have a3 : 65536 < y := by omega
  go_enter Tryd.func10, Tryd.ntmps10
  go_wp2_with fail
  go_ret2
  exact ⟨rfl, rfl⟩
set_option maxHeartbeats 2000000 in
theorem Load_bad (x y z : Int) (ov : Value) (w : World) (hb : argBad x y z) : Calls Tryd.prog 17 #[.agg #[.int .i64 x, .int .i64 y, .int .i64 z, ov]] w fun e w' => e = .returned (.tuple #[.pointer none, .int .i64 1]) ∧ Fr [] w w' := by
  obtain ⟨W1, hW1⟩ : ∃ W1, W1 = w.alloc (.cells #[.int .i64 x, .int .i64 y, .int .i64 z, ov] 45) := ⟨_, rfl⟩
  have F1 : Hid (Fr [] w W1) := by rw [hW1]; exact Fr.alloc [] _ _
  have hb1 : W1.heap[w.heap.size]? = some (.cells #[.int .i64 x, .int .i64 y, .int .i64 z, ov] 45 (0, 0)) := by rw [hW1]; exact heap_alloc_new _ _
  by_cases hn : x < 0 ∨ 1048576 < x ∨ y < 0 ∨ 65536 < y
  · have HN := mkHid (New_bad x y W1 hn)
    clear hn hb hb1
    go_enter Tryd.func17, Tryd.ntmps17
    go_wp2_with fail
    rw [← hW1]
    clear hW1
    refine Calls.mono HN.out ?_
    rintro e w2 ⟨rfl, rfl⟩
    go_wp2_with fail
    go_ret2
    exact ⟨rfl, F1.out⟩
  · obtain ⟨xn, rfl⟩ : ∃ n : Nat, x = (n : Int) := ⟨x.toNat, by omega⟩
    obtain ⟨yn, rfl⟩ : ∃ n : Nat, y = (n : Int) := ⟨y.toNat, by omega⟩
    have hN := New_in xn yn W1 (by omega) (by omega)
    have HN := mkHid hN
    have HB1 := mkHid hb1
    have hmk := fun V => isMark_any z V
    rw [show isM z = false from by unfold isM; unfold argBad at hb; simp; omega] at hmk
    have HMk := mkHid hmk
    clear hn hb hN hmk hb1
    go_enter Tryd.func17, Tryd.ntmps17
    go_wp2_with fail
    rw [← hW1]
    clear hW1
    refine Calls.mono HN.out ?_
    rintro e w2 ⟨rfl, hr2, hf2, hs2⟩
    have hb2 := (hf2.block _ (lt_of_heap HB1.out) (by simp)).trans HB1.out
    have e2 : w2.cell? ⟨w.heap.size, 2, none⟩ = some (.int .i64 z) := by rw [cell_in hb2]; rfl
    have F2 : Hid (Fr [] w w2) := F1.out.trans hf2 (by simp)
    clear hr2 hf2 hs2 HN HB1 hb2
    go_wp2_with (go_at_call 68; refine Calls.mono (HMk.out _) ?_; rintro e w' ⟨rfl, hw'⟩; rw [hw']; clear hw' w')
    go_ret2
    exact ⟨rfl, F2.out⟩
end Go.Proofs.YtdkbnnhcjaibdaaDoor


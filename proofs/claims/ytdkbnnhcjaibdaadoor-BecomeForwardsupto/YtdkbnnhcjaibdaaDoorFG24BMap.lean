import Derived.Test.YtdkbnnhcjaibdaaDoorFG23BRefX
import Derived.Test.YtdkbnnhcjaibdaaDoorFG05HAll
import Derived.Test.YtdkbnnhcjaibdaaDoorFG11HInvK
import Derived.Test.YtdkbnnhcjaibdaaDoorFG02HKey
import Derived.Maps.OwnOps
import Derived.Maps.OwnSet
import Derived.Maps.Views
namespace Go.Proofs.YtdkbnnhcjaibdaaDoor
open Go.RowKit
set_option linter.unusedVariables false
/-- one object becomes another one -/
def updK (k' x : Key) : Key := if x.1 = k'.1 then k' else x
section
variable {words oops mark : Nat} {ks : List Key} {H : HS} {M : MS} {a : Nat} {l : Lay} {w : World}
theorem KA.th (h : KA words oops mark ks H M) {k : Key} (hk : k ∈ ks) : ∃ q : Nat, k.1 = (q : Int) + 1 ∧ q < M.things.length ∧ (M.things.getD q noTh).there = true ∧ Is H (q + 1) (M.things.getD q noTh) ∧ (M.things.getD q noTh).cls = k.2.1 ∧ ((M.things.getD q noTh).fmt : Int) = k.2.2.1 ∧ (M.things.getD q noTh).slots = k.2.2.2 := by
  obtain ⟨b0, b1, b2, b3, b4⟩ := h.at_ k hk
  have hl := there_lt b1
  exact ⟨k.1.toNat - 1, by omega, hl, b1, h.inv.is _ hl b1, b2, b3, b4⟩
theorem KA.memLe (h : KA words oops mark ks H M) : (H.mem.length : Int) ≤ 1048576 := by
  have := h.inv.safe.small.mem
  have := h.inv.safe.small.words
  omega
theorem class_at (hR : Rep w a l H) (h : KA words oops mark ks H M) {k : Key} (hk : k ∈ ks) :
    Calls Tryd.prog 76 #[.pointer (some ⟨a, 0, none⟩), .int .i64 k.1] w fun e w' => e = .returned (.tuple #[.int .i64 k.2.1, .int .i64 0]) ∧ Fr [] w w' := by
  obtain ⟨q, hq, hl, hb, hI, h1, h2, h3⟩ := h.th hk
  have hr := hI.room
  have h22 := lenN_two (M.things.getD q noTh).slots.length (M.things.getD q noTh).fmt
  have := Class_ok (q + 1) a l H w hR hI.has (by omega) h.memLe
  rw [hI.cls, h1, show ((q + 1 : Nat) : Int) = (q : Int) + 1 from by omega, ← hq] at this
  exact this
theorem class_not (hR : Rep w a l H) (q : Int) (hh : has H q = false) :
    Calls Tryd.prog 76 #[.pointer (some ⟨a, 0, none⟩), .int .i64 q] w fun e w' => e = .returned (.tuple #[.int .i64 0, .int .i64 20]) ∧ Fr [] w w' := Class_no q a l H w hR hh
theorem size_at (hR : Rep w a l H) (h : KA words oops mark ks H M) {k : Key} (hk : k ∈ ks) :
    Calls Tryd.prog 82 #[.pointer (some ⟨a, 0, none⟩), .int .i64 k.1] w fun e w' => e = .returned (.tuple #[.int .i64 (k.2.2.2.length : Nat), .int .i64 k.2.2.1, .int .i64 0]) ∧ Fr [] w w' := by
  obtain ⟨q, hq, hl, hb, hI, h1, h2, h3⟩ := h.th hk
  have hr := hI.room
  have hf := hI.fmt
  have h22 := lenN_two (M.things.getD q noTh).slots.length (M.things.getD q noTh).fmt
  have := Size_ok (q + 1) _ _ a l H w hR hI.has h.memLe (by omega) hI.shape (by omega)
  rw [h2, h3, show ((q + 1 : Nat) : Int) = (q : Int) + 1 from by omega, ← hq] at this
  exact this
theorem at_w (hR : Rep w a l H) (h : KA words oops mark ks H M) {k : Key} (hk : k ∈ ks) (hf : k.2.2.1 = 0) (i : Nat) (hi : i < k.2.2.2.length) :
    Calls Tryd.prog 53 #[.pointer (some ⟨a, 0, none⟩), .int .i64 k.1, .int .i64 (i : Int)] w fun e w' => e = .returned (.tuple #[.int .i64 (k.2.2.2.getD i 0), .int .i64 0]) ∧ Fr [] w w' := by
  obtain ⟨q, hq, hl, hb, hI, h1, h2, h3⟩ := h.th hk
  have hf0 : (M.things.getD q noTh).fmt = 0 := by omega
  have hr := hI.room
  have hlen := hI.len
  rw [← h3] at hi
  have hw := lenN_word _ i _ hf0 hi
  have h22 := lenN_two (M.things.getD q noTh).slots.length (M.things.getD q noTh).fmt
  obtain ⟨y1, y2, y3⟩ := has_yes hI.has
  have := At_ok (q + 1) i _ _ (k.2.2.2.getD i 0) a l H w hR h.memLe y1 y2 y3 (by omega) hI.shape (by omega) (by omega) (by omega) (fun W hW => by
    have := slot_w (H.seats.getD (q + 1) (0, 0, 0)) i a l H W hW (by omega) h.memLe
    rw [hI.word hf0 i hi, h3] at this
    rw [hf0]
    exact this)
  rw [show ((q + 1 : Nat) : Int) = (q : Int) + 1 from by omega, ← hq] at this
  exact this
theorem endK_upd (k' : Key) : ∀ ks : List Key, (∀ x ∈ ks, x.1 = k'.1 → lenOf (k'.2.2.2.length : Int) k'.2.2.1 = lenOf (x.2.2.2.length : Int) x.2.2.1) → endK (ks.map (updK k')) = endK ks
  | [], _ => rfl
  | x :: t, h => by
    rw [List.map_cons]
    simp only [endK]
    rw [endK_upd k' t fun y hy => h y (by simp [hy])]
    unfold updK
    by_cases e : x.1 = k'.1
    · rw [if_pos e, h x (by simp) e]
    · rw [if_neg e]
theorem KA.uniq (h : KA words oops mark ks H M) {k x : Key} (hk : k ∈ ks) (hx : x ∈ ks) (e : x.1 = k.1) : x = k := by
  obtain ⟨b0, b1, b2, b3, b4⟩ := h.at_ k hk
  obtain ⟨c0, c1, c2, c3, c4⟩ := h.at_ x hx
  rw [e] at c2 c3 c4
  obtain ⟨x1, x2, x3, x4⟩ := x
  obtain ⟨k1, k2, k3, k4⟩ := k
  dsimp only at *
  rw [e, ← b2, ← b3, ← b4, c2, c3, c4]
theorem KA.change (h : KA words oops mark ks H M) {k : Key} (hk : k ∈ ks) {q : Nat} (hq : k.1 = (q : Int) + 1) (hl : q < M.things.length) (t : Th) (mem : List Int) (hm : mem.length = H.mem.length) (ht : t.there = true) (hlen : t.slots.length = k.2.2.2.length) (hfm : (t.fmt : Int) = k.2.2.1)
    (hi : Inv { H with mem := mem } { M with things := M.things.set q t }) : KA words oops mark (ks.map (updK (k.1, t.cls, (t.fmt : Int), t.slots))) { H with mem := mem } { M with things := M.things.set q t } := by
  have hg : ∀ i, (M.things.set q t).getD i noTh = if i = q then t else M.things.getD i noTh := fun i => by
    rw [List.getD_eq_getElem?_getD, List.getElem?_set]
    by_cases e : q = i
    · rw [if_pos e, if_pos hl, if_pos e.symm]; rfl
    · rw [if_neg e, if_neg (fun e2 => e e2.symm), List.getD_eq_getElem?_getD]
  have hfst : ∀ x ∈ ks, (updK (k.1, t.cls, (t.fmt : Int), t.slots) x).1 = x.1 := fun x hx => by
    unfold updK
    by_cases e : x.1 = k.1
    · rw [if_pos e, e]
    · rw [if_neg e]
  refine ⟨hi, h.words, h.oops, h.mark, ?_, ?_, fun x hx => ?_, fun i hi2 => ?_⟩
  · show H.order = _
    rw [h.order, List.map_map]
    refine List.map_congr_left fun x hx => ?_
    show x.1.toNat = (updK _ x).1.toNat
    rw [hfst x hx]
  · show (mem.length : Int) = _
    rw [hm, h.mem]
    symm
    refine endK_upd _ ks fun x hx e => ?_
    have := h.uniq hk hx e
    subst this
    show lenOf (t.slots.length : Int) (t.fmt : Int) = _
    rw [hlen, hfm]
  · obtain ⟨x0, hx0, rfl⟩ := List.mem_map.1 hx
    obtain ⟨b0, b1, b2, b3, b4⟩ := h.at_ x0 hx0
    rw [hfst x0 hx0]
    show 1 ≤ x0.1 ∧ ((M.things.set q t).getD (x0.1.toNat - 1) noTh).there = true ∧ ((M.things.set q t).getD (x0.1.toNat - 1) noTh).cls = _ ∧ (((M.things.set q t).getD (x0.1.toNat - 1) noTh).fmt : Int) = _ ∧ ((M.things.set q t).getD (x0.1.toNat - 1) noTh).slots = _
    rw [hg]
    unfold updK
    by_cases e : x0.1 = k.1
    · rw [if_pos (by omega), if_pos e]
      exact ⟨b0, ht, rfl, rfl, rfl⟩
    · rw [if_neg (by omega), if_neg e]
      exact ⟨b0, b1, b2, b3, b4⟩
  · have hi3 : ((M.things.set q t).getD i noTh).there = true := hi2
    rw [hg] at hi3
    by_cases e : i = q
    · exact ⟨_, List.mem_map_of_mem hk, by rw [hfst k hk, hq, e]⟩
    · rw [if_neg e] at hi3
      obtain ⟨x, x1, x2⟩ := h.only i hi3
      exact ⟨_, List.mem_map_of_mem x1, by rw [hfst x x1]; exact x2⟩
theorem setClass_at (hR : Rep w a l H) (h : KA words oops mark ks H M) {k : Key} (hk : k ∈ ks) (v : Int) (hv : isW v = true) (hT : Tab w) :
    Calls Tryd.prog 58 #[.pointer (some ⟨a, 0, none⟩), .int .i64 k.1, .int .i64 v] w fun e w' => e = .returned (.int .i64 0) ∧ ∃ H' M', Rep w' a l H' ∧ KA words oops mark (ks.map (updK (k.1, v, k.2.2.1, k.2.2.2))) H' M' ∧ H'.age = H.age ∧ Nx a l l w w' := by
  obtain ⟨q, hq, hl, hb, hI, h1, h2, h3⟩ := h.th hk
  have hr := hI.room
  have h22 := lenN_two (M.things.getD q noTh).slots.length (M.things.getD q noTh).fmt
  have := SetClass_ok (q + 1) v a l H w hR hI.has hv hT (by omega) h.memLe
  rw [show ((q + 1 : Nat) : Int) = (q : Int) + 1 from by omega, ← hq] at this
  refine this.mono ?_
  rintro e w' ⟨rfl, hr', hn⟩
  have hc := h.change hk hq hl (withCls (M.things.getD q noTh) v) (H.mem.set (H.seats.getD (q + 1) (0, 0, 0)).1 v) (by simp) hb (by show (M.things.getD q noTh).slots.length = _; rw [h3]) h2 (h.inv.setCls q hl hb v)
  have e1 : (k.1, (withCls (M.things.getD q noTh) v).cls, ((withCls (M.things.getD q noTh) v).fmt : Int), (withCls (M.things.getD q noTh) v).slots) = (k.1, v, k.2.2.1, k.2.2.2) := by
    show (k.1, v, ((M.things.getD q noTh).fmt : Int), (M.things.getD q noTh).slots) = _
    rw [h2, h3]
  rw [e1] at hc
  exact ⟨rfl, _, _, hr', hc, rfl, hn⟩
theorem put_w (hR : Rep w a l H) (h : KA words oops mark ks H M) {k : Key} (hk : k ∈ ks) (hf : k.2.2.1 = 0) (i : Nat) (hi : i < k.2.2.2.length) (v : Int) (hv : mayB v 0 = true) (hT : Tab w) :
    Calls Tryd.prog 51 #[.pointer (some ⟨a, 0, none⟩), .int .i64 k.1, .int .i64 (i : Int), .int .i64 v] w fun e w' => e = .returned (.int .i64 0) ∧ ∃ H' M', Rep w' a l H' ∧ KA words oops mark (ks.map (updK (k.1, k.2.1, k.2.2.1, k.2.2.2.set i v))) H' M' ∧ H'.age = H.age ∧ Nx a l l w w' := by
  obtain ⟨q, hq, hl, hb, hI, h1, h2, h3⟩ := h.th hk
  have hf0 : (M.things.getD q noTh).fmt = 0 := by omega
  have hr := hI.room
  have hlen := hI.len
  rw [← h3] at hi
  have hw := lenN_word _ i _ hf0 hi
  have h22 := lenN_two (M.things.getD q noTh).slots.length (M.things.getD q noTh).fmt
  obtain ⟨y1, y2, y3⟩ := has_yes hI.has
  have := Put_ok (q + 1) i _ _ v a l H { H with mem := H.mem.set ((H.seats.getD (q + 1) (0, 0, 0)).1 + 2 + i) v } w hR h.memLe y1 y2 y3 (by omega) hI.shape (by omega) (by omega) (by omega) (by rw [hf0]; exact hv) hT (fun W hW => by
    rw [hf0]
    exact setSlot_w (H.seats.getD (q + 1) (0, 0, 0)) i v a l H W hW (by omega) h.memLe)
  rw [show ((q + 1 : Nat) : Int) = (q : Int) + 1 from by omega, ← hq] at this
  refine this.mono ?_
  rintro e w' ⟨rfl, hr', hn⟩
  have hc := h.change hk hq hl (withSlot (M.things.getD q noTh) i v) (H.mem.set ((H.seats.getD (q + 1) (0, 0, 0)).1 + 2 + i) v) (by simp) hb (by show ((M.things.getD q noTh).slots.set i v).length = _; rw [List.length_set, h3]) h2 (h.inv.putW q hl hb i v hi hf0)
  have e1 : (k.1, (withSlot (M.things.getD q noTh) i v).cls, ((withSlot (M.things.getD q noTh) i v).fmt : Int), (withSlot (M.things.getD q noTh) i v).slots) = (k.1, k.2.1, k.2.2.1, k.2.2.2.set i v) := by
    show (k.1, (M.things.getD q noTh).cls, ((M.things.getD q noTh).fmt : Int), (M.things.getD q noTh).slots.set i v) = _
    rw [h1, h2, h3]
  rw [e1] at hc
  exact ⟨rfl, _, _, hr', hc, rfl, hn⟩
theorem exchange_at (hR : Rep w a l H) (h : KA words oops mark ks H M) {x y : Int} (hx : has H x = true) (hy : has H y = true) (hne : x ≠ y) (hage : H.age ≤ 1000000) :
    Calls Tryd.prog 52 #[.pointer (some ⟨a, 0, none⟩), .int .i64 x, .int .i64 y] w fun e w' => e = .returned (.int .i64 0) ∧ ∃ H' M', Rep w' a l H' ∧ KA words oops mark (ks.map (swk x y)) H' M' ∧ H'.age = H.age + 1 ∧ Nx a l l w w' := by
  have mx : mhas M x = true := by rw [← h.inv.hasM]; exact hx
  have my : mhas M y = true := by rw [← h.inv.hasM]; exact hy
  obtain ⟨p, p1, p2, p3⟩ := mhas_yes mx
  obtain ⟨q, q1, q2, q3⟩ := mhas_yes my
  have hpl := there_lt p3
  have hql := there_lt q3
  have hIp := h.inv.is p hpl p3
  have hIq := h.inv.is q hql q3
  obtain ⟨a1, a2, a3⟩ := has_yes hIp.has
  obtain ⟨b1, b2, b3⟩ := has_yes hIq.has
  obtain ⟨t1, t2⟩ := h.inv.turn p hpl p3
  obtain ⟨u1, u2⟩ := h.inv.turn q hql q3
  have hpq : p ≠ q := fun e => hne (by rw [p1, q1, e])
  have hse := h.inv.told.seats
  have hsh := h.inv.short
  have hmm := h.memLe
  have := Exchange_ok (p + 1) (q + 1) a l H w hR a1 a2 a3 b1 b2 b3 (by omega) t1 u1 (fun e => hpq (by rw [e, u2] at t2; omega)) (by omega) (by omega) (by omega)
  rw [show ((p + 1 : Nat) : Int) = x from by omega, show ((q + 1 : Nat) : Int) = y from by omega] at this
  refine this.mono ?_
  rintro e w' ⟨rfl, hr', hn⟩
  have hc := h.exch p q p3 q3
  rw [show (p : Int) + 1 = x from by omega, show (q : Int) + 1 = y from by omega] at hc
  exact ⟨rfl, _, _, hr', hc, rfl, hn⟩
end
end Go.Proofs.YtdkbnnhcjaibdaaDoor
namespace Go.Proofs.YtdkbnnhcjaibdaaDoor
open Go.RowKit Go.Maps
set_option linter.unusedVariables false
attribute [local go_sem ↓] Go.wp_at_zero Go.wp_at_succ
theorem mlaw : Keyed Tryd.prog 3 := int_keyed Tryd.underlying3
theorem mzero (w : World) : (zeroValue 3).run Tryd.prog w = .ok (.int .i64 0) w := by kernel_rfl
/-- what a list of pairs has at a number -/
def look (f : List (Int × Int)) (q : Int) : Int := ((f.find? fun p => decide (p.1 = q)).map (·.2)).getD 0
def inK (f : List (Int × Int)) (q : Int) : Bool := f.any fun p => decide (p.1 = q)
/-- a map of numbers that has just these pairs -/
structure MapIs (w : World) (b : Nat) (f : List (Int × Int)) : Prop where
  at_ : ∃ (n : Nat) (D : DataW Unit), w.ownsMap Tryd.prog 3 (plainElem Tryd.prog 3) b n D ∧ n ≤ f.length ∧ (∀ q, Maps.has D (.int .i64 q) = inK f q) ∧ (∀ q, D.atKey (.int .i64 q) (.lit (.int .i64 0)) = .lit (.int .i64 (look f q))) ∧ IsMap D
theorem MapIs.congr {w w' : World} {b : Nat} {f : List (Int × Int)} (h : MapIs w b f) (hb : w'.heap[b]? = w.heap[b]?) : MapIs w' b f := by
  obtain ⟨n, D, ⟨es, clock, h1, h2⟩, h3⟩ := h.at_
  exact ⟨n, D, ⟨es, clock, hb.trans h1, h2⟩, h3⟩
theorem MapIs.lt {w : World} {b : Nat} {f : List (Int × Int)} (h : MapIs w b f) : b < w.heap.size := by
  obtain ⟨n, D, ⟨es, clock, h1, h2⟩, h3⟩ := h.at_
  exact (Array.getElem?_eq_some_iff.1 h1).1
theorem MapIs.idle {w w' : World} {b : Nat} {f : List (Int × Int)} {S : List Nat} (h : MapIs w b f) (hf : Fr S w w') (hb : b ∉ S) : MapIs w' b f := h.congr (hf.block b h.lt hb)
theorem wf_small {q : Int} (h1 : -1000000000 ≤ q) (h2 : q ≤ 1000000000) : (Lit.int .i64 q).wf = true := WalkArith.wf_i64 (by omega)
theorem isKey_int (q : Int) : WideAt.IsKeyLit (.int .i64 q) := trivial
theorem look_put_same {D : DataW Unit} (hD : IsMap D) (q v : Int) (z : DataW Unit) : (D.put (.int .i64 q) (.lit (.int .i64 v))).atKey (.int .i64 q) z = .lit (.int .i64 v) := atKey_put_same hD (isKey_int q) _ _
theorem inK_append (f : List (Int × Int)) (p : Int × Int) (q : Int) : inK (f ++ [p]) q = (inK f q || decide (p.1 = q)) := by unfold inK; rw [List.any_append]; simp
theorem look_append (f : List (Int × Int)) (p : Int × Int) (q : Int) : look (f ++ [p]) q = if inK f q then look f q else if p.1 = q then p.2 else 0 := by
  unfold look inK
  rw [List.find?_append]
  by_cases h : (f.any fun p => decide (p.1 = q)) = true
  · rw [if_pos h]
    cases hf : f.find? (fun p => decide (p.1 = q)) with
    | none =>
      obtain ⟨x, x1, x2⟩ := List.any_eq_true.1 h
      exact absurd x2 (by simpa using List.find?_eq_none.1 hf x x1)
    | some x => rfl
  · rw [if_neg h]
    have hn : f.find? (fun p => decide (p.1 = q)) = none := by
      rw [List.find?_eq_none]
      intro x hx hc
      exact h (List.any_eq_true.2 ⟨x, hx, hc⟩)
    rw [hn]
    by_cases hp : p.1 = q
    · simp [hp]
    · simp [hp]
theorem look_no (f : List (Int × Int)) (q : Int) (h : inK f q = false) : look f q = 0 := by
  unfold look
  have hn : f.find? (fun p => decide (p.1 = q)) = none := by
    rw [List.find?_eq_none]
    intro x hx hc
    have : inK f q = true := List.any_eq_true.2 ⟨x, hx, hc⟩
    rw [h] at this
    cases this
  rw [hn]
  rfl
theorem mapIs_made (w w' : World) (b : Nat) (h : w'.ownsMap Tryd.prog 3 (plainElem (H := Unit) Tryd.prog 3) b 0 (.map [])) : MapIs w' b [] :=
  ⟨0, .map [], h, Nat.le_refl _, fun q => rfl, fun q => rfl, isMap_empty⟩
set_option maxRecDepth 20000 in
set_option maxHeartbeats 1000000 in
theorem add_old (b : Nat) (f : List (Int × Int)) (q v : Int) (w : World) (h : MapIs w b f) (h1 : -1000000000 ≤ q) (h2 : q ≤ 1000000000) (hin : inK f q = true) :
    Calls Tryd.prog 128 #[.map (some b), .int .i64 q, .int .i64 v] w fun e w' => e = .returned (.bool false) ∧ w' = w := by
  obtain ⟨n, D, hown, hn, hh, ha, hm⟩ := h.at_
  have hkey : keyOf Tryd.prog 3 (.int .i64 q) = some (.int .i64 q) := keyOf_int_mk Tryd.underlying3 (wf_small h1 h2)
  have hhq := (hh q).trans hin
  go_enter Tryd.func128, Tryd.ntmps128
  go_wp2_with (at_lookup; refine wpList_lookup_own_ok_int _ rfl _ _ 155 rfl 3 3 .i64 mlaw Tryd.underlying155 Tryd.underlying3 (mzero _) b n _ rfl hown _ _ rfl hkey ?_; intro c hat hwc; rw [hhq])
  go_ret
  exact ⟨rfl, rfl⟩
set_option maxRecDepth 20000 in
set_option maxHeartbeats 1000000 in
theorem add_new (b : Nat) (f : List (Int × Int)) (q v : Int) (w : World) (h : MapIs w b f) (h1 : -1000000000 ≤ q) (h2 : q ≤ 1000000000) (v1 : -1000000000 ≤ v) (v2 : v ≤ 1000000000) (hf : f.length < 100000000000000) (hin : inK f q = false) :
    Calls Tryd.prog 128 #[.map (some b), .int .i64 q, .int .i64 v] w fun e w' => e = .returned (.bool true) ∧ MapIs w' b (f ++ [(q, v)]) ∧ Fr [b] w w' := by
  obtain ⟨n, D, hown, hn, hh, ha, hm⟩ := h.at_
  have hkey : keyOf Tryd.prog 3 (.int .i64 q) = some (.int .i64 q) := keyOf_int_mk Tryd.underlying3 (wf_small h1 h2)
  have hhq := (hh q).trans hin
  have HH := mkHid hh
  have HA := mkHid ha
  have HM := mkHid hm
  have HI := mkHid hin
  clear h hh ha hm hin
  go_enter Tryd.func128, Tryd.ntmps128
  go_wp2_with (first
    | (at_lookup; refine wpList_lookup_own_ok_int _ rfl _ _ 155 rfl 3 3 .i64 mlaw Tryd.underlying155 Tryd.underlying3 (mzero _) b n _ rfl hown _ _ rfl hkey ?_; intro c hat hwc; rw [hhq])
    | (at_mapUpdate; refine wpList_mapUpdate_own _ rfl _ _ _ 155 rfl 3 3 mlaw Tryd.underlying155 _ b n _ rfl hown (by unfold maxLen; omega) _ _ _ rfl rfl hkey _ [] (plainElem_int Tryd.underlying3 (wf_small v1 v2)) ?_; intro w1 hown1 hgrow1)
    | go_in)
  go_ret
  refine ⟨rfl, ⟨n + 1, _, hown1, by simp; omega, fun q' => ?_, fun q' => ?_, HM.out.put _ _⟩, Fr.grown hgrow1 (fun k hk => by cases hk; simp)⟩
  · rw [inK_append]
    by_cases e : q = q'
    · subst e
      rw [has_put_same HM.out (isKey_int q)]; simp
    · rw [has_put_other (by intro h; injection h with _ h; exact e h.symm), HH.out]
      simp [e]
  · rw [look_append]
    by_cases e : q = q'
    · subst e
      rw [if_neg (by rw [HI.out]; simp), if_pos rfl]
      exact look_put_same HM.out q v _
    · rw [atKey_put_other (by intro h; injection h with _ h; exact e h.symm), HA.out]
      by_cases c : inK f q' = true
      · rw [if_pos c]
      · rw [if_neg c, if_neg e, look_no f q' (by simpa using c)]
end Go.Proofs.YtdkbnnhcjaibdaaDoor

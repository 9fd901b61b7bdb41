import Derived.Test.YtkmjimdaimbdfaaDoorSG07HRefB
import Derived.BigQuiet
import Derived.Deep.RegionHeld3
import Derived.Test.YtkmjimdaimbdfaaDoorSHLoadT
import Derived.Test.YtkmjimdaimbdfaaDoorSG13HKeys
import Derived.Test.YtkmjimdaimbdfaaDoorSHRefL
import Derived.Test.YtkmjimdaimbdfaaDoorSHRefS
import Derived.Test.YtkmjimdaimbdfaaDoorSG16RKeep
import Derived.Test.YtkmjimdaimbdfaaDoorSG12HLoadX
import Derived.Test.YtkmjimdaimbdfaaDoorSG03HExch
import Derived.Test.YtkmjimdaimbdfaaDoorSG11HBackP
namespace Go.Proofs.YtkmjimdaimbdfaaDoor
open Go.RowKit
set_option linter.unusedVariables false
attribute [local go_sem ↓] Go.wp_at_zero Go.wp_at_succ
end Go.Proofs.YtkmjimdaimbdfaaDoor



namespace Go.Proofs.YtkmjimdaimbdfaaDoor
open Go.RowKit
set_option linter.unusedVariables false
/-- since V0 nothing was touched from block N on -/
def Aft (N : Nat) (V0 V : World) : Prop := ∃ S, Fr S V0 V ∧ ∀ b ∈ S, b < N
theorem Aft.refl (N : Nat) (V : World) : Aft N V V := ⟨[], Fr.refl _ _, by simp⟩
theorem Aft.fr {N : Nat} {V0 V V' : World} (h : Aft N V0 V) (hf : Fr [] V V') : Aft N V0 V' := by
  obtain ⟨S, h1, h2⟩ := h
  exact ⟨S, h1.trans hf (by simp), h2⟩
theorem Aft.step {N : Nat} {V0 V V' : World} {S : List Nat} (h : Aft N V0 V) (hf : Fr S V V') (hS : ∀ b ∈ S, b < N) : Aft N V0 V' := by
  obtain ⟨S0, h1, h2⟩ := h
  exact ⟨S0 ++ S, (h1.mono (fun b hb => .inl (List.mem_append_left _ hb))).trans hf (fun b hb => .inl (List.mem_append_right _ hb)), fun b hb => by
    rcases List.mem_append.1 hb with h | h
    · exact h2 b h
    · exact hS b h⟩
/-- what Load of such a state says -/
def LSpec (x y z : Int) (ks : List Key) (n : Int) (nl : Bool) (a b sx sy sz : Int) (ks' : List Key) : Prop :=
  (argBad x y z ∧ n = 1 ∧ nl = true ∧ a = 0 ∧ b = 0 ∧ sx = 0 ∧ sy = 0 ∧ sz = 0 ∧ ks' = []) ∨
  (¬ argBad x y z ∧ ¬ allK x.toNat y.toNat ks ∧ n = 27 ∧ nl = true ∧ a = 0 ∧ b = 0 ∧ sx = 0 ∧ sy = 0 ∧ sz = 0 ∧ ks' = []) ∨
  (¬ argBad x y z ∧ allK x.toNat y.toNat ks ∧ n = 0 ∧ nl = false ∧ a = x - endK ks ∧ b = y - (ks.length : Int) ∧ sx = x ∧ sy = y ∧ sz = z ∧ ks' = ks)
theorem LSpec.one {x y z : Int} {ks : List Key} {n n' : Int} {nl nl' : Bool} {a b sx sy sz a' b' sx' sy' sz' : Int} {k1 k2 : List Key} (h : LSpec x y z ks n nl a b sx sy sz k1) (h' : LSpec x y z ks n' nl' a' b' sx' sy' sz' k2) : n = n' ∧ nl = nl' ∧ a = a' ∧ b = b' ∧ sx = sx' ∧ sy = sy' ∧ sz = sz' ∧ k1 = k2 := by
  rcases h with ⟨h0, rfl, rfl, rfl, rfl, rfl, rfl, rfl, rfl⟩ | ⟨h0, h1, rfl, rfl, rfl, rfl, rfl, rfl, rfl, rfl⟩ | ⟨h0, h1, rfl, rfl, rfl, rfl, rfl, rfl, rfl, rfl⟩ <;>
  rcases h' with ⟨g0, rfl, rfl, rfl, rfl, rfl, rfl, rfl, rfl⟩ | ⟨g0, g1, rfl, rfl, rfl, rfl, rfl, rfl, rfl, rfl⟩ | ⟨g0, g1, rfl, rfl, rfl, rfl, rfl, rfl, rfl, rfl⟩ <;>
  first | contradiction | exact ⟨rfl, rfl, rfl, rfl, rfl, rfl, rfl, rfl⟩
/-- a pointer, nil or not -/
def PtrIs (v : Value) (nl : Bool) : Prop := (nl = true ∧ v = .pointer none) ∨ (nl = false ∧ ∃ a : Nat, v = .pointer (some ⟨a, 0, none⟩))
/-- a told state -/
def StAns (sx sy sz : Int) (ks : List Key) (V : World) (e : Ending) (w' : World) : Prop := ∃ ov ls, e = .returned (.agg #[.int .i64 sx, .int .i64 sy, .int .i64 sz, ov]) ∧ SAt w' ov ls ∧ ls.map oiKey = ks ∧ Fr [] V w'
structure TellsP (N : Nat) (V0 : World) (hv : Value) (a b sx sy sz : Int) (ks : List Key) : Prop where
  room : ∀ V, Aft N V0 V → Calls Tryd.prog 29 #[hv] V fun e w' => e = .returned (.tuple #[.int .i64 a, .int .i64 b]) ∧ Fr [] V w'
  state : ∀ V, Aft N V0 V → Calls Tryd.prog 15 #[hv] V (StAns sx sy sz ks V)
theorem sat_nil (w : World) : SAt w (.slice none 0 0) [] := ⟨⟨none, 0, rfl, fun h => by simp at h⟩, by simp, by simp⟩
theorem tellsP_nil (N : Nat) (V0 : World) : TellsP N V0 (.pointer none) 0 0 0 0 0 [] :=
  ⟨fun V _ => Calls.mono (Room_nil V) (by rintro e w' ⟨rfl, rfl⟩; exact ⟨rfl, Fr.refl _ _⟩), fun V _ => Calls.mono (State_nil V) (by rintro e w' ⟨rfl, hf⟩; exact ⟨_, [], rfl, sat_nil _, rfl, hf⟩)⟩
theorem Lds.good {words oops mark : Nat} {ks : List Key} {H : HS} {M : MS} (h1 : (words : Int) ≤ 1048576) (h2 : (oops : Int) ≤ 65536) (hm : (mark : Int) ≤ 1073741824) (h : Lds { emptyH words oops with mark := mark } { emptyM words oops with mark := mark } ks H M) : allK words oops ks := by
  refine Lds.ind (C := fun ks H M => allK words oops ks) ?_ ?_ h
  · exact fun i o ho => by simp at ho
  · rintro ks H H' M M' q cls fmt ss h ht hl ih
    exact allK_snoc ih (by rw [← (h.kOf h1 h2 hm).takes]; exact ht)
def natKey (k : Nat × Int × Nat × List Int) : Key := ((k.1 : Int), k.2.1, (k.2.2.1 : Int), k.2.2.2)
theorem toOI_key (l : List OS) : (l.map toOI).map oiKey = (l.map osKey).map natKey := by rw [List.map_map, List.map_map]; rfl
/-- a told list, read -/
theorem SRep.told {w : World} {base : Nat} {ov : Value} {l : List OS} {ks : List Key} (h : SRep w base ov l) (hk : (l.map osKey).map natKey = ks) (hl : ks.length ≤ 1048576) (hs : ∀ k ∈ ks, k.2.2.2.length ≤ 8192) : SAt w ov (l.map toOI) ∧ (l.map toOI).map oiKey = ks := by
  have hll : l.length = ks.length := by rw [← hk]; simp
  refine ⟨h.sat (by omega) (fun o ho => ?_), by rw [toOI_key]; exact hk⟩
  have h1 : natKey (osKey o) ∈ ks := by rw [← hk]; exact List.mem_map_of_mem (List.mem_map_of_mem ho)
  have := hs _ h1
  have e : (natKey (osKey o)).2.2.2 = o.slots := rfl
  rw [e] at this
  omega
theorem allK_slots {words oops : Nat} {ks : List Key} (h : allK words oops ks) : ∀ k ∈ ks, k.2.2.2.length ≤ 8192 := by
  intro k hk
  obtain ⟨i, hi, he⟩ := List.getElem_of_mem hk
  have := takesK_yes (h i k (by rw [List.getElem?_eq_getElem hi, he]))
  have := this.2.2.2.2.2.1
  omega
theorem Load_tells (x y z : Int) (ov : Value) (la : List OI) (w : World) (ha : SAt w ov la) (hT : Tab w) (hT0 : 0 < w.heap.size) :
    Calls Tryd.prog 56 #[.agg #[.int .i64 x, .int .i64 y, .int .i64 z, ov]] w fun e w' => ∃ (hv : Value) (n : Int) (nl : Bool) (a b sx sy sz : Int) (ks : List Key), e = .returned (.tuple #[hv, .int .i64 n]) ∧ PtrIs hv nl ∧ LSpec x y z (la.map oiKey) n nl a b sx sy sz ks ∧ TellsP w.heap.size w' hv a b sx sy sz ks ∧ Fr [] w w' := by
  by_cases hb : argBad x y z
  · refine Calls.mono (Load_bad x y z ov w hb) ?_
    rintro e w' ⟨rfl, hf⟩
    exact ⟨_, 1, true, 0, 0, 0, 0, 0, [], rfl, .inl ⟨rfl, rfl⟩, .inl ⟨hb, rfl, rfl, rfl, rfl, rfl, rfl, rfl, rfl⟩, tellsP_nil _ _, hf⟩
  · have hb' : 0 ≤ x ∧ x ≤ 1048576 ∧ 0 ≤ y ∧ y ≤ 65536 ∧ 0 ≤ z ∧ z ≤ 1073741824 := by unfold argBad at hb; omega
    obtain ⟨xn, rfl⟩ : ∃ n : Nat, x = (n : Int) := ⟨x.toNat, by omega⟩
    obtain ⟨yn, rfl⟩ : ∃ n : Nat, y = (n : Int) := ⟨y.toNat, by omega⟩
    obtain ⟨zn, rfl⟩ : ∃ n : Nat, z = (n : Int) := ⟨z.toNat, by omega⟩
    refine Calls.mono (Load_any xn yn zn ov la w ha hT hT0 (by omega) (by omega) (by omega)) ?_
    rintro e w' (⟨l, H, M, rfl, hw⟩ | ⟨k, o, H, M, rfl, hf, ho, hlds, ht⟩)
    · have hlds := hw.lds
      rw [List.take_length] at hlds
      have hK := hlds.kOf (by omega) (by omega) (by omega)
      have hgood := hlds.good (by omega) (by omega) (by omega)
      have hsm := hK.inv.safe.small
      have hcnt := hK.count
      have hlen : (la.map oiKey).length ≤ 65536 := by have := hsm.count; have := hsm.oops; omega
      refine ⟨_, 0, false, (xn : Int) - endK (la.map oiKey), (yn : Int) - ((la.map oiKey).length : Int), xn, yn, zn, la.map oiKey, rfl, .inr ⟨rfl, _, rfl⟩, .inr (.inr ⟨hb, by simpa using hgood, rfl, rfl, rfl, rfl, rfl, rfl, rfl, rfl⟩), ⟨fun V hV => ?_, fun V hV => ?_⟩, hw.fr⟩
      · obtain ⟨S, h1, h2⟩ := hV
        have hR := hw.rep.keep h1 (fun g hg hS => by have := hw.new g hg; have := h2 g hS; omega)
        refine Calls.mono (Room_any _ l H V hR hsm) ?_
        rintro e w2 ⟨rfl, n, rfl⟩
        refine ⟨?_, Fr.drewN [] _ _⟩
        rw [hK.words, hK.oops, hK.mem, hcnt]
      · obtain ⟨S, h1, h2⟩ := hV
        have hR := hw.rep.keep h1 (fun g hg hS => by have := hw.new g hg; have := h2 g hS; omega)
        refine Calls.mono (State_ok _ l H M V hR hK.inv.toInvV) ?_
        rintro e w2 ⟨ov2, ls, rfl, hs, hkk, hf⟩
        obtain ⟨s1, s2⟩ := hs.told (ks := la.map oiKey) (by rw [hkk]; exact hK.st) (by omega) (allK_slots hgood)
        refine ⟨ov2, _, ?_, s1, s2, hf⟩
        rw [hK.words, hK.oops, hK.mark]
    · have hK := hlds.kOf (by omega) (by omega) (by omega)
      refine ⟨_, 27, true, 0, 0, 0, 0, 0, [], rfl, .inl ⟨rfl, rfl⟩, .inr (.inl ⟨hb, fun hall => ?_, rfl, rfl, rfl, rfl, rfl, rfl, rfl, rfl⟩), tellsP_nil _ _, hf⟩
      have h1 := hall k (oiKey o) (by rw [List.getElem?_map, ho]; rfl)
      rw [← List.map_take] at h1
      have h2 := hK.takes (oiKey o)
      have h3 : takesB H (oiKey o).1 (oiKey o).2.1 (oiKey o).2.2.1 (oiKey o).2.2.2 = false := ht
      rw [h3] at h2
      have h4 : takesK xn yn ((la.take k).map oiKey) (oiKey o) = true := by simpa using h1
      rw [← h2] at h4
      cases h4
end Go.Proofs.YtkmjimdaimbdfaaDoor



namespace Go.Proofs.YtkmjimdaimbdfaaDoor
open Go.RowKit
set_option linter.unusedVariables false
theorem rise_eq : ∀ (l m : List Nat), l.Pairwise (· < ·) → m.Pairwise (· < ·) → (∀ x, x ∈ l ↔ x ∈ m) → l = m
  | [], [], _, _, _ => rfl
  | [], y :: m, _, _, h => by have := (h y).2 (by simp); simp at this
  | x :: l, [], _, _, h => by have := (h x).1 (by simp); simp at this
  | x :: l, y :: m, hl, hm, h => by
    obtain ⟨l1, l2⟩ := List.pairwise_cons.1 hl
    obtain ⟨m1, m2⟩ := List.pairwise_cons.1 hm
    have hx : x = y := by
      have a1 := (h x).1 (by simp)
      have a2 := (h y).2 (by simp)
      rcases List.mem_cons.1 a1 with e | a1
      · exact e
      · rcases List.mem_cons.1 a2 with e | a2
        · exact e.symm
        · have := m1 x a1; have := l1 y a2; omega
    subst hx
    congr 1
    refine rise_eq l m l2 m2 fun z => ?_
    constructor
    · intro hz
      have := (h z).1 (by simp [hz])
      rcases List.mem_cons.1 this with e | h2
      · have := l1 z hz; omega
      · exact h2
    · intro hz
      have := (h z).2 (by simp [hz])
      rcases List.mem_cons.1 this with e | h2
      · have := m1 z hz; omega
      · exact h2
/-- the fixed state of the laws -/
def aK : List Key := [(3, 8, 0, [4]), (1, 5, 0, [8]), (2, 5, 0, [4, 9])]
theorem aK_takes : ∀ (k : Nat) (o : Key), aK[k]? = some o → takesK 20 4 (aK.take k) o = true := by
  intro k o h
  have hk : k < 3 := (List.getElem?_eq_some_iff.1 h).1
  have : k = 0 ∨ k = 1 ∨ k = 2 := by omega
  rcases this with rfl | rfl | rfl
  · obtain rfl := Option.some.inj h; decide
  · obtain rfl := Option.some.inj h; decide
  · obtain rfl := Option.some.inj h; decide
theorem aK_lk {H : HS} {M : MS} (h : KA 20 4 0 aK H M) : lk M 1 = [5, 8] ∧ lk M 2 = [5, 4, 9] := by
  obtain ⟨-, -, b2, b3, b4⟩ := h.at_ (1, 5, 0, [8]) (by simp [aK])
  obtain ⟨-, -, c2, c3, c4⟩ := h.at_ (2, 5, 0, [4, 9]) (by simp [aK])
  unfold lk leadsOf
  have b3' : (M.things.getD (1 - 1) noTh).fmt = 0 := by have : ((M.things.getD (1 - 1) noTh).fmt : Int) = 0 := b3; omega
  have c3' : (M.things.getD (2 - 1) noTh).fmt = 0 := by have : ((M.things.getD (2 - 1) noTh).fmt : Int) = 0 := c3; omega
  have b2' : (M.things.getD (1 - 1) noTh).cls = 5 := b2
  have c2' : (M.things.getD (2 - 1) noTh).cls = 5 := c2
  have b4' : (M.things.getD (1 - 1) noTh).slots = [8] := b4
  have c4' : (M.things.getD (2 - 1) noTh).slots = [4, 9] := c4
  rw [b2', b3', b4', c2', c3', c4']
  exact ⟨rfl, rfl⟩
theorem aK_rs {H : HS} {M : MS} (h : KA 20 4 0 aK H M) {rs : List Nat} (hs : Sr H M [8] (rs, [])) (q : Nat) : q ∈ rs ↔ q = 1 ∨ q = 2 := by
  obtain ⟨e1, e2⟩ := aK_lk h
  have n1 : namesB H 4 = true := by
    unfold namesB
    rw [Bool.and_eq_true]
    exact ⟨by decide, h.hasK (1, 5, 0, [8]) (by simp [aK])⟩
  have n2 : namesB H 8 = true := by
    unfold namesB
    rw [Bool.and_eq_true]
    exact ⟨by decide, h.hasK (2, 5, 0, [4, 9]) (by simp [aK])⟩
  have n5 : ¬ namesB H 5 = true := by
    unfold namesB
    rw [Bool.and_eq_true]
    exact fun hc => absurd hc.1 (by decide)
  have n9 : ¬ namesB H 9 = true := by
    unfold namesB
    rw [Bool.and_eq_true]
    exact fun hc => absurd hc.1 (by decide)
  have r2 : 2 ∈ rs := hs.root 8 (by simp) n2
  have r1 : 1 ∈ rs := by
    rcases hs.on 2 r2 with h1 | h1
    · simp at h1
    · exact h1 4 (by rw [e2]; simp) n1
  refine ⟨fun hq => hs.least (fun q => q = 1 ∨ q = 2) ⟨fun z hz hb => ?_, fun p hp z hz hb => ?_⟩ q hq, fun hq => by rcases hq with rfl | rfl <;> assumption⟩
  · obtain rfl : z = 8 := by simpa using hz
    exact .inr rfl
  · rcases hp with rfl | rfl
    · rw [e1] at hz
      have : z = 5 ∨ z = 8 := by simpa using hz
      rcases this with rfl | rfl
      · exact absurd hb n5
      · exact .inr rfl
    · rw [e2] at hz
      have : z = 5 ∨ z = 4 ∨ z = 9 := by simpa using hz
      rcases this with rfl | rfl | rfl
      · exact absurd hb n5
      · exact .inl rfl
      · exact absurd hb n9
theorem aK_stays {H : HS} {M : MS} (h : KA 20 4 0 aK H M) {rs : List Nat} (hs : Sr H M [8] (rs, [])) : stays H rs = [1, 2] := by
  refine rise_eq _ _ ?_ (by decide) fun q => ?_
  · rw [stays_eq]; exact List.Pairwise.filter _ List.pairwise_lt_range
  · rw [mem_stays h.inv hs.there, aK_rs h hs]
    simp
theorem aK_kept {H : HS} {M : MS} (h : KA 20 4 0 aK H M) {rs : List Nat} (hs : Sr H M [8] (rs, [])) (ha : H.age ≤ 1000000000) :
    (H.count : Int) - (keepH H (stays H rs)).count = 1 ∧ (H.mem.length : Int) - (keepH H (stays H rs)).mem.length = 3 := by
  have h2 := h.keep (stays H rs) (stays_has h.inv rs) ha
  rw [aK_stays h hs] at h2 ⊢
  have c1 := h.count
  have c2 := h2.count
  have m1 := h.mem
  have m2 := h2.mem
  have e : (aK.filter fun k => decide (k.1.toNat ∈ [1, 2])) = [(1, 5, 0, [8]), (2, 5, 0, [4, 9])] := by decide
  rw [e] at c2 m2
  have e1 : endK aK = 10 := by decide
  have e2 : endK [(1, 5, 0, [8]), (2, 5, 0, [4, 9])] = 7 := by decide
  rw [e1] at m1
  rw [e2] at m2
  rw [m1, m2, c1, c2]
  exact ⟨by decide, by decide⟩
end Go.Proofs.YtkmjimdaimbdfaaDoor


namespace Go.Proofs.YtkmjimdaimbdfaaDoor
open Go.RowKit
set_option linter.unusedVariables false
theorem sr_same {H : HS} {M : MS} {roots : List Int} {rs rs2 : List Nat} (h : Sr H M roots (rs, [])) (h2 : Sr H M roots (rs2, [])) : stays H rs = stays H rs2 := by
  have cl : ∀ r : List Nat, Sr H M roots (r, []) → Cl H M roots (fun q => q ∈ r) := fun r hr => ⟨hr.root, fun q hq z hz hb => by
    rcases hr.on q hq with h1 | h1
    · simp at h1
    · exact h1 z hz hb⟩
  unfold stays
  refine List.filter_congr fun q _ => ?_
  rw [Bool.eq_iff_iff, decide_eq_true_eq, decide_eq_true_eq]
  exact ⟨h.least _ (cl rs2 h2) q, h2.least _ (cl rs h) q⟩
theorem filter_at {α : Type} (f : α → Bool) : ∀ (l : List α) (i : Nat) (o : α), l[i]? = some o → f o = true → (l.filter f)[((l.take i).filter f).length]? = some o
  | [], i, o, h, _ => by simp at h
  | x :: l, 0, o, h, hf => by
    have : x = o := by simpa using h
    subst this
    simp [hf]
  | x :: l, i + 1, o, h, hf => by
    have h1 : l[i]? = some o := by simpa using h
    have ih := filter_at f l i o h1 hf
    rw [List.take_succ_cons, List.filter_cons, List.filter_cons]
    by_cases hx : f x = true
    · rw [if_pos hx, if_pos hx, List.length_cons, List.getElem?_cons_succ]; exact ih
    · rw [if_neg hx, if_neg hx]; exact ih
/-- whether an object stays -/
def inSt (st : List Nat) (o : OI) : Bool := decide (o.oop.toNat ∈ st)
theorem keys_filter (la : List OI) (st : List Nat) : ((la.map oiKey).filter fun k => decide (k.1.toNat ∈ st)) = (la.filter (inSt st)).map oiKey := by
  rw [List.filter_map]; rfl
/-- how many of the first stay, and how many words they take -/
def keptN (la : List OI) (st : List Nat) (i : Nat) : Nat := ((la.take i).filter (inSt st)).length
def usedN (la : List OI) (st : List Nat) (i : Nat) : Int := endK (((la.take i).filter (inSt st)).map oiKey)
theorem take_some {la : List OI} {i : Nat} {o : OI} (h : la[i]? = some o) : la.take (i + 1) = la.take i ++ [o] := by rw [List.take_add_one, h]; rfl
theorem kept_yes {la : List OI} {st : List Nat} {i : Nat} {o : OI} (h : la[i]? = some o) (hf : inSt st o = true) : keptN la st (i + 1) = keptN la st i + 1 ∧ usedN la st (i + 1) = usedN la st i + lenOf (o.slots.length : Int) o.fmt := by
  unfold keptN usedN
  rw [take_some h, List.filter_append, List.filter_cons_of_pos hf, List.map_append, endK_append]
  exact ⟨by simp, by simp [endK, oiKey]⟩
theorem kept_no {la : List OI} {st : List Nat} {i : Nat} {o : OI} (h : la[i]? = some o) (hf : inSt st o = false) : keptN la st (i + 1) = keptN la st i ∧ usedN la st (i + 1) = usedN la st i := by
  unfold keptN usedN
  rw [take_some h, List.filter_append, List.filter_cons_of_neg (by rw [hf]; simp)]
  exact ⟨by simp, by simp⟩
theorem endK_nonneg : ∀ ks : List Key, 0 ≤ endK ks
  | [] => by simp [endK]
  | k :: t => by
    have := endK_nonneg t
    have h2 : 0 ≤ lenOf (k.2.2.2.length : Int) k.2.2.1 := by unfold lenOf; split <;> omega
    simp only [endK]
    omega
theorem used_le (la : List OI) (st : List Nat) (i : Nat) : 0 ≤ usedN la st i ∧ usedN la st i ≤ endK ((la.filter (inSt st)).map oiKey) := by
  unfold usedN
  refine ⟨endK_nonneg _, ?_⟩
  conv => rhs; rw [← List.take_append_drop i la, List.filter_append, List.map_append, endK_append]
  have := endK_nonneg (((la.drop i).filter (inSt st)).map oiKey)
  omega
theorem kept_le (la : List OI) (st : List Nat) (i : Nat) : keptN la st i ≤ (la.filter (inSt st)).length := by
  unfold keptN
  conv => rhs; rw [← List.take_append_drop i la, List.filter_append, List.length_append]
  omega
theorem kept_all (la : List OI) (st : List Nat) : keptN la st la.length = (la.filter (inSt st)).length ∧ usedN la st la.length = endK ((la.filter (inSt st)).map oiKey) := by
  unfold keptN usedN
  rw [List.take_length]
  exact ⟨rfl, rfl⟩
theorem srep_told {w : World} {base : Nat} {ov : Value} {l : List OS} {ks : List Key} (h : SRep w base ov l) (hk : (l.map osKey).map (fun k : Nat × Int × Nat × List Int => ((k.1 : Int), k.2.1, (k.2.2.1 : Int), k.2.2.2)) = ks) (hl : ks.length ≤ 1048576) (hs : ∀ k ∈ ks, k.2.2.2.length ≤ 1048576) : SAt w ov (l.map toOI) ∧ (l.map toOI).map oiKey = ks := by
  have hll : l.length = ks.length := by rw [← hk]; simp
  refine ⟨h.sat (by omega) (fun o ho => ?_), by rw [← hk, List.map_map, List.map_map]; rfl⟩
  have h1 : ((o.oop : Int), o.cls, (o.fmt : Int), o.slots) ∈ ks := by rw [← hk, List.map_map]; exact List.mem_map_of_mem (f := (fun k : Nat × Int × Nat × List Int => ((k.1 : Int), k.2.1, (k.2.2.1 : Int), k.2.2.2)) ∘ osKey) ho
  have := hs _ h1
  dsimp only at this
  omega
theorem zs_nodup {l : List Nat} (h : l.Nodup) : (zs l).Nodup := by
  unfold zs
  refine List.pairwise_map.2 (h.imp fun hab e => hab (by omega))
/-- what a Run leaves, by keys -/
structure Left (words oops mark : Nat) (la : List OI) (H : HS) (M : MS) (st : List Nat) : Prop where
  ka : KA words oops mark ((la.filter (inSt st)).map oiKey) (keepH H st) { M with things := keptTh M.things st }
  all : allTo (keepH H st) (keepH H st).seats.length = st
  cnt : (keepH H st).count = st.length
  len : (la.filter (inSt st)).length = st.length
theorem left_of {words oops mark : Nat} {la : List OI} {H : HS} {M : MS} (h : KA words oops mark (la.map oiKey) H M) {roots : List Int} {rs : List Nat} (hs : Sr H M roots (rs, [])) (ha : H.age ≤ 1000000000) : Left words oops mark la H M (stays H rs) := by
  have hk := h.keep (stays H rs) (stays_has h.inv rs) ha
  rw [keys_filter] at hk
  have hall := run_all h.inv rs hk.inv
  have hc : (keepH H (stays H rs)).count = (stays H rs).length := by rw [← hk.inv.countAll, hall]
  exact ⟨hk, hall, hc, by have := hk.count; rw [hc] at this; simpa using this.symm⟩
/-- a second Run takes nothing -/
structure Same (words oops mark : Nat) (ks : List Key) (H H2 : HS) (M2 : MS) : Prop where
  ka : KA words oops mark ks H2 M2
  cnt : (H.count : Int) - H2.count = 0
  mem : (H.mem.length : Int) - H2.mem.length = 0
theorem same_of {words oops mark : Nat} {la : List OI} {H : HS} {M : MS} (h : KA words oops mark (la.map oiKey) H M) {roots : List Int} {rs rs2 : List Nat} (hs : Sr H M roots (rs, [])) (ha : H.age ≤ 999999999)
    (h2 : Sr (keepH H (stays H rs)) { M with things := keptTh M.things (stays H rs) } roots (rs2, [])) :
    Same words oops mark ((la.filter (inSt (stays H rs))).map oiKey) (keepH H (stays H rs)) (keepH (keepH H (stays H rs)) (stays (keepH H (stays H rs)) rs2)) { M with things := keptTh (keptTh M.things (stays H rs)) (stays (keepH H (stays H rs)) rs2) } := by
  have hl := left_of h hs (by omega)
  have hag : (keepH H (stays H rs)).age ≤ 1000000000 := by show H.age + 1 ≤ _; omega
  have hk2 := hl.ka.keep (stays (keepH H (stays H rs)) rs2) (stays_has hl.ka.inv rs2) hag
  have hk3 : KA words oops mark ((la.filter (inSt (stays H rs))).map oiKey) (keepH (keepH H (stays H rs)) (stays (keepH H (stays H rs)) rs2)) { M with things := keptTh (keptTh M.things (stays H rs)) (stays (keepH H (stays H rs)) rs2) } := by
    have e := keep_all_keys hl.ka
    rw [← again_all h.inv hs hl.ka.inv h2] at e
    rw [e] at hk2
    exact hk2
  have c1 := hl.ka.count
  have c2 := hk3.count
  have m1 := hl.ka.mem
  have m2 := hk3.mem
  exact ⟨hk3, by omega, by omega⟩
end Go.Proofs.YtkmjimdaimbdfaaDoor


namespace Go.Proofs.YtkmjimdaimbdfaaDoor
open Go.RowKit
set_option linter.unusedVariables false
theorem SRep.fr {w w' : World} {base : Nat} {ov : Value} {l : List OS} {S : List Nat} (h : SRep w base ov l) (hf : Fr S w w') (hd : ∀ g ∈ S, g < base) : SRep w' base ov l :=
  ⟨own_congr h.row fun g hg => hf.block g (h.row.lt g hg).2 (fun hm => by have h1 := (h.row.lt g hg).1; have h2 := hd g hm; omega), fun o ho => own_congr (h.slots o ho) fun g hg => hf.block g ((h.slots o ho).lt g hg).2 (fun hm => by have h1 := ((h.slots o ho).lt g hg).1; have h2 := hd g hm; omega)⟩
theorem KA.slots {words oops mark : Nat} {ks : List Key} {H : HS} {M : MS} (h : KA words oops mark ks H M) : ∀ k ∈ ks, k.2.2.2.length ≤ 8192 := fun k hk => by
  obtain ⟨b0, b1, b2, b3, b4⟩ := h.at_ k hk
  have := h.inv.model.slots _ (there_lt b1)
  rw [b4] at this
  omega
theorem KA.klen {words oops mark : Nat} {ks : List Key} {H : HS} {M : MS} (h : KA words oops mark ks H M) : ks.length ≤ 65538 := by
  have h1 := h.count
  have h2 := h.inv.countAll
  have h3 := allTo_len H H.seats.length
  have h4 := h.inv.told.seats
  omega
/-- what State tells, by keys -/
structure Tld (w : World) (base : Nat) (ov : Value) (lo : List OS) (ks : List Key) : Prop where
  rep : SRep w base ov lo
  keys : (lo.map toOI).map oiKey = ks
  len : ks.length ≤ 65538
  slots : ∀ k ∈ ks, k.2.2.2.length ≤ 8192
theorem Tld.fr {w w' : World} {base : Nat} {ov : Value} {lo : List OS} {ks : List Key} {S : List Nat} (h : Tld w base ov lo ks) (hf : Fr S w w') (hd : ∀ g ∈ S, g < base) : Tld w' base ov lo ks :=
  ⟨h.rep.fr hf hd, h.keys, h.len, h.slots⟩
theorem Tld.sat {w : World} {base : Nat} {ov : Value} {lo : List OS} {ks : List Key} (h : Tld w base ov lo ks) : SAt w ov (lo.map toOI) := by
  have hll : lo.length = ks.length := by rw [← h.keys]; simp
  have hl := h.len
  refine h.rep.sat (by omega) (fun o ho => ?_)
  have h1 : oiKey (toOI o) ∈ ks := by rw [← h.keys]; exact List.mem_map_of_mem (List.mem_map_of_mem ho)
  have := h.slots _ h1
  have e : (oiKey (toOI o)).2.2.2 = o.slots := rfl
  rw [e] at this
  omega
theorem state_of {words oops mark : Nat} {ks : List Key} {H : HS} {M : MS} {a : Nat} {l : Lay} {w : World} (hr : Rep w a l H) (h : KA words oops mark ks H M) :
    Calls Tryd.prog 15 #[.pointer (some ⟨a, 0, none⟩)] w fun e w' => ∃ p c lo, e = .returned (.agg #[.int .i64 (words : Int), .int .i64 (oops : Int), .int .i64 (mark : Int), .slice p ks.length c]) ∧ Tld w' w.heap.size (.slice p ks.length c) lo ks ∧ Fr [] w w' := by
  refine (State_ok a l H M w hr h.inv.toInvV).mono ?_
  rintro e w' ⟨ov, ls, rfl, hs, hk, hf⟩
  have hkk : (ls.map toOI).map oiKey = ks := by
    rw [← h.st, ← hk, List.map_map, List.map_map]; rfl
  have hll : ls.length = ks.length := by rw [← hkk]; simp
  have ht : Tld w' w.heap.size ov ls ks := ⟨hs, hkk, h.klen, h.slots⟩
  obtain ⟨p, c, e1, -⟩ := ht.sat.at_
  rw [List.length_map, hll] at e1
  subst e1
  exact ⟨p, c, ls, by rw [h.words, h.oops, h.mark], ht, hf⟩
end Go.Proofs.YtkmjimdaimbdfaaDoor


namespace Go.Proofs.YtkmjimdaimbdfaaDoor
open Go.RowKit
set_option linter.unusedVariables false
attribute [local go_sem ↓] Go.wp_at_zero Go.wp_at_succ
/-- what the document's heap has, by keys -/
structure RK (words oops mark : Nat) (ks : List Key) (N : Nat) (R : RS) : Prop where
  words : R.words = words
  oops : R.oops = oops
  mark : R.mark = mark
  keys : R.objs.map roKey = ks
  fin : (rEnd R.objs : Int) = endK ks
  slots : ∀ o ∈ R.objs, o.place ≤ 1048576 ∧ o.slots.length ≤ 8192
  own : ∀ o ∈ R.objs, ∀ g, o.v.ownBlock = some g → g < N
  turn : R.turn ≤ 1000
theorem RK.len {words oops mark : Nat} {ks : List Key} {N : Nat} {R : RS} (h : RK words oops mark ks N R) : R.objs.length = ks.length := by rw [← h.keys, List.length_map]
theorem KA.has {words oops mark : Nat} {ks : List Key} {H : HS} {M : MS} (h : KA words oops mark ks H M) (oop : Int) : has H oop = ks.any fun x => x.1 == oop := by
  rw [h.inv.hasM]
  cases hb : ks.any (fun x => x.1 == oop) with
  | true =>
    obtain ⟨k, k1, k2⟩ := List.any_eq_true.1 hb
    have e : k.1 = oop := by simpa using k2
    obtain ⟨b0, b1, b2⟩ := h.at_ k k1
    rw [e] at b0 b1
    have := mhas_of (M := M) (oop.toNat - 1) (th_in b1) b1
    rwa [show ((oop.toNat - 1 : Nat) : Int) + 1 = oop from by omega] at this
  | false =>
    refine decide_eq_false (fun hc => ?_)
    obtain ⟨k, k1, k2⟩ := h.only (oop.toNat - 1) hc.2.2
    have : ks.any (fun x => x.1 == oop) = true := List.any_eq_true.2 ⟨k, k1, by rw [beq_iff_eq]; omega⟩
    rw [hb] at this
    simp at this
theorem KA.small {words oops mark : Nat} {ks : List Key} {H : HS} {M : MS} (h : KA words oops mark ks H M) : endK ks ≤ (words : Int) ∧ (words : Int) ≤ 1048576 ∧ (oops : Int) ≤ 65536 := by
  have h1 := h.mem
  have h2 := h.inv.safe.small
  have h3 := h2.mem
  have h4 := h2.words
  have h5 := h2.oops
  rw [h.words] at h3 h4
  rw [h.oops] at h5
  omega
theorem roD_mem {l : List RO} {k : Nat} (hk : k < l.length) : l.getD k noRO ∈ l := by rw [List.getD_eq_getElem?_getD, List.getElem?_eq_getElem hk]; exact List.getElem_mem hk
theorem rno_iff {R : RS} {ks : List Key} (h : R.objs.map roKey = ks) (z : Int) : ¬ RNo R z ↔ (ks.any fun x => x.1 == z) = true := by
  rw [List.any_eq_true]
  constructor
  · intro hn
    refine Classical.byContradiction fun hc => hn fun j hj e => hc ⟨roKey (R.objs.getD j noRO), by rw [← h]; exact List.mem_map_of_mem (roD_mem hj), by rw [beq_iff_eq]; exact e⟩
  · rintro ⟨k, k1, k2⟩ hno
    rw [← h] at k1
    obtain ⟨o, o1, rfl⟩ := List.mem_map.1 k1
    obtain ⟨i, i1, i2⟩ := List.getElem_of_mem o1
    refine hno i i1 ?_
    rw [List.getD_eq_getElem?_getD, List.getElem?_eq_getElem i1]
    show (R.objs[i].oop : Int) = z
    rw [i2]
    simpa [roKey] using k2
section
variable {words oops mark : Nat} {ks : List Key} {H : HS} {M : MS} {N : Nat} {R : RS}
theorem twin_tw (h : KA words oops mark ks H M) (hr : RK words oops mark ks N R) : Tw H M R := by
  refine ⟨fun z => by rw [rno_iff hr.keys, h.has], fun k hk => ?_⟩
  have hm : roKey (R.objs.getD k noRO) ∈ ks := by rw [← hr.keys]; exact List.mem_map_of_mem (roD_mem hk)
  obtain ⟨b0, b1, b2, b3, b4⟩ := h.at_ _ hm
  have e : (roKey (R.objs.getD k noRO)).1.toNat = (R.objs.getD k noRO).oop := rfl
  rw [e] at b1 b2 b3 b4
  unfold lk leadsOf
  have b5 : (M.things.getD ((R.objs.getD k noRO).oop - 1) noTh).fmt = (R.objs.getD k noRO).fmt := by
    have : ((M.things.getD ((R.objs.getD k noRO).oop - 1) noTh).fmt : Int) = ((R.objs.getD k noRO).fmt : Int) := b3
    omega
  rw [b2, b4, b5]
  rfl
theorem twin_one (h : KA words oops mark ks H M) (hr : RK words oops mark ks N R) : ∀ q j k, RIs R q j → RIs R q k → j = k := by
  intro q j k ⟨j1, j2⟩ ⟨k1, k2⟩
  have hn := h.nodup
  rw [← hr.keys, List.map_map] at hn
  refine Classical.byContradiction fun hne => ?_
  have key : ∀ i (hi : i < R.objs.length), ((R.objs.map ((fun k : Key => k.1.toNat) ∘ roKey))[i]'(by simpa using hi)) = (R.objs.getD i noRO).oop := fun i hi => by
    rw [List.getElem_map, List.getD_eq_getElem?_getD, List.getElem?_eq_getElem hi]; rfl
  rcases Nat.lt_or_gt_of_ne hne with hlt | hlt
  · have := List.pairwise_iff_getElem.1 hn j k (by simpa using j1) (by simpa using k1) hlt
    rw [key j j1, key k k1] at this
    omega
  · have := List.pairwise_iff_getElem.1 hn k j (by simpa using k1) (by simpa using j1) hlt
    rw [key j j1, key k k1] at this
    omega
theorem twin_ras (h : KA words oops mark ks H M) (hr : RK words oops mark ks N R) : RAs R (allTo H H.seats.length) := by
  have hse := h.inv.told.seats
  refine ⟨?_, fun q => ?_, ?_, fun q hq => ?_⟩
  · unfold allTo
    exact List.Pairwise.filter _ List.pairwise_lt_range
  · rw [rno_iff hr.keys, ← h.has]
    exact ⟨fun hq => all_has h.inv hq, fun hq => has_all hq⟩
  · rw [h.inv.countAll, h.count, hr.len]
  · have h1 := (mem_all h.inv q).1 hq
    have h2 := List.mem_range.1 (List.mem_filter.1 hq).1
    omega
theorem RK.ok (hr : RK words oops mark ks N R) (h : KA words oops mark ks H M) : ROk R :=
  ⟨by have := h.klen; have := hr.len; omega, hr.slots⟩
/-- the keys that stay -/
def keepK (ks : List Key) (st : List Nat) : List Key := ks.filter fun k => decide (k.1.toNat ∈ st)
/-- what the roots lead to -/
def Sts (H : HS) (M : MS) (roots : List Int) (st : List Nat) : Prop := ∃ rs, Sr H M roots (rs, []) ∧ st = stays H rs
theorem Sts.one {roots : List Int} {s1 s2 : List Nat} (h1 : Sts H M roots s1) (h2 : Sts H M roots s2) : s1 = s2 := by
  obtain ⟨r1, a1, rfl⟩ := h1
  obtain ⟨r2, a2, rfl⟩ := h2
  exact sr_same a1 a2
/-- the program's Run, by keys -/
theorem run_tw {a : Nat} {l : Lay} {w : World} (p : Option Addr) (c : Nat) (roots : List Int) (hR : Rep w a l H) (h : KA words oops mark ks H M) (hage : H.age ≤ 1000) (hT : Tab w) (hr : Rd w (.slice p roots.length c) roots) :
    Calls Tryd.prog 51 #[.pointer (some ⟨a, 0, none⟩), .slice p roots.length c] w fun e w' => ∃ st H' M', Sts H M roots st ∧ e = .returned (.tuple #[.int .i64 ((ks.length : Int) - (keepK ks st).length), .int .i64 (endK ks - endK (keepK ks st)), .int .i64 0]) ∧ Rep w' a l H' ∧ KA words oops mark (keepK ks st) H' M' ∧ H'.age = H.age + 1 ∧ Nx a l l w w' := by
  refine (Run_ok a l H M p c roots w hR h.inv hT hr (by omega)).mono ?_
  rintro e w' ⟨rs, hs, rfl, hrep, hinv, hnx⟩
  have hk := h.keep (stays H rs) (stays_has h.inv rs) (by omega)
  refine ⟨stays H rs, _, _, ⟨rs, hs, rfl⟩, ?_, hrep, hk, rfl, hnx⟩
  have c1 := h.count
  have c2 := hk.count
  have m1 := h.mem
  have m2 := hk.mem
  unfold keepK
  rw [c1, c2, m1, m2]
/-- the document's Run, by keys -/
theorem rKept_rk (h : KA words oops mark ks H M) (hr : RK words oops mark ks N R) (st : List Nat) (v : Value) (ht : R.turn ≤ 999) : RK words oops mark (keepK ks st) N (rKept R st v) := by
  have hkk : (kst st R.objs).1.map roKey = keepK ks st := by rw [kst_keys, hr.keys]; rfl
  refine ⟨hr.words, hr.oops, hr.mark, hkk, ?_, fun o ho => ?_, fun o ho g hg => ?_, by show R.turn + 1 ≤ 1000; omega⟩
  · show (rEnd (kst st R.objs).1 : Int) = _
    rw [kst_end, kst_endK, hkk]
  · obtain ⟨x, x1, x2, x3, x4, x5, x6, x7, x8⟩ := kst_from st R.objs o ho
    rw [x5]
    refine ⟨?_, (hr.slots x x1).2⟩
    have h1 := kst_le st R.objs
    rw [hr.keys] at h1
    have := h.small
    omega
  · obtain ⟨x, x1, x2, x3, x4, x5, x6, x7, x8⟩ := kst_from st R.objs o ho
    rw [x6] at hg
    exact hr.own x x1 g hg
end
end Go.Proofs.YtkmjimdaimbdfaaDoor

namespace Go.Proofs.YtkmjimdaimbdfaaDoor
open Go.RowKit
set_option linter.unusedVariables false
set_option linter.unusedSimpArgs false
/-- the lowest oop that is free -/
structure LowK (ks : List Key) (q : Nat) : Prop where
  pos : 1 ≤ q
  free : ∀ k ∈ ks, k.1 ≠ (q : Int)
  below : ∀ r : Nat, 1 ≤ r → r < q → ∃ k ∈ ks, k.1 = (r : Int)
theorem LowK.one {ks : List Key} {q r : Nat} (h : LowK ks q) (g : LowK ks r) : q = r := by
  rcases Nat.lt_trichotomy q r with e | e | e
  · obtain ⟨k, k1, k2⟩ := g.below q h.pos e
    exact absurd k2 (h.free k k1)
  · exact e
  · obtain ⟨k, k1, k2⟩ := h.below r g.pos e
    exact absurd k2 (g.free k k1)
theorem takeWhile_all (S : List Th) : ∀ j, j < (S.takeWhile (·.there)).length → (S.getD j noTh).there = true := by
  induction S with
  | nil => intro j hj; simp at hj
  | cons s S ih =>
    intro j hj
    rw [List.takeWhile_cons] at hj
    split at hj
    · rename_i hs
      cases j with
      | zero => simpa using hs
      | succ j =>
        have := ih j (by simpa using hj)
        simpa using this
    · simp at hj
theorem takeWhile_not (S : List Th) : (S.getD (S.takeWhile (·.there)).length noTh).there = false := by
  induction S with
  | nil => rfl
  | cons s S ih =>
    rw [List.takeWhile_cons]
    split
    · simpa using ih
    · rename_i hs
      simpa using hs
section
variable {words oops mark : Nat} {ks : List Key} {H : HS} {M : MS}
theorem KA.low (h : KA words oops mark ks H M) : LowK ks (lowTo M.things) := by
  unfold lowTo
  refine ⟨by omega, fun k hk e => ?_, fun r h1 h2 => ?_⟩
  · obtain ⟨b0, b1, -⟩ := h.at_ k hk
    have : k.1.toNat - 1 = (M.things.takeWhile (·.there)).length := by omega
    rw [this, takeWhile_not] at b1
    cases b1
  · have := takeWhile_all M.things (r - 1) (by omega)
    obtain ⟨k, k1, k2⟩ := h.only _ this
    exact ⟨k, k1, by omega⟩
/-- a new object -/
def newKey (q : Nat) (cl : Int) (n f : Nat) : Key := ((q : Int), cl, (f : Int), List.replicate n (newX f))
theorem KA.lay (h : KA words oops mark ks H M) (k : Nat) (hk : LowTo H.bits H.low k) (cl : Int) (n f : Nat) (hf : f ≤ 1) (hn : n ≤ 8192) (hr1 : H.count < H.oops) (hr2 : H.mem.length + lenN n f ≤ H.words) :
    KA words oops (mark - 1) (ks ++ [newKey (lowTo M.things) cl n f]) (layH { H with mark := H.mark - 1, low := k } (lowTo M.things) cl n f) { M with mark := M.mark - 1, things := putTh M.things (lowTo M.things - 1) ⟨true, cl, f, endTo M.things M.things.length, List.replicate n (newX f), none, 0⟩, pt := none, ct := 0 } := by
  have hI := h.inv.lay k hk cl n f none none 0 0 hf hn hr1 hr2
  have hlow := lowTo_le M.things
  have hL := h.low
  obtain ⟨q, hq⟩ : ∃ q, lowTo M.things = q + 1 := ⟨lowTo M.things - 1, by omega⟩
  rw [hq] at hI hlow hL ⊢
  rw [Nat.add_sub_cancel] at hI ⊢
  have hqs : q ≤ M.things.length := by omega
  have hg := fun i t => putTh_get M.things q i t hqs
  have hle : lenOf (n : Int) (f : Int) = (lenN n f : Nat) := lenOf_nat n f
  refine ⟨hI, h.words, h.oops, by show H.mark - 1 = _; rw [h.mark], ?_, ?_, fun x hx => ?_, fun i hi => ?_⟩
  · show H.order ++ [q + 1] = _
    rw [List.map_append, h.order]
    simp [newKey]
  · show ((H.mem ++ objCells cl n f).length : Int) = _
    rw [List.length_append, objCells_len cl n f hf, endK_append]
    have := h.mem
    simp only [endK, newKey, List.length_replicate]
    omega
  · rcases List.mem_append.1 hx with hx | hx
    · obtain ⟨b0, b1, b2, b3, b4⟩ := h.at_ x hx
      have hne : x.1.toNat - 1 ≠ q := fun e => hL.free x hx (by omega)
      show 1 ≤ x.1 ∧ ((putTh M.things q _).getD (x.1.toNat - 1) noTh).there = true ∧ ((putTh M.things q _).getD (x.1.toNat - 1) noTh).cls = x.2.1 ∧ (((putTh M.things q _).getD (x.1.toNat - 1) noTh).fmt : Int) = x.2.2.1 ∧ ((putTh M.things q _).getD (x.1.toNat - 1) noTh).slots = x.2.2.2
      rw [hg, if_neg hne]
      exact ⟨b0, b1, b2, b3, b4⟩
    · have e : x = newKey (q + 1) cl n f := by simpa using hx
      subst e
      have e2 : (newKey (q + 1) cl n f).1.toNat - 1 = q := by show ((q + 1 : Nat) : Int).toNat - 1 = q; omega
      show 1 ≤ (newKey (q + 1) cl n f).1 ∧ ((putTh M.things q _).getD ((newKey (q + 1) cl n f).1.toNat - 1) noTh).there = true ∧ ((putTh M.things q _).getD ((newKey (q + 1) cl n f).1.toNat - 1) noTh).cls = cl ∧ (((putTh M.things q _).getD ((newKey (q + 1) cl n f).1.toNat - 1) noTh).fmt : Int) = (f : Int) ∧ ((putTh M.things q _).getD ((newKey (q + 1) cl n f).1.toNat - 1) noTh).slots = List.replicate n (newX f)
      rw [e2, hg, if_pos rfl]
      exact ⟨by show (1 : Int) ≤ ((q + 1 : Nat) : Int); omega, rfl, rfl, rfl, rfl⟩
  · have hi' : ((putTh M.things q _).getD i noTh).there = true := hi
    rw [hg] at hi'
    by_cases e : i = q
    · exact ⟨_, List.mem_append.2 (.inr (List.mem_singleton.2 rfl)), by show ((q + 1 : Nat) : Int) = _; omega⟩
    · rw [if_neg e] at hi'
      obtain ⟨x, x1, x2⟩ := h.only i hi'
      exact ⟨x, List.mem_append.2 (.inl x1), x2⟩
/-- the mark alone -/
theorem KA.setMark (h : KA words oops mark ks H M) (n : Nat) (hn : n ≤ 1073741824) : KA words oops n ks { H with mark := n } { M with mark := n } :=
  ⟨h.inv.setMark n (by omega), h.words, h.oops, rfl, h.order, h.mem, h.at_, h.only⟩
/-- nothing that was there is another thing now -/
def Ext (M M' : MS) : Prop := M.things.length ≤ M'.things.length ∧ ∀ k, (M.things.getD k noTh).there = true → M'.things.getD k noTh = M.things.getD k noTh
theorem Ext.refl (M : MS) : Ext M M := ⟨Nat.le_refl _, fun _ _ => rfl⟩
theorem Ext.trans {A B C : MS} (h : Ext A B) (g : Ext B C) : Ext A C := ⟨Nat.le_trans h.1 g.1, fun k hk => by rw [g.2 k (by rw [h.2 k hk]; exact hk), h.2 k hk]⟩
/-- what an allocation answers -/
def aErrK (words oops mark : Nat) (ks : List Key) (cl n f : Int) : Int :=
  if isW cl = false ∨ isF f = false ∨ n < 0 then 1 else if 8192 < n then 22
  else if oops = ks.length ∨ (words : Int) - endK ks < lenOf n f then 23 else if mark = 1 then 24 else 0
theorem Nx.same {a : Nat} {l : Lay} {w w' : World} (h : Fr [] w w') : Nx a l l w w' := ⟨h.mono (by simp), fun g hg => .inl hg⟩
theorem alloc_at (cl n f : Int) (a : Nat) (l : Lay) (w : World) (hR : Rep w a l H) (h : KA words oops mark ks H M) (hT : Tab w) (hT2 : Tab64 w) (ha : 2 ≤ a) :
    Calls Tryd.prog 50 #[.pointer (some ⟨a, 0, none⟩), .int .i64 cl, .int .i64 n, .int .i64 f] w fun e w' =>
      (aErrK words oops mark ks cl n f ≠ 0 ∧ e = .returned (.tuple #[.int .i64 0, .int .i64 (aErrK words oops mark ks cl n f)]) ∧ ∃ H' M', Rep w' a l H' ∧ KA words oops (if aErrK words oops mark ks cl n f = 24 then 0 else mark) ks H' M' ∧ Ext M M' ∧ H'.age = H.age ∧ Nx a l l w w') ∨
      (aErrK words oops mark ks cl n f = 0 ∧ ∃ q l' H' M', LowK ks q ∧ e = .returned (.tuple #[.int .i64 (q : Int), .int .i64 0]) ∧ Rep w' a l' H' ∧ KA words oops (mark - 1) (ks ++ [newKey q cl n.toNat f.toNat]) H' M' ∧ Ext M M' ∧ H'.age = H.age ∧ Nx a l l' w w') := by
  have hs := h.inv.safe.small
  have hcnt := h.count
  have hmem := h.mem
  have hw := h.words
  have ho := h.oops
  have hm := h.mark
  by_cases c1 : isW cl = false ∨ isF f = false ∨ n < 0
  · have e1 : aErrK words oops mark ks cl n f = 1 := by unfold aErrK; rw [if_pos c1]
    rw [e1]
    exact (Alloc_arg cl n f a l H w hR hT c1).mono fun e w' ⟨h1, h2⟩ => .inl ⟨by decide, h1, H, M, by rw [h2]; exact hR, h, Ext.refl M, rfl, by rw [h2]; exact Nx.same (Fr.refl _ _)⟩
  have d1 : isW cl = true := by cases hh : isW cl with
    | true => rfl
    | false => exact absurd (.inl hh) c1
  have d2 : isF f = true := by cases hh : isF f with
    | true => rfl
    | false => exact absurd (.inr (.inl hh)) c1
  have d3 : 0 ≤ n := by
    rcases Int.lt_or_le n 0 with hh | hh
    · exact absurd (.inr (.inr hh)) c1
    · exact hh
  by_cases c2 : 8192 < n
  · have e1 : aErrK words oops mark ks cl n f = 22 := by unfold aErrK; rw [if_neg c1, if_pos c2]
    rw [e1]
    exact (Alloc_size cl n f a l H w hR hT d1 d2 c2).mono fun e w' ⟨h1, h2⟩ => .inl ⟨by decide, h1, H, M, by rw [h2]; exact hR, h, Ext.refl M, rfl, by rw [h2]; exact Nx.same (Fr.refl _ _)⟩
  have d4 : 0 ≤ f ∧ f ≤ 1 := by
    have : f = 0 ∨ f = 1 := by unfold isF at d2; simpa using d2
    omega
  obtain ⟨n', rfl⟩ : ∃ m : Nat, n = (m : Int) := ⟨n.toNat, by omega⟩
  obtain ⟨f', rfl⟩ : ∃ m : Nat, f = (m : Int) := ⟨f.toNat, by omega⟩
  have hle : lenOf (n' : Int) (f' : Int) = (lenN n' f' : Nat) := lenOf_nat n' f'
  by_cases c3 : oops = ks.length ∨ (words : Int) - endK ks < lenOf (n' : Int) (f' : Int)
  · have e1 : aErrK words oops mark ks cl n' f' = 23 := by unfold aErrK; rw [if_neg c1, if_neg c2, if_pos c3]
    rw [e1]
    refine (Alloc_full cl n' f' a l H w hR hs hT d1 (by omega) (by omega) ?_).mono fun e w' ⟨h1, k, h2⟩ => .inl ⟨by decide, h1, H, M, by rw [h2]; exact hR.keep (Fr.drewN [] _ _) (by simp), h, Ext.refl M, rfl, by rw [h2]; exact Nx.same (Fr.drewN [] _ _)⟩
    rcases c3 with c3 | c3
    · left; omega
    · right; omega
  have hr1 : H.count < H.oops := by
    have h1 := hs.count
    have : oops ≠ ks.length := fun e => c3 (.inl e)
    omega
  have hr2 : H.mem.length + lenN n' f' ≤ H.words := by
    have : ¬ (words : Int) - endK ks < lenOf (n' : Int) (f' : Int) := fun e => c3 (.inr e)
    omega
  by_cases c4 : mark = 1
  · have e1 : aErrK words oops mark ks cl n' f' = 24 := by unfold aErrK; rw [if_neg c1, if_neg c2, if_neg c3, if_pos c4]
    rw [e1]
    refine (Alloc_marked cl n' f' a l H w hR hs hT d1 (by omega) (by omega) hr1 hr2 (by rw [hm]; exact c4)).mono fun e w' ⟨h1, h2, h3⟩ => .inl ⟨by decide, h1, _, { M with mark := 0 }, h2, ?_, Ext.refl M, rfl, h3⟩
    rw [if_pos rfl]
    exact h.setMark 0 (by omega)
  · have e1 : aErrK words oops mark ks cl n' f' = 0 := by unfold aErrK; rw [if_neg c1, if_neg c2, if_neg c3, if_neg c4]
    rw [e1]
    refine (Alloc_ok cl n' f' a l H w hR h.inv.safe hT hT2 ha d1 (by omega) (by omega) hr1 hr2 (by rw [hm]; exact c4)).mono fun e w' ⟨k, h1, h2, h3, l', h4, h5⟩ => .inr ⟨rfl, ?_⟩
    have hl := h.inv.lowest k h1 h2
    rw [hl] at h3 h4
    refine ⟨_, l', _, _, h.low, h3, h4, h.lay k h1 cl n' f' (by omega) (by omega) hr1 hr2, ?_, rfl, h5⟩
    have hlow := lowTo_le M.things
    have hfree := (lowTo_free M.things).1
    have hqs : lowTo M.things - 1 ≤ M.things.length := by omega
    refine ⟨?_, fun i hi => ?_⟩
    · show M.things.length ≤ (putTh M.things _ _).length
      rw [putTh_length M.things _ _ hqs]
      omega
    · show (putTh M.things _ _).getD i noTh = _
      rw [putTh_get M.things _ i _ hqs, if_neg]
      intro e
      rw [e, hfree] at hi
      cases hi
end
end Go.Proofs.YtkmjimdaimbdfaaDoor

namespace Go.Proofs.YtkmjimdaimbdfaaDoor
open Go.RowKit
set_option linter.unusedVariables false
set_option linter.unusedSimpArgs false
theorem backTo_mark (H : HS) (T m : Nat) : ∀ j, backTo { H with mark := m } T j = { backTo H T j with mark := m }
  | 0 => rfl
  | j + 1 => by
    show vacH (backTo { H with mark := m } T j) (H.order.getD (T + j) 0) = { vacH (backTo H T j) (H.order.getD (T + j) 0) with mark := m }
    rw [backTo_mark H T m j]
    rfl
theorem backTo_marked (H : HS) (T j : Nat) : (backTo H T j).mark = H.mark := by
  have h := backTo_mark H T H.mark j
  have e : ({ H with mark := H.mark } : HS) = H := rfl
  rw [e] at h
  rw [h]
section
variable {words oops m0 m1 : Nat} {ks new : List Key} {H0 H : HS} {M0 M : MS}
theorem KA.olen {mark : Nat} (h : KA words oops mark ks H M) : H.order.length = ks.length := by rw [h.order, List.length_map]
theorem KA.oget {mark : Nat} (h : KA words oops mark ks H M) (j : Nat) (hj : j < ks.length) : H.order.getD j 0 = (ks[j]).1.toNat := by
  rw [h.order, List.getD_eq_getElem?_getD, List.getElem?_map, List.getElem?_eq_getElem hj]
  rfl
/-- what was allocated is given back -/
theorem KA.back (h0 : KA words oops m0 ks H0 M0) (h : KA words oops m1 (ks ++ new) H M) (hage : H.age = H0.age) (hx : Ext M0 M) (ha : H.age ≤ 1000000000) (hm1 : m1 ≤ 1073741824) :
    BackOk H ks.length ∧ ∃ t e0 M2, DrawOk (backTo H ks.length (H.order.length - ks.length)) t e0 ∧ KA words oops m1 ks { drawH (backTo H ks.length (H.order.length - ks.length)) t e0 with age := H.age + 1 } M2 := by
  have b0 := h0.setMark 0 (by omega)
  have bz := h.setMark 0 (by omega)
  have hT : H0.order.length = ks.length := h0.olen
  have hL : H.order.length = ks.length + new.length := by rw [h.olen, List.length_append]
  have hbh : Behind { H0 with mark := 0 } { M0 with mark := 0 } { H with mark := 0 } { M with mark := 0 } := by
    refine ⟨bz.inv, hage, h.words.trans h0.words.symm, h.oops.trans h0.oops.symm, rfl, ?_, fun j hj => ?_, fun j h1 h2 => ?_, hx.1, hx.2⟩
    · show H0.order.length ≤ H.order.length
      omega
    · show H.order.getD j 0 = H0.order.getD j 0
      have hj' : j < H0.order.length := hj
      rw [h.oget j (by simp; omega), h0.oget j (by omega), List.getElem_append_left (by omega)]
    · show H.order.getD j 0 ≠ 0
      have h2' : j < H.order.length := h2
      rw [h.oget j (by simp; omega)]
      have := (h.at_ _ (List.getElem_mem (by simp; omega : j < (ks ++ new).length))).1
      omega
  have hbo := hbh.backOk b0.inv (by show (H.age : Int) ≤ 1000000000; omega)
  obtain ⟨X0, -, -, -, g4, g5, g6, -⟩ := hbh.backs b0.inv (H.order.length - ks.length) (by show H0.order.length + _ ≤ H.order.length; omega)
  obtain ⟨t, e0, M2, hd, hinv, hagr, -, hw, ho, -⟩ := hbh.back b0.inv rfl
  have eT : ({ H0 with mark := 0 } : HS).order.length = ks.length := hT
  have eL : ({ H with mark := 0 } : HS).order.length = H.order.length := rfl
  rw [eT] at hbo g4 g5 g6 hd hinv hw ho
  rw [eL] at hd hinv hw ho g4
  obtain ⟨X, hX⟩ : ∃ X, X = backTo H ks.length (H.order.length - ks.length) := ⟨_, rfl⟩
  have eX : backTo { H with mark := 0 } ks.length (H.order.length - ks.length) = { X with mark := 0 } := by rw [backTo_mark, hX]
  rw [eX] at hd hinv hw ho g4 g5 g6
  have mX : X.mark = m1 := by rw [hX, backTo_marked, h.mark]
  have htT : ks.length = t := drawn_t hd (by show ks.length ≤ X.order.length; have : X.order.length = H.order.length := g4; omega) (fun j h1 h2 => by
    have h3 : j < X.order.length := h2
    have h4 : X.order.length = H.order.length := g4
    exact g6 j h1 (by omega)) (fun hp => by
    have e := g5 (ks.length - 1) (.inl (by omega))
    show X.order.getD (ks.length - 1) 0 ≠ 0
    have e2 : X.order.getD (ks.length - 1) 0 = H.order.getD (ks.length - 1) 0 := e
    rw [e2, h.oget _ (by simp; omega)]
    have := (h.at_ _ (List.getElem_mem (by simp; omega : ks.length - 1 < (ks ++ new).length))).1
    omega)
  refine ⟨⟨hbo.t, fun j hj => ?_, hbo.r1, hbo.a1⟩, t, e0, { M2 with mark := m1 }, ?_, ?_⟩
  · obtain ⟨v1, v2, v3⟩ := hbo.vac j hj
    rw [backTo_mark] at v1 v2 v3
    exact ⟨⟨v1.1, v1.2, v1.3, v1.4, v1.5, v1.6, v1.7, v1.8, v1.9, v1.10, v1.11, v1.12, v1.13, v1.14⟩, v2, v3⟩
  · rw [← hX]
    exact ⟨hd.t1, hd.t2, hd.t3, hd.t4, hd.e1, hd.e2, hd.m1, hd.r1, hd.s1⟩
  · rw [← hX]
    have hi2 := hinv.setMark m1 (by omega)
    have e : ({ drawH X t e0 with age := H.age + 1 } : HS) = { ({ drawH { X with mark := 0 } t e0 with age := ({ H with mark := 0 } : HS).age + 1 } : HS) with mark := m1 } := by
      unfold drawH
      cases X
      simp at mX
      subst mX
      rfl
    rw [e]
    refine ⟨hi2, ?_, ?_, rfl, ?_, ?_, fun k hk => ?_, fun i hi => ?_⟩
    · exact hw.trans h0.words
    · exact ho.trans h0.oops
    · show X.order.take t = _
      rw [← htT]
      refine List.ext_getElem (by
        rw [List.length_take, List.length_map]
        have : X.order.length = H.order.length := g4
        omega) fun i h1 h2 => ?_
      have hi : i < ks.length := by simpa using h2
      rw [List.getElem_take, List.getElem_map]
      have e1 : X.order.getD i 0 = H.order.getD i 0 := g5 i (.inl (by omega))
      rw [h.oget i (by simp; omega), List.getElem_append_left hi] at e1
      have h3 : i < X.order.length := by
        have : X.order.length = H.order.length := g4
        omega
      rw [List.getD_eq_getElem?_getD, List.getElem?_eq_getElem h3] at e1
      exact e1
    · have f1 := hinv.fin
      have f2 := hagr.endAll
      have f3 := h0.inv.fin
      have f4 := h0.mem
      have f5 : (X.mem.take e0).length = endTo M2.things M2.things.length := f1
      have f6 : endTo M2.things M2.things.length = endTo M0.things M0.things.length := f2
      show ((X.mem.take e0).length : Int) = _
      omega
    · obtain ⟨b1, b2, b3⟩ := h0.at_ k hk
      have := hagr.same (k.1.toNat - 1) b2
      show 1 ≤ k.1 ∧ (M2.things.getD (k.1.toNat - 1) noTh).there = true ∧ _
      have e2 : M2.things.getD (k.1.toNat - 1) noTh = M0.things.getD (k.1.toNat - 1) noTh := this
      rw [e2]
      exact ⟨b1, b2, b3⟩
    · have hi2 : (M2.things.getD i noTh).there = true := hi
      rw [hagr.there i] at hi2
      exact h0.only i hi2
theorem back_at {a : Nat} {l : Lay} {w : World} (hR : Rep w a l H) (h0 : KA words oops m0 ks H0 M0) (h : KA words oops m1 (ks ++ new) H M) (hage : H.age = H0.age) (hx : Ext M0 M) (ha : H.age ≤ 1000000000) (hm1 : m1 ≤ 1073741824) :
    Calls Tryd.prog 54 #[.pointer (some ⟨a, 0, none⟩), .agg #[.pointer (some ⟨a, 0, none⟩), .int .i64 (H.age : Int), .int .i64 (ks.length : Int)]] w fun e w' => e = .returned (.int .i64 0) ∧ ∃ H' M', Rep w' a l H' ∧ KA words oops m1 ks H' M' ∧ H'.age = H.age + 1 ∧ Nx a l l w w' := by
  obtain ⟨hb, t, e0, M2, hd, hk⟩ := h0.back h hage hx ha hm1
  exact (Back_ok ks.length t e0 a l H w hR hb hd).mono fun e w' ⟨h1, h2, h3⟩ => ⟨h1, _, M2, h2, hk, rfl, h3⟩
end
end Go.Proofs.YtkmjimdaimbdfaaDoor


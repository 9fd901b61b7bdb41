import Derived.Test.YtcoddjdicodmhaaDoorKHLdR
import Derived.Test.YtcoddjdicodmhaaDoorKHKeys
import Derived.Test.YtcoddjdicodmhaaDoorKHRefL
import Derived.Test.YtcoddjdicodmhaaDoorKHRefS
import Derived.Test.YtcoddjdicodmhaaDoorKHRefR
namespace Go.Proofs.YtcoddjdicodmhaaDoor
open Go.RowKit
set_option linter.unusedVariables false
/-- since V0 nothing was touched from block N on -/
def Aft (N : Nat) (V0 V : World) : Prop := ∃ S, Fr S V0 V ∧ ∀ b ∈ S, b < N
theorem Aft.refl (N : Nat) (V : World) : Aft N V V := ⟨[], Fr.refl _ _, by simp⟩
theorem Aft.fr {N : Nat} {V0 V V' : World} (h : Aft N V0 V) (hf : Fr [] V V') : Aft N V0 V' := by
  obtain ⟨S, h1, h2⟩ := h
  exact ⟨S, h1.trans hf (by simp), h2⟩
theorem Aft.step {N : Nat} {V0 V V' : World} {S : List Nat} (h : Aft N V0 V) (hf : Fr S V V') (hS : ∀ b ∈ S, b < N) : Aft N V0 V' := by
  obtain ⟨S0, h1, h2⟩ := h
  exact ⟨S0 ++ S, (h1.mono (fun b hb => .inl (List.mem_append_left _ hb))).trans hf (fun b hb => .inl (List.mem_append_right _ hb)), fun b hb => by
    rcases List.mem_append.1 hb with h | h
    · exact h2 b h
    · exact hS b h⟩
/-- what Load of such a state says -/
def LSpec (x y z : Int) (ks : List Key) (n : Int) (nl : Bool) (a b sx sy sz : Int) (ks' : List Key) : Prop :=
  (argBad x y z ∧ n = 1 ∧ nl = true ∧ a = 0 ∧ b = 0 ∧ sx = 0 ∧ sy = 0 ∧ sz = 0 ∧ ks' = []) ∨
  (¬ argBad x y z ∧ ¬ allK x.toNat y.toNat ks ∧ n = 27 ∧ nl = true ∧ a = 0 ∧ b = 0 ∧ sx = 0 ∧ sy = 0 ∧ sz = 0 ∧ ks' = []) ∨
  (¬ argBad x y z ∧ allK x.toNat y.toNat ks ∧ n = 0 ∧ nl = false ∧ a = x - endK ks ∧ b = y - (ks.length : Int) ∧ sx = x ∧ sy = y ∧ sz = z ∧ ks' = ks)
theorem LSpec.one {x y z : Int} {ks : List Key} {n n' : Int} {nl nl' : Bool} {a b sx sy sz a' b' sx' sy' sz' : Int} {k1 k2 : List Key} (h : LSpec x y z ks n nl a b sx sy sz k1) (h' : LSpec x y z ks n' nl' a' b' sx' sy' sz' k2) : n = n' ∧ nl = nl' ∧ a = a' ∧ b = b' ∧ sx = sx' ∧ sy = sy' ∧ sz = sz' ∧ k1 = k2 := by
  rcases h with ⟨h0, rfl, rfl, rfl, rfl, rfl, rfl, rfl, rfl⟩ | ⟨h0, h1, rfl, rfl, rfl, rfl, rfl, rfl, rfl, rfl⟩ | ⟨h0, h1, rfl, rfl, rfl, rfl, rfl, rfl, rfl, rfl⟩ <;>
  rcases h' with ⟨g0, rfl, rfl, rfl, rfl, rfl, rfl, rfl, rfl⟩ | ⟨g0, g1, rfl, rfl, rfl, rfl, rfl, rfl, rfl, rfl⟩ | ⟨g0, g1, rfl, rfl, rfl, rfl, rfl, rfl, rfl, rfl⟩ <;>
  first | contradiction | exact ⟨rfl, rfl, rfl, rfl, rfl, rfl, rfl, rfl⟩
/-- a pointer, nil or not -/
def PtrIs (v : Value) (nl : Bool) : Prop := (nl = true ∧ v = .pointer none) ∨ (nl = false ∧ ∃ a : Nat, v = .pointer (some ⟨a, 0, none⟩))
/-- a told state -/
def StAns (sx sy sz : Int) (ks : List Key) (V : World) (e : Ending) (w' : World) : Prop := ∃ ov ls, e = .returned (.agg #[.int .i64 sx, .int .i64 sy, .int .i64 sz, ov]) ∧ SAt w' ov ls ∧ ls.map oiKey = ks ∧ Fr [] V w'
structure TellsP (N : Nat) (V0 : World) (hv : Value) (a b sx sy sz : Int) (ks : List Key) : Prop where
  room : ∀ V, Aft N V0 V → Calls Tryd.prog 20 #[hv] V fun e w' => e = .returned (.tuple #[.int .i64 a, .int .i64 b]) ∧ Fr [] V w'
  state : ∀ V, Aft N V0 V → Calls Tryd.prog 23 #[hv] V (StAns sx sy sz ks V)
structure TellsR (N : Nat) (V0 : World) (hv : Value) (a b sx sy sz : Int) (ks : List Key) : Prop where
  room : ∀ V, Aft N V0 V → Calls Tryd.prog 21 #[hv] V fun e w' => e = .returned (.tuple #[.int .i64 a, .int .i64 b]) ∧ Fr [] V w'
  state : ∀ V, Aft N V0 V → Calls Tryd.prog 24 #[hv] V (StAns sx sy sz ks V)
theorem sat_nil (w : World) : SAt w (.slice none 0 0) [] := ⟨⟨none, 0, rfl, fun h => by simp at h⟩, by simp, by simp⟩
theorem tellsP_nil (N : Nat) (V0 : World) : TellsP N V0 (.pointer none) 0 0 0 0 0 [] :=
  ⟨fun V _ => Calls.mono (Room_nil V) (by rintro e w' ⟨rfl, rfl⟩; exact ⟨rfl, Fr.refl _ _⟩), fun V _ => Calls.mono (State_nil V) (by rintro e w' ⟨rfl, hf⟩; exact ⟨_, [], rfl, sat_nil _, rfl, hf⟩)⟩
theorem tellsR_nil (N : Nat) (V0 : World) : TellsR N V0 (.pointer none) 0 0 0 0 0 [] :=
  ⟨fun V _ => Calls.mono (rRoom_nil V) (by rintro e w' ⟨rfl, rfl⟩; exact ⟨rfl, Fr.refl _ _⟩), fun V _ => Calls.mono (rState_nil V) (by rintro e w' ⟨rfl, hf⟩; exact ⟨_, [], rfl, sat_nil _, rfl, hf⟩)⟩
theorem Lds.good {words oops mark : Nat} {ks : List Key} {H : HS} {M : MS} (h1 : (words : Int) ≤ 1048576) (h2 : (oops : Int) ≤ 65536) (hm : (mark : Int) ≤ 1073741824) (h : Lds { emptyH words oops with mark := mark } { emptyM words oops with mark := mark } ks H M) : allK words oops ks := by
  refine Lds.ind (C := fun ks _ _ => allK words oops ks) (fun i o ho => by simp at ho) ?_ h
  rintro ks H H' M M' q cls fmt ss h ht hl ih
  exact allK_snoc ih (by rw [← (h.kOf h1 h2 hm).takes]; exact ht)
def natKey (k : Nat × Int × Nat × List Int) : Key := ((k.1 : Int), k.2.1, (k.2.2.1 : Int), k.2.2.2)
theorem toOI_key (l : List OS) : (l.map toOI).map oiKey = (l.map osKey).map natKey := by rw [List.map_map, List.map_map]; rfl
/-- a told list, read -/
theorem SRep.told {w : World} {base : Nat} {ov : Value} {l : List OS} {ks : List Key} (h : SRep w base ov l) (hk : (l.map osKey).map natKey = ks) (hl : ks.length ≤ 1048576) (hs : ∀ k ∈ ks, k.2.2.2.length ≤ 8192) : SAt w ov (l.map toOI) ∧ (l.map toOI).map oiKey = ks := by
  have hll : l.length = ks.length := by rw [← hk]; simp
  refine ⟨h.sat (by omega) (fun o ho => ?_), by rw [toOI_key]; exact hk⟩
  have h1 : natKey (osKey o) ∈ ks := by rw [← hk]; exact List.mem_map_of_mem (List.mem_map_of_mem ho)
  have := hs _ h1
  have e : (natKey (osKey o)).2.2.2 = o.slots := rfl
  rw [e] at this
  omega
theorem allK_slots {words oops : Nat} {ks : List Key} (h : allK words oops ks) : ∀ k ∈ ks, k.2.2.2.length ≤ 8192 := by
  intro k hk
  obtain ⟨i, hi, he⟩ := List.getElem_of_mem hk
  have := takesK_yes (h i k (by rw [List.getElem?_eq_getElem hi, he]))
  have := this.2.2.2.2.2.1
  omega
theorem Load_tells (x y z : Int) (ov : Value) (la : List OI) (w : World) (ha : SAt w ov la) (hT : Tab w) (hT0 : 0 < w.heap.size) :
    Calls Tryd.prog 17 #[.agg #[.int .i64 x, .int .i64 y, .int .i64 z, ov]] w fun e w' => ∃ (hv : Value) (n : Int) (nl : Bool) (a b sx sy sz : Int) (ks : List Key), e = .returned (.tuple #[hv, .int .i64 n]) ∧ PtrIs hv nl ∧ LSpec x y z (la.map oiKey) n nl a b sx sy sz ks ∧ TellsP w.heap.size w' hv a b sx sy sz ks ∧ Fr [] w w' := by
  by_cases hb : argBad x y z
  · refine Calls.mono (Load_bad x y z ov w hb) ?_
    rintro e w' ⟨rfl, hf⟩
    exact ⟨_, 1, true, 0, 0, 0, 0, 0, [], rfl, .inl ⟨rfl, rfl⟩, .inl ⟨hb, rfl, rfl, rfl, rfl, rfl, rfl, rfl, rfl⟩, tellsP_nil _ _, hf⟩
  · have hb' : 0 ≤ x ∧ x ≤ 1048576 ∧ 0 ≤ y ∧ y ≤ 65536 ∧ 0 ≤ z ∧ z ≤ 1073741824 := by unfold argBad at hb; omega
    obtain ⟨xn, rfl⟩ : ∃ n : Nat, x = (n : Int) := ⟨x.toNat, by omega⟩
    obtain ⟨yn, rfl⟩ : ∃ n : Nat, y = (n : Int) := ⟨y.toNat, by omega⟩
    obtain ⟨zn, rfl⟩ : ∃ n : Nat, z = (n : Int) := ⟨z.toNat, by omega⟩
    refine Calls.mono (Load_any xn yn zn ov la w ha hT hT0 (by omega) (by omega) (by omega)) ?_
    rintro e w' (⟨l, H, M, rfl, hw⟩ | ⟨k, o, H, M, rfl, hf, ho, hlds, ht⟩)
    · have hlds := hw.lds
      rw [List.take_length] at hlds
      have hK := hlds.kOf (by omega) (by omega) (by omega)
      have hgood := hlds.good (by omega) (by omega) (by omega)
      have hsm := hK.inv.safe.small
      have hcnt := hK.count
      have hlen : (la.map oiKey).length ≤ 65536 := by have := hsm.count; have := hsm.oops; omega
      refine ⟨_, 0, false, (xn : Int) - endK (la.map oiKey), (yn : Int) - ((la.map oiKey).length : Int), xn, yn, zn, la.map oiKey, rfl, .inr ⟨rfl, _, rfl⟩, .inr (.inr ⟨hb, by simpa using hgood, rfl, rfl, rfl, rfl, rfl, rfl, rfl, rfl⟩), ⟨fun V hV => ?_, fun V hV => ?_⟩, hw.fr⟩
      · obtain ⟨S, h1, h2⟩ := hV
        have hR := hw.rep.keep h1 (fun g hg hS => by have := hw.new g hg; have := h2 g hS; omega)
        refine Calls.mono (Room_any _ l H V hR hsm) ?_
        rintro e w2 ⟨rfl, n, rfl⟩
        refine ⟨?_, Fr.drewN [] _ _⟩
        rw [hK.words, hK.oops, hK.mem, hcnt]
      · obtain ⟨S, h1, h2⟩ := hV
        have hR := hw.rep.keep h1 (fun g hg hS => by have := hw.new g hg; have := h2 g hS; omega)
        refine Calls.mono (State_ok _ l H M V hR hK.inv.toInvV) ?_
        rintro e w2 ⟨ov2, ls, rfl, hs, hkk, hf⟩
        obtain ⟨s1, s2⟩ := hs.told (ks := la.map oiKey) (by rw [hkk]; exact hK.st) (by omega) (allK_slots hgood)
        refine ⟨ov2, _, ?_, s1, s2, hf⟩
        rw [hK.words, hK.oops, hK.mark]
    · have hK := hlds.kOf (by omega) (by omega) (by omega)
      refine ⟨_, 27, true, 0, 0, 0, 0, 0, [], rfl, .inl ⟨rfl, rfl⟩, .inr (.inl ⟨hb, fun hall => ?_, rfl, rfl, rfl, rfl, rfl, rfl, rfl, rfl⟩), tellsP_nil _ _, hf⟩
      have h1 := hall k (oiKey o) (by rw [List.getElem?_map, ho]; rfl)
      rw [← List.map_take] at h1
      have h2 := hK.takes (oiKey o)
      have h3 : takesB H (oiKey o).1 (oiKey o).2.1 (oiKey o).2.2.1 (oiKey o).2.2.2 = false := ht
      rw [h3] at h2
      have h4 : takesK xn yn ((la.take k).map oiKey) (oiKey o) = true := by simpa using h1
      rw [← h2] at h4
      cases h4
theorem rLoad_tells (x y z : Int) (ov : Value) (la : List OI) (w : World) (ha : SAt w ov la) :
    Calls Tryd.prog 18 #[.agg #[.int .i64 x, .int .i64 y, .int .i64 z, ov]] w fun e w' => ∃ (hv : Value) (n : Int) (nl : Bool) (a b sx sy sz : Int) (ks : List Key), e = .returned (.tuple #[hv, .int .i64 n]) ∧ PtrIs hv nl ∧ LSpec x y z (la.map oiKey) n nl a b sx sy sz ks ∧ TellsR w.heap.size w' hv a b sx sy sz ks ∧ Fr [] w w' := by
  by_cases hb : argBad x y z
  · refine Calls.mono (rLoad_bad x y z ov w hb) ?_
    rintro e w' ⟨rfl, hf⟩
    exact ⟨_, 1, true, 0, 0, 0, 0, 0, [], rfl, .inl ⟨rfl, rfl⟩, .inl ⟨hb, rfl, rfl, rfl, rfl, rfl, rfl, rfl, rfl⟩, tellsR_nil _ _, hf⟩
  · have hb' : 0 ≤ x ∧ x ≤ 1048576 ∧ 0 ≤ y ∧ y ≤ 65536 ∧ 0 ≤ z ∧ z ≤ 1073741824 := by unfold argBad at hb; omega
    obtain ⟨xn, rfl⟩ : ∃ n : Nat, x = (n : Int) := ⟨x.toNat, by omega⟩
    obtain ⟨yn, rfl⟩ : ∃ n : Nat, y = (n : Int) := ⟨y.toNat, by omega⟩
    obtain ⟨zn, rfl⟩ : ∃ n : Nat, z = (n : Int) := ⟨z.toNat, by omega⟩
    refine Calls.mono (rLoad_any xn yn zn ov la w ha (by omega) (by omega) (by omega)) ?_
    rintro e w' (⟨R, rfl, hw⟩ | ⟨k, o, rfl, hf, ho, ht⟩)
    · have hof := hw.of
      rw [List.take_length] at hof
      have hok := hof.ok (by omega)
      have hfits := hof.fits
      have hfin := hof.fin
      have hlen := hof.len
      have htw := hof.twice
      refine ⟨_, 0, false, (xn : Int) - endK (la.map oiKey), (yn : Int) - ((la.map oiKey).length : Int), xn, yn, zn, la.map oiKey, rfl, .inr ⟨rfl, _, rfl⟩, .inr (.inr ⟨hb, by simpa using hof.good, rfl, rfl, rfl, rfl, rfl, rfl, rfl, rfl⟩), ⟨fun V hV => ?_, fun V hV => ?_⟩, hw.fr⟩
      · obtain ⟨S, h1, h2⟩ := hV
        have hR := hw.rep.keep h1 (fun g hg => .inl (by have := h2 g hg; omega))
        refine Calls.mono (rRoom_ok _ _ R V hR hok (by rw [hof.eWords]; omega) (by rw [hof.eOops]; omega) (by rw [hfin]; omega)) ?_
        rintro e w2 ⟨rfl, hf⟩
        refine ⟨?_, hf⟩
        rw [hof.eWords, hof.eOops, hfin, hlen]
      · obtain ⟨S, h1, h2⟩ := hV
        have hR := hw.rep.keep h1 (fun g hg => .inl (by have := h2 g hg; omega))
        refine Calls.mono (rState_ok _ _ R V hR hok) ?_
        rintro e w2 ⟨ov2, ls, rfl, hs, hkk, hf⟩
        obtain ⟨s1, s2⟩ := hs.told (ks := la.map oiKey) (by
          rw [hkk, ← hof.keys, List.map_map]
          rfl) (by omega) (allK_slots hof.good)
        refine ⟨ov2, _, ?_, s1, s2, hf⟩
        rw [hof.eWords, hof.eOops, hof.eMark]
    · refine ⟨_, 27, true, 0, 0, 0, 0, 0, [], rfl, .inl ⟨rfl, rfl⟩, .inr (.inl ⟨hb, fun hall => ?_, rfl, rfl, rfl, rfl, rfl, rfl, rfl, rfl⟩), tellsR_nil _ _, hf⟩
      have h1 := hall k (oiKey o) (by rw [List.getElem?_map, ho]; rfl)
      rw [← List.map_take] at h1
      have h4 : takesK xn yn ((la.take k).map oiKey) (oiKey o) = true := by simpa using h1
      rw [ht] at h4
      cases h4
end Go.Proofs.YtcoddjdicodmhaaDoor

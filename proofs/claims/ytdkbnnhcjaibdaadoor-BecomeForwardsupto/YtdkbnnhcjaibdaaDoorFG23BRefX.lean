import Derived.Test.YtdkbnnhcjaibdaaDoorFG08HMSet
import Derived.BigQuiet
import Derived.Deep.RegionHeld3
import Derived.Test.YtdkbnnhcjaibdaaDoorFG19HLoadT
import Derived.Test.YtdkbnnhcjaibdaaDoorFG14CMeet
import Derived.Test.YtdkbnnhcjaibdaaDoorFHRefL
import Derived.Test.YtdkbnnhcjaibdaaDoorFHRefS
import Derived.Test.YtdkbnnhcjaibdaaDoorFG16RReach
import Derived.Test.YtdkbnnhcjaibdaaDoorFG07HRd
import Derived.Test.YtdkbnnhcjaibdaaDoorFG13HTakesM
import Derived.Test.YtdkbnnhcjaibdaaDoorFG10HInvG
namespace Go.Proofs.YtdkbnnhcjaibdaaDoor
open Go.RowKit
set_option linter.unusedVariables false
attribute [local go_sem ↓] Go.wp_at_zero Go.wp_at_succ
set_option maxRecDepth 20000 in
set_option maxHeartbeats 1000000 in
theorem rRoom_ok (B r : Nat) (R : RS) (w : World) (h : RRep w B r R) (ho : ROk R) (hw : (R.words : Int) ≤ 1048576) (hoo : (R.oops : Int) ≤ 65536) (he : (rEnd R.objs : Int) ≤ 1048576) :
    Calls Tryd.prog 89 #[.pointer (some ⟨r, 0, none⟩)] w fun e w' => e = .returned (.tuple #[.int .i64 ((R.words : Int) - (rEnd R.objs : Int)), .int .i64 ((R.oops : Int) - (R.objs.length : Int))]) ∧ Fr [] w w' := by
  obtain ⟨p, c, hov⟩ := h.ovIs
  have hl := ho.len
  have HR := mkHid h
  have KS : Hid (∀ W, Hid (Fr [] w W) → W.cell? ⟨r, 0, none⟩ = some (.int .i64 (R.words : Int)) ∧ W.cell? ⟨r, 1, none⟩ = some (.int .i64 (R.oops : Int)) ∧ W.cell? ⟨r, 5, none⟩ = some (.slice p R.objs.length c) ∧ Hid (Fr [] w W)) := by
    intro W hW
    have h2 := HR.out.idle hW.out
    exact ⟨by rw [h2.c]; rfl, by rw [h2.c]; rfl, by rw [h2.c, ← hov]; rfl, hW⟩
  have HEnd : Hid (∀ W, Hid (Fr [] w W) → Calls Tryd.prog 119 #[.pointer (some ⟨r, 0, none⟩)] W fun e w' => e = .returned (.int .i64 (rEnd R.objs : Nat)) ∧ Hid (Fr [] w w')) := by
    intro W hW
    refine Calls.mono (rend_any _ _ R W (HR.out.idle hW.out) ho) ?_
    rintro e w' ⟨rfl, hf⟩
    exact ⟨rfl, hW.out.trans hf (by simp)⟩
  have F0 : Hid (Fr [] w w) := Fr.refl _ _
  obtain ⟨c0, c1, c5, -⟩ := KS.out w F0
  generalize rEnd R.objs = EN at *
  have z1 : IntKind.i64.wrap ((R.words : Int) - (EN : Int)) = (R.words : Int) - (EN : Int) := by rw [iwrap]; unfold wrap64; omega
  have z2 : IntKind.i64.wrap ((R.oops : Int) - (R.objs.length : Int)) = (R.oops : Int) - (R.objs.length : Int) := by rw [iwrap]; unfold wrap64; omega
  clear h ho hov
  go_enter Tryd.func89, Tryd.ntmps89
  go_wp2_with fail
  go_region_held3 (fun w' => w'.cell? ⟨r, 0, none⟩ = some (.int .i64 (R.words : Int)) ∧ w'.cell? ⟨r, 1, none⟩ = some (.int .i64 (R.oops : Int)) ∧ w'.cell? ⟨r, 5, none⟩ = some (.slice p R.objs.length c) ∧ Hid (Fr [] w w')) (exact KS.out _ (by first | assumption | exact hid_drew (by assumption) | (go_split_ands; first | assumption | exact hid_drew (by assumption))))
    ((go_at_call 119; refine (HEnd.out _ (by first | assumption | exact hid_drew (by assumption) | (go_split_ands; first | assumption | exact hid_drew (by assumption)))).mono ?_; rintro e w' ⟨rfl, hf'⟩))
  have F3 : Hid (Fr [] w w') := by assumption
  go_wp2_with fail
  go_ret2
  exact ⟨rfl, F3.out⟩
end Go.Proofs.YtdkbnnhcjaibdaaDoor

namespace Go.Proofs.YtdkbnnhcjaibdaaDoor
open Go.RowKit
set_option linter.unusedVariables false
/-- since V0 nothing was touched from block N on -/
def Aft (N : Nat) (V0 V : World) : Prop := ∃ S, Fr S V0 V ∧ ∀ b ∈ S, b < N
theorem Aft.refl (N : Nat) (V : World) : Aft N V V := ⟨[], Fr.refl _ _, by simp⟩
theorem Aft.fr {N : Nat} {V0 V V' : World} (h : Aft N V0 V) (hf : Fr [] V V') : Aft N V0 V' := by
  obtain ⟨S, h1, h2⟩ := h
  exact ⟨S, h1.trans hf (by simp), h2⟩
theorem Aft.step {N : Nat} {V0 V V' : World} {S : List Nat} (h : Aft N V0 V) (hf : Fr S V V') (hS : ∀ b ∈ S, b < N) : Aft N V0 V' := by
  obtain ⟨S0, h1, h2⟩ := h
  exact ⟨S0 ++ S, (h1.mono (fun b hb => .inl (List.mem_append_left _ hb))).trans hf (fun b hb => .inl (List.mem_append_right _ hb)), fun b hb => by
    rcases List.mem_append.1 hb with h | h
    · exact h2 b h
    · exact hS b h⟩
/-- what Load of such a state says -/
def LSpec (x y z : Int) (ks : List Key) (n : Int) (nl : Bool) (a b sx sy sz : Int) (ks' : List Key) : Prop :=
  (argBad x y z ∧ n = 1 ∧ nl = true ∧ a = 0 ∧ b = 0 ∧ sx = 0 ∧ sy = 0 ∧ sz = 0 ∧ ks' = []) ∨
  (¬ argBad x y z ∧ ¬ allK x.toNat y.toNat ks ∧ n = 27 ∧ nl = true ∧ a = 0 ∧ b = 0 ∧ sx = 0 ∧ sy = 0 ∧ sz = 0 ∧ ks' = []) ∨
  (¬ argBad x y z ∧ allK x.toNat y.toNat ks ∧ n = 0 ∧ nl = false ∧ a = x - endK ks ∧ b = y - (ks.length : Int) ∧ sx = x ∧ sy = y ∧ sz = z ∧ ks' = ks)
theorem LSpec.one {x y z : Int} {ks : List Key} {n n' : Int} {nl nl' : Bool} {a b sx sy sz a' b' sx' sy' sz' : Int} {k1 k2 : List Key} (h : LSpec x y z ks n nl a b sx sy sz k1) (h' : LSpec x y z ks n' nl' a' b' sx' sy' sz' k2) : n = n' ∧ nl = nl' ∧ a = a' ∧ b = b' ∧ sx = sx' ∧ sy = sy' ∧ sz = sz' ∧ k1 = k2 := by
  rcases h with ⟨h0, rfl, rfl, rfl, rfl, rfl, rfl, rfl, rfl⟩ | ⟨h0, h1, rfl, rfl, rfl, rfl, rfl, rfl, rfl, rfl⟩ | ⟨h0, h1, rfl, rfl, rfl, rfl, rfl, rfl, rfl, rfl⟩ <;>
  rcases h' with ⟨g0, rfl, rfl, rfl, rfl, rfl, rfl, rfl, rfl⟩ | ⟨g0, g1, rfl, rfl, rfl, rfl, rfl, rfl, rfl, rfl⟩ | ⟨g0, g1, rfl, rfl, rfl, rfl, rfl, rfl, rfl, rfl⟩ <;>
  first | contradiction | exact ⟨rfl, rfl, rfl, rfl, rfl, rfl, rfl, rfl⟩
/-- a pointer, nil or not -/
def PtrIs (v : Value) (nl : Bool) : Prop := (nl = true ∧ v = .pointer none) ∨ (nl = false ∧ ∃ a : Nat, v = .pointer (some ⟨a, 0, none⟩))
/-- a told state -/
def StAns (sx sy sz : Int) (ks : List Key) (V : World) (e : Ending) (w' : World) : Prop := ∃ ov ls, e = .returned (.agg #[.int .i64 sx, .int .i64 sy, .int .i64 sz, ov]) ∧ SAt w' ov ls ∧ ls.map oiKey = ks ∧ Fr [] V w'
structure TellsP (N : Nat) (V0 : World) (hv : Value) (a b sx sy sz : Int) (ks : List Key) : Prop where
  room : ∀ V, Aft N V0 V → Calls Tryd.prog 31 #[hv] V fun e w' => e = .returned (.tuple #[.int .i64 a, .int .i64 b]) ∧ Fr [] V w'
  state : ∀ V, Aft N V0 V → Calls Tryd.prog 18 #[hv] V (StAns sx sy sz ks V)
structure TellsR (N : Nat) (V0 : World) (hv : Value) (a b sx sy sz : Int) (ks : List Key) : Prop where
  room : ∀ V, Aft N V0 V → Calls Tryd.prog 89 #[hv] V fun e w' => e = .returned (.tuple #[.int .i64 a, .int .i64 b]) ∧ Fr [] V w'
  state : ∀ V, Aft N V0 V → Calls Tryd.prog 27 #[hv] V (StAns sx sy sz ks V)
theorem sat_nil (w : World) : SAt w (.slice none 0 0) [] := ⟨⟨none, 0, rfl, fun h => by simp at h⟩, by simp, by simp⟩
theorem tellsP_nil (N : Nat) (V0 : World) : TellsP N V0 (.pointer none) 0 0 0 0 0 [] :=
  ⟨fun V _ => Calls.mono (Room_nil V) (by rintro e w' ⟨rfl, rfl⟩; exact ⟨rfl, Fr.refl _ _⟩), fun V _ => Calls.mono (State_nil V) (by rintro e w' ⟨rfl, hf⟩; exact ⟨_, [], rfl, sat_nil _, rfl, hf⟩)⟩
theorem tellsR_nil (N : Nat) (V0 : World) : TellsR N V0 (.pointer none) 0 0 0 0 0 [] :=
  ⟨fun V _ => Calls.mono (rRoom_nil V) (by rintro e w' ⟨rfl, rfl⟩; exact ⟨rfl, Fr.refl _ _⟩), fun V _ => Calls.mono (rState_nil V) (by rintro e w' ⟨rfl, hf⟩; exact ⟨_, [], rfl, sat_nil _, rfl, hf⟩)⟩
theorem Lds.good {words oops mark : Nat} {ks : List Key} {H : HS} {M : MS} (h1 : (words : Int) ≤ 1048576) (h2 : (oops : Int) ≤ 65536) (hm : (mark : Int) ≤ 1073741824) (h : Lds { emptyH words oops with mark := mark } { emptyM words oops with mark := mark } ks H M) : allK words oops ks := by
  refine Lds.ind (C := fun ks H M => allK words oops ks) ?_ ?_ h
  · exact fun i o ho => by simp at ho
  · rintro ks H H' M M' q cls fmt ss h ht hl ih
    exact allK_snoc ih (by rw [← (h.kOf h1 h2 hm).takes]; exact ht)
def natKey (k : Nat × Int × Nat × List Int) : Key := ((k.1 : Int), k.2.1, (k.2.2.1 : Int), k.2.2.2)
theorem toOI_key (l : List OS) : (l.map toOI).map oiKey = (l.map osKey).map natKey := by rw [List.map_map, List.map_map]; rfl
/-- a told list, read -/
theorem SRep.told {w : World} {base : Nat} {ov : Value} {l : List OS} {ks : List Key} (h : SRep w base ov l) (hk : (l.map osKey).map natKey = ks) (hl : ks.length ≤ 1048576) (hs : ∀ k ∈ ks, k.2.2.2.length ≤ 8192) : SAt w ov (l.map toOI) ∧ (l.map toOI).map oiKey = ks := by
  have hll : l.length = ks.length := by rw [← hk]; simp
  refine ⟨h.sat (by omega) (fun o ho => ?_), by rw [toOI_key]; exact hk⟩
  have h1 : natKey (osKey o) ∈ ks := by rw [← hk]; exact List.mem_map_of_mem (List.mem_map_of_mem ho)
  have := hs _ h1
  have e : (natKey (osKey o)).2.2.2 = o.slots := rfl
  rw [e] at this
  omega
theorem allK_slots {words oops : Nat} {ks : List Key} (h : allK words oops ks) : ∀ k ∈ ks, k.2.2.2.length ≤ 8192 := by
  intro k hk
  obtain ⟨i, hi, he⟩ := List.getElem_of_mem hk
  have := takesK_yes (h i k (by rw [List.getElem?_eq_getElem hi, he]))
  have := this.2.2.2.2.2.1
  omega
theorem Load_tells (x y z : Int) (ov : Value) (la : List OI) (w : World) (ha : SAt w ov la) (hT : Tab w) (hT0 : 0 < w.heap.size) :
    Calls Tryd.prog 17 #[.agg #[.int .i64 x, .int .i64 y, .int .i64 z, ov]] w fun e w' => ∃ (hv : Value) (n : Int) (nl : Bool) (a b sx sy sz : Int) (ks : List Key), e = .returned (.tuple #[hv, .int .i64 n]) ∧ PtrIs hv nl ∧ LSpec x y z (la.map oiKey) n nl a b sx sy sz ks ∧ TellsP w.heap.size w' hv a b sx sy sz ks ∧ Fr [] w w' := by
  by_cases hb : argBad x y z
  · refine Calls.mono (Load_bad x y z ov w hb) ?_
    rintro e w' ⟨rfl, hf⟩
    exact ⟨_, 1, true, 0, 0, 0, 0, 0, [], rfl, .inl ⟨rfl, rfl⟩, .inl ⟨hb, rfl, rfl, rfl, rfl, rfl, rfl, rfl, rfl⟩, tellsP_nil _ _, hf⟩
  · have hb' : 0 ≤ x ∧ x ≤ 1048576 ∧ 0 ≤ y ∧ y ≤ 65536 ∧ 0 ≤ z ∧ z ≤ 1073741824 := by unfold argBad at hb; omega
    obtain ⟨xn, rfl⟩ : ∃ n : Nat, x = (n : Int) := ⟨x.toNat, by omega⟩
    obtain ⟨yn, rfl⟩ : ∃ n : Nat, y = (n : Int) := ⟨y.toNat, by omega⟩
    obtain ⟨zn, rfl⟩ : ∃ n : Nat, z = (n : Int) := ⟨z.toNat, by omega⟩
    refine Calls.mono (Load_any xn yn zn ov la w ha hT hT0 (by omega) (by omega) (by omega)) ?_
    rintro e w' (⟨l, H, M, rfl, hw⟩ | ⟨k, o, H, M, rfl, hf, ho, hlds, ht⟩)
    · have hlds := hw.lds
      rw [List.take_length] at hlds
      have hK := hlds.kOf (by omega) (by omega) (by omega)
      have hgood := hlds.good (by omega) (by omega) (by omega)
      have hsm := hK.inv.safe.small
      have hcnt := hK.count
      have hlen : (la.map oiKey).length ≤ 65536 := by have := hsm.count; have := hsm.oops; omega
      refine ⟨_, 0, false, (xn : Int) - endK (la.map oiKey), (yn : Int) - ((la.map oiKey).length : Int), xn, yn, zn, la.map oiKey, rfl, .inr ⟨rfl, _, rfl⟩, .inr (.inr ⟨hb, by simpa using hgood, rfl, rfl, rfl, rfl, rfl, rfl, rfl, rfl⟩), ⟨fun V hV => ?_, fun V hV => ?_⟩, hw.fr⟩
      · obtain ⟨S, h1, h2⟩ := hV
        have hR := hw.rep.keep h1 (fun g hg hS => by have := hw.new g hg; have := h2 g hS; omega)
        refine Calls.mono (Room_any _ l H V hR hsm) ?_
        rintro e w2 ⟨rfl, n, rfl⟩
        refine ⟨?_, Fr.drewN [] _ _⟩
        rw [hK.words, hK.oops, hK.mem, hcnt]
      · obtain ⟨S, h1, h2⟩ := hV
        have hR := hw.rep.keep h1 (fun g hg hS => by have := hw.new g hg; have := h2 g hS; omega)
        refine Calls.mono (State_ok _ l H M V hR hK.inv.toInvV) ?_
        rintro e w2 ⟨ov2, ls, rfl, hs, hkk, hf⟩
        obtain ⟨s1, s2⟩ := hs.told (ks := la.map oiKey) (by rw [hkk]; exact hK.st) (by omega) (allK_slots hgood)
        refine ⟨ov2, _, ?_, s1, s2, hf⟩
        rw [hK.words, hK.oops, hK.mark]
    · have hK := hlds.kOf (by omega) (by omega) (by omega)
      refine ⟨_, 27, true, 0, 0, 0, 0, 0, [], rfl, .inl ⟨rfl, rfl⟩, .inr (.inl ⟨hb, fun hall => ?_, rfl, rfl, rfl, rfl, rfl, rfl, rfl, rfl⟩), tellsP_nil _ _, hf⟩
      have h1 := hall k (oiKey o) (by rw [List.getElem?_map, ho]; rfl)
      rw [← List.map_take] at h1
      have h2 := hK.takes (oiKey o)
      have h3 : takesB H (oiKey o).1 (oiKey o).2.1 (oiKey o).2.2.1 (oiKey o).2.2.2 = false := ht
      rw [h3] at h2
      have h4 : takesK xn yn ((la.take k).map oiKey) (oiKey o) = true := by simpa using h1
      rw [← h2] at h4
      cases h4
theorem rLoad_tells (x y z : Int) (ov : Value) (la : List OI) (w : World) (ha : SAt w ov la) :
    Calls Tryd.prog 99 #[.agg #[.int .i64 x, .int .i64 y, .int .i64 z, ov]] w fun e w' => ∃ (hv : Value) (n : Int) (nl : Bool) (a b sx sy sz : Int) (ks : List Key), e = .returned (.tuple #[hv, .int .i64 n]) ∧ PtrIs hv nl ∧ LSpec x y z (la.map oiKey) n nl a b sx sy sz ks ∧ TellsR w.heap.size w' hv a b sx sy sz ks ∧ Fr [] w w' := by
  by_cases hb : argBad x y z
  · refine Calls.mono (rLoad_bad x y z ov w hb) ?_
    rintro e w' ⟨rfl, hf⟩
    exact ⟨_, 1, true, 0, 0, 0, 0, 0, [], rfl, .inl ⟨rfl, rfl⟩, .inl ⟨hb, rfl, rfl, rfl, rfl, rfl, rfl, rfl, rfl⟩, tellsR_nil _ _, hf⟩
  · have hb' : 0 ≤ x ∧ x ≤ 1048576 ∧ 0 ≤ y ∧ y ≤ 65536 ∧ 0 ≤ z ∧ z ≤ 1073741824 := by unfold argBad at hb; omega
    obtain ⟨xn, rfl⟩ : ∃ n : Nat, x = (n : Int) := ⟨x.toNat, by omega⟩
    obtain ⟨yn, rfl⟩ : ∃ n : Nat, y = (n : Int) := ⟨y.toNat, by omega⟩
    obtain ⟨zn, rfl⟩ : ∃ n : Nat, z = (n : Int) := ⟨z.toNat, by omega⟩
    refine Calls.mono (rLoad_any xn yn zn ov la w ha (by omega) (by omega) (by omega)) ?_
    rintro e w' (⟨R, rfl, hw⟩ | ⟨k, o, rfl, hf, ho, ht⟩)
    · have hof := hw.of
      rw [List.take_length] at hof
      have hok := hof.ok (by omega)
      have hfits := hof.fits
      have hfin := hof.fin
      have hlen := hof.len
      have htw := hof.twice
      refine ⟨_, 0, false, (xn : Int) - endK (la.map oiKey), (yn : Int) - ((la.map oiKey).length : Int), xn, yn, zn, la.map oiKey, rfl, .inr ⟨rfl, _, rfl⟩, .inr (.inr ⟨hb, by simpa using hof.good, rfl, rfl, rfl, rfl, rfl, rfl, rfl, rfl⟩), ⟨fun V hV => ?_, fun V hV => ?_⟩, hw.fr⟩
      · obtain ⟨S, h1, h2⟩ := hV
        have hR := hw.rep.keep h1 (fun g hg => .inl (by have := h2 g hg; omega))
        refine Calls.mono (rRoom_ok _ _ R V hR hok (by rw [hof.eWords]; omega) (by rw [hof.eOops]; omega) (by rw [hfin]; omega)) ?_
        rintro e w2 ⟨rfl, hf⟩
        refine ⟨?_, hf⟩
        rw [hof.eWords, hof.eOops, hfin, hlen]
      · obtain ⟨S, h1, h2⟩ := hV
        have hR := hw.rep.keep h1 (fun g hg => .inl (by have := h2 g hg; omega))
        refine Calls.mono (rState_ok _ _ R V hR hok) ?_
        rintro e w2 ⟨ov2, ls, rfl, hs, hkk, hf⟩
        obtain ⟨s1, s2⟩ := hs.told (ks := la.map oiKey) (by
          rw [hkk, ← hof.keys, List.map_map]
          rfl) (by omega) (allK_slots hof.good)
        refine ⟨ov2, _, ?_, s1, s2, hf⟩
        rw [hof.eWords, hof.eOops, hof.eMark]
    · refine ⟨_, 27, true, 0, 0, 0, 0, 0, [], rfl, .inl ⟨rfl, rfl⟩, .inr (.inl ⟨hb, fun hall => ?_, rfl, rfl, rfl, rfl, rfl, rfl, rfl, rfl⟩), tellsR_nil _ _, hf⟩
      have h1 := hall k (oiKey o) (by rw [List.getElem?_map, ho]; rfl)
      rw [← List.map_take] at h1
      have h4 : takesK xn yn ((la.take k).map oiKey) (oiKey o) = true := by simpa using h1
      rw [ht] at h4
      cases h4
end Go.Proofs.YtdkbnnhcjaibdaaDoor

namespace Go.Proofs.YtdkbnnhcjaibdaaDoor
open Go.RowKit
set_option linter.unusedVariables false
theorem rise_eq : ∀ (l m : List Nat), l.Pairwise (· < ·) → m.Pairwise (· < ·) → (∀ x, x ∈ l ↔ x ∈ m) → l = m
  | [], [], _, _, _ => rfl
  | [], y :: m, _, _, h => by have := (h y).2 (by simp); simp at this
  | x :: l, [], _, _, h => by have := (h x).1 (by simp); simp at this
  | x :: l, y :: m, hl, hm, h => by
    obtain ⟨l1, l2⟩ := List.pairwise_cons.1 hl
    obtain ⟨m1, m2⟩ := List.pairwise_cons.1 hm
    have hx : x = y := by
      have a1 := (h x).1 (by simp)
      have a2 := (h y).2 (by simp)
      rcases List.mem_cons.1 a1 with e | a1
      · exact e
      · rcases List.mem_cons.1 a2 with e | a2
        · exact e.symm
        · have := m1 x a1; have := l1 y a2; omega
    subst hx
    congr 1
    refine rise_eq l m l2 m2 fun z => ?_
    constructor
    · intro hz
      have := (h z).1 (by simp [hz])
      rcases List.mem_cons.1 this with e | h2
      · have := l1 z hz; omega
      · exact h2
    · intro hz
      have := (h z).2 (by simp [hz])
      rcases List.mem_cons.1 this with e | h2
      · have := m1 z hz; omega
      · exact h2
/-- the fixed state of the laws -/
def aK : List Key := [(3, 8, 0, [4]), (1, 5, 0, [8]), (2, 5, 0, [4, 9])]
theorem aK_takes : ∀ (k : Nat) (o : Key), aK[k]? = some o → takesK 20 4 (aK.take k) o = true := by
  intro k o h
  have hk : k < 3 := (List.getElem?_eq_some_iff.1 h).1
  have : k = 0 ∨ k = 1 ∨ k = 2 := by omega
  rcases this with rfl | rfl | rfl
  · obtain rfl := Option.some.inj h; decide
  · obtain rfl := Option.some.inj h; decide
  · obtain rfl := Option.some.inj h; decide
theorem aK_lk {H : HS} {M : MS} (h : KA 20 4 0 aK H M) : lk M 1 = [5, 8] ∧ lk M 2 = [5, 4, 9] := by
  obtain ⟨-, -, b2, b3, b4⟩ := h.at_ (1, 5, 0, [8]) (by simp [aK])
  obtain ⟨-, -, c2, c3, c4⟩ := h.at_ (2, 5, 0, [4, 9]) (by simp [aK])
  unfold lk leadsOf
  have b3' : (M.things.getD (1 - 1) noTh).fmt = 0 := by have : ((M.things.getD (1 - 1) noTh).fmt : Int) = 0 := b3; omega
  have c3' : (M.things.getD (2 - 1) noTh).fmt = 0 := by have : ((M.things.getD (2 - 1) noTh).fmt : Int) = 0 := c3; omega
  have b2' : (M.things.getD (1 - 1) noTh).cls = 5 := b2
  have c2' : (M.things.getD (2 - 1) noTh).cls = 5 := c2
  have b4' : (M.things.getD (1 - 1) noTh).slots = [8] := b4
  have c4' : (M.things.getD (2 - 1) noTh).slots = [4, 9] := c4
  rw [b2', b3', b4', c2', c3', c4']
  exact ⟨rfl, rfl⟩
theorem aK_rs {H : HS} {M : MS} (h : KA 20 4 0 aK H M) {rs : List Nat} (hs : Sr H M [8] (rs, [])) (q : Nat) : q ∈ rs ↔ q = 1 ∨ q = 2 := by
  obtain ⟨e1, e2⟩ := aK_lk h
  have n1 : namesB H 4 = true := by
    unfold namesB
    rw [Bool.and_eq_true]
    exact ⟨by decide, h.hasK (1, 5, 0, [8]) (by simp [aK])⟩
  have n2 : namesB H 8 = true := by
    unfold namesB
    rw [Bool.and_eq_true]
    exact ⟨by decide, h.hasK (2, 5, 0, [4, 9]) (by simp [aK])⟩
  have n5 : ¬ namesB H 5 = true := by
    unfold namesB
    rw [Bool.and_eq_true]
    exact fun hc => absurd hc.1 (by decide)
  have n9 : ¬ namesB H 9 = true := by
    unfold namesB
    rw [Bool.and_eq_true]
    exact fun hc => absurd hc.1 (by decide)
  have r2 : 2 ∈ rs := hs.root 8 (by simp) n2
  have r1 : 1 ∈ rs := by
    rcases hs.on 2 r2 with h1 | h1
    · simp at h1
    · exact h1 4 (by rw [e2]; simp) n1
  refine ⟨fun hq => hs.least (fun q => q = 1 ∨ q = 2) ⟨fun z hz hb => ?_, fun p hp z hz hb => ?_⟩ q hq, fun hq => by rcases hq with rfl | rfl <;> assumption⟩
  · obtain rfl : z = 8 := by simpa using hz
    exact .inr rfl
  · rcases hp with rfl | rfl
    · rw [e1] at hz
      have : z = 5 ∨ z = 8 := by simpa using hz
      rcases this with rfl | rfl
      · exact absurd hb n5
      · exact .inr rfl
    · rw [e2] at hz
      have : z = 5 ∨ z = 4 ∨ z = 9 := by simpa using hz
      rcases this with rfl | rfl | rfl
      · exact absurd hb n5
      · exact .inl rfl
      · exact absurd hb n9
theorem aK_stays {H : HS} {M : MS} (h : KA 20 4 0 aK H M) {rs : List Nat} (hs : Sr H M [8] (rs, [])) : stays H rs = [1, 2] := by
  refine rise_eq _ _ ?_ (by decide) fun q => ?_
  · rw [stays_eq]; exact List.Pairwise.filter _ List.pairwise_lt_range
  · rw [mem_stays h.inv hs.there, aK_rs h hs]
    simp
theorem aK_kept {H : HS} {M : MS} (h : KA 20 4 0 aK H M) {rs : List Nat} (hs : Sr H M [8] (rs, [])) (ha : H.age ≤ 1000000000) :
    (H.count : Int) - (keepH H (stays H rs)).count = 1 ∧ (H.mem.length : Int) - (keepH H (stays H rs)).mem.length = 3 := by
  have h2 := h.keep (stays H rs) (stays_has h.inv rs) ha
  rw [aK_stays h hs] at h2 ⊢
  have c1 := h.count
  have c2 := h2.count
  have m1 := h.mem
  have m2 := h2.mem
  have e : (aK.filter fun k => decide (k.1.toNat ∈ [1, 2])) = [(1, 5, 0, [8]), (2, 5, 0, [4, 9])] := by decide
  rw [e] at c2 m2
  have e1 : endK aK = 10 := by decide
  have e2 : endK [(1, 5, 0, [8]), (2, 5, 0, [4, 9])] = 7 := by decide
  rw [e1] at m1
  rw [e2] at m2
  rw [m1, m2, c1, c2]
  exact ⟨by decide, by decide⟩
end Go.Proofs.YtdkbnnhcjaibdaaDoor

namespace Go.Proofs.YtdkbnnhcjaibdaaDoor
open Go.RowKit
set_option linter.unusedVariables false
theorem sr_same {H : HS} {M : MS} {roots : List Int} {rs rs2 : List Nat} (h : Sr H M roots (rs, [])) (h2 : Sr H M roots (rs2, [])) : stays H rs = stays H rs2 := by
  have cl : ∀ r : List Nat, Sr H M roots (r, []) → Cl H M roots (fun q => q ∈ r) := fun r hr => ⟨hr.root, fun q hq z hz hb => by
    rcases hr.on q hq with h1 | h1
    · simp at h1
    · exact h1 z hz hb⟩
  unfold stays
  refine List.filter_congr fun q _ => ?_
  rw [Bool.eq_iff_iff, decide_eq_true_eq, decide_eq_true_eq]
  exact ⟨h.least _ (cl rs2 h2) q, h2.least _ (cl rs h) q⟩
theorem filter_at {α : Type} (f : α → Bool) : ∀ (l : List α) (i : Nat) (o : α), l[i]? = some o → f o = true → (l.filter f)[((l.take i).filter f).length]? = some o
  | [], i, o, h, _ => by simp at h
  | x :: l, 0, o, h, hf => by
    have : x = o := by simpa using h
    subst this
    simp [hf]
  | x :: l, i + 1, o, h, hf => by
    have h1 : l[i]? = some o := by simpa using h
    have ih := filter_at f l i o h1 hf
    rw [List.take_succ_cons, List.filter_cons, List.filter_cons]
    by_cases hx : f x = true
    · rw [if_pos hx, if_pos hx, List.length_cons, List.getElem?_cons_succ]; exact ih
    · rw [if_neg hx, if_neg hx]; exact ih
/-- whether an object stays -/
def inSt (st : List Nat) (o : OI) : Bool := decide (o.oop.toNat ∈ st)
theorem keys_filter (la : List OI) (st : List Nat) : ((la.map oiKey).filter fun k => decide (k.1.toNat ∈ st)) = (la.filter (inSt st)).map oiKey := by
  rw [List.filter_map]; rfl
/-- how many of the first stay, and how many words they take -/
def keptN (la : List OI) (st : List Nat) (i : Nat) : Nat := ((la.take i).filter (inSt st)).length
def usedN (la : List OI) (st : List Nat) (i : Nat) : Int := endK (((la.take i).filter (inSt st)).map oiKey)
theorem take_some {la : List OI} {i : Nat} {o : OI} (h : la[i]? = some o) : la.take (i + 1) = la.take i ++ [o] := by rw [List.take_add_one, h]; rfl
theorem kept_yes {la : List OI} {st : List Nat} {i : Nat} {o : OI} (h : la[i]? = some o) (hf : inSt st o = true) : keptN la st (i + 1) = keptN la st i + 1 ∧ usedN la st (i + 1) = usedN la st i + lenOf (o.slots.length : Int) o.fmt := by
  unfold keptN usedN
  rw [take_some h, List.filter_append, List.filter_cons_of_pos hf, List.map_append, endK_append]
  exact ⟨by simp, by simp [endK, oiKey]⟩
theorem kept_no {la : List OI} {st : List Nat} {i : Nat} {o : OI} (h : la[i]? = some o) (hf : inSt st o = false) : keptN la st (i + 1) = keptN la st i ∧ usedN la st (i + 1) = usedN la st i := by
  unfold keptN usedN
  rw [take_some h, List.filter_append, List.filter_cons_of_neg (by rw [hf]; simp)]
  exact ⟨by simp, by simp⟩
theorem endK_nonneg : ∀ ks : List Key, 0 ≤ endK ks
  | [] => by simp [endK]
  | k :: t => by
    have := endK_nonneg t
    have h2 : 0 ≤ lenOf (k.2.2.2.length : Int) k.2.2.1 := by unfold lenOf; split <;> omega
    simp only [endK]
    omega
theorem used_le (la : List OI) (st : List Nat) (i : Nat) : 0 ≤ usedN la st i ∧ usedN la st i ≤ endK ((la.filter (inSt st)).map oiKey) := by
  unfold usedN
  refine ⟨endK_nonneg _, ?_⟩
  conv => rhs; rw [← List.take_append_drop i la, List.filter_append, List.map_append, endK_append]
  have := endK_nonneg (((la.drop i).filter (inSt st)).map oiKey)
  omega
theorem kept_le (la : List OI) (st : List Nat) (i : Nat) : keptN la st i ≤ (la.filter (inSt st)).length := by
  unfold keptN
  conv => rhs; rw [← List.take_append_drop i la, List.filter_append, List.length_append]
  omega
theorem kept_all (la : List OI) (st : List Nat) : keptN la st la.length = (la.filter (inSt st)).length ∧ usedN la st la.length = endK ((la.filter (inSt st)).map oiKey) := by
  unfold keptN usedN
  rw [List.take_length]
  exact ⟨rfl, rfl⟩
theorem srep_told {w : World} {base : Nat} {ov : Value} {l : List OS} {ks : List Key} (h : SRep w base ov l) (hk : (l.map osKey).map (fun k : Nat × Int × Nat × List Int => ((k.1 : Int), k.2.1, (k.2.2.1 : Int), k.2.2.2)) = ks) (hl : ks.length ≤ 1048576) (hs : ∀ k ∈ ks, k.2.2.2.length ≤ 1048576) : SAt w ov (l.map toOI) ∧ (l.map toOI).map oiKey = ks := by
  have hll : l.length = ks.length := by rw [← hk]; simp
  refine ⟨h.sat (by omega) (fun o ho => ?_), by rw [← hk, List.map_map, List.map_map]; rfl⟩
  have h1 : ((o.oop : Int), o.cls, (o.fmt : Int), o.slots) ∈ ks := by rw [← hk, List.map_map]; exact List.mem_map_of_mem (f := (fun k : Nat × Int × Nat × List Int => ((k.1 : Int), k.2.1, (k.2.2.1 : Int), k.2.2.2)) ∘ osKey) ho
  have := hs _ h1
  dsimp only at this
  omega
theorem zs_nodup {l : List Nat} (h : l.Nodup) : (zs l).Nodup := by
  unfold zs
  refine List.pairwise_map.2 (h.imp fun hab e => hab (by omega))
/-- what a Run leaves, by keys -/
structure Left (words oops mark : Nat) (la : List OI) (H : HS) (M : MS) (st : List Nat) : Prop where
  ka : KA words oops mark ((la.filter (inSt st)).map oiKey) (keepH H st) { M with things := keptTh M.things st }
  all : allTo (keepH H st) (keepH H st).seats.length = st
  cnt : (keepH H st).count = st.length
  len : (la.filter (inSt st)).length = st.length
theorem left_of {words oops mark : Nat} {la : List OI} {H : HS} {M : MS} (h : KA words oops mark (la.map oiKey) H M) {roots : List Int} {rs : List Nat} (hs : Sr H M roots (rs, [])) (ha : H.age ≤ 1000000000) : Left words oops mark la H M (stays H rs) := by
  have hk := h.keep (stays H rs) (stays_has h.inv rs) ha
  rw [keys_filter] at hk
  have hall := run_all h.inv rs hk.inv
  have hc : (keepH H (stays H rs)).count = (stays H rs).length := by rw [← hk.inv.countAll, hall]
  exact ⟨hk, hall, hc, by have := hk.count; rw [hc] at this; simpa using this.symm⟩
/-- a second Run takes nothing -/
structure Same (words oops mark : Nat) (ks : List Key) (H H2 : HS) (M2 : MS) : Prop where
  ka : KA words oops mark ks H2 M2
  cnt : (H.count : Int) - H2.count = 0
  mem : (H.mem.length : Int) - H2.mem.length = 0
theorem same_of {words oops mark : Nat} {la : List OI} {H : HS} {M : MS} (h : KA words oops mark (la.map oiKey) H M) {roots : List Int} {rs rs2 : List Nat} (hs : Sr H M roots (rs, [])) (ha : H.age ≤ 999999999)
    (h2 : Sr (keepH H (stays H rs)) { M with things := keptTh M.things (stays H rs) } roots (rs2, [])) :
    Same words oops mark ((la.filter (inSt (stays H rs))).map oiKey) (keepH H (stays H rs)) (keepH (keepH H (stays H rs)) (stays (keepH H (stays H rs)) rs2)) { M with things := keptTh (keptTh M.things (stays H rs)) (stays (keepH H (stays H rs)) rs2) } := by
  have hl := left_of h hs (by omega)
  have hag : (keepH H (stays H rs)).age ≤ 1000000000 := by show H.age + 1 ≤ _; omega
  have hk2 := hl.ka.keep (stays (keepH H (stays H rs)) rs2) (stays_has hl.ka.inv rs2) hag
  have hk3 : KA words oops mark ((la.filter (inSt (stays H rs))).map oiKey) (keepH (keepH H (stays H rs)) (stays (keepH H (stays H rs)) rs2)) { M with things := keptTh (keptTh M.things (stays H rs)) (stays (keepH H (stays H rs)) rs2) } := by
    have e := keep_all_keys hl.ka
    rw [← again_all h.inv hs hl.ka.inv h2] at e
    rw [e] at hk2
    exact hk2
  have c1 := hl.ka.count
  have c2 := hk3.count
  have m1 := hl.ka.mem
  have m2 := hk3.mem
  exact ⟨hk3, by omega, by omega⟩
end Go.Proofs.YtdkbnnhcjaibdaaDoor

namespace Go.Proofs.YtdkbnnhcjaibdaaDoor
open Go.RowKit
set_option linter.unusedVariables false
theorem SRep.fr {w w' : World} {base : Nat} {ov : Value} {l : List OS} {S : List Nat} (h : SRep w base ov l) (hf : Fr S w w') (hd : ∀ g ∈ S, g < base) : SRep w' base ov l :=
  ⟨own_congr h.row fun g hg => hf.block g (h.row.lt g hg).2 (fun hm => by have h1 := (h.row.lt g hg).1; have h2 := hd g hm; omega), fun o ho => own_congr (h.slots o ho) fun g hg => hf.block g ((h.slots o ho).lt g hg).2 (fun hm => by have h1 := ((h.slots o ho).lt g hg).1; have h2 := hd g hm; omega)⟩
theorem KA.slots {words oops mark : Nat} {ks : List Key} {H : HS} {M : MS} (h : KA words oops mark ks H M) : ∀ k ∈ ks, k.2.2.2.length ≤ 8192 := fun k hk => by
  obtain ⟨b0, b1, b2, b3, b4⟩ := h.at_ k hk
  have := h.inv.model.slots _ (there_lt b1)
  rw [b4] at this
  omega
theorem KA.klen {words oops mark : Nat} {ks : List Key} {H : HS} {M : MS} (h : KA words oops mark ks H M) : ks.length ≤ 65538 := by
  have h1 := h.count
  have h2 := h.inv.countAll
  have h3 := allTo_len H H.seats.length
  have h4 := h.inv.told.seats
  omega
/-- what State tells, by keys -/
structure Tld (w : World) (base : Nat) (ov : Value) (lo : List OS) (ks : List Key) : Prop where
  rep : SRep w base ov lo
  keys : (lo.map toOI).map oiKey = ks
  len : ks.length ≤ 65538
  slots : ∀ k ∈ ks, k.2.2.2.length ≤ 8192
theorem Tld.fr {w w' : World} {base : Nat} {ov : Value} {lo : List OS} {ks : List Key} {S : List Nat} (h : Tld w base ov lo ks) (hf : Fr S w w') (hd : ∀ g ∈ S, g < base) : Tld w' base ov lo ks :=
  ⟨h.rep.fr hf hd, h.keys, h.len, h.slots⟩
theorem Tld.sat {w : World} {base : Nat} {ov : Value} {lo : List OS} {ks : List Key} (h : Tld w base ov lo ks) : SAt w ov (lo.map toOI) := by
  have hll : lo.length = ks.length := by rw [← h.keys]; simp
  have hl := h.len
  refine h.rep.sat (by omega) (fun o ho => ?_)
  have h1 : oiKey (toOI o) ∈ ks := by rw [← h.keys]; exact List.mem_map_of_mem (List.mem_map_of_mem ho)
  have := h.slots _ h1
  have e : (oiKey (toOI o)).2.2.2 = o.slots := rfl
  rw [e] at this
  omega
theorem state_of {words oops mark : Nat} {ks : List Key} {H : HS} {M : MS} {a : Nat} {l : Lay} {w : World} (hr : Rep w a l H) (h : KA words oops mark ks H M) :
    Calls Tryd.prog 18 #[.pointer (some ⟨a, 0, none⟩)] w fun e w' => ∃ p c lo, e = .returned (.agg #[.int .i64 (words : Int), .int .i64 (oops : Int), .int .i64 (mark : Int), .slice p ks.length c]) ∧ Tld w' w.heap.size (.slice p ks.length c) lo ks ∧ Fr [] w w' := by
  refine (State_ok a l H M w hr h.inv.toInvV).mono ?_
  rintro e w' ⟨ov, ls, rfl, hs, hk, hf⟩
  have hkk : (ls.map toOI).map oiKey = ks := by
    rw [← h.st, ← hk, List.map_map, List.map_map]; rfl
  have hll : ls.length = ks.length := by rw [← hkk]; simp
  have ht : Tld w' w.heap.size ov ls ks := ⟨hs, hkk, h.klen, h.slots⟩
  obtain ⟨p, c, e1, -⟩ := ht.sat.at_
  rw [List.length_map, hll] at e1
  subst e1
  exact ⟨p, c, ls, by rw [h.words, h.oops, h.mark], ht, hf⟩
end Go.Proofs.YtdkbnnhcjaibdaaDoor

namespace Go.Proofs.YtdkbnnhcjaibdaaDoor
open Go.RowKit
set_option linter.unusedVariables false
attribute [local go_sem ↓] Go.wp_at_zero Go.wp_at_succ
/-- what the document's heap has, by keys -/
structure RK (words oops mark : Nat) (ks : List Key) (N : Nat) (R : RS) : Prop where
  words : R.words = words
  oops : R.oops = oops
  mark : R.mark = mark
  keys : R.objs.map roKey = ks
  fin : (rEnd R.objs : Int) = endK ks
  slots : ∀ o ∈ R.objs, o.place ≤ 1048576 ∧ o.slots.length ≤ 8192
  own : ∀ o ∈ R.objs, ∀ g, o.v.ownBlock = some g → g < N
  turn : R.turn ≤ 1000
theorem RK.len {words oops mark : Nat} {ks : List Key} {N : Nat} {R : RS} (h : RK words oops mark ks N R) : R.objs.length = ks.length := by rw [← h.keys, List.length_map]
theorem KA.has {words oops mark : Nat} {ks : List Key} {H : HS} {M : MS} (h : KA words oops mark ks H M) (oop : Int) : has H oop = ks.any fun x => x.1 == oop := by
  rw [h.inv.hasM]
  cases hb : ks.any (fun x => x.1 == oop) with
  | true =>
    obtain ⟨k, k1, k2⟩ := List.any_eq_true.1 hb
    have e : k.1 = oop := by simpa using k2
    obtain ⟨b0, b1, b2⟩ := h.at_ k k1
    rw [e] at b0 b1
    have := mhas_of (M := M) (oop.toNat - 1) (th_in b1) b1
    rwa [show ((oop.toNat - 1 : Nat) : Int) + 1 = oop from by omega] at this
  | false =>
    refine decide_eq_false (fun hc => ?_)
    obtain ⟨k, k1, k2⟩ := h.only (oop.toNat - 1) hc.2.2
    have : ks.any (fun x => x.1 == oop) = true := List.any_eq_true.2 ⟨k, k1, by rw [beq_iff_eq]; omega⟩
    rw [hb] at this
    simp at this
theorem KA.small {words oops mark : Nat} {ks : List Key} {H : HS} {M : MS} (h : KA words oops mark ks H M) : endK ks ≤ (words : Int) ∧ (words : Int) ≤ 1048576 ∧ (oops : Int) ≤ 65536 := by
  have h1 := h.mem
  have h2 := h.inv.safe.small
  have h3 := h2.mem
  have h4 := h2.words
  have h5 := h2.oops
  rw [h.words] at h3 h4
  rw [h.oops] at h5
  omega
theorem roD_mem {l : List RO} {k : Nat} (hk : k < l.length) : l.getD k noRO ∈ l := by rw [List.getD_eq_getElem?_getD, List.getElem?_eq_getElem hk]; exact List.getElem_mem hk
theorem rno_iff {R : RS} {ks : List Key} (h : R.objs.map roKey = ks) (z : Int) : ¬ RNo R z ↔ (ks.any fun x => x.1 == z) = true := by
  rw [List.any_eq_true]
  constructor
  · intro hn
    refine Classical.byContradiction fun hc => hn fun j hj e => hc ⟨roKey (R.objs.getD j noRO), by rw [← h]; exact List.mem_map_of_mem (roD_mem hj), by rw [beq_iff_eq]; exact e⟩
  · rintro ⟨k, k1, k2⟩ hno
    rw [← h] at k1
    obtain ⟨o, o1, rfl⟩ := List.mem_map.1 k1
    obtain ⟨i, i1, i2⟩ := List.getElem_of_mem o1
    refine hno i i1 ?_
    rw [List.getD_eq_getElem?_getD, List.getElem?_eq_getElem i1]
    show (R.objs[i].oop : Int) = z
    rw [i2]
    simpa [roKey] using k2
section
variable {words oops mark : Nat} {ks : List Key} {H : HS} {M : MS} {N : Nat} {R : RS}
theorem twin_tw (h : KA words oops mark ks H M) (hr : RK words oops mark ks N R) : Tw H M R := by
  refine ⟨fun z => by rw [rno_iff hr.keys, h.has], fun k hk => ?_⟩
  have hm : roKey (R.objs.getD k noRO) ∈ ks := by rw [← hr.keys]; exact List.mem_map_of_mem (roD_mem hk)
  obtain ⟨b0, b1, b2, b3, b4⟩ := h.at_ _ hm
  have e : (roKey (R.objs.getD k noRO)).1.toNat = (R.objs.getD k noRO).oop := rfl
  rw [e] at b1 b2 b3 b4
  unfold lk leadsOf
  have b5 : (M.things.getD ((R.objs.getD k noRO).oop - 1) noTh).fmt = (R.objs.getD k noRO).fmt := by
    have : ((M.things.getD ((R.objs.getD k noRO).oop - 1) noTh).fmt : Int) = ((R.objs.getD k noRO).fmt : Int) := b3
    omega
  rw [b2, b4, b5]
  rfl
theorem twin_one (h : KA words oops mark ks H M) (hr : RK words oops mark ks N R) : ∀ q j k, RIs R q j → RIs R q k → j = k := by
  intro q j k ⟨j1, j2⟩ ⟨k1, k2⟩
  have hn := h.nodup
  rw [← hr.keys, List.map_map] at hn
  refine Classical.byContradiction fun hne => ?_
  have key : ∀ i (hi : i < R.objs.length), ((R.objs.map ((fun k : Key => k.1.toNat) ∘ roKey))[i]'(by simpa using hi)) = (R.objs.getD i noRO).oop := fun i hi => by
    rw [List.getElem_map, List.getD_eq_getElem?_getD, List.getElem?_eq_getElem hi]; rfl
  rcases Nat.lt_or_gt_of_ne hne with hlt | hlt
  · have := List.pairwise_iff_getElem.1 hn j k (by simpa using j1) (by simpa using k1) hlt
    rw [key j j1, key k k1] at this
    omega
  · have := List.pairwise_iff_getElem.1 hn k j (by simpa using k1) (by simpa using j1) hlt
    rw [key j j1, key k k1] at this
    omega
theorem twin_ras (h : KA words oops mark ks H M) (hr : RK words oops mark ks N R) : RAs R (allTo H H.seats.length) := by
  have hse := h.inv.told.seats
  refine ⟨?_, fun q => ?_, ?_, fun q hq => ?_⟩
  · unfold allTo
    exact List.Pairwise.filter _ List.pairwise_lt_range
  · rw [rno_iff hr.keys, ← h.has]
    exact ⟨fun hq => all_has h.inv hq, fun hq => has_all hq⟩
  · rw [h.inv.countAll, h.count, hr.len]
  · have h1 := (mem_all h.inv q).1 hq
    have h2 := List.mem_range.1 (List.mem_filter.1 hq).1
    omega
theorem RK.ok (hr : RK words oops mark ks N R) (h : KA words oops mark ks H M) : ROk R :=
  ⟨by have := h.klen; have := hr.len; omega, hr.slots⟩
/-- the keys that stay -/
def keepK (ks : List Key) (st : List Nat) : List Key := ks.filter fun k => decide (k.1.toNat ∈ st)
/-- what the roots lead to -/
def Sts (H : HS) (M : MS) (roots : List Int) (st : List Nat) : Prop := ∃ rs, Sr H M roots (rs, []) ∧ st = stays H rs
theorem Sts.one {roots : List Int} {s1 s2 : List Nat} (h1 : Sts H M roots s1) (h2 : Sts H M roots s2) : s1 = s2 := by
  obtain ⟨r1, a1, rfl⟩ := h1
  obtain ⟨r2, a2, rfl⟩ := h2
  exact sr_same a1 a2
/-- the document's Run, by keys -/
theorem rKept_rk (h : KA words oops mark ks H M) (hr : RK words oops mark ks N R) (st : List Nat) (v : Value) (ht : R.turn ≤ 999) : RK words oops mark (keepK ks st) N (rKept R st v) := by
  have hkk : (kst st R.objs).1.map roKey = keepK ks st := by rw [kst_keys, hr.keys]; rfl
  refine ⟨hr.words, hr.oops, hr.mark, hkk, ?_, fun o ho => ?_, fun o ho g hg => ?_, by show R.turn + 1 ≤ 1000; omega⟩
  · show (rEnd (kst st R.objs).1 : Int) = _
    rw [kst_end, kst_endK, hkk]
  · obtain ⟨x, x1, x2, x3, x4, x5, x6, x7, x8⟩ := kst_from st R.objs o ho
    rw [x5]
    refine ⟨?_, (hr.slots x x1).2⟩
    have h1 := kst_le st R.objs
    rw [hr.keys] at h1
    have := h.small
    omega
  · obtain ⟨x, x1, x2, x3, x4, x5, x6, x7, x8⟩ := kst_from st R.objs o ho
    rw [x6] at hg
    exact hr.own x x1 g hg
end
end Go.Proofs.YtdkbnnhcjaibdaaDoor

namespace Go.Proofs.YtdkbnnhcjaibdaaDoor
open Go.RowKit
set_option linter.unusedVariables false
theorem exch_order_map {H : HS} {M : MS} (h : Inv H M) (x y : Nat) (hx : x < M.things.length) (hy : y < M.things.length) (bx : (M.things.getD x noTh).there = true) (by_ : (M.things.getD y noTh).there = true) : (exchH H (x + 1) (y + 1)).order = H.order.map (sw1 x y) := by
  obtain ⟨a1, a2⟩ := h.turn x hx bx
  obtain ⟨b1, b2⟩ := h.turn y hy by_
  have hOl : (exchH H (x + 1) (y + 1)).order.length = H.order.length := by show ((H.order.set _ _).set _ _).length = _; rw [List.length_set, List.length_set]
  have hO : ∀ r, (exchH H (x + 1) (y + 1)).order.getD r 0 = sw1 x y (H.order.getD r 0) := fun r => by
    show ((H.order.set (H.seats.getD (y + 1) (0, 0, 0)).2.2 (x + 1)).set (H.seats.getD (x + 1) (0, 0, 0)).2.2 (y + 1)).getD r 0 = _
    rw [List.getD_eq_getElem?_getD, List.getElem?_set, List.getElem?_set, List.length_set]
    by_cases h1 : (H.seats.getD (x + 1) (0, 0, 0)).2.2 = r
    · rw [if_pos h1, if_pos (by omega), ← h1, a2]; unfold sw1; rw [if_pos rfl]; rfl
    · rw [if_neg h1]
      by_cases h2 : (H.seats.getD (y + 1) (0, 0, 0)).2.2 = r
      · rw [if_pos h2, if_pos (by omega), ← h2, b2]; unfold sw1
        split
        · rename_i e; rw [e]; rfl
        · rw [if_pos rfl]; rfl
      · rw [if_neg h2, ← List.getD_eq_getElem?_getD]
        by_cases h3 : r < H.order.length
        · by_cases h4 : H.order.getD r 0 = 0
          · rw [h4]; unfold sw1; rw [if_neg (by omega), if_neg (by omega)]
          · have hr := (h.order r h3 h4).2.2
            unfold sw1
            rw [if_neg (fun e => h1 (by rw [← e]; exact hr)), if_neg (fun e => h2 (by rw [← e]; exact hr))]
        · have e : H.order.getD r 0 = 0 := by rw [List.getD_eq_getElem?_getD, List.getElem?_eq_none (by omega)]; rfl
          rw [e]; unfold sw1; rw [if_neg (by omega), if_neg (by omega)]
  refine List.ext_getElem (by rw [hOl, List.length_map]) fun r h1 h2 => ?_
  have := hO r
  rw [List.getD_eq_getElem?_getD, List.getElem?_eq_getElem h1, List.getD_eq_getElem?_getD, List.getElem?_eq_getElem (by omega)] at this
  rw [List.getElem_map]
  exact this
/-- two numbers change places -/
def swz (x y q : Int) : Int := if q = x then y else if q = y then x else q
def swk (x y : Int) (k : Key) : Key := (swz x y k.1, k.2)
theorem endK_snd (f : Key → Key) (hf : ∀ k, (f k).2 = k.2) : ∀ ks : List Key, endK (ks.map f) = endK ks
  | [] => rfl
  | k :: t => by
    rw [List.map_cons]
    simp only [endK, hf]
    rw [endK_snd f hf t]
theorem swz_nat (x y o : Nat) : swz ((x : Int) + 1) ((y : Int) + 1) (o : Int) = (sw1 x y o : Nat) := by
  unfold swz sw1
  by_cases h1 : o = x + 1
  · rw [if_pos (by omega), if_pos h1]; omega
  · rw [if_neg (by omega), if_neg h1]
    by_cases h2 : o = y + 1
    · rw [if_pos (by omega), if_pos h2]; omega
    · rw [if_neg (by omega), if_neg h2]
theorem KA.exch {words oops mark : Nat} {ks : List Key} {H : HS} {M : MS} (h : KA words oops mark ks H M) (x y : Nat) (bx : (M.things.getD x noTh).there = true) (by_ : (M.things.getD y noTh).there = true) :
    KA words oops mark (ks.map (swk ((x : Int) + 1) ((y : Int) + 1))) (exchH H (x + 1) (y + 1)) { M with things := (M.things.set x (M.things.getD y noTh)).set y (M.things.getD x noTh) } := by
  have hx := there_lt bx
  have hy := there_lt by_
  have hpos : ∀ k ∈ ks, ∃ o : Nat, k.1 = (o : Int) ∧ 1 ≤ o := fun k hk => ⟨k.1.toNat, by have := (h.at_ k hk).1; omega, by have := (h.at_ k hk).1; omega⟩
  refine ⟨h.inv.exch x y hx hy bx by_, h.words, h.oops, h.mark, ?_, ?_, fun k hk => ?_, fun i hi => ?_⟩
  · rw [exch_order_map h.inv x y hx hy bx by_, h.order, List.map_map, List.map_map]
    refine List.map_congr_left fun k hk => ?_
    obtain ⟨o, ho, h1⟩ := hpos k hk
    show sw1 x y k.1.toNat = (swz ((x : Int) + 1) ((y : Int) + 1) k.1).toNat
    rw [ho, swz_nat]; rfl
  · rw [endK_snd (swk ((x : Int) + 1) ((y : Int) + 1)) (fun k => rfl)]
    exact h.mem
  · obtain ⟨k0, hk0, rfl⟩ := List.mem_map.1 hk
    obtain ⟨o, ho, h1⟩ := hpos k0 hk0
    obtain ⟨b0, b1, b2, b3, b4⟩ := h.at_ k0 hk0
    have e1 : (swk ((x : Int) + 1) ((y : Int) + 1) k0).1 = (sw1 x y o : Nat) := by
      show swz _ _ k0.1 = _
      rw [ho, swz_nat]
    have e0 : sw1 x y o = sw x y (o - 1) + 1 := by rw [← sw1_succ, Nat.sub_add_cancel h1]
    have e2 : ((M.things.set x (M.things.getD y noTh)).set y (M.things.getD x noTh)).getD ((swk ((x : Int) + 1) ((y : Int) + 1) k0).1.toNat - 1) noTh = M.things.getD (k0.1.toNat - 1) noTh := by
      rw [exch_th _ _ _ _ hx hy, e1, e0]
      show M.things.getD (sw x y (sw x y (o - 1) + 1 - 1)) noTh = _
      rw [Nat.add_sub_cancel, sw_sw, ho]; rfl
    refine ⟨by rw [e1, e0]; omega, ?_, ?_, ?_, ?_⟩
    · show (List.getD ((M.things.set x (M.things.getD y noTh)).set y (M.things.getD x noTh)) _ noTh).there = true
      rw [e2]; exact b1
    · show (List.getD ((M.things.set x (M.things.getD y noTh)).set y (M.things.getD x noTh)) _ noTh).cls = _
      rw [e2]; exact b2
    · show ((List.getD ((M.things.set x (M.things.getD y noTh)).set y (M.things.getD x noTh)) _ noTh).fmt : Int) = _
      rw [e2]; exact b3
    · show (List.getD ((M.things.set x (M.things.getD y noTh)).set y (M.things.getD x noTh)) _ noTh).slots = _
      rw [e2]; exact b4
  · have hi' : (M.things.getD (sw x y i) noTh).there = true := by
      rw [← exch_th _ _ _ _ hx hy]; exact hi
    obtain ⟨k, k1, k2⟩ := h.only _ hi'
    refine ⟨swk ((x : Int) + 1) ((y : Int) + 1) k, List.mem_map_of_mem k1, ?_⟩
    show swz _ _ k.1 = _
    rw [k2, show ((sw x y i : Nat) : Int) + 1 = ((sw x y i + 1 : Nat) : Int) from by omega, swz_nat, sw1_succ, sw_sw]
    omega
/-- what an oop changes places with -/
def partnerZ : List (Int × Int) → Int → Int
  | [], q => q
  | p :: t, q => if p.1 = q then p.2 else if p.2 = q then p.1 else partnerZ t q
/-- the numbers of a list of pairs, pair by pair -/
def nums : List (Int × Int) → List Int
  | [] => []
  | p :: t => p.1 :: p.2 :: nums t
theorem partner_out : ∀ (ps : List (Int × Int)) (q : Int), q ∉ nums ps → partnerZ ps q = q
  | [], q, _ => rfl
  | p :: t, q, h => by
    unfold nums at h
    rw [List.mem_cons, List.mem_cons, not_or, not_or] at h
    unfold partnerZ
    rw [if_neg (fun e => h.1 e.symm), if_neg (fun e => h.2.1 e.symm), partner_out t q h.2.2]
theorem partner_cons (p : Int × Int) (t : List (Int × Int)) (hd : (nums (p :: t)).Nodup) (q : Int) : partnerZ t (swz p.1 p.2 q) = partnerZ (p :: t) q := by
  unfold nums at hd
  obtain ⟨h1, h2⟩ := List.nodup_cons.1 hd
  obtain ⟨h3, h4⟩ := List.nodup_cons.1 h2
  rw [List.mem_cons, not_or] at h1
  show partnerZ t (swz p.1 p.2 q) = if p.1 = q then p.2 else if p.2 = q then p.1 else partnerZ t q
  unfold swz
  by_cases e1 : q = p.1
  · rw [if_pos e1, if_pos e1.symm, partner_out t _ h3]
  · rw [if_neg e1, if_neg (show ¬ p.1 = q from fun e => e1 e.symm)]
    by_cases e2 : q = p.2
    · rw [if_pos e2, if_pos e2.symm, partner_out t _ h1.2]
    · rw [if_neg e2, if_neg (show ¬ p.2 = q from fun e => e2 e.symm)]
def swapK (ps : List (Int × Int)) (ks : List Key) : List Key := ks.map fun k => (partnerZ ps k.1, k.2)
theorem swap_fold : ∀ (ps : List (Int × Int)) (ks : List Key), (nums ps).Nodup → ps.foldl (fun ks p => ks.map (swk p.1 p.2)) ks = swapK ps ks
  | [], ks, _ => by
    unfold swapK
    conv => lhs; rw [← List.map_id ks]
    rfl
  | p :: t, ks, hd => by
    have hd2 : (nums t).Nodup := (List.nodup_cons.1 (List.nodup_cons.1 hd).2).2
    rw [List.foldl_cons, swap_fold t _ hd2]
    unfold swapK
    rw [List.map_map]
    refine List.map_congr_left fun k hk => ?_
    show (partnerZ t (swz p.1 p.2 k.1), k.2) = _
    rw [partner_cons p t hd]
theorem partner_mem : ∀ (ps : List (Int × Int)) (q : Int), q ∈ nums ps → partnerZ ps q ∈ nums ps
  | [], q, h => by simp [nums] at h
  | p :: t, q, h => by
    unfold partnerZ
    unfold nums at h ⊢
    by_cases e1 : p.1 = q
    · rw [if_pos e1]; simp
    · rw [if_neg e1]
      by_cases e2 : p.2 = q
      · rw [if_pos e2]; simp
      · rw [if_neg e2]
        have h3 : q ∈ nums t := by
          rcases List.mem_cons.1 h with h | h
          · exact absurd h.symm e1
          · rcases List.mem_cons.1 h with h | h
            · exact absurd h.symm e2
            · exact h
        exact List.mem_cons_of_mem _ (List.mem_cons_of_mem _ (partner_mem t q h3))
theorem partner_twice : ∀ (ps : List (Int × Int)), (nums ps).Nodup → ∀ q, partnerZ ps (partnerZ ps q) = q
  | [], _, q => rfl
  | p :: t, hd, q => by
    have h0 : nums (p :: t) = p.1 :: p.2 :: nums t := rfl
    rw [h0] at hd
    obtain ⟨h1, h2⟩ := List.nodup_cons.1 hd
    obtain ⟨h3, h4⟩ := List.nodup_cons.1 h2
    rw [List.mem_cons, not_or] at h1
    by_cases e1 : p.1 = q
    · have : partnerZ (p :: t) q = p.2 := by show (if p.1 = q then p.2 else _) = _; rw [if_pos e1]
      rw [this]
      show (if p.1 = p.2 then p.2 else if p.2 = p.2 then p.1 else _) = _
      rw [if_neg h1.1, if_pos rfl, e1]
    · by_cases e2 : p.2 = q
      · have : partnerZ (p :: t) q = p.1 := by show (if p.1 = q then p.2 else if p.2 = q then p.1 else _) = _; rw [if_neg e1, if_pos e2]
        rw [this]
        show (if p.1 = p.1 then p.2 else _) = _
        rw [if_pos rfl, e2]
      · have e3 : partnerZ (p :: t) q = partnerZ t q := by show (if p.1 = q then p.2 else if p.2 = q then p.1 else _) = _; rw [if_neg e1, if_neg e2]
        rw [e3]
        by_cases hq : q ∈ nums t
        · have hm := partner_mem t q hq
          show (if p.1 = partnerZ t q then p.2 else if p.2 = partnerZ t q then p.1 else partnerZ t (partnerZ t q)) = _
          rw [if_neg (fun e => h1.2 (by rw [e]; exact hm)), if_neg (fun e => h3 (by rw [e]; exact hm)), partner_twice t h4 q]
        · rw [partner_out t q hq]
          show (if p.1 = q then p.2 else if p.2 = q then p.1 else partnerZ t q) = _
          rw [if_neg e1, if_neg e2, partner_out t q hq]
theorem swap_twice (ps : List (Int × Int)) (hd : (nums ps).Nodup) (ks : List Key) : swapK ps (swapK ps ks) = ks := by
  unfold swapK
  rw [List.map_map]
  conv => rhs; rw [← List.map_id ks]
  refine List.map_congr_left fun k hk => ?_
  show (partnerZ ps (partnerZ ps k.1), k.2) = k
  rw [partner_twice ps hd]
end Go.Proofs.YtdkbnnhcjaibdaaDoor
namespace Go.Proofs.YtdkbnnhcjaibdaaDoor
open Go.RowKit
set_option linter.unusedVariables false
set_option linter.unusedSimpArgs false
attribute [local go_sem ↓] Go.wp_at_zero Go.wp_at_succ
/-- an object of the document's heap under another oop -/
def RO.named (o : RO) (n : Nat) : RO := { o with oop := n }
theorem roCells_named (n : Nat) : ∀ (l : List RO) (k : Nat), k < l.length → roCells (l.set k ((l.getD k noRO).named n)) = (roCells l).set (k * 6) (I n)
  | [], k, h => by simp at h
  | o :: t, 0, _ => rfl
  | o :: t, k + 1, h => by
    have ih := roCells_named n t k (by simpa using h)
    have e : (o :: t).set (k + 1) (((o :: t).getD (k + 1) noRO).named n) = o :: t.set k ((t.getD k noRO).named n) := by simp
    rw [e]
    show ro6 o ++ roCells (t.set k ((t.getD k noRO).named n)) = (ro6 o ++ roCells t).set ((k + 1) * 6) (I n)
    rw [ih, List.set_append_right _ _ (by simp [ro6]; omega)]
    congr 2
    simp [ro6]; omega
theorem row_block {w : World} {B : Nat} {e : TypeId} {s n : Nat} {v : Value} {xs : List Value} (h : w.ownsRow B e s v n xs) {g : Nat} (hg : v.ownBlock = some g) : ∃ cur, w.heap[g]? = some (.cells cur e (0, 0)) := by
  rcases h.2 with ⟨h2, h3⟩ | ⟨g', cap, cur, h2, h3, h4⟩
  · rw [h2] at hg; simp [Value.ownBlock] at hg
  · rw [h2] at hg
    have e : g' = g := by simpa [Value.ownBlock] using hg
    subst e
    exact ⟨cur, h4.1⟩
theorem set_mem {l : List RO} {k : Nat} {o x : RO} (h : x ∈ l.set k o) : x ∈ l ∨ x = o := List.mem_or_eq_of_mem_set h
theorem RRep.setOop {w : World} {B r : Nat} {R : RS} (h : RRep w B r R) {g c : Nat} (hv : R.ov = .slice (some ⟨g, 0, none⟩) R.objs.length c) (k n : Nat) (hk : k < R.objs.length) :
    RRep (w.setCell ⟨g, k * 6, none⟩ (I n)) B r { R with objs := R.objs.set k ((R.objs.getD k noRO).named n) } := by
  have hb : R.ov.ownBlock = some g := by rw [hv]; rfl
  obtain ⟨cur, hcur⟩ := row_block h.row hb
  have hgr : g ≠ r := fun e => by rw [e, h.top] at hcur; injection hcur with hc; injection hc with _ ht _; exact absurd ht (by decide)
  have hko : R.objs.getD k noRO ∈ R.objs := by rw [List.getD_eq_getElem?_getD, List.getElem?_eq_getElem hk]; exact List.getElem_mem hk
  refine ⟨h.lo, ?_, ?_, fun o ho => ?_⟩
  · rw [Below.heap_setCell _ _ _ _ (fun e => hgr e.symm)]
    exact h.top
  · show (w.setCell ⟨g, k * 6, none⟩ (I n)).ownsRow B 153 6 R.ov (R.objs.set k _).length (roCells (R.objs.set k _))
    rw [roCells_named n _ k hk, List.length_set]
    have h2 := h.row
    rw [hv] at h2 ⊢
    exact (h2.stored (k * 6) (I n)).1
  · have key : ∀ x ∈ R.objs, (w.setCell ⟨g, k * 6, none⟩ (I n)).ownsRow B 35 1 x.v x.slots.length (x.slots.map (Value.int .i64)) := fun x hx => by
      refine own_congr (h.slots x hx) fun b hb2 => Below.heap_setCell _ _ _ _ (fun e => ?_)
      obtain ⟨cur2, hc2⟩ := row_block (h.slots x hx) hb2
      rw [e, hcur] at hc2
      injection hc2 with hc; injection hc with _ ht _; exact absurd ht (by decide)
    rcases set_mem ho with h1 | h1
    · exact key o h1
    · rw [h1]; exact key (R.objs.getD k noRO) hko
theorem RRep.setTurn {w : World} {B r : Nat} {R : RS} (h : RRep w B r R) (n : Nat) : RRep (w.setCell ⟨r, 4, none⟩ (I n)) B r { R with turn := n } := by
  have ne : ∀ {e : TypeId} {s m : Nat} {v : Value} {xs : List Value}, w.ownsRow B e s v m xs → e ≠ 137 → ∀ g, v.ownBlock = some g → g ≠ r := fun h2 hne g hg e => by
    obtain ⟨cur, hcur⟩ := row_block h2 hg
    rw [e, h.top] at hcur
    injection hcur with hc; injection hc with _ ht _
    exact hne ht.symm
  exact ⟨h.lo, set_in h.top 4 _, own_congr h.row fun g hg => Below.heap_setCell _ _ _ _ (ne h.row (by decide) g hg), fun o ho => own_congr (h.slots o ho) fun g hg => Below.heap_setCell _ _ _ _ (ne (h.slots o ho) (by decide) g hg)⟩
/-- the document's heap, two oops exchanged -/
def rExchR (R : RS) (i j x y : Nat) : RS := { R with objs := (R.objs.set i ((R.objs.getD i noRO).named y)).set j (((R.objs.set i ((R.objs.getD i noRO).named y)).getD j noRO).named x), turn := R.turn + 1 }
set_option maxRecDepth 20000 in
set_option maxHeartbeats 1000000 in
theorem rExch_ok (x y : Nat) (B r : Nat) (R : RS) (w : World) (h : RRep w B r R) (hl : R.objs.length ≤ 1048576) (ht : R.turn ≤ 1000000000) (hx : ¬ RNo R x) (hy : ¬ RNo R y) :
    Calls Tryd.prog 87 #[.pointer (some ⟨r, 0, none⟩), .int .i64 (x : Int), .int .i64 (y : Int)] w fun e w' =>
      e = .returned (.int .i64 0) ∧ ∃ i j g, RIs R x i ∧ RIs R y j ∧ R.ov.ownBlock = some g ∧ RRep w' B r (rExchR R i j x y) ∧ Fr [g, r] w w' := by
  obtain ⟨p, c, hov⟩ := h.ovIs
  have HF := mkHid (find_any x B r R w h hl)
  have HF2 := mkHid (find_any y B r R w h hl)
  have c5 : w.cell? ⟨r, 5, none⟩ = some (.slice p R.objs.length c) := by rw [h.c, ← hov]; rfl
  have HR := mkHid h
  have HX := mkHid hx
  have HY := mkHid hy
  clear h hx hy
  go_enter Tryd.func87, Tryd.ntmps87
  go_wp2_with fail
  refine Calls.mono HF.out ?_
  rintro e w2 ⟨z, rfl, hz, hw⟩
  rw [hw]
  clear hw w2 HF
  rcases hz with ⟨i, hi, rfl, hoi, -⟩ | ⟨-, hno⟩
  rotate_left
  · exact absurd hno HX.out
  go_wp2_with fail
  refine Calls.mono HF2.out ?_
  rintro e w2 ⟨z, rfl, hz, hw⟩
  rw [hw]
  clear hw w2 HF2
  rcases hz with ⟨j, hj, rfl, hoj, -⟩ | ⟨-, hno⟩
  rotate_left
  · exact absurd hno HY.out
  obtain ⟨g, c', hv, hc⟩ := HR.out.at_ (by omega)
  have hv0 := hv
  rw [hov] at hv
  injection hv with e1 e2 e3
  subst e1
  obtain ⟨q0, -⟩ := hc i hi
  have hb : R.ov.ownBlock = some g := by rw [hv0]; rfl
  obtain ⟨cur, hcur⟩ := row_block HR.out.row hb
  have z0 := frozen_in hcur (i * 6)
  have i1 : (0 : Int) ≤ (i : Int) := by omega
  have i2 : (i : Int) < (R.objs.length : Int) := by omega
  have j1 : (0 : Int) ≤ (j : Int) := by omega
  have j2 : (j : Int) < (R.objs.length : Int) := by omega
  obtain ⟨W1, hW1⟩ : ∃ W1, w.setCell ⟨g, i * 6, none⟩ (.int .i64 (y : Int)) = W1 := ⟨_, rfl⟩
  obtain ⟨R1, hR1⟩ : ∃ R1 : RS, R1 = { R with objs := R.objs.set i ((R.objs.getD i noRO).named y) } := ⟨_, rfl⟩
  have h1 : RRep W1 B r R1 := by rw [← hW1, hR1]; exact HR.out.setOop hv0 i y hi
  have l1 : R1.objs.length = R.objs.length := by rw [hR1]; simp
  have o1 : R1.ov = R.ov := by rw [hR1]
  have v1 : R1.ov = .slice (some ⟨g, 0, none⟩) R1.objs.length c' := by rw [o1, hv0, l1]
  have d5 : W1.cell? ⟨r, 5, none⟩ = some (.slice (some ⟨g, 0, none⟩) R.objs.length c) := by rw [h1.c, ← hov, ← o1]; rfl
  obtain ⟨g1, c1, hv1, hc1⟩ := h1.at_ (by omega)
  have hg1 : g1 = g := by rw [v1] at hv1; injection hv1 with a1; injection a1 with a1; injection a1 with a1; exact a1.symm
  subst hg1
  obtain ⟨q1, -⟩ := hc1 j (by omega)
  obtain ⟨cur1, hcur1⟩ := row_block h1.row (by rw [o1]; exact hb)
  have z1 := frozen_in hcur1 (j * 6)
  obtain ⟨W2, hW2⟩ : ∃ W2, W1.setCell ⟨g1, j * 6, none⟩ (.int .i64 (x : Int)) = W2 := ⟨_, rfl⟩
  obtain ⟨R2, hR2⟩ : ∃ R2 : RS, R2 = { R1 with objs := R1.objs.set j ((R1.objs.getD j noRO).named x) } := ⟨_, rfl⟩
  have h2 : RRep W2 B r R2 := by rw [← hW2, hR2]; exact h1.setOop v1 j x (by omega)
  have t2 : R2.turn = R.turn := by rw [hR2, hR1]
  have d4 : W2.cell? ⟨r, 4, none⟩ = some (.int .i64 (R.turn : Int)) := by rw [h2.c, ← t2]; rfl
  have z2 := frozen_in h2.top 4
  have hR3 : Hid ({ R2 with turn := R.turn + 1 } = rExchR R i j x y) := by show _ = _; rw [hR2, hR1]; rfl
  have HF : Hid (Fr [g1, r] w W2) := by
    rw [← hW2, ← hW1]
    exact (Fr.setCell (S := [g1, r]) w ⟨g1, i * 6, none⟩ _ (by simp)).trans (Fr.setCell (S := [g1, r]) _ ⟨g1, j * 6, none⟩ _ (by simp)) (fun b hb => .inl hb)
  have HI1 : Hid (RIs R x i) := ⟨hi, hoi⟩
  have HI2 : Hid (RIs R y j) := ⟨hj, hoj⟩
  have H2 := mkHid h2
  have HB := mkHid hb
  have w4 : IntKind.i64.wrap ((R.turn : Int) + 1) = (R.turn : Int) + 1 := by rw [iwrap]; unfold wrap64; omega
  obtain ⟨q, hq⟩ : ∃ q, q = (R.objs.getD i noRO).oop := ⟨_, rfl⟩
  obtain ⟨u, hu⟩ : ∃ u, u = (R1.objs.getD j noRO).oop := ⟨_, rfl⟩
  rw [← hq] at q0
  rw [← hu] at q1
  simp only [I] at q0 q1
  clear h1 h2 hR1 hR2 hv1 hc1 hc v1 o1 l1 t2 hov hv0 hb e2 e3 hoi hoj hcur hcur1 hq hu
  go_wp2_with fail
  go_ret
  refine ⟨rfl, i, j, g1, HI1.out, HI2.out, HB.out, ?_, ?_⟩
  · rw [← hR3.out]
    exact H2.out.setTurn (R.turn + 1)
  · exact HF.out.trans (Fr.setCell (S := [g1, r]) _ ⟨r, 4, none⟩ _ (by simp)) (fun b hb => .inl hb)
end Go.Proofs.YtdkbnnhcjaibdaaDoor

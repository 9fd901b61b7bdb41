import Derived.Test.YtpaekbghnejhoaaDoorEG07HInv
import Derived.BigQuiet
import Derived.Deep.RegionHeld3
import Derived.Test.YtpaekbghnejhoaaDoorEG17HLoadT
import Derived.Test.YtpaekbghnejhoaaDoorEG12CPure
import Derived.Test.YtpaekbghnejhoaaDoorEHRefL
import Derived.Test.YtpaekbghnejhoaaDoorEHRefS
import Derived.Test.YtpaekbghnejhoaaDoorEG11HRefN
import Derived.Test.YtpaekbghnejhoaaDoorEG14CBridge
import Derived.Test.YtpaekbghnejhoaaDoorEG06HRd
import Derived.Test.YtpaekbghnejhoaaDoorEG10HStateX
namespace Go.Proofs.YtpaekbghnejhoaaDoor
open Go.RowKit
set_option linter.unusedVariables false
attribute [local go_sem ↓] Go.wp_at_zero Go.wp_at_succ
set_option maxRecDepth 20000 in
set_option maxHeartbeats 1000000 in
theorem rRoom_ok (B r : Nat) (R : RS) (w : World) (h : RRep w B r R) (ho : ROk R) (hw : (R.words : Int) ≤ 1048576) (hoo : (R.oops : Int) ≤ 65536) (he : (rEnd R.objs : Int) ≤ 1048576) :
    Calls Tryd.prog 34 #[.pointer (some ⟨r, 0, none⟩)] w fun e w' => e = .returned (.tuple #[.int .i64 ((R.words : Int) - (rEnd R.objs : Int)), .int .i64 ((R.oops : Int) - (R.objs.length : Int))]) ∧ Fr [] w w' := by
  obtain ⟨p, c, hov⟩ := h.ovIs
  have hl := ho.len
  have HR := mkHid h
  have KS : Hid (∀ W, Hid (Fr [] w W) → W.cell? ⟨r, 0, none⟩ = some (.int .i64 (R.words : Int)) ∧ W.cell? ⟨r, 1, none⟩ = some (.int .i64 (R.oops : Int)) ∧ W.cell? ⟨r, 5, none⟩ = some (.slice p R.objs.length c) ∧ Hid (Fr [] w W)) := by
    intro W hW
    have h2 := HR.out.idle hW.out
    exact ⟨by rw [h2.c]; rfl, by rw [h2.c]; rfl, by rw [h2.c, ← hov]; rfl, hW⟩
  have HEnd : Hid (∀ W, Hid (Fr [] w W) → Calls Tryd.prog 73 #[.pointer (some ⟨r, 0, none⟩)] W fun e w' => e = .returned (.int .i64 (rEnd R.objs : Nat)) ∧ Hid (Fr [] w w')) := by
    intro W hW
    refine Calls.mono (rend_any _ _ R W (HR.out.idle hW.out) ho) ?_
    rintro e w' ⟨rfl, hf⟩
    exact ⟨rfl, hW.out.trans hf (by simp)⟩
  have F0 : Hid (Fr [] w w) := Fr.refl _ _
  obtain ⟨c0, c1, c5, -⟩ := KS.out w F0
  generalize rEnd R.objs = EN at *
  have z1 : IntKind.i64.wrap ((R.words : Int) - (EN : Int)) = (R.words : Int) - (EN : Int) := by rw [iwrap]; unfold wrap64; omega
  have z2 : IntKind.i64.wrap ((R.oops : Int) - (R.objs.length : Int)) = (R.oops : Int) - (R.objs.length : Int) := by rw [iwrap]; unfold wrap64; omega
  clear h ho hov
  go_enter Tryd.func34, Tryd.ntmps34
  go_wp2_with fail
  go_region_held3 (fun w' => w'.cell? ⟨r, 0, none⟩ = some (.int .i64 (R.words : Int)) ∧ w'.cell? ⟨r, 1, none⟩ = some (.int .i64 (R.oops : Int)) ∧ w'.cell? ⟨r, 5, none⟩ = some (.slice p R.objs.length c) ∧ Hid (Fr [] w w')) (exact KS.out _ (by first | assumption | exact hid_drew (by assumption) | (go_split_ands; first | assumption | exact hid_drew (by assumption))))
    ((go_at_call 73; refine (HEnd.out _ (by first | assumption | exact hid_drew (by assumption) | (go_split_ands; first | assumption | exact hid_drew (by assumption)))).mono ?_; rintro e w' ⟨rfl, hf'⟩))
  have F3 : Hid (Fr [] w w') := by assumption
  go_wp2_with fail
  go_ret2
  exact ⟨rfl, F3.out⟩
end Go.Proofs.YtpaekbghnejhoaaDoor


namespace Go.Proofs.YtpaekbghnejhoaaDoor
open Go.RowKit
set_option linter.unusedVariables false
/-- since V0 nothing was touched from block N on -/
def Aft (N : Nat) (V0 V : World) : Prop := ∃ S, Fr S V0 V ∧ ∀ b ∈ S, b < N
theorem Aft.refl (N : Nat) (V : World) : Aft N V V := ⟨[], Fr.refl _ _, by simp⟩
theorem Aft.fr {N : Nat} {V0 V V' : World} (h : Aft N V0 V) (hf : Fr [] V V') : Aft N V0 V' := by
  obtain ⟨S, h1, h2⟩ := h
  exact ⟨S, h1.trans hf (by simp), h2⟩
theorem Aft.step {N : Nat} {V0 V V' : World} {S : List Nat} (h : Aft N V0 V) (hf : Fr S V V') (hS : ∀ b ∈ S, b < N) : Aft N V0 V' := by
  obtain ⟨S0, h1, h2⟩ := h
  exact ⟨S0 ++ S, (h1.mono (fun b hb => .inl (List.mem_append_left _ hb))).trans hf (fun b hb => .inl (List.mem_append_right _ hb)), fun b hb => by
    rcases List.mem_append.1 hb with h | h
    · exact h2 b h
    · exact hS b h⟩
/-- what Load of such a state says -/
def LSpec (x y z : Int) (ks : List Key) (n : Int) (nl : Bool) (a b sx sy sz : Int) (ks' : List Key) : Prop :=
  (argBad x y z ∧ n = 1 ∧ nl = true ∧ a = 0 ∧ b = 0 ∧ sx = 0 ∧ sy = 0 ∧ sz = 0 ∧ ks' = []) ∨
  (¬ argBad x y z ∧ ¬ allK x.toNat y.toNat ks ∧ n = 27 ∧ nl = true ∧ a = 0 ∧ b = 0 ∧ sx = 0 ∧ sy = 0 ∧ sz = 0 ∧ ks' = []) ∨
  (¬ argBad x y z ∧ allK x.toNat y.toNat ks ∧ n = 0 ∧ nl = false ∧ a = x - endK ks ∧ b = y - (ks.length : Int) ∧ sx = x ∧ sy = y ∧ sz = z ∧ ks' = ks)
theorem LSpec.one {x y z : Int} {ks : List Key} {n n' : Int} {nl nl' : Bool} {a b sx sy sz a' b' sx' sy' sz' : Int} {k1 k2 : List Key} (h : LSpec x y z ks n nl a b sx sy sz k1) (h' : LSpec x y z ks n' nl' a' b' sx' sy' sz' k2) : n = n' ∧ nl = nl' ∧ a = a' ∧ b = b' ∧ sx = sx' ∧ sy = sy' ∧ sz = sz' ∧ k1 = k2 := by
  rcases h with ⟨h0, rfl, rfl, rfl, rfl, rfl, rfl, rfl, rfl⟩ | ⟨h0, h1, rfl, rfl, rfl, rfl, rfl, rfl, rfl, rfl⟩ | ⟨h0, h1, rfl, rfl, rfl, rfl, rfl, rfl, rfl, rfl⟩ <;>
  rcases h' with ⟨g0, rfl, rfl, rfl, rfl, rfl, rfl, rfl, rfl⟩ | ⟨g0, g1, rfl, rfl, rfl, rfl, rfl, rfl, rfl, rfl⟩ | ⟨g0, g1, rfl, rfl, rfl, rfl, rfl, rfl, rfl, rfl⟩ <;>
  first | contradiction | exact ⟨rfl, rfl, rfl, rfl, rfl, rfl, rfl, rfl⟩
/-- a pointer, nil or not -/
def PtrIs (v : Value) (nl : Bool) : Prop := (nl = true ∧ v = .pointer none) ∨ (nl = false ∧ ∃ a : Nat, v = .pointer (some ⟨a, 0, none⟩))
/-- a told state -/
def StAns (sx sy sz : Int) (ks : List Key) (V : World) (e : Ending) (w' : World) : Prop := ∃ ov ls, e = .returned (.agg #[.int .i64 sx, .int .i64 sy, .int .i64 sz, ov]) ∧ SAt w' ov ls ∧ ls.map oiKey = ks ∧ Fr [] V w'
structure TellsP (N : Nat) (V0 : World) (hv : Value) (a b sx sy sz : Int) (ks : List Key) : Prop where
  room : ∀ V, Aft N V0 V → Calls Tryd.prog 18 #[hv] V fun e w' => e = .returned (.tuple #[.int .i64 a, .int .i64 b]) ∧ Fr [] V w'
  state : ∀ V, Aft N V0 V → Calls Tryd.prog 12 #[hv] V (StAns sx sy sz ks V)
structure TellsR (N : Nat) (V0 : World) (hv : Value) (a b sx sy sz : Int) (ks : List Key) : Prop where
  room : ∀ V, Aft N V0 V → Calls Tryd.prog 34 #[hv] V fun e w' => e = .returned (.tuple #[.int .i64 a, .int .i64 b]) ∧ Fr [] V w'
  state : ∀ V, Aft N V0 V → Calls Tryd.prog 30 #[hv] V (StAns sx sy sz ks V)
theorem sat_nil (w : World) : SAt w (.slice none 0 0) [] := ⟨⟨none, 0, rfl, fun h => by simp at h⟩, by simp, by simp⟩
theorem tellsP_nil (N : Nat) (V0 : World) : TellsP N V0 (.pointer none) 0 0 0 0 0 [] :=
  ⟨fun V _ => Calls.mono (Room_nil V) (by rintro e w' ⟨rfl, rfl⟩; exact ⟨rfl, Fr.refl _ _⟩), fun V _ => Calls.mono (State_nil V) (by rintro e w' ⟨rfl, hf⟩; exact ⟨_, [], rfl, sat_nil _, rfl, hf⟩)⟩
theorem tellsR_nil (N : Nat) (V0 : World) : TellsR N V0 (.pointer none) 0 0 0 0 0 [] :=
  ⟨fun V _ => Calls.mono (rRoom_nil V) (by rintro e w' ⟨rfl, rfl⟩; exact ⟨rfl, Fr.refl _ _⟩), fun V _ => Calls.mono (rState_nil V) (by rintro e w' ⟨rfl, hf⟩; exact ⟨_, [], rfl, sat_nil _, rfl, hf⟩)⟩
theorem Lds.good {words oops mark : Nat} {ks : List Key} {H : HS} {M : MS} (h1 : (words : Int) ≤ 1048576) (h2 : (oops : Int) ≤ 65536) (hm : (mark : Int) ≤ 1073741824) (h : Lds { emptyH words oops with mark := mark } { emptyM words oops with mark := mark } ks H M) : allK words oops ks := by
  refine Lds.ind (C := fun ks H M => allK words oops ks) ?_ ?_ h
  · exact fun i o ho => by simp at ho
  · rintro ks H H' M M' q cls fmt ss h ht hl ih
    exact allK_snoc ih (by rw [← (h.kOf h1 h2 hm).takes]; exact ht)
def natKey (k : Nat × Int × Nat × List Int) : Key := ((k.1 : Int), k.2.1, (k.2.2.1 : Int), k.2.2.2)
theorem toOI_key (l : List OS) : (l.map toOI).map oiKey = (l.map osKey).map natKey := by rw [List.map_map, List.map_map]; rfl
/-- a told list, read -/
theorem SRep.told {w : World} {base : Nat} {ov : Value} {l : List OS} {ks : List Key} (h : SRep w base ov l) (hk : (l.map osKey).map natKey = ks) (hl : ks.length ≤ 1048576) (hs : ∀ k ∈ ks, k.2.2.2.length ≤ 8192) : SAt w ov (l.map toOI) ∧ (l.map toOI).map oiKey = ks := by
  have hll : l.length = ks.length := by rw [← hk]; simp
  refine ⟨h.sat (by omega) (fun o ho => ?_), by rw [toOI_key]; exact hk⟩
  have h1 : natKey (osKey o) ∈ ks := by rw [← hk]; exact List.mem_map_of_mem (List.mem_map_of_mem ho)
  have := hs _ h1
  have e : (natKey (osKey o)).2.2.2 = o.slots := rfl
  rw [e] at this
  omega
theorem allK_slots {words oops : Nat} {ks : List Key} (h : allK words oops ks) : ∀ k ∈ ks, k.2.2.2.length ≤ 8192 := by
  intro k hk
  obtain ⟨i, hi, he⟩ := List.getElem_of_mem hk
  have := takesK_yes (h i k (by rw [List.getElem?_eq_getElem hi, he]))
  have := this.2.2.2.2.2.1
  omega
theorem Load_tells (x y z : Int) (ov : Value) (la : List OI) (w : World) (ha : SAt w ov la) (hT : Tab w) (hT0 : 0 < w.heap.size) :
    Calls Tryd.prog 7 #[.agg #[.int .i64 x, .int .i64 y, .int .i64 z, ov]] w fun e w' => ∃ (hv : Value) (n : Int) (nl : Bool) (a b sx sy sz : Int) (ks : List Key), e = .returned (.tuple #[hv, .int .i64 n]) ∧ PtrIs hv nl ∧ LSpec x y z (la.map oiKey) n nl a b sx sy sz ks ∧ TellsP w.heap.size w' hv a b sx sy sz ks ∧ Fr [] w w' := by
  by_cases hb : argBad x y z
  · refine Calls.mono (Load_bad x y z ov w hb) ?_
    rintro e w' ⟨rfl, hf⟩
    exact ⟨_, 1, true, 0, 0, 0, 0, 0, [], rfl, .inl ⟨rfl, rfl⟩, .inl ⟨hb, rfl, rfl, rfl, rfl, rfl, rfl, rfl, rfl⟩, tellsP_nil _ _, hf⟩
  · have hb' : 0 ≤ x ∧ x ≤ 1048576 ∧ 0 ≤ y ∧ y ≤ 65536 ∧ 0 ≤ z ∧ z ≤ 1073741824 := by unfold argBad at hb; omega
    obtain ⟨xn, rfl⟩ : ∃ n : Nat, x = (n : Int) := ⟨x.toNat, by omega⟩
    obtain ⟨yn, rfl⟩ : ∃ n : Nat, y = (n : Int) := ⟨y.toNat, by omega⟩
    obtain ⟨zn, rfl⟩ : ∃ n : Nat, z = (n : Int) := ⟨z.toNat, by omega⟩
    refine Calls.mono (Load_any xn yn zn ov la w ha hT hT0 (by omega) (by omega) (by omega)) ?_
    rintro e w' (⟨l, H, M, rfl, hw⟩ | ⟨k, o, H, M, rfl, hf, ho, hlds, ht⟩)
    · have hlds := hw.lds
      rw [List.take_length] at hlds
      have hK := hlds.kOf (by omega) (by omega) (by omega)
      have hgood := hlds.good (by omega) (by omega) (by omega)
      have hsm := hK.inv.safe.small
      have hcnt := hK.count
      have hlen : (la.map oiKey).length ≤ 65536 := by have := hsm.count; have := hsm.oops; omega
      refine ⟨_, 0, false, (xn : Int) - endK (la.map oiKey), (yn : Int) - ((la.map oiKey).length : Int), xn, yn, zn, la.map oiKey, rfl, .inr ⟨rfl, _, rfl⟩, .inr (.inr ⟨hb, by simpa using hgood, rfl, rfl, rfl, rfl, rfl, rfl, rfl, rfl⟩), ⟨fun V hV => ?_, fun V hV => ?_⟩, hw.fr⟩
      · obtain ⟨S, h1, h2⟩ := hV
        have hR := hw.rep.keep h1 (fun g hg hS => by have := hw.new g hg; have := h2 g hS; omega)
        refine Calls.mono (Room_any _ l H V hR hsm) ?_
        rintro e w2 ⟨rfl, n, rfl⟩
        refine ⟨?_, Fr.drewN [] _ _⟩
        rw [hK.words, hK.oops, hK.mem, hcnt]
      · obtain ⟨S, h1, h2⟩ := hV
        have hR := hw.rep.keep h1 (fun g hg hS => by have := hw.new g hg; have := h2 g hS; omega)
        refine Calls.mono (State_ok _ l H M V hR hK.inv.toInvV) ?_
        rintro e w2 ⟨ov2, ls, rfl, hs, hkk, hf⟩
        obtain ⟨s1, s2⟩ := hs.told (ks := la.map oiKey) (by rw [hkk]; exact hK.st) (by omega) (allK_slots hgood)
        refine ⟨ov2, _, ?_, s1, s2, hf⟩
        rw [hK.words, hK.oops, hK.mark]
    · have hK := hlds.kOf (by omega) (by omega) (by omega)
      refine ⟨_, 27, true, 0, 0, 0, 0, 0, [], rfl, .inl ⟨rfl, rfl⟩, .inr (.inl ⟨hb, fun hall => ?_, rfl, rfl, rfl, rfl, rfl, rfl, rfl, rfl⟩), tellsP_nil _ _, hf⟩
      have h1 := hall k (oiKey o) (by rw [List.getElem?_map, ho]; rfl)
      rw [← List.map_take] at h1
      have h2 := hK.takes (oiKey o)
      have h3 : takesB H (oiKey o).1 (oiKey o).2.1 (oiKey o).2.2.1 (oiKey o).2.2.2 = false := ht
      rw [h3] at h2
      have h4 : takesK xn yn ((la.take k).map oiKey) (oiKey o) = true := by simpa using h1
      rw [← h2] at h4
      cases h4
theorem rLoad_tells (x y z : Int) (ov : Value) (la : List OI) (w : World) (ha : SAt w ov la) :
    Calls Tryd.prog 62 #[.agg #[.int .i64 x, .int .i64 y, .int .i64 z, ov]] w fun e w' => ∃ (hv : Value) (n : Int) (nl : Bool) (a b sx sy sz : Int) (ks : List Key), e = .returned (.tuple #[hv, .int .i64 n]) ∧ PtrIs hv nl ∧ LSpec x y z (la.map oiKey) n nl a b sx sy sz ks ∧ TellsR w.heap.size w' hv a b sx sy sz ks ∧ Fr [] w w' := by
  by_cases hb : argBad x y z
  · refine Calls.mono (rLoad_bad x y z ov w hb) ?_
    rintro e w' ⟨rfl, hf⟩
    exact ⟨_, 1, true, 0, 0, 0, 0, 0, [], rfl, .inl ⟨rfl, rfl⟩, .inl ⟨hb, rfl, rfl, rfl, rfl, rfl, rfl, rfl, rfl⟩, tellsR_nil _ _, hf⟩
  · have hb' : 0 ≤ x ∧ x ≤ 1048576 ∧ 0 ≤ y ∧ y ≤ 65536 ∧ 0 ≤ z ∧ z ≤ 1073741824 := by unfold argBad at hb; omega
    obtain ⟨xn, rfl⟩ : ∃ n : Nat, x = (n : Int) := ⟨x.toNat, by omega⟩
    obtain ⟨yn, rfl⟩ : ∃ n : Nat, y = (n : Int) := ⟨y.toNat, by omega⟩
    obtain ⟨zn, rfl⟩ : ∃ n : Nat, z = (n : Int) := ⟨z.toNat, by omega⟩
    refine Calls.mono (rLoad_any xn yn zn ov la w ha (by omega) (by omega) (by omega)) ?_
    rintro e w' (⟨R, rfl, hw⟩ | ⟨k, o, rfl, hf, ho, ht⟩)
    · have hof := hw.of
      rw [List.take_length] at hof
      have hok := hof.ok (by omega)
      have hfits := hof.fits
      have hfin := hof.fin
      have hlen := hof.len
      have htw := hof.twice
      refine ⟨_, 0, false, (xn : Int) - endK (la.map oiKey), (yn : Int) - ((la.map oiKey).length : Int), xn, yn, zn, la.map oiKey, rfl, .inr ⟨rfl, _, rfl⟩, .inr (.inr ⟨hb, by simpa using hof.good, rfl, rfl, rfl, rfl, rfl, rfl, rfl, rfl⟩), ⟨fun V hV => ?_, fun V hV => ?_⟩, hw.fr⟩
      · obtain ⟨S, h1, h2⟩ := hV
        have hR := hw.rep.keep h1 (fun g hg => .inl (by have := h2 g hg; omega))
        refine Calls.mono (rRoom_ok _ _ R V hR hok (by rw [hof.eWords]; omega) (by rw [hof.eOops]; omega) (by rw [hfin]; omega)) ?_
        rintro e w2 ⟨rfl, hf⟩
        refine ⟨?_, hf⟩
        rw [hof.eWords, hof.eOops, hfin, hlen]
      · obtain ⟨S, h1, h2⟩ := hV
        have hR := hw.rep.keep h1 (fun g hg => .inl (by have := h2 g hg; omega))
        refine Calls.mono (rState_ok _ _ R V hR hok) ?_
        rintro e w2 ⟨ov2, ls, rfl, hs, hkk, hf⟩
        obtain ⟨s1, s2⟩ := hs.told (ks := la.map oiKey) (by
          rw [hkk, ← hof.keys, List.map_map]
          rfl) (by omega) (allK_slots hof.good)
        refine ⟨ov2, _, ?_, s1, s2, hf⟩
        rw [hof.eWords, hof.eOops, hof.eMark]
    · refine ⟨_, 27, true, 0, 0, 0, 0, 0, [], rfl, .inl ⟨rfl, rfl⟩, .inr (.inl ⟨hb, fun hall => ?_, rfl, rfl, rfl, rfl, rfl, rfl, rfl, rfl⟩), tellsR_nil _ _, hf⟩
      have h1 := hall k (oiKey o) (by rw [List.getElem?_map, ho]; rfl)
      rw [← List.map_take] at h1
      have h4 : takesK xn yn ((la.take k).map oiKey) (oiKey o) = true := by simpa using h1
      rw [ht] at h4
      cases h4
end Go.Proofs.YtpaekbghnejhoaaDoor


namespace Go.Proofs.YtpaekbghnejhoaaDoor
open Go.RowKit
set_option linter.unusedVariables false
theorem rise_eq : ∀ (l m : List Nat), l.Pairwise (· < ·) → m.Pairwise (· < ·) → (∀ x, x ∈ l ↔ x ∈ m) → l = m
  | [], [], _, _, _ => rfl
  | [], y :: m, _, _, h => by have := (h y).2 (by simp); simp at this
  | x :: l, [], _, _, h => by have := (h x).1 (by simp); simp at this
  | x :: l, y :: m, hl, hm, h => by
    obtain ⟨l1, l2⟩ := List.pairwise_cons.1 hl
    obtain ⟨m1, m2⟩ := List.pairwise_cons.1 hm
    have hx : x = y := by
      have a1 := (h x).1 (by simp)
      have a2 := (h y).2 (by simp)
      rcases List.mem_cons.1 a1 with e | a1
      · exact e
      · rcases List.mem_cons.1 a2 with e | a2
        · exact e.symm
        · have := m1 x a1; have := l1 y a2; omega
    subst hx
    congr 1
    refine rise_eq l m l2 m2 fun z => ?_
    constructor
    · intro hz
      have := (h z).1 (by simp [hz])
      rcases List.mem_cons.1 this with e | h2
      · have := l1 z hz; omega
      · exact h2
    · intro hz
      have := (h z).2 (by simp [hz])
      rcases List.mem_cons.1 this with e | h2
      · have := m1 z hz; omega
      · exact h2
/-- the fixed state of the laws -/
def aK : List Key := [(3, 8, 0, [4]), (1, 5, 0, [8]), (2, 5, 0, [4, 9])]
theorem aK_takes : ∀ (k : Nat) (o : Key), aK[k]? = some o → takesK 20 4 (aK.take k) o = true := by
  intro k o h
  have hk : k < 3 := (List.getElem?_eq_some_iff.1 h).1
  have : k = 0 ∨ k = 1 ∨ k = 2 := by omega
  rcases this with rfl | rfl | rfl
  · obtain rfl := Option.some.inj h; decide
  · obtain rfl := Option.some.inj h; decide
  · obtain rfl := Option.some.inj h; decide
theorem aK_lk {H : HS} {M : MS} (h : KA 20 4 0 aK H M) : lk M 1 = [5, 8] ∧ lk M 2 = [5, 4, 9] := by
  obtain ⟨-, -, b2, b3, b4⟩ := h.at_ (1, 5, 0, [8]) (by simp [aK])
  obtain ⟨-, -, c2, c3, c4⟩ := h.at_ (2, 5, 0, [4, 9]) (by simp [aK])
  unfold lk leadsOf
  have b3' : (M.things.getD (1 - 1) noTh).fmt = 0 := by have : ((M.things.getD (1 - 1) noTh).fmt : Int) = 0 := b3; omega
  have c3' : (M.things.getD (2 - 1) noTh).fmt = 0 := by have : ((M.things.getD (2 - 1) noTh).fmt : Int) = 0 := c3; omega
  have b2' : (M.things.getD (1 - 1) noTh).cls = 5 := b2
  have c2' : (M.things.getD (2 - 1) noTh).cls = 5 := c2
  have b4' : (M.things.getD (1 - 1) noTh).slots = [8] := b4
  have c4' : (M.things.getD (2 - 1) noTh).slots = [4, 9] := c4
  rw [b2', b3', b4', c2', c3', c4']
  exact ⟨rfl, rfl⟩
theorem aK_rs {H : HS} {M : MS} (h : KA 20 4 0 aK H M) {rs : List Nat} (hs : Sr H M [8] (rs, [])) (q : Nat) : q ∈ rs ↔ q = 1 ∨ q = 2 := by
  obtain ⟨e1, e2⟩ := aK_lk h
  have n1 : namesB H 4 = true := by
    unfold namesB
    rw [Bool.and_eq_true]
    exact ⟨by decide, h.hasK (1, 5, 0, [8]) (by simp [aK])⟩
  have n2 : namesB H 8 = true := by
    unfold namesB
    rw [Bool.and_eq_true]
    exact ⟨by decide, h.hasK (2, 5, 0, [4, 9]) (by simp [aK])⟩
  have n5 : ¬ namesB H 5 = true := by
    unfold namesB
    rw [Bool.and_eq_true]
    exact fun hc => absurd hc.1 (by decide)
  have n9 : ¬ namesB H 9 = true := by
    unfold namesB
    rw [Bool.and_eq_true]
    exact fun hc => absurd hc.1 (by decide)
  have r2 : 2 ∈ rs := hs.root 8 (by simp) n2
  have r1 : 1 ∈ rs := by
    rcases hs.on 2 r2 with h1 | h1
    · simp at h1
    · exact h1 4 (by rw [e2]; simp) n1
  refine ⟨fun hq => hs.least (fun q => q = 1 ∨ q = 2) ⟨fun z hz hb => ?_, fun p hp z hz hb => ?_⟩ q hq, fun hq => by rcases hq with rfl | rfl <;> assumption⟩
  · obtain rfl : z = 8 := by simpa using hz
    exact .inr rfl
  · rcases hp with rfl | rfl
    · rw [e1] at hz
      have : z = 5 ∨ z = 8 := by simpa using hz
      rcases this with rfl | rfl
      · exact absurd hb n5
      · exact .inr rfl
    · rw [e2] at hz
      have : z = 5 ∨ z = 4 ∨ z = 9 := by simpa using hz
      rcases this with rfl | rfl | rfl
      · exact absurd hb n5
      · exact .inl rfl
      · exact absurd hb n9
theorem aK_stays {H : HS} {M : MS} (h : KA 20 4 0 aK H M) {rs : List Nat} (hs : Sr H M [8] (rs, [])) : stays H rs = [1, 2] := by
  refine rise_eq _ _ ?_ (by decide) fun q => ?_
  · rw [stays_eq]; exact List.Pairwise.filter _ List.pairwise_lt_range
  · rw [mem_stays h.inv hs.there, aK_rs h hs]
    simp
theorem aK_kept {H : HS} {M : MS} (h : KA 20 4 0 aK H M) {rs : List Nat} (hs : Sr H M [8] (rs, [])) (ha : H.age ≤ 1000000000) :
    (H.count : Int) - (keepH H (stays H rs)).count = 1 ∧ (H.mem.length : Int) - (keepH H (stays H rs)).mem.length = 3 := by
  have h2 := h.keep (stays H rs) (stays_has h.inv rs) ha
  rw [aK_stays h hs] at h2 ⊢
  have c1 := h.count
  have c2 := h2.count
  have m1 := h.mem
  have m2 := h2.mem
  have e : (aK.filter fun k => decide (k.1.toNat ∈ [1, 2])) = [(1, 5, 0, [8]), (2, 5, 0, [4, 9])] := by decide
  rw [e] at c2 m2
  have e1 : endK aK = 10 := by decide
  have e2 : endK [(1, 5, 0, [8]), (2, 5, 0, [4, 9])] = 7 := by decide
  rw [e1] at m1
  rw [e2] at m2
  rw [m1, m2, c1, c2]
  exact ⟨by decide, by decide⟩
end Go.Proofs.YtpaekbghnejhoaaDoor
namespace Go.Proofs.YtpaekbghnejhoaaDoor
open Go.RowKit
set_option linter.unusedVariables false
theorem sr_same {H : HS} {M : MS} {roots : List Int} {rs rs2 : List Nat} (h : Sr H M roots (rs, [])) (h2 : Sr H M roots (rs2, [])) : stays H rs = stays H rs2 := by
  have cl : ∀ r : List Nat, Sr H M roots (r, []) → Cl H M roots (fun q => q ∈ r) := fun r hr => ⟨hr.root, fun q hq z hz hb => by
    rcases hr.on q hq with h1 | h1
    · simp at h1
    · exact h1 z hz hb⟩
  unfold stays
  refine List.filter_congr fun q _ => ?_
  rw [Bool.eq_iff_iff, decide_eq_true_eq, decide_eq_true_eq]
  exact ⟨h.least _ (cl rs2 h2) q, h2.least _ (cl rs h) q⟩
theorem filter_at {α : Type} (f : α → Bool) : ∀ (l : List α) (i : Nat) (o : α), l[i]? = some o → f o = true → (l.filter f)[((l.take i).filter f).length]? = some o
  | [], i, o, h, _ => by simp at h
  | x :: l, 0, o, h, hf => by
    have : x = o := by simpa using h
    subst this
    simp [hf]
  | x :: l, i + 1, o, h, hf => by
    have h1 : l[i]? = some o := by simpa using h
    have ih := filter_at f l i o h1 hf
    rw [List.take_succ_cons, List.filter_cons, List.filter_cons]
    by_cases hx : f x = true
    · rw [if_pos hx, if_pos hx, List.length_cons, List.getElem?_cons_succ]; exact ih
    · rw [if_neg hx, if_neg hx]; exact ih
/-- whether an object stays -/
def inSt (st : List Nat) (o : OI) : Bool := decide (o.oop.toNat ∈ st)
theorem keys_filter (la : List OI) (st : List Nat) : ((la.map oiKey).filter fun k => decide (k.1.toNat ∈ st)) = (la.filter (inSt st)).map oiKey := by
  rw [List.filter_map]; rfl
/-- how many of the first stay, and how many words they take -/
def keptN (la : List OI) (st : List Nat) (i : Nat) : Nat := ((la.take i).filter (inSt st)).length
def usedN (la : List OI) (st : List Nat) (i : Nat) : Int := endK (((la.take i).filter (inSt st)).map oiKey)
theorem take_some {la : List OI} {i : Nat} {o : OI} (h : la[i]? = some o) : la.take (i + 1) = la.take i ++ [o] := by rw [List.take_add_one, h]; rfl
theorem kept_yes {la : List OI} {st : List Nat} {i : Nat} {o : OI} (h : la[i]? = some o) (hf : inSt st o = true) : keptN la st (i + 1) = keptN la st i + 1 ∧ usedN la st (i + 1) = usedN la st i + lenOf (o.slots.length : Int) o.fmt := by
  unfold keptN usedN
  rw [take_some h, List.filter_append, List.filter_cons_of_pos hf, List.map_append, endK_append]
  exact ⟨by simp, by simp [endK, oiKey]⟩
theorem kept_no {la : List OI} {st : List Nat} {i : Nat} {o : OI} (h : la[i]? = some o) (hf : inSt st o = false) : keptN la st (i + 1) = keptN la st i ∧ usedN la st (i + 1) = usedN la st i := by
  unfold keptN usedN
  rw [take_some h, List.filter_append, List.filter_cons_of_neg (by rw [hf]; simp)]
  exact ⟨by simp, by simp⟩
theorem endK_nonneg : ∀ ks : List Key, 0 ≤ endK ks
  | [] => by simp [endK]
  | k :: t => by
    have := endK_nonneg t
    have h2 : 0 ≤ lenOf (k.2.2.2.length : Int) k.2.2.1 := by unfold lenOf; split <;> omega
    simp only [endK]
    omega
theorem used_le (la : List OI) (st : List Nat) (i : Nat) : 0 ≤ usedN la st i ∧ usedN la st i ≤ endK ((la.filter (inSt st)).map oiKey) := by
  unfold usedN
  refine ⟨endK_nonneg _, ?_⟩
  conv => rhs; rw [← List.take_append_drop i la, List.filter_append, List.map_append, endK_append]
  have := endK_nonneg (((la.drop i).filter (inSt st)).map oiKey)
  omega
theorem kept_le (la : List OI) (st : List Nat) (i : Nat) : keptN la st i ≤ (la.filter (inSt st)).length := by
  unfold keptN
  conv => rhs; rw [← List.take_append_drop i la, List.filter_append, List.length_append]
  omega
theorem kept_all (la : List OI) (st : List Nat) : keptN la st la.length = (la.filter (inSt st)).length ∧ usedN la st la.length = endK ((la.filter (inSt st)).map oiKey) := by
  unfold keptN usedN
  rw [List.take_length]
  exact ⟨rfl, rfl⟩
theorem srep_told {w : World} {base : Nat} {ov : Value} {l : List OS} {ks : List Key} (h : SRep w base ov l) (hk : (l.map osKey).map (fun k : Nat × Int × Nat × List Int => ((k.1 : Int), k.2.1, (k.2.2.1 : Int), k.2.2.2)) = ks) (hl : ks.length ≤ 1048576) (hs : ∀ k ∈ ks, k.2.2.2.length ≤ 1048576) : SAt w ov (l.map toOI) ∧ (l.map toOI).map oiKey = ks := by
  have hll : l.length = ks.length := by rw [← hk]; simp
  refine ⟨h.sat (by omega) (fun o ho => ?_), by rw [← hk, List.map_map, List.map_map]; rfl⟩
  have h1 : ((o.oop : Int), o.cls, (o.fmt : Int), o.slots) ∈ ks := by rw [← hk, List.map_map]; exact List.mem_map_of_mem (f := (fun k : Nat × Int × Nat × List Int => ((k.1 : Int), k.2.1, (k.2.2.1 : Int), k.2.2.2)) ∘ osKey) ho
  have := hs _ h1
  dsimp only at this
  omega
theorem zs_nodup {l : List Nat} (h : l.Nodup) : (zs l).Nodup := by
  unfold zs
  refine List.pairwise_map.2 (h.imp fun hab e => hab (by omega))
/-- what a Run leaves, by keys -/
structure Left (words oops mark : Nat) (la : List OI) (H : HS) (M : MS) (st : List Nat) : Prop where
  ka : KA words oops mark ((la.filter (inSt st)).map oiKey) (keepH H st) { M with things := keptTh M.things st }
  all : allTo (keepH H st) (keepH H st).seats.length = st
  cnt : (keepH H st).count = st.length
  len : (la.filter (inSt st)).length = st.length
theorem left_of {words oops mark : Nat} {la : List OI} {H : HS} {M : MS} (h : KA words oops mark (la.map oiKey) H M) {roots : List Int} {rs : List Nat} (hs : Sr H M roots (rs, [])) (ha : H.age ≤ 1000000000) : Left words oops mark la H M (stays H rs) := by
  have hk := h.keep (stays H rs) (stays_has h.inv rs) ha
  rw [keys_filter] at hk
  have hall := run_all h.inv rs hk.inv
  have hc : (keepH H (stays H rs)).count = (stays H rs).length := by rw [← hk.inv.countAll, hall]
  exact ⟨hk, hall, hc, by have := hk.count; rw [hc] at this; simpa using this.symm⟩
/-- a second Run takes nothing -/
structure Same (words oops mark : Nat) (ks : List Key) (H H2 : HS) (M2 : MS) : Prop where
  ka : KA words oops mark ks H2 M2
  cnt : (H.count : Int) - H2.count = 0
  mem : (H.mem.length : Int) - H2.mem.length = 0
theorem same_of {words oops mark : Nat} {la : List OI} {H : HS} {M : MS} (h : KA words oops mark (la.map oiKey) H M) {roots : List Int} {rs rs2 : List Nat} (hs : Sr H M roots (rs, [])) (ha : H.age ≤ 999999999)
    (h2 : Sr (keepH H (stays H rs)) { M with things := keptTh M.things (stays H rs) } roots (rs2, [])) :
    Same words oops mark ((la.filter (inSt (stays H rs))).map oiKey) (keepH H (stays H rs)) (keepH (keepH H (stays H rs)) (stays (keepH H (stays H rs)) rs2)) { M with things := keptTh (keptTh M.things (stays H rs)) (stays (keepH H (stays H rs)) rs2) } := by
  have hl := left_of h hs (by omega)
  have hag : (keepH H (stays H rs)).age ≤ 1000000000 := by show H.age + 1 ≤ _; omega
  have hk2 := hl.ka.keep (stays (keepH H (stays H rs)) rs2) (stays_has hl.ka.inv rs2) hag
  have hk3 : KA words oops mark ((la.filter (inSt (stays H rs))).map oiKey) (keepH (keepH H (stays H rs)) (stays (keepH H (stays H rs)) rs2)) { M with things := keptTh (keptTh M.things (stays H rs)) (stays (keepH H (stays H rs)) rs2) } := by
    have e := keep_all_keys hl.ka
    rw [← again_all h.inv hs hl.ka.inv h2] at e
    rw [e] at hk2
    exact hk2
  have c1 := hl.ka.count
  have c2 := hk3.count
  have m1 := hl.ka.mem
  have m2 := hk3.mem
  exact ⟨hk3, by omega, by omega⟩
end Go.Proofs.YtpaekbghnejhoaaDoor
namespace Go.Proofs.YtpaekbghnejhoaaDoor
open Go.RowKit
set_option linter.unusedVariables false
theorem SRep.fr {w w' : World} {base : Nat} {ov : Value} {l : List OS} {S : List Nat} (h : SRep w base ov l) (hf : Fr S w w') (hd : ∀ g ∈ S, g < base) : SRep w' base ov l :=
  ⟨own_congr h.row fun g hg => hf.block g (h.row.lt g hg).2 (fun hm => by have h1 := (h.row.lt g hg).1; have h2 := hd g hm; omega), fun o ho => own_congr (h.slots o ho) fun g hg => hf.block g ((h.slots o ho).lt g hg).2 (fun hm => by have h1 := ((h.slots o ho).lt g hg).1; have h2 := hd g hm; omega)⟩
theorem KA.slots {words oops mark : Nat} {ks : List Key} {H : HS} {M : MS} (h : KA words oops mark ks H M) : ∀ k ∈ ks, k.2.2.2.length ≤ 8192 := fun k hk => by
  obtain ⟨b0, b1, b2, b3, b4⟩ := h.at_ k hk
  have := h.inv.model.slots _ (there_lt b1)
  rw [b4] at this
  omega
theorem KA.klen {words oops mark : Nat} {ks : List Key} {H : HS} {M : MS} (h : KA words oops mark ks H M) : ks.length ≤ 65538 := by
  have h1 := h.count
  have h2 := h.inv.countAll
  have h3 := allTo_len H H.seats.length
  have h4 := h.inv.told.seats
  omega
/-- what State tells, by keys -/
structure Tld (w : World) (base : Nat) (ov : Value) (lo : List OS) (ks : List Key) : Prop where
  rep : SRep w base ov lo
  keys : (lo.map toOI).map oiKey = ks
  len : ks.length ≤ 65538
  slots : ∀ k ∈ ks, k.2.2.2.length ≤ 8192
theorem Tld.fr {w w' : World} {base : Nat} {ov : Value} {lo : List OS} {ks : List Key} {S : List Nat} (h : Tld w base ov lo ks) (hf : Fr S w w') (hd : ∀ g ∈ S, g < base) : Tld w' base ov lo ks :=
  ⟨h.rep.fr hf hd, h.keys, h.len, h.slots⟩
theorem Tld.sat {w : World} {base : Nat} {ov : Value} {lo : List OS} {ks : List Key} (h : Tld w base ov lo ks) : SAt w ov (lo.map toOI) := by
  have hll : lo.length = ks.length := by rw [← h.keys]; simp
  have hl := h.len
  refine h.rep.sat (by omega) (fun o ho => ?_)
  have h1 : oiKey (toOI o) ∈ ks := by rw [← h.keys]; exact List.mem_map_of_mem (List.mem_map_of_mem ho)
  have := h.slots _ h1
  have e : (oiKey (toOI o)).2.2.2 = o.slots := rfl
  rw [e] at this
  omega
theorem state_of {words oops mark : Nat} {ks : List Key} {H : HS} {M : MS} {a : Nat} {l : Lay} {w : World} (hr : Rep w a l H) (h : KA words oops mark ks H M) :
    Calls Tryd.prog 12 #[.pointer (some ⟨a, 0, none⟩)] w fun e w' => ∃ p c lo, e = .returned (.agg #[.int .i64 (words : Int), .int .i64 (oops : Int), .int .i64 (mark : Int), .slice p ks.length c]) ∧ Tld w' w.heap.size (.slice p ks.length c) lo ks ∧ Fr [] w w' := by
  refine (State_ok a l H M w hr h.inv.toInvV).mono ?_
  rintro e w' ⟨ov, ls, rfl, hs, hk, hf⟩
  have hkk : (ls.map toOI).map oiKey = ks := by
    rw [← h.st, ← hk, List.map_map, List.map_map]; rfl
  have hll : ls.length = ks.length := by rw [← hkk]; simp
  have ht : Tld w' w.heap.size ov ls ks := ⟨hs, hkk, h.klen, h.slots⟩
  obtain ⟨p, c, e1, -⟩ := ht.sat.at_
  rw [List.length_map, hll] at e1
  subst e1
  exact ⟨p, c, ls, by rw [h.words, h.oops, h.mark], ht, hf⟩
end Go.Proofs.YtpaekbghnejhoaaDoor
namespace Go.Proofs.YtpaekbghnejhoaaDoor
open Go.RowKit
set_option linter.unusedVariables false
attribute [local go_sem ↓] Go.wp_at_zero Go.wp_at_succ
/-- what the document's heap has, by keys -/
structure RK (words oops mark : Nat) (ks : List Key) (N : Nat) (R : RS) : Prop where
  words : R.words = words
  oops : R.oops = oops
  mark : R.mark = mark
  keys : R.objs.map roKey = ks
  fin : (rEnd R.objs : Int) = endK ks
  slots : ∀ o ∈ R.objs, o.place ≤ 1048576 ∧ o.slots.length ≤ 8192
  own : ∀ o ∈ R.objs, ∀ g, o.v.ownBlock = some g → g < N
  turn : R.turn ≤ 1000
theorem RK.len {words oops mark : Nat} {ks : List Key} {N : Nat} {R : RS} (h : RK words oops mark ks N R) : R.objs.length = ks.length := by rw [← h.keys, List.length_map]
theorem KA.has {words oops mark : Nat} {ks : List Key} {H : HS} {M : MS} (h : KA words oops mark ks H M) (oop : Int) : has H oop = ks.any fun x => x.1 == oop := by
  rw [h.inv.hasM]
  cases hb : ks.any (fun x => x.1 == oop) with
  | true =>
    obtain ⟨k, k1, k2⟩ := List.any_eq_true.1 hb
    have e : k.1 = oop := by simpa using k2
    obtain ⟨b0, b1, b2⟩ := h.at_ k k1
    rw [e] at b0 b1
    have := mhas_of (M := M) (oop.toNat - 1) (th_in b1) b1
    rwa [show ((oop.toNat - 1 : Nat) : Int) + 1 = oop from by omega] at this
  | false =>
    refine decide_eq_false (fun hc => ?_)
    obtain ⟨k, k1, k2⟩ := h.only (oop.toNat - 1) hc.2.2
    have : ks.any (fun x => x.1 == oop) = true := List.any_eq_true.2 ⟨k, k1, by rw [beq_iff_eq]; omega⟩
    rw [hb] at this
    simp at this
theorem KA.small {words oops mark : Nat} {ks : List Key} {H : HS} {M : MS} (h : KA words oops mark ks H M) : endK ks ≤ (words : Int) ∧ (words : Int) ≤ 1048576 ∧ (oops : Int) ≤ 65536 := by
  have h1 := h.mem
  have h2 := h.inv.safe.small
  have h3 := h2.mem
  have h4 := h2.words
  have h5 := h2.oops
  rw [h.words] at h3 h4
  rw [h.oops] at h5
  omega
theorem roD_mem {l : List RO} {k : Nat} (hk : k < l.length) : l.getD k noRO ∈ l := by rw [List.getD_eq_getElem?_getD, List.getElem?_eq_getElem hk]; exact List.getElem_mem hk
theorem rno_iff {R : RS} {ks : List Key} (h : R.objs.map roKey = ks) (z : Int) : ¬ RNo R z ↔ (ks.any fun x => x.1 == z) = true := by
  rw [List.any_eq_true]
  constructor
  · intro hn
    refine Classical.byContradiction fun hc => hn fun j hj e => hc ⟨roKey (R.objs.getD j noRO), by rw [← h]; exact List.mem_map_of_mem (roD_mem hj), by rw [beq_iff_eq]; exact e⟩
  · rintro ⟨k, k1, k2⟩ hno
    rw [← h] at k1
    obtain ⟨o, o1, rfl⟩ := List.mem_map.1 k1
    obtain ⟨i, i1, i2⟩ := List.getElem_of_mem o1
    refine hno i i1 ?_
    rw [List.getD_eq_getElem?_getD, List.getElem?_eq_getElem i1]
    show (R.objs[i].oop : Int) = z
    rw [i2]
    simpa [roKey] using k2
section
variable {words oops mark : Nat} {ks : List Key} {H : HS} {M : MS} {N : Nat} {R : RS}
theorem twin_tw (h : KA words oops mark ks H M) (hr : RK words oops mark ks N R) : Tw H M R := by
  refine ⟨fun z => by rw [rno_iff hr.keys, h.has], fun k hk => ?_⟩
  have hm : roKey (R.objs.getD k noRO) ∈ ks := by rw [← hr.keys]; exact List.mem_map_of_mem (roD_mem hk)
  obtain ⟨b0, b1, b2, b3, b4⟩ := h.at_ _ hm
  have e : (roKey (R.objs.getD k noRO)).1.toNat = (R.objs.getD k noRO).oop := rfl
  rw [e] at b1 b2 b3 b4
  unfold lk leadsOf
  have b5 : (M.things.getD ((R.objs.getD k noRO).oop - 1) noTh).fmt = (R.objs.getD k noRO).fmt := by
    have : ((M.things.getD ((R.objs.getD k noRO).oop - 1) noTh).fmt : Int) = ((R.objs.getD k noRO).fmt : Int) := b3
    omega
  rw [b2, b4, b5]
  rfl
theorem twin_one (h : KA words oops mark ks H M) (hr : RK words oops mark ks N R) : ∀ q j k, RIs R q j → RIs R q k → j = k := by
  intro q j k ⟨j1, j2⟩ ⟨k1, k2⟩
  have hn := h.nodup
  rw [← hr.keys, List.map_map] at hn
  refine Classical.byContradiction fun hne => ?_
  have key : ∀ i (hi : i < R.objs.length), ((R.objs.map ((fun k : Key => k.1.toNat) ∘ roKey))[i]'(by simpa using hi)) = (R.objs.getD i noRO).oop := fun i hi => by
    rw [List.getElem_map, List.getD_eq_getElem?_getD, List.getElem?_eq_getElem hi]; rfl
  rcases Nat.lt_or_gt_of_ne hne with hlt | hlt
  · have := List.pairwise_iff_getElem.1 hn j k (by simpa using j1) (by simpa using k1) hlt
    rw [key j j1, key k k1] at this
    omega
  · have := List.pairwise_iff_getElem.1 hn k j (by simpa using k1) (by simpa using j1) hlt
    rw [key j j1, key k k1] at this
    omega
theorem twin_ras (h : KA words oops mark ks H M) (hr : RK words oops mark ks N R) : RAs R (allTo H H.seats.length) := by
  have hse := h.inv.told.seats
  refine ⟨?_, fun q => ?_, ?_, fun q hq => ?_⟩
  · unfold allTo
    exact List.Pairwise.filter _ List.pairwise_lt_range
  · rw [rno_iff hr.keys, ← h.has]
    exact ⟨fun hq => all_has h.inv hq, fun hq => has_all hq⟩
  · rw [h.inv.countAll, h.count, hr.len]
  · have h1 := (mem_all h.inv q).1 hq
    have h2 := List.mem_range.1 (List.mem_filter.1 hq).1
    omega
theorem RK.ok (hr : RK words oops mark ks N R) (h : KA words oops mark ks H M) : ROk R :=
  ⟨by have := h.klen; have := hr.len; omega, hr.slots⟩
/-- the keys that stay -/
def keepK (ks : List Key) (st : List Nat) : List Key := ks.filter fun k => decide (k.1.toNat ∈ st)
/-- what the roots lead to -/
def Sts (H : HS) (M : MS) (roots : List Int) (st : List Nat) : Prop := ∃ rs, Sr H M roots (rs, []) ∧ st = stays H rs
theorem Sts.one {roots : List Int} {s1 s2 : List Nat} (h1 : Sts H M roots s1) (h2 : Sts H M roots s2) : s1 = s2 := by
  obtain ⟨r1, a1, rfl⟩ := h1
  obtain ⟨r2, a2, rfl⟩ := h2
  exact sr_same a1 a2
/-- the program's Run, by keys -/
theorem run_tw {a : Nat} {l : Lay} {w : World} (p : Option Addr) (c : Nat) (roots : List Int) (hR : Rep w a l H) (h : KA words oops mark ks H M) (hage : H.age ≤ 1000) (hT : Tab w) (hr : Rd w (.slice p roots.length c) roots) :
    Calls Tryd.prog 10 #[.pointer (some ⟨a, 0, none⟩), .slice p roots.length c] w fun e w' => ∃ st H' M', Sts H M roots st ∧ e = .returned (.tuple #[.int .i64 ((ks.length : Int) - (keepK ks st).length), .int .i64 (endK ks - endK (keepK ks st)), .int .i64 0]) ∧ Rep w' a l H' ∧ KA words oops mark (keepK ks st) H' M' ∧ H'.age = H.age + 1 ∧ Nx a l l w w' := by
  refine (Run_ok a l H M p c roots w hR h.inv hT hr (by omega)).mono ?_
  rintro e w' ⟨rs, hs, rfl, hrep, hinv, hnx⟩
  have hk := h.keep (stays H rs) (stays_has h.inv rs) (by omega)
  refine ⟨stays H rs, _, _, ⟨rs, hs, rfl⟩, ?_, hrep, hk, rfl, hnx⟩
  have c1 := h.count
  have c2 := hk.count
  have m1 := h.mem
  have m2 := hk.mem
  unfold keepK
  rw [c1, c2, m1, m2]
/-- the document's Run, by keys -/
theorem rKept_rk (h : KA words oops mark ks H M) (hr : RK words oops mark ks N R) (st : List Nat) (v : Value) (ht : R.turn ≤ 999) : RK words oops mark (keepK ks st) N (rKept R st v) := by
  have hkk : (kst st R.objs).1.map roKey = keepK ks st := by rw [kst_keys, hr.keys]; rfl
  refine ⟨hr.words, hr.oops, hr.mark, hkk, ?_, fun o ho => ?_, fun o ho g hg => ?_, by show R.turn + 1 ≤ 1000; omega⟩
  · show (rEnd (kst st R.objs).1 : Int) = _
    rw [kst_end, kst_endK, hkk]
  · obtain ⟨x, x1, x2, x3, x4, x5, x6, x7, x8⟩ := kst_from st R.objs o ho
    rw [x5]
    refine ⟨?_, (hr.slots x x1).2⟩
    have h1 := kst_le st R.objs
    rw [hr.keys] at h1
    have := h.small
    omega
  · obtain ⟨x, x1, x2, x3, x4, x5, x6, x7, x8⟩ := kst_from st R.objs o ho
    rw [x6] at hg
    exact hr.own x x1 g hg
set_option maxRecDepth 20000 in
set_option maxHeartbeats 1000000 in
theorem rRun_tw {B r : Nat} {w : World} (p : Option Addr) (c : Nat) (roots : List Int) (hR : RRep w B r R) (h : KA words oops mark ks H M) (hk : RK words oops mark ks N R) (ht : R.turn ≤ 999) (hr : Rd w (.slice p roots.length c) roots) :
    Calls Tryd.prog 33 #[.pointer (some ⟨r, 0, none⟩), .slice p roots.length c] w fun e w' => ∃ st R', Sts H M roots st ∧ e = .returned (.tuple #[.int .i64 ((ks.length : Int) - (keepK ks st).length), .int .i64 (endK ks - endK (keepK ks st)), .int .i64 0]) ∧ RRep w' B r R' ∧ RK words oops mark (keepK ks st) N R' ∧ R'.turn = R.turn + 1 ∧ Fr [r] w w' := by
  have hok := hk.ok h
  have HRe := mkHid (rReach_ok H M B r R p c roots w hR hok (twin_tw h hk) (twin_one h hk) h.inv (twin_ras h hk) hr)
  have HK : Hid (∀ (st : List Nat) (v : Value), RK words oops mark (keepK ks st) N (rKept R st v)) := fun st v => rKept_rk h hk st v ht
  have hsm := h.small
  have hfin := hk.fin
  have HKp : Hid (∀ (js : List Nat) (p : Option Addr) (c : Nat) (V : World), Fr [] w V → Rd V (.slice p js.length c) (zs js) → (∀ j ∈ js, ¬ RNo R (j : Int)) → js.length ≤ 1048576 → Calls Tryd.prog 72 #[.pointer (some ⟨r, 0, none⟩), .slice p js.length c] V fun e w' => ∃ v, e = .returned (.tuple #[.int .i64 ((ks.length : Int) - (keepK ks js).length), .int .i64 (endK ks - endK (keepK ks js)), .int .i64 0]) ∧ RRep w' B r (rKept R js v) ∧ Fr [r] V w') := fun js p c V hV hj hin hl => by
    refine (rKeep_ok js p c B r R V (hR.idle hV) hok hj hin (by omega) (by rw [hk.keys]; omega) (by omega) hl).mono ?_
    rintro e w' ⟨v, rfl, h1, h2⟩
    refine ⟨v, ?_, h1, h2⟩
    have hkk : (kst js R.objs).1.map roKey = keepK ks js := by rw [kst_keys, hk.keys]; rfl
    have e1 := congrArg List.length hkk
    rw [List.length_map] at e1
    rw [hk.len, e1, hfin, kst_endK, hkk]
  have HHas : Hid (∀ rs, ∀ j ∈ stays H rs, ¬ RNo R (j : Int)) := fun rs j hj => ((twin_tw h hk).has _).1 (all_has h.inv (List.mem_filter.1 hj).1)
  have hse := h.inv.told.seats
  have HSl : Hid (∀ rs, (stays H rs).length ≤ 65538) := fun rs => by
    have h1 : (stays H rs).length ≤ H.seats.length := Nat.le_trans (List.length_filter_le _ _) (allTo_len H _)
    omega
  clear hR h hk hr hok hfin
  go_enter Tryd.func33, Tryd.ntmps33
  go_wp2_with fail
  refine Calls.mono HRe.out ?_
  rintro e w2 ⟨v, rfl, rs, hsr, hrow, hf2⟩
  have hm : Mine w w2 v (stays H rs) := ⟨hrow, hf2⟩
  have hsl := HSl.out rs
  obtain ⟨pv, cv, rfl⟩ := hm.is
  have hrd := hm.rd (by omega)
  have HC := mkHid (HKp.out (stays H rs) pv cv w2 hf2 hrd (HHas.out rs) (by omega))
  have HS : Hid (Sts H M roots (stays H rs)) := ⟨rs, hsr, rfl⟩
  have HF := mkHid hf2
  generalize stays H rs = st at *
  clear hm hrd hrow hsr hf2
  go_wp2_with fail
  refine Calls.mono HC.out ?_
  rintro e w3 ⟨v3, rfl, h3, h4⟩
  have H3 := mkHid (And.intro h3 h4)
  clear h3 h4
  go_wp2_with fail
  refine bodyPost_ret (results_tmp3 rfl _ _ _) rfl ?_
  exact ⟨st, _, HS.out, rfl, H3.out.1, HK.out st v3, rfl, (HF.out.mono (by simp)).trans H3.out.2 (by simp)⟩
end
end Go.Proofs.YtpaekbghnejhoaaDoor
namespace Go.Proofs.YtpaekbghnejhoaaDoor
open Go.RowKit
set_option linter.unusedVariables false
attribute [local go_sem ↓] Go.wp_at_zero Go.wp_at_succ
/-- a list of words of one's own, laid since w0 -/
structure Wds (w0 wr : World) (v : Value) (ls : List Int) : Prop where
  own : wr.ownsRow w0.heap.size 40 1 v ls.length (ls.map (Value.int .i64))
  fr : Fr [] w0 wr
theorem Wds.idle {w0 wr V : World} {v : Value} {ls : List Int} (h : Wds w0 wr v ls) (hf : Fr [] wr V) : Wds w0 V v ls :=
  ⟨own_congr h.own fun g hg => hf.block g (h.own.lt g hg).2 (by simp), h.fr.trans hf (by simp)⟩
/-- .. where something that lay there ahead of it is written -/
theorem Wds.keep {w0 wr V : World} {v : Value} {ls : List Int} {S : List Nat} (h : Wds w0 wr v ls) (hf : Fr S wr V) (hS : ∀ g ∈ S, g < w0.heap.size) : V.ownsRow w0.heap.size 40 1 v ls.length (ls.map (Value.int .i64)) :=
  own_congr h.own fun g hg => hf.block g (h.own.lt g hg).2 (fun hm => by have := hS g hm; have := (h.own.lt g hg).1; omega)
theorem run_copy_own (ss : List Int) (u : Value) (w : World) (h : Rd w u ss) : ∃ p c w', (Builtin.append_ #[25, 25] 25 #[.slice none 0 0, u]).run Tryd.prog w = .ok (.slice p ss.length c) w' ∧ Wds w w' (.slice p ss.length c) ss := by
  obtain ⟨v, w', h1, h2, h3⟩ := run_copy ss u w h
  obtain ⟨p, c, e⟩ := row_is h2
  subst e
  exact ⟨p, c, w', h1, h2, h3⟩
set_option maxRecDepth 20000 in
set_option maxHeartbeats 1000000 in
theorem hand_ok (roots : List Int) (rv : Value) (w : World) (hr : Rd w rv roots) (hl : roots.length ≤ 17592186043904) :
    Calls Tryd.prog 27 #[rv] w fun e w' => ∃ v, e = .returned v ∧ Wds w w' v (roots ++ [-71, -72]) := by
  obtain ⟨j0, ji, jz0, jz1, jz2⟩ := info_parts info33
  obtain ⟨p3, c3, V3, hr3, hw3⟩ := run_copy_own roots rv w hr
  obtain ⟨p, c, rfl, -⟩ := hr.at_
  have HR3 := mkHid hr3
  have HW3 := mkHid hw3
  clear hr3 hw3 hr
  go_enter Tryd.func27, Tryd.ntmps27
  have hz := HW3.out.fr.size
  have hown2 := HW3.out.own.alloc (.cells #[.int .i64 (-71), .int .i64 (-72)] 40)
  go_wp2_with (first
    | (at_builtin; refine Lib.wpList_append_run _ rfl (.const (.slice none 0 0)) (.tmp 4) 25 25 rfl _ _ rfl rfl _ _ HR3.out ?_)
    | (at_builtin; refine wpList_append_own _ rfl (.tmp 6) (.tmp 7) 25 rfl w.heap.size 40 j0 (.int .i64 0) 1 8 Tryd.underlying25 ji jz0 jz1 jz2 rfl (by decide) _ _ _ rfl hown2 ⟨V3.heap.size, 0, none⟩ 2 2 [.int .i64 (-71), .int .i64 (-72)] rfl rfl ?c1 ?c2 ?c3 ?c4 ?c5 ?_)
    | go_in)
  case c1 =>
    have := World.news_of_block (heap_alloc_new V3 (.cells #[.int .i64 (-71), .int .i64 (-72)] 40))
    simpa using this
  case c2 => first | rfl | (intro u hu; simp at hu; rcases hu with rfl | rfl <;> rfl)
  case c3 => unfold maxLen; omega
  case c4 => omega
  case c5 => first | omega | (simp; omega)
  intro v' w1 hown' hgrow _
  have HG : Hid (Wds w w1 v' (roots ++ [-71, -72])) := by
    have h1 : Fr [] w (V3.alloc (.cells #[.int .i64 (-71), .int .i64 (-72)] 40)) := HW3.out.fr.trans (Fr.alloc [] _ _) (by simp)
    refine ⟨by simpa using hown', hgrow.os.trans h1.os, hgrow.tape.trans h1.tape, hgrow.output.trans h1.output, Nat.le_trans h1.size hgrow.size, fun i hi hni => ?_⟩
    rw [hgrow.block i (Nat.lt_of_lt_of_le hi h1.size) (fun e => by have := (hown2.lt i e.symm).1; omega)]
    exact h1.block i hi hni
  clear hown' hgrow hown2
  go_wp2
  go_ret
  exact ⟨_, rfl, HG.out⟩
/-- what is handed in, read -/
theorem own_get {w : World} {b g n c : Nat} {t : TypeId} {ls : List Int} (h : w.ownsRow b t 1 (.slice (some ⟨g, 0, none⟩) n c) n (ls.map (Value.int .i64))) (k : Nat) (hk : k < ls.length) : w.cell? ⟨g, k, none⟩ = some (.int .i64 (ls.getD k 0)) := by
  have hl := h.1
  rw [List.length_map] at hl
  rw [h.cellAt k (by omega), List.getElem?_map, List.getD_eq_getElem?_getD, List.getElem?_eq_getElem hk]
  rfl
/-- the part of a list ahead of its marks -/
theorem own_front {w : World} {b g n c : Nat} {t : TypeId} {ls ms : List Int} (h : w.ownsRow b t 1 (.slice (some ⟨g, 0, none⟩) n c) n ((ls ++ ms).map (Value.int .i64))) (hl : ls.length ≤ 17592186043904) : Rd w (.slice (some ⟨g, 0, none⟩) ls.length c) ls := by
  refine ⟨⟨_, _, rfl, fun hp => ⟨g, 0, rfl, World.block_lt_of_cell? w ⟨g, 0, none⟩ (own_get h 0 (by simp; omega)), fun i hi => ?_⟩⟩, fun c' hc => (by injection hc with e; cases e), hl⟩
  rw [Nat.zero_add, own_get h i (by simp; omega), List.getD_eq_getElem?_getD, List.getElem?_append_left hi, ← List.getD_eq_getElem?_getD]
set_option maxRecDepth 20000 in
set_option maxHeartbeats 2000000 in
theorem left_ok (roots : List Int) (g c b : Nat) (rv : Value) (w : World) (h : w.ownsRow b 40 1 (.slice (some ⟨g, 0, none⟩) (roots.length + 2) c) (roots.length + 2) ((roots ++ [-71, -72]).map (Value.int .i64))) (hr : Rd w rv roots) (hcap : roots.length + 2 ≤ c) :
    Calls Tryd.prog 29 #[.slice (some ⟨g, 0, none⟩) (roots.length + 2) c, rv] w fun e w' => e = .returned (.bool true) ∧ Fr [] w w' := by
  have hs := hr.short
  have HSW := mkHid (sameWords_ok roots (.slice (some ⟨g, 0, none⟩) roots.length c) rv w (own_front h hs) hr)
  obtain ⟨p, c', rfl, -⟩ := hr.at_
  have x1 := own_get h roots.length (by simp)
  have x2 := own_get h (roots.length + 1) (by simp)
  have e1 : (roots ++ [-71, -72]).getD roots.length 0 = -71 := by simp [List.getD_eq_getElem?_getD]
  have e2 : (roots ++ [-71, -72]).getD (roots.length + 1) 0 = -72 := by simp [List.getD_eq_getElem?_getD]
  rw [e1] at x1
  rw [e2] at x2
  have hgl := World.block_lt_of_cell? w _ x1
  clear h hr e1 e2
  go_enter Tryd.func29, Tryd.ntmps29
  have k1 : (0 : Int) ≤ (roots.length : Int) := by omega
  have k2 : (roots.length : Int) < ((roots.length + 2 : Nat) : Int) := by omega
  have k3 : (roots.length : Int) ≤ (c : Int) := by omega
  go_wp2_with fail
  refine Calls.mono HSW.out ?_
  rintro e w2 ⟨rfl, n, hw⟩
  have y1 : w2.cell? ⟨g, roots.length, none⟩ = some (.int .i64 (-71)) := by rw [hw]; exact x1
  have y2 : w2.cell? ⟨g, roots.length + 1, none⟩ = some (.int .i64 (-72)) := by rw [hw]; exact x2
  have HF : Hid (Fr [] w w2) := by rw [hw]; exact Fr.drewN [] _ _
  clear hw x1 x2 HSW
  have k4 : (roots.length : Int) + 1 < ((roots.length + 2 : Nat) : Int) := by omega
  have k5 : (0 : Int) ≤ (roots.length : Int) + 1 := by omega
  have k6 : ((roots.length : Int) + 1).toNat = roots.length + 1 := by omega
  go_wp2_with fail
  go_ret
  exact ⟨rfl, HF.out⟩
end Go.Proofs.YtpaekbghnejhoaaDoor
namespace Go.Proofs.YtpaekbghnejhoaaDoor
open Go.RowKit
set_option linter.unusedVariables false
attribute [local go_sem ↓] Go.wp_at_zero Go.wp_at_succ
/-- the two heaps beside one another -/
structure Twin (w : World) (a : Nat) (l : Lay) (B r N : Nat) (words oops mark : Nat) (ks : List Key) (H : HS) (M : MS) (R : RS) : Prop where
  rep : Rep w a l H
  ka : KA words oops mark ks H M
  rrep : RRep w B r R
  rk : RK words oops mark ks N R
  apart : ∀ g ∈ foot a l, g < B
  age : H.age ≤ R.turn
theorem ROf.rk {words oops mark : Nat} {ks : List Key} {R : RS} {w : World} {B r : Nat} (h : ROf words oops mark ks R) (hr : RRep w B r R) (hw : words ≤ 1048576) : RK words oops mark ks w.heap.size R :=
  ⟨h.eWords, h.eOops, h.eMark, h.keys, h.fin, fun o ho => ⟨by have := (h.slots o ho).1; omega, (h.slots o ho).2⟩, fun o ho g hg => ((hr.slots o ho).lt g hg).2, by rw [h.turn]; omega⟩
/-- each Load alone, as a pair -/
def LdP (x y z : Int) (la : List OI) (w : World) (e : Ending) (w' : World) : Prop :=
  (∃ n : Int, 0 ≤ n ∧ n ≤ 27 ∧ ((argBad x y z ∧ n = 1) ∨ (¬ argBad x y z ∧ n = 27 ∧ ¬ allK x.toNat y.toNat (la.map oiKey))) ∧ e = .returned (.tuple #[.pointer none, .int .i64 n]) ∧ Fr [] w w') ∨
  (∃ (xn yn zn : Nat) (l : Lay) (H : HS) (M : MS), ¬ argBad x y z ∧ x = (xn : Int) ∧ y = (yn : Int) ∧ z = (zn : Int) ∧ xn ≤ 1048576 ∧ allK xn yn (la.map oiKey) ∧ e = .returned (.tuple #[.pointer (some ⟨w.heap.size + 1, 0, none⟩), .int .i64 0]) ∧ Rep w' (w.heap.size + 1) l H ∧ KOf xn yn zn (la.map oiKey) H M ∧ Fr [] w w' ∧ ∀ g ∈ foot (w.heap.size + 1) l, w.heap.size ≤ g)
theorem load_p (x y z : Int) (ov : Value) (la : List OI) (w : World) (ha : SAt w ov la) (hT : Tab w) (hT0 : 0 < w.heap.size) :
    Calls Tryd.prog 7 #[.agg #[.int .i64 x, .int .i64 y, .int .i64 z, ov]] w (LdP x y z la w) := by
  by_cases hb : argBad x y z
  · refine Calls.mono (Load_bad x y z ov w hb) ?_
    rintro e w' ⟨rfl, hf⟩
    exact .inl ⟨1, by omega, by omega, .inl ⟨hb, rfl⟩, rfl, hf⟩
  · have hb' : 0 ≤ x ∧ x ≤ 1048576 ∧ 0 ≤ y ∧ y ≤ 65536 ∧ 0 ≤ z ∧ z ≤ 1073741824 := by unfold argBad at hb; omega
    obtain ⟨xn, rfl⟩ : ∃ n : Nat, x = (n : Int) := ⟨x.toNat, by omega⟩
    obtain ⟨yn, rfl⟩ : ∃ n : Nat, y = (n : Int) := ⟨y.toNat, by omega⟩
    obtain ⟨zn, rfl⟩ : ∃ n : Nat, z = (n : Int) := ⟨z.toNat, by omega⟩
    refine Calls.mono (Load_any xn yn zn ov la w ha hT hT0 (by omega) (by omega) (by omega)) ?_
    rintro e w' (⟨l, H, M, rfl, hw⟩ | ⟨k, o, H, M, rfl, hf, ho, hlds, ht⟩)
    · have hlds := hw.lds
      rw [List.take_length] at hlds
      exact .inr ⟨xn, yn, zn, l, H, M, hb, rfl, rfl, rfl, by omega, hlds.good (by omega) (by omega) (by omega), rfl, hw.rep, hlds.kOf (by omega) (by omega) (by omega), hw.fr, hw.new⟩
    · refine .inl ⟨27, by omega, by omega, .inr ⟨hb, rfl, fun hall => ?_⟩, rfl, hf⟩
      have hK := hlds.kOf (by omega) (by omega) (by omega)
      have h1 := hall k (oiKey o) (by rw [List.getElem?_map, ho]; rfl)
      rw [← List.map_take] at h1
      have h2 := hK.takes (oiKey o)
      have h3 : takesB H (oiKey o).1 (oiKey o).2.1 (oiKey o).2.2.1 (oiKey o).2.2.2 = false := ht
      rw [h3] at h2
      have h4 : takesK xn yn ((la.take k).map oiKey) (oiKey o) = true := by simpa using h1
      rw [← h2] at h4
      cases h4
theorem rload_p (x y z : Int) (ov : Value) (la : List OI) (w : World) (ha : SAt w ov la) :
    Calls Tryd.prog 62 #[.agg #[.int .i64 x, .int .i64 y, .int .i64 z, ov]] w fun e w' =>
      (∃ n : Int, 0 ≤ n ∧ n ≤ 27 ∧ ((argBad x y z ∧ n = 1) ∨ (¬ argBad x y z ∧ n = 27 ∧ ¬ allK x.toNat y.toNat (la.map oiKey))) ∧ e = .returned (.tuple #[.pointer none, .int .i64 n]) ∧ Fr [] w w') ∨
      (∃ (R : RS), ¬ argBad x y z ∧ allK x.toNat y.toNat (la.map oiKey) ∧ e = .returned (.tuple #[.pointer (some ⟨w.heap.size + 1, 0, none⟩), .int .i64 0]) ∧ RRep w' (w.heap.size + 1) (w.heap.size + 1) R ∧ ROf x.toNat y.toNat z.toNat (la.map oiKey) R ∧ Fr [] w w') := by
  by_cases hb : argBad x y z
  · refine Calls.mono (rLoad_bad x y z ov w hb) ?_
    rintro e w' ⟨rfl, hf⟩
    exact .inl ⟨1, by omega, by omega, .inl ⟨hb, rfl⟩, rfl, hf⟩
  · have hb' : 0 ≤ x ∧ x ≤ 1048576 ∧ 0 ≤ y ∧ y ≤ 65536 ∧ 0 ≤ z ∧ z ≤ 1073741824 := by unfold argBad at hb; omega
    obtain ⟨xn, rfl⟩ : ∃ n : Nat, x = (n : Int) := ⟨x.toNat, by omega⟩
    obtain ⟨yn, rfl⟩ : ∃ n : Nat, y = (n : Int) := ⟨y.toNat, by omega⟩
    obtain ⟨zn, rfl⟩ : ∃ n : Nat, z = (n : Int) := ⟨z.toNat, by omega⟩
    refine Calls.mono (rLoad_any xn yn zn ov la w ha (by omega) (by omega) (by omega)) ?_
    rintro e w' (⟨R, rfl, hw⟩ | ⟨k, o, rfl, hf, ho, ht⟩)
    · have hof := hw.of
      rw [List.take_length] at hof
      exact .inr ⟨R, hb, hof.good, rfl, hw.rep, hof, hw.fr⟩
    · refine .inl ⟨27, by omega, by omega, .inr ⟨hb, rfl, fun hall => ?_⟩, rfl, hf⟩
      have h1 := hall k (oiKey o) (by rw [List.getElem?_map, ho]; rfl)
      rw [← List.map_take] at h1
      have h4 : takesK xn yn ((la.take k).map oiKey) (oiKey o) = true := by simpa using h1
      rw [ht] at h4
      cases h4
set_option maxRecDepth 20000 in
set_option maxHeartbeats 2000000 in
theorem loaded_ok (x y z : Int) (ov : Value) (la : List OI) (w : World) (ha : SAt w ov la) (hT : Tab w) (hT0 : 0 < w.heap.size) :
    Calls Tryd.prog 26 #[.agg #[.int .i64 x, .int .i64 y, .int .i64 z, ov]] w fun e w' =>
      (e = .returned (.tuple #[.pointer none, .pointer none, .bool true]) ∧ Fr [] w w') ∨
      (∃ (xn yn zn a B r : Nat) (l : Lay) (H : HS) (M : MS) (R : RS), e = .returned (.tuple #[.pointer (some ⟨a, 0, none⟩), .pointer (some ⟨r, 0, none⟩), .bool true]) ∧ Twin w' a l B r w'.heap.size xn yn zn (la.map oiKey) H M R ∧ R.turn = 0 ∧ Fr [] w w' ∧ (∀ g ∈ foot a l, w.heap.size ≤ g) ∧ w.heap.size ≤ B ∧ B ≤ w'.heap.size) := by
  obtain ⟨pa, ca, rfl, -⟩ := ha.at_
  obtain ⟨W1, hW1⟩ : ∃ W1, W1 = w.alloc (.cells #[.int .i64 x, .int .i64 y, .int .i64 z, .slice pa la.length ca] 24) := ⟨_, rfl⟩
  have F1 : Hid (Fr [] w W1) := by rw [hW1]; exact Fr.alloc [] _ _
  have hB : W1.heap[w.heap.size]? = some (.cells #[.int .i64 x, .int .i64 y, .int .i64 z, .slice pa la.length ca] 24 (0, 0)) := by rw [hW1]; exact heap_alloc_new _ _
  have HS : Hid (∀ V, Fr [] W1 V → V.cell? ⟨w.heap.size, 0, none⟩ = some (.int .i64 x) ∧ V.cell? ⟨w.heap.size, 1, none⟩ = some (.int .i64 y) ∧ V.cell? ⟨w.heap.size, 2, none⟩ = some (.int .i64 z) ∧ V.cell? ⟨w.heap.size, 3, none⟩ = some (.slice pa la.length ca)) := fun V hV => by
    have hb := (hV.block _ (lt_of_heap hB) (by simp)).trans hB
    exact ⟨by rw [cell_in hb]; rfl, by rw [cell_in hb]; rfl, by rw [cell_in hb]; rfl, by rw [cell_in hb]; rfl⟩
  have HA : Hid (∀ V, Fr [] W1 V → SAt V (.slice pa la.length ca) la) := fun V hV => ha.idle (F1.out.trans hV (by simp))
  have hs1 : w.heap.size < W1.heap.size := lt_of_heap hB
  have s1 := ha.short
  have HLd := mkHid (load_p x y z _ la W1 (HA.out W1 (Fr.refl _ _)) (hT.fr F1.out hT0) (by omega))
  have HRl : Hid (∀ V, Fr [] W1 V → _) := fun V hV => rload_p x y z _ la V (HA.out V hV)
  clear ha hT hT0 hB
  go_enter Tryd.func26, Tryd.ntmps26
  obtain ⟨c0, c1, c2, c3⟩ := HS.out W1 (Fr.refl _ _)
  go_wp2_with fail
  rw [← hW1]
  refine Calls.mono HLd.out ?_
  clear HLd hW1
  rintro e w1 (⟨n, hn1, hn2, hn3, rfl, hf⟩ | ⟨xn, yn, zn, l, H, M, hnb, rfl, rfl, rfl, hxn, hall, rfl, hrep, hk, hf1, hnew⟩)
  · have HR1 := mkHid (HRl.out w1 hf)
    have HF1 := mkHid hf
    have HN3 := mkHid hn3
    clear c0 c1 c2 c3
    obtain ⟨c0, c1, c2, c3⟩ := HS.out w1 hf
    clear hf hn3 HRl
    go_wp2_with fail
    refine Calls.mono HR1.out ?_
    rintro e w2 (⟨m, hm1, hm2, hm3, rfl, hf2⟩ | ⟨R, hnb, hall, rfl, hrep, hof, hf2⟩)
    · have e1 : m = n := by
        rcases HN3.out with ⟨a1, a2⟩ | ⟨a1, a2, a3⟩ <;> rcases hm3 with ⟨b1, b2⟩ | ⟨b1, b2, b3⟩
        · omega
        · exact absurd a1 b1
        · exact absurd b1 a1
        · omega
      subst e1
      have HF2 := mkHid ((F1.out.trans HF1.out (by simp)).trans hf2 (by simp))
      clear hm3 hf2 HN3
      go_wp2_with (go_at_call 8; refine Calls.mono (num_any m w2 (by omega) (by omega)) ?_; rintro e w' ⟨rfl, hw'⟩; rw [hw']; clear hw' w')
      refine bodyPost_ret (results_tmp3 rfl _ _ _) rfl ?_
      exact .inl ⟨rfl, HF2.out⟩
    · exfalso
      rcases HN3.out with ⟨a1, a2⟩ | ⟨a1, a2, a3⟩
      · exact hnb a1
      · exact a3 hall
  · have HR1 := mkHid (HRl.out w1 hf1)
    have HF1 := mkHid hf1
    have HRe := mkHid hrep
    have HK := mkHid hk
    have HNew := mkHid hnew
    have HAll := mkHid (And.intro hnb hall)
    generalize ha : W1.heap.size + 1 = a at *
    clear c0 c1 c2 c3
    obtain ⟨c0, c1, c2, c3⟩ := HS.out w1 hf1
    clear hf1 hrep hk hnew hnb hall HRl ha
    go_wp2_with fail
    refine Calls.mono HR1.out ?_
    rintro e w2 (⟨m, hm1, hm2, hm3, rfl, hf2⟩ | ⟨R, hnb, hall, rfl, hrep, hof, hf2⟩)
    · exfalso
      rcases hm3 with ⟨a1, a2⟩ | ⟨a1, a2, a3⟩
      · exact HAll.out.1 a1
      · exact a3 HAll.out.2
    · have HF2 := mkHid ((F1.out.trans HF1.out (by simp)).trans hf2 (by simp))
      have HTw : Hid (Twin w2 a l (w1.heap.size + 1) (w1.heap.size + 1) w2.heap.size xn yn zn (la.map oiKey) H M R) :=
        ⟨HRe.out.keep hf2 (by simp), HK.out.ka, hrep, hof.rk hrep (by omega), fun g hg => by have := HRe.out.lt g hg; omega, by rw [HK.out.age, hof.turn]; omega⟩
      have HT0 := mkHid hof.turn
      have hsz : W1.heap.size ≤ w1.heap.size := HF1.out.size
      have hszb : w1.heap.size + 1 < w2.heap.size := lt_of_heap hrep.top
      generalize hr : w1.heap.size + 1 = r at *
      clear hrep hof hf2 hnb hall
      go_wp2_with (go_at_call 8; refine Calls.mono (num_any 0 w2 (by omega) (by omega)) ?_; rintro e w' ⟨rfl, hw'⟩; rw [hw']; clear hw' w')
      refine bodyPost_ret (results_tmp3 rfl _ _ _) rfl ?_
      exact .inr ⟨xn, yn, zn, a, r, r, l, H, M, R, rfl, HTw.out, HT0.out, HF2.out, fun g hg => by have := HNew.out g hg; omega, by omega, by omega⟩
end Go.Proofs.YtpaekbghnejhoaaDoor

import Derived.Test.YtpaekbghnejhoaaDoorEG22KAdd
import Derived.Test.YtpaekbghnejhoaaDoorEG21RLoaded
import Derived.Test.YtpaekbghnejhoaaDoorEG06HRd
namespace Go.Proofs.YtpaekbghnejhoaaDoor
open Go.RowKit Go.Maps
set_option linter.unusedVariables false
set_option linter.unusedSimpArgs false
attribute [local go_sem ↓] Go.wp_at_zero Go.wp_at_succ
def wipK (xs : List Int) (m : Int) (k : Nat) : List Int := List.replicate k m ++ xs.drop k
theorem wipK_len (xs : List Int) (m : Int) (k : Nat) (hk : k ≤ xs.length) : (wipK xs m k).length = xs.length := by unfold wipK; simp; omega
theorem wipK_set (xs : List Int) (m : Int) (k : Nat) (hk : k < xs.length) : (wipK xs m k).set k m = wipK xs m (k + 1) := by
  unfold wipK
  rw [List.set_append_right _ _ (by simp), List.length_replicate, Nat.sub_self, List.drop_eq_getElem_cons hk, List.set_cons_zero, List.replicate_succ', List.append_assoc]
  rfl
/-- the next mark -/
def markOfN (n : Nat) : Int := -1000000 - (n : Int)
theorem wipe_own {w : World} {B : Nat} {x : Le} {m : Int} {xs : List Int} (hl : xs.length = x.n) (h : w.ownsRow B 3 1 x.v x.n ((wipK xs m x.n).map (Value.int .i64))) : Ow w B x m := by
  unfold wipK at h
  rw [← hl, List.drop_length, List.append_nil, hl] at h
  exact h
set_option maxRecDepth 20000 in
set_option maxHeartbeats 2000000 in
theorem ints_ok (B b : Nat) (Is Ms : List Le) (Ks : List Int) (vI vM vK x : Le) (xs : List Int) (w : World) (h : Bk w B b Is Ms Ks vI vM vK) (hl : xs.length = x.n) (hx : w.ownsRow B 3 1 x.v x.n (xs.map (Value.int .i64))) (hs : x.n ≤ 17592186043904) (hk : Ks.length ≤ 1000000)
    (aK : ∀ g ∈ blk x.p, g ∉ blk vK.p) (aI : ∀ g ∈ blk x.p, ∀ j, j < Ks.length → g ∉ blk (Is.getD j noLe).p) (aM : ∀ g ∈ blk x.p, ∀ j, j < Ms.length → g ∉ blk (Ms.getD j noLe).p) (hB : B ≤ w.heap.size) :
    Calls Tryd.prog 70 #[.pointer (some ⟨b, 0, none⟩), x.v] w fun e w' => e = .returned (.tuple #[]) ∧ ∃ vI' vK', Bk w' B b (Is ++ [x]) Ms (Ks ++ [markOfN Ks.length]) vI' vM vK' ∧ (∀ g ∈ blk vI'.p, g ∈ blk vI.p ∨ w.heap.size ≤ g) ∧ (∀ g ∈ blk vK'.p, g ∈ blk vK.p ∨ w.heap.size ≤ g) ∧ Fr (blk x.p ++ b :: (blk vI.p ++ blk vK.p)) w w' := by
  obtain ⟨p, n, c⟩ := x
  have hl : xs.length = n := hl
  subst hl
  have hx : w.ownsRow B 3 1 (.slice p xs.length c) xs.length (xs.map (Value.int .i64)) := hx
  have hs : xs.length ≤ 17592186043904 := hs
  show Calls Tryd.prog 70 #[.pointer (some ⟨b, 0, none⟩), .slice p xs.length c] w _
  obtain ⟨m, hm⟩ : ∃ m, m = markOfN Ks.length := ⟨_, rfl⟩
  rw [← hm]
  have hme : m = -1000000 - (Ks.length : Int) := hm
  have nK := h.nK
  have nI := h.nI
  have hlen := h.len
  have xb : b ∉ blk p := fun hm => by obtain ⟨-, cur, hc⟩ := le_own (x := ⟨p, xs.length, c⟩) hx hm; exact ty_ne hc h.top (by decide) rfl
  have HCells : Hid (∀ V, Fr (blk p) w V → V.heap[b]? = some (.cells #[vI.v, vM.v, vK.v, N0, N0, N0, N0, N0, N0] 70 (0, 0))) := fun V hV => (hV.block b (lt_of_heap h.top) xb).trans h.top
  have HXI : Hid (∀ V, Fr (blk p) w V → V.ownsRow B 26 1 vI.v vI.n (Is.map Le.v)) := fun V hV => ow_keep h.rI hV fun g hg hm => by
    obtain ⟨-, cur, hc⟩ := le_own (x := ⟨p, xs.length, c⟩) hx hm
    obtain ⟨-, c2, h2⟩ := h.tyI hg
    exact ty_ne hc h2 (by decide) rfl
  have HXK : Hid (∀ V, Fr (blk p) w V → V.ownsRow B 3 1 vK.v vK.n (Ks.map (Value.int .i64))) := fun V hV => ow_keep h.rK hV fun g hg hm => aK g hm hg
  have HBk := mkHid h
  have HX := mkHid hx
  have HaK := mkHid aK
  have HaI := mkHid aI
  have HaM := mkHid aM
  obtain ⟨pI, nI', cI⟩ := vI
  obtain ⟨pK, nK', cK⟩ := vK
  have nK : nK' = Ks.length := nK
  have nI : nI' = Is.length := nI
  subst nK nI
  have y2 : w.cell? ⟨b, 2, none⟩ = some (.slice pK Ks.length cK) := by rw [cell_in h.top]; rfl
  have hmw : IntKind.i64.wrap (-1000000 - (Ks.length : Int)) = m := by rw [hme, iwrap]; unfold wrap64; omega
  have HLen := mkHid hlen
  have hki : Is.length ≤ 1000000 := by omega
  clear h hx aK aI aM hm hlen
  go_enter Tryd.func70, Tryd.ntmps70
  go_wp2_with fail
  rw [← hme]
  have HMe := mkHid hme
  clear hme hmw
  go_loopw [5] (fun q wr => ∃ k : Nat, k ≤ xs.length ∧ q = .int .i64 k ∧ Hid (wr.ownsRow B 3 1 (.slice p xs.length c) xs.length ((wipK xs m k).map (Value.int .i64))) ∧ Hid (Fr (blk p) w wr)) (fun q _ => xs.length - (intOf q).toNat)
  case atStart => exact ⟨0, Nat.zero_le _, rfl, mkHid (by unfold wipK; simpa using HX.out), Fr.refl _ _⟩
  case round =>
    obtain ⟨k, hkn, rfl, hown, hq⟩ := hrel
    have k1 : (0 : Int) ≤ (k : Int) := by omega
    by_cases hlt : k < xs.length
    · have k2 : (k : Int) < (xs.length : Int) := by omega
      have hwl := wipK_len xs m k hkn
      obtain ⟨g, cg, eg, -, -⟩ := hown.out.form (by omega)
      injection eg with eg1 _ eg2
      subst eg1 eg2
      have x1 := own_get hown.out k (by omega)
      obtain ⟨cur, hcur⟩ : ∃ cur, wr.heap[g]? = some (.cells cur 3 (0, 0)) := row_block hown.out rfl
      have z1 := frozen_in hcur k
      have HO2 : Hid ((wr.setCell ⟨g, k, none⟩ (.int .i64 m)).ownsRow B 3 1 (.slice (some ⟨g, 0, none⟩) xs.length c) xs.length ((wipK xs m (k + 1)).map (Value.int .i64))) := by
        have := (hown.out.stored k (.int .i64 m)).1
        rw [← List.map_set, wipK_set xs m k hlt] at this
        exact this
      have HF2 : Hid (Fr (blk (some ⟨g, 0, none⟩)) w (wr.setCell ⟨g, k, none⟩ (.int .i64 m))) := hq.out.trans (Fr.setCell (S := blk (some ⟨g, 0, none⟩)) _ ⟨g, k, none⟩ _ (by simp [blk])) (fun b hb => .inl hb)
      generalize (wipK xs m k).getD k 0 = u at *
      clear hown hcur hwl hq
      go_wp2_with fail
      go_roundw
      case rel => exact ⟨k + 1, by omega, by go_num, HO2, HF2⟩
      case measure => simp [intOf]; omega
    · have hke : k = xs.length := by omega
      subst hke
      have HO2 : Hid (Ow wr B ⟨p, xs.length, c⟩ m) := wipe_own (x := ⟨p, xs.length, c⟩) rfl hown.out
      have hsz := hq.out.size
      have c1 := HCells.out wr hq.out
      have z0 : wr.cell? ⟨b, 0, none⟩ = some (.slice pI Is.length cI) := by rw [cell_in c1]; rfl
      have hlm : (Is.map Le.v).length = Is.length := List.length_map ..
      have oI : wr.ownsRow B 26 1 (.slice pI (Is.map Le.v).length cI) (Is.map Le.v).length (Is.map Le.v) := by rw [hlm]; exact HXI.out wr hq.out
      obtain ⟨p1, c1', w1, r1, o1, mv1⟩ := push_ints wr B pI cI (Is.map Le.v) (.slice p xs.length c) oI rfl (by rw [hlm]; omega) (by omega)
      rw [hlm] at r1
      have o1' : w1.ownsRow B 26 1 (Le.v ⟨p1, Is.length + 1, c1'⟩) (Is.length + 1) ((Is ++ [(⟨p, xs.length, c⟩ : Le)]).map Le.v) := by
        have := o1
        rw [List.length_append, hlm] at this
        rw [List.map_append]
        exact this
      have mv1' : Mv ⟨pI, Is.length, cI⟩ ⟨p1, Is.length + 1, c1'⟩ wr w1 := by
        rcases mv1 with ⟨e1, -, e3⟩ | ⟨e1, e2⟩
        · exact .inl ⟨e1, e3⟩
        · exact .inr ⟨e1, e2⟩
      have bI : b ∉ blk pI := fun hm => by obtain ⟨-, c2, h2⟩ := HBk.out.tyI hm; exact ty_ne HBk.out.top h2 (by decide) rfl
      have bK : b ∉ blk pK := fun hm => by obtain ⟨-, c2, h2⟩ := HBk.out.tyK hm; exact ty_ne HBk.out.top h2 (by decide) rfl
      have f1 : Fr (blk pI) wr w1 := mv1'.fr
      have t1 : w1.heap[b]? = some (.cells #[.slice pI Is.length cI, vM.v, .slice pK Ks.length cK, N0, N0, N0, N0, N0, N0] 70 (0, 0)) := (f1.block b (lt_of_heap c1) bI).trans c1
      have z1 : w1.cell? ⟨b, 0, none⟩ = some (.slice pI Is.length cI) := by rw [cell_in t1]; rfl
      have fz1 := frozen_in t1 0
      obtain ⟨W3, hW3⟩ : ∃ W3, w1.setCell ⟨b, 0, none⟩ (.slice p1 (Is.length + 1) c1') = W3 := ⟨_, rfl⟩
      have t3 : W3.heap[b]? = some (.cells #[.slice p1 (Is.length + 1) c1', vM.v, .slice pK Ks.length cK, N0, N0, N0, N0, N0, N0] 70 (0, 0)) := by rw [← hW3, set_in t1 0 _]; rfl
      have z3 : W3.cell? ⟨b, 2, none⟩ = some (.slice pK Ks.length cK) := by rw [cell_in t3]; rfl
      have F3 : Fr [b] w1 W3 := by rw [← hW3]; exact Fr.setCell (S := [b]) w1 ⟨b, 0, none⟩ _ (by simp)
      have s1 := f1.size
      have s3 := F3.size
      have oK0 : w1.ownsRow B 3 1 (Le.v ⟨pK, Ks.length, cK⟩) Ks.length (Ks.map (Value.int .i64)) := ow_keep (HXK.out wr hq.out) f1 fun g hg hm => by
        obtain ⟨-, c2, h2⟩ := HBk.out.tyK hg
        obtain ⟨-, c3, h3⟩ := HBk.out.tyI hm
        exact ty_ne h2 h3 (by decide) rfl
      have oK : W3.ownsRow B 3 1 (.slice pK Ks.length cK) Ks.length (Ks.map (Value.int .i64)) := ow_keep (x := ⟨pK, Ks.length, cK⟩) oK0 F3 fun g hg hm => by
        have e : g = b := by simpa using hm
        rw [e] at hg
        exact bK hg
      obtain ⟨p4, c4, w4, r4, o4, mv4⟩ := push_int W3 B pK cK Ks m oK (by omega) (by omega)
      have o4' : w4.ownsRow B 3 1 (Le.v ⟨p4, Ks.length + 1, c4⟩) (Ks.length + 1) ((Ks ++ [m]).map (Value.int .i64)) := by
        have := o4
        rw [List.length_append] at this
        exact this
      have mv4' : Mv ⟨pK, Ks.length, cK⟩ ⟨p4, Ks.length + 1, c4⟩ W3 w4 := by
        rcases mv4 with ⟨e1, -, e3⟩ | ⟨e1, e2⟩
        · exact .inl ⟨e1, e3⟩
        · exact .inr ⟨e1, e2⟩
      have t4 : w4.heap[b]? = some (.cells #[.slice p1 (Is.length + 1) c1', vM.v, .slice pK Ks.length cK, N0, N0, N0, N0, N0, N0] 70 (0, 0)) := (mv4'.fr.block b (lt_of_heap t3) bK).trans t3
      have z4 : w4.cell? ⟨b, 2, none⟩ = some (.slice pK Ks.length cK) := by rw [cell_in t4]; rfl
      have fz4 := frozen_in t4 2
      have HZ : Hid (Bk (w4.setCell ⟨b, 2, none⟩ (.slice p4 (Ks.length + 1) c4)) B b (Is ++ [⟨p, xs.length, c⟩]) Ms (Ks ++ [m]) ⟨p1, Is.length + 1, c1'⟩ vM ⟨p4, Ks.length + 1, c4⟩ ∧ Fr (blk p ++ b :: (blk pI ++ blk pK)) w (w4.setCell ⟨b, 2, none⟩ (.slice p4 (Ks.length + 1) c4))) := by
        have mv5 : Mv ⟨pK, Ks.length, cK⟩ ⟨p4, Ks.length + 1, c4⟩ (w1.setCell ⟨b, 0, none⟩ (Le.v ⟨p1, Is.length + 1, c1'⟩)) w4 := by
          have e : w1.setCell ⟨b, 0, none⟩ (Le.v ⟨p1, Is.length + 1, c1'⟩) = W3 := hW3
          rw [e]; exact mv4'
        exact HBk.out.add ⟨p, xs.length, c⟩ m xs HX.out hs HaK.out HaI.out HaM.out hq.out HO2.out o1' rfl mv1' o4' rfl mv5
      have HNI : Hid (∀ g ∈ blk p1, g ∈ blk pI ∨ w.heap.size ≤ g) := fun g hg => by
        rcases mv1'.mem hg with h1 | h1
        · exact .inl h1
        · exact .inr (by omega)
      have HNK : Hid (∀ g ∈ blk p4, g ∈ blk pK ∨ w.heap.size ≤ g) := fun g hg => by
        rcases mv4'.mem hg with h1 | h1
        · exact .inl h1
        · exact .inr (by omega)
      have HR1 := mkHid r1
      have HR4 := mkHid r4
      clear hown hlt c1 o1 o1' mv1 mv1' o4 o4' mv4 mv4' r1 r4 oI oK oK0 t1 t3 t4 f1 F3 hlm HCells HXI HXK
      go_wp2_with (at_builtin; first | refine Lib.wpList_append_run _ rfl (.tmp 26) (.tmp 28) 66 66 rfl _ _ rfl rfl _ _ HR1.out ?_ | refine Lib.wpList_append_run _ rfl (.tmp 36) (.tmp 38) 26 26 rfl _ _ rfl rfl _ _ HR4.out ?_)
      go_end0
      exact ⟨rfl, _, _, HZ.out.1, HNI.out, HNK.out, HZ.out.2⟩
end Go.Proofs.YtpaekbghnejhoaaDoor

namespace Go.Proofs.YtpaekbghnejhoaaDoor
open Go.RowKit
set_option linter.unusedVariables false
set_option linter.unusedSimpArgs false
section
variable {w : World} {B b : Nat} {Is Ms : List Le} {Ks : List Int} {vI vM vK : Le}
/-- the first list that has not grown does -/
theorem Bk.grown (h : Bk w B b Is Ms Ks vI vM vK) (hj : Ms.length < Ks.length) {w1 w2 : World} {y vM' : Le}
    (f1 : Fr (blk (Is.getD Ms.length noLe).p) w w1) (oy : Ow w1 B y (Ks.getD Ms.length 0)) (hys : y.n ≤ 17592186043904) (ny : ∀ g ∈ blk y.p, g ∈ blk (Is.getD Ms.length noLe).p ∨ w.heap.size ≤ g) (fx : Fl w1 B (Is.getD Ms.length noLe) (Ks.getD Ms.length 0))
    (o2 : w2.ownsRow B 26 1 vM'.v vM'.n ((Ms ++ [y]).map Le.v)) (n2 : vM'.n = Ms.length + 1) (m2 : Mv vM vM' w1 w2) :
    Bk (w2.setCell ⟨b, 1, none⟩ vM'.v) B b Is (Ms ++ [y]) Ks vI vM' vK ∧ Fr (blk (Is.getD Ms.length noLe).p ++ b :: blk vM.p) w (w2.setCell ⟨b, 1, none⟩ vM'.v) := by
  obtain ⟨x, hx⟩ : ∃ x, x = Is.getD Ms.length noLe := ⟨_, rfl⟩
  obtain ⟨m, hm⟩ : ∃ m, m = Ks.getD Ms.length 0 := ⟨_, rfl⟩
  have ox : Ow w B x m := by rw [hx, hm]; exact h.own _ (Nat.le_refl _) hj
  have aI : ∀ g ∈ blk x.p, ∀ j, j ≠ Ms.length → j < Ks.length → g ∉ blk (Is.getD j noLe).p := fun g hg => h.apI _ (Nat.le_refl _) hj g (by rw [← hx]; exact hg)
  have aM : ∀ g ∈ blk x.p, ∀ j, j < Ms.length → g ∉ blk (Ms.getD j noLe).p := fun g hg => h.apM _ (Nat.le_refl _) hj g (by rw [← hx]; exact hg)
  have aK : ∀ g ∈ blk x.p, g ∉ blk vK.p := fun g hg => h.neI _ hj g (by rw [← hx]; exact hg)
  have gxx : Is.getD Ms.length noLe = x := hx.symm
  have gmm : Ks.getD Ms.length 0 = m := hm.symm
  rw [gxx] at f1 ny fx ⊢
  rw [gmm] at oy fx
  have xb : b ∉ blk x.p := fun hm => by obtain ⟨-, cur, hc⟩ := le_own ox hm; exact ty_ne hc h.top (by decide) rfl
  have xI : ∀ g ∈ blk x.p, g ∉ blk vI.p := fun g hg hm => by obtain ⟨-, cur, hc⟩ := le_own ox hg; obtain ⟨-, c2, h2⟩ := h.tyI hm; exact ty_ne hc h2 (by decide) rfl
  have xM : ∀ g ∈ blk x.p, g ∉ blk vM.p := fun g hg hm => by obtain ⟨-, cur, hc⟩ := le_own ox hg; obtain ⟨-, c2, h2⟩ := h.tyM hm; exact ty_ne hc h2 (by decide) rfl
  have bI : b ∉ blk vI.p := fun hm => by obtain ⟨-, c2, h2⟩ := h.tyI hm; exact ty_ne h.top h2 (by decide) rfl
  have bM : b ∉ blk vM.p := fun hm => by obtain ⟨-, c2, h2⟩ := h.tyM hm; exact ty_ne h.top h2 (by decide) rfl
  have bK : b ∉ blk vK.p := fun hm => by obtain ⟨-, c2, h2⟩ := h.tyK hm; exact ty_ne h.top h2 (by decide) rfl
  have MK : ∀ g ∈ blk vM.p, g ∉ blk vK.p := fun g hg hm => by obtain ⟨-, cur, hc⟩ := h.tyM hg; obtain ⟨-, c2, h2⟩ := h.tyK hm; exact ty_ne hc h2 (by decide) rfl
  have s0 := lt_of_heap h.top
  have s1 := f1.size
  have f2 := m2.fr
  have f3 : Fr [b] w2 (w2.setCell ⟨b, 1, none⟩ vM'.v) := Fr.setCell (S := [b]) w2 ⟨b, 1, none⟩ _ (by simp)
  have s2 := f2.size
  have F : Fr (blk x.p ++ b :: blk vM.p) w (w2.setCell ⟨b, 1, none⟩ vM'.v) := by
    refine Fr.trans (Fr.trans (f1.mono fun g hg => .inl ?_) f2 fun g hg => .inl ?_) f3 fun g hg => .inl ?_
    · exact List.mem_append.2 (.inl hg)
    · exact List.mem_append.2 (.inr (List.mem_cons.2 (.inr hg)))
    · exact List.mem_append.2 (.inr (List.mem_cons.2 (.inl (by simpa using hg))))
  have out : ∀ g, g ∉ blk x.p → g ≠ b → g ∉ blk vM.p → g ∉ blk x.p ++ b :: blk vM.p := fun g h1 h2 h3 hm => by
    rcases List.mem_append.1 hm with hm | hm
    · exact h1 hm
    · rcases List.mem_cons.1 hm with hm | hm
      · exact h2 hm
      · exact h3 hm
  have t1 : w1.heap[b]? = some (.cells #[vI.v, vM.v, vK.v, N0, N0, N0, N0, N0, N0] 70 (0, 0)) := (f1.block b s0 xb).trans h.top
  have t2 : w2.heap[b]? = some (.cells #[vI.v, vM.v, vK.v, N0, N0, N0, N0, N0, N0] 70 (0, 0)) := (f2.block b (by omega) bM).trans t1
  have t3 : (w2.setCell ⟨b, 1, none⟩ vM'.v).heap[b]? = some (.cells #[vI.v, vM'.v, vK.v, N0, N0, N0, N0, N0, N0] 70 (0, 0)) := by rw [set_in t2 1 _]; rfl
  have newM : ∀ g ∈ blk vM'.p, g ∈ blk vM.p ∨ w1.heap.size ≤ g := fun g hg => m2.mem hg
  have lt_ : ∀ g, (∃ cur, w.heap[g]? = some (.cells cur 3 (0, 0))) → g < w.heap.size ∧ g ≠ b ∧ g ∉ blk vM.p := fun g ⟨cur, hc⟩ => ⟨lt_of_heap hc, fun e => ty_ne hc h.top (by decide) e, fun hm => by obtain ⟨-, c2, h2⟩ := h.tyM hm; exact ty_ne hc h2 (by decide) rfl⟩
  have oldF : ∀ (y : Le) (k : Int), Fl w B y k → (∀ g ∈ blk y.p, g ∉ blk x.p) → Fl (w2.setCell ⟨b, 1, none⟩ vM'.v) B y k := fun y k hy h1 =>
    hy.keep F fun g hg => by
      obtain ⟨-, e2, e3⟩ := lt_ g (hy.2 g hg).2
      exact out g (h1 g hg) e2 e3
  -- a list of numbers as it is behind the growing
  have lt1 : ∀ (z : Le) (k : Int), Fl w1 B z k → (∀ g ∈ blk z.p, g ∉ [b]) := fun z k hz g hg hm => by
    have e : g = b := by simpa using hm
    obtain ⟨-, cur, hc⟩ := hz.2 g hg
    exact ty_ne hc t1 (by decide) e
  have newF : ∀ (z : Le) (k : Int), Fl w1 B z k → Fl (w2.setCell ⟨b, 1, none⟩ vM'.v) B z k := fun z k hz => by
    have q2 : Fl w2 B z k := hz.keep f2 fun g hg hm => by
      obtain ⟨-, cur, hc⟩ := hz.2 g hg
      obtain ⟨-, c2, h2⟩ := h.tyM hm
      have h3 : w1.heap[g]? = some (.cells c2 26 (0, 0)) := (f1.block g (lt_of_heap h2) (fun hx => xM g hx hm)).trans h2
      exact ty_ne hc h3 (by decide) rfl
    exact q2.keep f3 (lt1 z k hz)
  have hlm : (Ms ++ [y]).length = Ms.length + 1 := by simp
  have gM : ∀ i, i < Ms.length → (Ms ++ [y]).getD i noLe = Ms.getD i noLe := fun i hi => by rw [getD_snoc, if_pos hi]
  have gM' : (Ms ++ [y]).getD Ms.length noLe = y := by rw [getD_snoc, if_neg (by omega), if_pos rfl]
  refine ⟨⟨h.lo, t3, h.nI, by rw [n2, hlm], h.nK, ?_, ?_, ?_, h.len, by rw [hlm]; omega, ?_, ?_, ?_, h.neI, ?_, ?_, ?_, ?_⟩, F⟩
  · exact ow_keep h.rI F fun g hg => out g (fun hm => xI g hm hg) (fun e => bI (e ▸ hg)) (h.ne g hg)
  · exact ow_keep o2 f3 fun g hg hm => by
      have e : g = b := by simpa using hm
      rw [e] at hg
      rcases newM b hg with h1 | h1
      · exact bM h1
      · omega
  · exact ow_keep h.rK F fun g hg => out g (fun hm => aK g hm hg) (fun e => bK (e ▸ hg)) (fun hm => MK g hm hg)
  · intro g hg hm
    rcases newM g hm with h1 | h1
    · exact h.ne g hg h1
    · obtain ⟨-, cur, hc⟩ := h.tyI hg
      have := lt_of_heap hc
      omega
  · intro i hi
    by_cases e : i = Ms.length
    · rw [e, gxx, gmm]
      exact newF _ _ fx
    · exact oldF _ _ (h.ints i hi) fun g hg hm => aI g hm i e hi hg
  · intro i hi
    rw [hlm] at hi
    by_cases e : i < Ms.length
    · rw [gM i e]
      exact oldF _ _ (h.more i e) fun g hg hm => aM g hm i e hg
    · have e : i = Ms.length := by omega
      rw [e, gM', gmm]
      exact newF _ _ (oy.fl hys)
  · intro i hi
    rw [hlm] at hi
    by_cases e : i < Ms.length
    · rw [gM i e]
      exact h.neM i e
    · have e : i = Ms.length := by omega
      rw [e, gM']
      intro g hg hm
      rcases ny g hg with h1 | h1
      · exact aK g h1 hm
      · obtain ⟨-, cur, hc⟩ := h.tyK hm
        have := lt_of_heap hc
        omega
  · intro i h1 hi
    rw [hlm] at h1
    exact ow_keep (h.own i (by omega) hi) F fun g hg => by
      obtain ⟨-, e2, e3⟩ := lt_ g (le_own (h.own i (by omega) hi) hg).2
      exact out g (fun hm => aI g hm i (by omega) hi hg) e2 e3
  · intro i h1 hi g hg j hj hjl
    rw [hlm] at h1
    exact h.apI i (by omega) hi g hg j hj hjl
  · intro i h1 hi g hg j hj
    rw [hlm] at h1 hj
    by_cases e : j < Ms.length
    · rw [gM j e]
      exact h.apM i (by omega) hi g hg j e
    · have e : j = Ms.length := by omega
      rw [e, gM']
      intro hm
      rcases ny g hm with h2 | h2
      · exact aI g h2 i (by omega) hi hg
      · obtain ⟨-, cur, hc⟩ := le_own (h.own i (by omega) hi) hg
        have := lt_of_heap hc
        omega
end
end Go.Proofs.YtpaekbghnejhoaaDoor

namespace Go.Proofs.YtpaekbghnejhoaaDoor
open Go.RowKit Go.Maps
set_option linter.unusedVariables false
set_option linter.unusedSimpArgs false
attribute [local go_sem ↓] Go.wp_at_zero Go.wp_at_succ
/-- the blocks that a growing writes -/
def gFoot (b : Nat) (vM : Le) (Is : List Le) : List Nat := b :: (blk vM.p ++ Is.flatMap fun x => blk x.p)
theorem getD_blk {Is : List Le} {i g : Nat} (h : g ∈ blk (Is.getD i noLe).p) : g ∈ Is.flatMap fun x => blk x.p := by
  by_cases hi : i < Is.length
  · refine List.mem_flatMap.2 ⟨Is[i], List.getElem_mem hi, ?_⟩
    rw [List.getD_eq_getElem?_getD, List.getElem?_eq_getElem hi] at h
    exact h
  · rw [List.getD_eq_getElem?_getD, List.getElem?_eq_none (by omega)] at h
    simp [noLe, blk] at h
/-- a cell of a row of lists -/
theorem row_at {w : World} {B : Nat} {v : Le} {n : Nat} {Is : List Le} (h : w.ownsRow B 26 1 v.v n (Is.map Le.v)) (hn : n = Is.length) {i : Nat} (hi : i < Is.length) : ∃ g, v.p = some ⟨g, 0, none⟩ ∧ w.cell? ⟨g, i, none⟩ = some (Is.getD i noLe).v := by
  subst hn
  rcases h.2 with ⟨h2, h3⟩ | ⟨g, cap, cur, h2, h3⟩
  · omega
  · have e : v.p = some ⟨g, 0, none⟩ := by
      obtain ⟨p, k, c⟩ := v
      have h2' : Value.slice p k c = _ := h2
      injection h2' with h2'
    refine ⟨g, e, ?_⟩
    rw [h2] at h
    rw [h.cellAt i (by omega), List.getElem?_map, List.getElem?_eq_getElem hi, List.getD_eq_getElem?_getD, List.getElem?_eq_getElem hi]
    rfl
theorem row_num {w : World} {B : Nat} {v : Le} {n : Nat} {Ks : List Int} (h : w.ownsRow B 3 1 v.v n (Ks.map (Value.int .i64))) (hn : n = Ks.length) {i : Nat} (hi : i < Ks.length) : ∃ g, v.p = some ⟨g, 0, none⟩ ∧ w.cell? ⟨g, i, none⟩ = some (.int .i64 (Ks.getD i 0)) := by
  subst hn
  rcases h.2 with ⟨h2, h3⟩ | ⟨g, cap, cur, h2, h3⟩
  · omega
  · have e : v.p = some ⟨g, 0, none⟩ := by
      obtain ⟨p, k, c⟩ := v
      have h2' : Value.slice p k c = _ := h2
      injection h2' with h2'
    refine ⟨g, e, ?_⟩
    rw [h2] at h
    rw [h.cellAt i (by omega), List.getElem?_map, List.getElem?_eq_getElem hi, List.getD_eq_getElem?_getD, List.getElem?_eq_getElem hi]
    rfl
theorem rep_snoc (n : Nat) (m : Int) : List.replicate n m ++ [m] = List.replicate (n + 1) m := (List.replicate_succ' ..).symm
set_option maxRecDepth 20000 in
set_option maxHeartbeats 4000000 in
theorem grow_ok (B b : Nat) (Is Ms : List Le) (Ks : List Int) (vI vM vK : Le) (w : World) (h : Bk w B b Is Ms Ks vI vM vK) (hk : Ks.length ≤ 1000000) (hn : ∀ i, i < Ks.length → (Is.getD i noLe).n ≤ 1000000) (hB : B ≤ w.heap.size) :
    Calls Tryd.prog 93 #[.pointer (some ⟨b, 0, none⟩)] w fun e w' => e = .returned (.tuple #[]) ∧ ∃ Ms' vM', Ms'.length = Ks.length ∧ Bk w' B b Is Ms' Ks vI vM' vK ∧ Fr (gFoot b vM Is) w w' := by
  have HN := mkHid hn
  have nM := h.nM
  have nK := h.nK
  have nI := h.nI
  have lem := h.lem
  have HBk := mkHid h
  have HCl : Hid (∀ {V Ms2 vM2}, Bk V B b Is Ms2 Ks vI vM2 vK → V.cell? ⟨b, 0, none⟩ = some vI.v ∧ V.cell? ⟨b, 1, none⟩ = some vM2.v ∧ V.cell? ⟨b, 2, none⟩ = some vK.v ∧ V.cell? ⟨b, 4, none⟩ = some (.slice none 0 0) ∧ V.cell? ⟨b, 5, none⟩ = some (.slice none 0 0) ∧ V.cell? ⟨b, 7, none⟩ = some (.slice none 0 0) ∧ V.cell? ⟨b, 8, none⟩ = some (.slice none 0 0)) := fun {V Ms2 vM2} hV =>
    ⟨by rw [cell_in hV.top]; rfl, by rw [cell_in hV.top]; rfl, by rw [cell_in hV.top]; rfl, by rw [cell_in hV.top]; rfl, by rw [cell_in hV.top]; rfl, by rw [cell_in hV.top]; rfl, by rw [cell_in hV.top]; rfl⟩
  obtain ⟨pI, nI', cI⟩ := vI
  obtain ⟨pK, nK', cK⟩ := vK
  obtain ⟨pM, nM', cM⟩ := vM
  have nK : nK' = Ks.length := nK
  have nI : nI' = Is.length := nI
  have nM : nM' = Ms.length := nM
  subst nK nI nM
  have hlen := h.len
  obtain ⟨y0, y1, y2, -, -, -, -⟩ := HCl.out h
  simp only [Le.v] at y0 y1 y2
  clear h hn
  go_enter Tryd.func93, Tryd.ntmps93
  go_wp2_with fail
  go_loopw [2] (fun q wr => ∃ (j : Nat) (Mj : List Le) (vj : Le), j ≤ Ks.length ∧ Mj.length = j ∧ q = .int .i64 j ∧ Hid (Bk wr B b Is Mj Ks ⟨pI, Is.length, cI⟩ vj ⟨pK, Ks.length, cK⟩) ∧ Hid (∀ g ∈ blk vj.p, g ∈ blk pM ∨ w.heap.size ≤ g) ∧ Hid (Fr (gFoot b ⟨pM, Ms.length, cM⟩ Is) w wr)) (fun q _ => Ks.length - (intOf q).toNat)
  case atStart => exact ⟨Ms.length, Ms, ⟨pM, Ms.length, cM⟩, lem, rfl, rfl, HBk, fun g hg => .inl hg, Fr.refl _ _⟩
  case round =>
    obtain ⟨j, Mj, vj, hjn, hMj, rfl, hbk, hvj, hfr⟩ := hrel
    have j1 : (0 : Int) ≤ (j : Int) := by omega
    obtain ⟨x0, x1, x2, x4, x5, x7, x8⟩ := HCl.out hbk.out
    by_cases hlt : j < Ks.length
    · have j2 : (j : Int) < (Ks.length : Int) := by omega
      have j3 : (j : Int) < (Is.length : Int) := by omega
      obtain ⟨gI, eI, cI0⟩ := row_at hbk.out.rI rfl (i := j) (by omega)
      have eI : pI = some ⟨gI, 0, none⟩ := eI
      subst eI
      obtain ⟨gK, eK, cK0⟩ := row_num hbk.out.rK rfl hlt
      have eK : pK = some ⟨gK, 0, none⟩ := eK
      subst eK
      have ow := hbk.out.own j (by omega) hlt
      have hnn := HN.out j hlt
      have hxb : b ∉ blk (Is.getD j noLe).p := fun hm => by obtain ⟨-, cur, hc⟩ := le_own ow hm; exact ty_ne hc hbk.out.top (by decide) rfl
      have hxK := hbk.out.neI j hlt
      have hfl := hbk.out.ints j hlt
      obtain ⟨m, hm⟩ : ∃ m, m = Ks.getD j 0 := ⟨_, rfl⟩
      obtain ⟨x, hx⟩ : ∃ x, x = Is.getD j noLe := ⟨_, rfl⟩
      rw [← hx] at cI0 ow hnn hxb hxK hfl
      rw [← hm] at cK0 ow hfl
      have HC2 : Hid (∀ V, Fr (blk x.p) wr V → V.cell? ⟨b, 2, none⟩ = some (.slice (some ⟨gK, 0, none⟩) Ks.length cK) ∧ V.cell? ⟨gK, j, none⟩ = some (.int .i64 m)) := fun V hV => by
        refine ⟨?_, ?_⟩
        · rw [hV.cell (p := ⟨b, 2, none⟩) (lt_of_heap hbk.out.top) hxb]; exact x2
        · obtain ⟨-, cur, hc⟩ := hbk.out.tyK (g := gK) (by simp [blk])
          rw [hV.cell (p := ⟨gK, j, none⟩) (lt_of_heap hc) (fun hm => hxK gK hm (by simp [blk]))]; exact cK0
      have HFx := mkHid hfl
      have HOw := mkHid ow
      have HX := mkHid (And.intro hx hm)
      have HXb := mkHid hxb
      obtain ⟨xp, xn, xc⟩ := x
      simp only [Le.v] at cI0 x0 x1 x2
      have hB2 : B ≤ wr.heap.size := Nat.le_trans hB hfr.out.size
      clear ow hfl hxK hx hm hxb cK0 y0 y1 y2
      dsimp only at hnn
      generalize wr = wo at *
      go_wp2_with fail
      go_loopw [3, 4] (fun gv q V => ∃ (k : Nat) (pk : Option Addr) (ck : Nat), k ≤ 70 ∧ q = .int .i64 k ∧ gv = .slice pk (xn + k) ck ∧ Hid (Ow V B ⟨pk, xn + k, ck⟩ m) ∧ Hid (Fl V B ⟨xp, xn, xc⟩ m) ∧ Hid ((pk = xp ∧ ck = xc) ∨ ∀ g ∈ blk pk, wo.heap.size ≤ g) ∧ Hid (Fr (blk xp) wo V)) (fun _ q _ => 70 - (intOf q).toNat)
      case atStart => exact ⟨0, xp, xc, by omega, rfl, rfl, HOw, HFx, .inl ⟨rfl, rfl⟩, Fr.refl _ _⟩
      case round =>
        obtain ⟨k, pk, ck, hk70, rfl, rfl, hok, hfk, hpk, hfv⟩ := hrel
        have k1 : (0 : Int) ≤ (k : Int) := by omega
        obtain ⟨z2, z3⟩ := HC2.out wr hfv.out
        have hsv := hfv.out.size
        by_cases hk7 : k < 70
        · have k2 : (k : Int) < 70 := by omega
          have hrl : (List.replicate (xn + k) m).length = xn + k := List.length_replicate ..
          have ok1 : wr.ownsRow B 3 1 (.slice pk (List.replicate (xn + k) m).length ck) (List.replicate (xn + k) m).length ((List.replicate (xn + k) m).map (Value.int .i64)) := by rw [hrl]; exact hok.out
          obtain ⟨p', c', w', r1, o1, mv1⟩ := push_int wr B pk ck (List.replicate (xn + k) m) m ok1 (by rw [hrl]; omega) (by omega)
          rw [hrl] at r1
          rw [rep_snoc, List.length_replicate] at o1
          have HO2 : Hid (Ow w' B ⟨p', xn + (k + 1), c'⟩ m) := o1
          have hblk : ∀ g ∈ blk pk, g ∈ blk xp ∨ wo.heap.size ≤ g := fun g hg => by
            rcases hpk.out with ⟨e, -⟩ | e
            · left; rw [← e]; exact hg
            · right; exact e g hg
          have HP2 : Hid ((p' = xp ∧ c' = xc) ∨ ∀ g ∈ blk p', wo.heap.size ≤ g) := by
            rcases mv1 with ⟨e1, e2, -⟩ | ⟨-, e2⟩
            · rcases hpk.out with ⟨a1, a2⟩ | a1
              · exact .inl ⟨e1.trans a1, e2.trans a2⟩
              · refine .inr ?_
                rw [e1]; exact a1
            · exact .inr fun g hg => by have := e2 g hg; omega
          have HF2 : Hid (Fr (blk xp) wo w') := by
            rcases mv1 with ⟨-, -, e3⟩ | ⟨e3, -⟩
            · exact hfv.out.trans e3 hblk
            · exact hfv.out.trans e3 (by simp)
          have HL2 : Hid (Fl w' B ⟨xp, xn, xc⟩ m) := by
            rcases mv1 with ⟨e1, e2, e3⟩ | ⟨e3, -⟩
            · rcases hpk.out with ⟨a1, a2⟩ | a1
              · have o2 := o1
                rw [e1, e2, a1, a2] at o2
                refine ⟨?_, fun g hg => le_own (x := ⟨xp, xn + (k + 1), xc⟩) o2 hg⟩
                have hsp : List.replicate (xn + k + 1) m = List.replicate xn m ++ List.replicate (k + 1) m := by rw [List.replicate_append_replicate]; rfl
                rw [hsp] at o2
                cases xp with
                | none =>
                  have hz : xn = 0 := by
                    rcases HOw.out.2 with ⟨h2, h3⟩ | ⟨g, cap, cur, h2, h3⟩
                    · exact h3
                    · cases h2
                  have := hfk.out.1
                  subst hz
                  exact this.keep e3 (by simp)
                | some a =>
                  have ha : ∃ g, a = ⟨g, 0, none⟩ := by
                    rcases o2.2 with ⟨h2, h3⟩ | ⟨g, cap, cur, h2, h3⟩
                    · cases h2
                    · injection h2 with h2; injection h2 with h2; exact ⟨g, h2⟩
                  obtain ⟨g, rfl⟩ := ha
                  have := own_front (b := B) (n := xn + k + 1) (ls := List.replicate xn m) (ms := List.replicate (k + 1) m) o2 (by rw [List.length_replicate]; omega)
                  rw [List.length_replicate] at this
                  exact this
              · refine hfk.out.keep e3 fun g hg hm => ?_
                obtain ⟨-, cur, hc⟩ := HFx.out.2 g hg
                have h1 := lt_of_heap hc
                have h2 := a1 g hm
                omega
            · exact hfk.out.keep e3 (by simp)
          have HR1 := mkHid r1
          clear r1 o1 mv1 ok1 hok hfk hpk hblk hrl
          go_wp2_with (at_builtin; refine Lib.wpList_append_run _ rfl (.tmp 36) (.tmp 44) 26 26 rfl _ _ rfl rfl _ _ HR1.out ?_)
          go_roundw
          case rel => exact ⟨k + 1, p', c', by omega, by go_num, rfl, HO2, HL2, HP2, HF2⟩
          case measure => simp [intOf]; omega
        · have hke : k = 70 := by omega
          subst hke
          have hlm : (Mj.map Le.v).length = j := by rw [List.length_map]; exact hMj
          have hvn : vj.n = j := by rw [hbk.out.nM]; exact hMj
          have xM : ∀ g ∈ blk xp, g ∉ blk vj.p := fun g hg hm => by
            obtain ⟨-, cur, hc⟩ := le_own HOw.out hg
            obtain ⟨-, c2, h2⟩ := hbk.out.tyM hm
            exact ty_ne hc h2 (by decide) rfl
          have oM0 : wr.ownsRow B 26 1 vj.v vj.n (Mj.map Le.v) := ow_keep hbk.out.rM hfv.out fun g hg hm => xM g hm hg
          obtain ⟨pj, nj, cj⟩ := vj
          have hvn : nj = j := hvn
          subst hvn
          have oM : wr.ownsRow B 26 1 (.slice pj (Mj.map Le.v).length cj) (Mj.map Le.v).length (Mj.map Le.v) := by rw [hlm]; exact oM0
          obtain ⟨p', c', w', r1, o1, mv1⟩ := push_ints wr B pj cj (Mj.map Le.v) (.slice pk (xn + 70) ck) oM rfl (by rw [hlm]; omega) (by omega)
          rw [hlm] at r1
          have o2 : w'.ownsRow B 26 1 (Le.v ⟨p', nj + 1, c'⟩) (nj + 1) ((Mj ++ [(⟨pk, xn + 70, ck⟩ : Le)]).map Le.v) := by
            have := o1
            rw [List.length_append, hlm] at this
            rw [List.map_append]
            exact this
          have mv2 : Mv ⟨pj, nj, cj⟩ ⟨p', nj + 1, c'⟩ wr w' := by
            rcases mv1 with ⟨e1, -, e3⟩ | ⟨e1, e2⟩
            · exact .inl ⟨e1, e3⟩
            · exact .inr ⟨e1, e2⟩
          have hny : ∀ g ∈ blk pk, g ∈ blk xp ∨ wo.heap.size ≤ g := fun g hg => by
            rcases hpk.out with ⟨e, -⟩ | e
            · left; rw [← e]; exact hg
            · right; exact e g hg
          have tb : wr.heap[b]? = _ := (hfv.out.block b (lt_of_heap hbk.out.top) HXb.out).trans hbk.out.top
          have bM : b ∉ blk pj := fun hm => by obtain ⟨-, c2, h2⟩ := hbk.out.tyM hm; exact ty_ne hbk.out.top h2 (by decide) rfl
          have tb2 : w'.heap[b]? = _ := (mv2.fr.block b (lt_of_heap tb) bM).trans tb
          have q1 : wr.cell? ⟨b, 1, none⟩ = some (.slice pj nj cj) := by rw [cell_in tb]; rfl
          have q2 : w'.cell? ⟨b, 1, none⟩ = some (.slice pj nj cj) := by rw [cell_in tb2]; rfl
          have fz2 := frozen_in tb2 1
          have hgr := hbk.out.grown (by omega) (w1 := wr) (w2 := w') (y := ⟨pk, xn + 70, ck⟩) (vM' := ⟨p', nj + 1, c'⟩) (by rw [hMj, ← HX.out.1]; exact hfv.out) (by rw [hMj, ← HX.out.2]; exact hok.out) (by show xn + 70 ≤ _; omega) (by rw [hMj, ← HX.out.1]; exact hny) (by rw [hMj, ← HX.out.1, ← HX.out.2]; exact hfk.out) o2 (by show nj + 1 = _; rw [hMj]) mv2
          rw [hMj, ← HX.out.1] at hgr
          have HG := mkHid hgr.1
          have HFz : Hid (Fr (gFoot b ⟨pM, Ms.length, cM⟩ Is) w (w'.setCell ⟨b, 1, none⟩ (Le.v ⟨p', nj + 1, c'⟩))) := by
            refine hfr.out.trans hgr.2 fun g hg => ?_
            rcases List.mem_append.1 hg with hg | hg
            · left
              refine List.mem_cons.2 (.inr (List.mem_append.2 (.inr ?_)))
              refine getD_blk (i := nj) ?_
              rw [← HX.out.1]
              exact hg
            · rcases List.mem_cons.1 hg with hg | hg
              · left; exact List.mem_cons.2 (.inl hg)
              · rcases hvj.out g hg with h1 | h1
                · left; exact List.mem_cons.2 (.inr (List.mem_append.2 (.inl h1)))
                · right; exact h1
          have HV2 : Hid (∀ g ∈ blk p', g ∈ blk pM ∨ w.heap.size ≤ g) := fun g hg => by
            rcases mv2.mem hg with h1 | h1
            · exact hvj.out g h1
            · have := hfr.out.size
              exact .inr (by omega)
          have hml : (Mj ++ [(⟨pk, xn + 70, ck⟩ : Le)]).length = nj + 1 := by rw [List.length_append, hMj]; rfl
          have HML := mkHid hml
          have HR1 := mkHid r1
          clear r1 o1 o2 mv1 mv2 oM oM0 hok hfk hpk hny hgr tb tb2 hlm hml xM
          go_wp2_with (at_builtin; refine Lib.wpList_append_run _ rfl (.tmp 50) (.tmp 52) 66 66 rfl _ _ rfl rfl _ _ HR1.out ?_)
          go_roundw
          case rel => exact ⟨nj + 1, _, ⟨p', nj + 1, c'⟩, by omega, HML.out, by go_num, HG, HV2, HFz⟩
          case measure => simp [intOf]; omega
    · have hje : j = Ks.length := by omega
      subst hje
      have j2 : ¬ (Ks.length : Int) < (Ks.length : Int) := by omega
      have HZ : Hid (∃ Ms' vM', Ms'.length = Ks.length ∧ Bk wr B b Is Ms' Ks ⟨pI, Is.length, cI⟩ vM' ⟨pK, Ks.length, cK⟩ ∧ Fr (gFoot b ⟨pM, Ms.length, cM⟩ Is) w wr) := ⟨Mj, vj, hMj, hbk.out, hfr.out⟩
      simp only [Le.v] at x0 x1 x2
      generalize wr = wo at *
      clear hbk hvj hfr
      go_wp2_with fail
      go_loopw [5] (fun q V => q = .int .i64 0 ∧ V = wo) (fun _ _ => 0)
      case atStart => exact ⟨rfl, rfl⟩
      case round =>
        obtain ⟨rfl, rfl⟩ := hrel
        go_wp2_with fail
        go_loopw [8] (fun q V => q = .int .i64 0 ∧ V = wr) (fun _ _ => 0)
        case atStart => exact ⟨rfl, rfl⟩
        case round =>
          obtain ⟨rfl, rfl⟩ := hrel
          go_wp2_with fail
          go_end0
          exact ⟨rfl, HZ.out⟩
end Go.Proofs.YtpaekbghnejhoaaDoor

namespace Go.Proofs.YtpaekbghnejhoaaDoor
open Go.RowKit
set_option linter.unusedVariables false
set_option linter.unusedSimpArgs false
attribute [local go_sem ↓] Go.wp_at_zero Go.wp_at_succ
set_option maxRecDepth 20000 in
set_option maxHeartbeats 1000000 in
theorem fullInts_ok (n : Nat) (m : Int) (v : Value) (w : World) (h : Rd w v (List.replicate n m)) :
    Calls Tryd.prog 94 #[v, .int .i64 m] w fun e w' => e = .returned (.bool true) ∧ w' = w := by
  obtain ⟨p, c, rfl, hp⟩ := h.at_
  have hs := h.short
  rw [List.length_replicate] at hp hs ⊢
  have HP := mkHid hp
  clear h hp
  go_enter Tryd.func94, Tryd.ntmps94
  go_wp2_with fail
  go_loopw [5] (fun q wr => ∃ i : Nat, i ≤ n ∧ q = .int .i64 i ∧ Hid (wr = w)) (fun q _ => n - (intOf q).toNat)
  case atStart => exact ⟨0, Nat.zero_le _, rfl, mkHid rfl⟩
  case round =>
    obtain ⟨i, hin, rfl, hw0⟩ := hrel
    rw [hw0.out]
    clear hw0
    have i1 : (0 : Int) ≤ (i : Int) := by omega
    by_cases hi : i < n
    · have i2 : (i : Int) < (n : Int) := by omega
      obtain ⟨g, off, rfl, hg, hc⟩ := HP.out (by omega)
      have x1 := hc i hi
      have e : (List.replicate n m).getD i 0 = m := by rw [List.getD_eq_getElem?_getD, List.getElem?_replicate, if_pos hi]; rfl
      rw [e] at x1
      clear hc e
      go_wp2_with fail
      go_roundw
      case rel => exact ⟨i + 1, by omega, by go_num, by first | exact mkHid rfl | exact mkHid trivial⟩
      case measure => simp [intOf]; omega
    · have hie : i = n := by omega
      subst hie
      go_wp2_with fail
      go_ret
      exact ⟨rfl, rfl⟩
end Go.Proofs.YtpaekbghnejhoaaDoor


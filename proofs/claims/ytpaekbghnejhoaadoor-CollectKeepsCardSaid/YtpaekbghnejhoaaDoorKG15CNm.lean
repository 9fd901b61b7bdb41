import Derived.Test.YtpaekbghnejhoaaDoorKG14CBridge
import Derived.Test.YtpaekbghnejhoaaDoorKG12CMarked
import Derived.Test.YtpaekbghnejhoaaDoorKG11HRefB
import Derived.Test.YtpaekbghnejhoaaDoorKG09HLoadP
import Derived.Deep.Quiet
import Derived.Deep.RegionHeld3
namespace Go.Proofs.YtpaekbghnejhoaaDoor
open Go.RowKit
set_option linter.unusedVariables false
theorem rise_eq : ∀ (l m : List Nat), l.Pairwise (· < ·) → m.Pairwise (· < ·) → (∀ x, x ∈ l ↔ x ∈ m) → l = m
  | [], [], _, _, _ => rfl
  | [], y :: m, _, _, h => by have := (h y).2 (by simp); simp at this
  | x :: l, [], _, _, h => by have := (h x).1 (by simp); simp at this
  | x :: l, y :: m, hl, hm, h => by
    obtain ⟨l1, l2⟩ := List.pairwise_cons.1 hl
    obtain ⟨m1, m2⟩ := List.pairwise_cons.1 hm
    have hx : x = y := by
      have a1 := (h x).1 (by simp)
      have a2 := (h y).2 (by simp)
      rcases List.mem_cons.1 a1 with e | a1
      · exact e
      · rcases List.mem_cons.1 a2 with e | a2
        · exact e.symm
        · have := m1 x a1; have := l1 y a2; omega
    subst hx
    congr 1
    refine rise_eq l m l2 m2 fun z => ?_
    constructor
    · intro hz
      have := (h z).1 (by simp [hz])
      rcases List.mem_cons.1 this with e | h2
      · have := l1 z hz; omega
      · exact h2
    · intro hz
      have := (h z).2 (by simp [hz])
      rcases List.mem_cons.1 this with e | h2
      · have := m1 z hz; omega
      · exact h2
/-- the fixed state of the laws -/
def aK : List Key := [(3, 8, 0, [4]), (1, 5, 0, [8]), (2, 5, 0, [4, 9])]
theorem aK_takes : ∀ (k : Nat) (o : Key), aK[k]? = some o → takesK 20 4 (aK.take k) o = true := by
  intro k o h
  have hk : k < 3 := (List.getElem?_eq_some_iff.1 h).1
  have : k = 0 ∨ k = 1 ∨ k = 2 := by omega
  rcases this with rfl | rfl | rfl
  · obtain rfl := Option.some.inj h; decide
  · obtain rfl := Option.some.inj h; decide
  · obtain rfl := Option.some.inj h; decide
theorem aK_lk {H : HS} {M : MS} (h : KA 20 4 0 aK H M) : lk M 1 = [5, 8] ∧ lk M 2 = [5, 4, 9] := by
  obtain ⟨-, -, b2, b3, b4⟩ := h.at_ (1, 5, 0, [8]) (by simp [aK])
  obtain ⟨-, -, c2, c3, c4⟩ := h.at_ (2, 5, 0, [4, 9]) (by simp [aK])
  unfold lk leadsOf
  have b3' : (M.things.getD (1 - 1) noTh).fmt = 0 := by have : ((M.things.getD (1 - 1) noTh).fmt : Int) = 0 := b3; omega
  have c3' : (M.things.getD (2 - 1) noTh).fmt = 0 := by have : ((M.things.getD (2 - 1) noTh).fmt : Int) = 0 := c3; omega
  have b2' : (M.things.getD (1 - 1) noTh).cls = 5 := b2
  have c2' : (M.things.getD (2 - 1) noTh).cls = 5 := c2
  have b4' : (M.things.getD (1 - 1) noTh).slots = [8] := b4
  have c4' : (M.things.getD (2 - 1) noTh).slots = [4, 9] := c4
  rw [b2', b3', b4', c2', c3', c4']
  exact ⟨rfl, rfl⟩
theorem aK_rs {H : HS} {M : MS} (h : KA 20 4 0 aK H M) {rs : List Nat} (hs : Sr H M [8] (rs, [])) (q : Nat) : q ∈ rs ↔ q = 1 ∨ q = 2 := by
  obtain ⟨e1, e2⟩ := aK_lk h
  have n1 : namesB H 4 = true := by
    unfold namesB
    rw [Bool.and_eq_true]
    exact ⟨by decide, h.hasK (1, 5, 0, [8]) (by simp [aK])⟩
  have n2 : namesB H 8 = true := by
    unfold namesB
    rw [Bool.and_eq_true]
    exact ⟨by decide, h.hasK (2, 5, 0, [4, 9]) (by simp [aK])⟩
  have n5 : ¬ namesB H 5 = true := by
    unfold namesB
    rw [Bool.and_eq_true]
    exact fun hc => absurd hc.1 (by decide)
  have n9 : ¬ namesB H 9 = true := by
    unfold namesB
    rw [Bool.and_eq_true]
    exact fun hc => absurd hc.1 (by decide)
  have r2 : 2 ∈ rs := hs.root 8 (by simp) n2
  have r1 : 1 ∈ rs := by
    rcases hs.on 2 r2 with h1 | h1
    · simp at h1
    · exact h1 4 (by rw [e2]; simp) n1
  refine ⟨fun hq => hs.least (fun q => q = 1 ∨ q = 2) ⟨fun z hz hb => ?_, fun p hp z hz hb => ?_⟩ q hq, fun hq => by rcases hq with rfl | rfl <;> assumption⟩
  · obtain rfl : z = 8 := by simpa using hz
    exact .inr rfl
  · rcases hp with rfl | rfl
    · rw [e1] at hz
      have : z = 5 ∨ z = 8 := by simpa using hz
      rcases this with rfl | rfl
      · exact absurd hb n5
      · exact .inr rfl
    · rw [e2] at hz
      have : z = 5 ∨ z = 4 ∨ z = 9 := by simpa using hz
      rcases this with rfl | rfl | rfl
      · exact absurd hb n5
      · exact .inl rfl
      · exact absurd hb n9
theorem aK_stays {H : HS} {M : MS} (h : KA 20 4 0 aK H M) {rs : List Nat} (hs : Sr H M [8] (rs, [])) : stays H rs = [1, 2] := by
  refine rise_eq _ _ ?_ (by decide) fun q => ?_
  · rw [stays_eq]; exact List.Pairwise.filter _ List.pairwise_lt_range
  · rw [mem_stays h.inv hs.there, aK_rs h hs]
    simp
theorem aK_kept {H : HS} {M : MS} (h : KA 20 4 0 aK H M) {rs : List Nat} (hs : Sr H M [8] (rs, [])) (ha : H.age ≤ 1000000000) :
    (H.count : Int) - (keepH H (stays H rs)).count = 1 ∧ (H.mem.length : Int) - (keepH H (stays H rs)).mem.length = 3 := by
  have h2 := h.keep (stays H rs) (stays_has h.inv rs) ha
  rw [aK_stays h hs] at h2 ⊢
  have c1 := h.count
  have c2 := h2.count
  have m1 := h.mem
  have m2 := h2.mem
  have e : (aK.filter fun k => decide (k.1.toNat ∈ [1, 2])) = [(1, 5, 0, [8]), (2, 5, 0, [4, 9])] := by decide
  rw [e] at c2 m2
  have e1 : endK aK = 10 := by decide
  have e2 : endK [(1, 5, 0, [8]), (2, 5, 0, [4, 9])] = 7 := by decide
  rw [e1] at m1
  rw [e2] at m2
  rw [m1, m2, c1, c2]
  exact ⟨by decide, by decide⟩
end Go.Proofs.YtpaekbghnejhoaaDoor
namespace Go.Proofs.YtpaekbghnejhoaaDoor
open Go.RowKit
set_option linter.unusedVariables false
attribute [local go_sem ↓] Go.wp_at_zero Go.wp_at_succ
set_option maxRecDepth 20000 in
set_option maxHeartbeats 600000 in
theorem sameInts_ok (ss : List Int) (va vb : Value) (w : World) (ha : Rd w va ss) (hb : Rd w vb ss) :
    Calls Tryd.prog 23 #[va, vb] w fun e w' => e = .returned (.bool true) ∧ ∃ n, w' = w.drewN n := by
  obtain ⟨pa, ca, rfl, hpa⟩ := ha.at_
  obtain ⟨pb, cb, rfl, hpb⟩ := hb.at_
  have hl := ha.short
  clear ha hb
  have HA := mkHid hpa
  have HB := mkHid hpb
  clear hpa hpb
  go_enter Tryd.func23, Tryd.ntmps23
  go_wp2_with fail
  go_loopw [5] (fun q wr => ∃ k : Nat, k ≤ ss.length ∧ q = .int .i64 k ∧ Hid (∃ n, wr = w.drewN n)) (fun q _ => ss.length - (intOf q).toNat)
  case atStart => exact ⟨0, Nat.zero_le _, rfl, 0, rfl⟩
  case round =>
    obtain ⟨k, hkn, rfl, hq⟩ := hrel
    by_cases hlt : k < ss.length
    · obtain ⟨ga, oa, rfl, -, hca⟩ := HA.out (by omega)
      obtain ⟨gb, ob, rfl, -, hcb⟩ := HB.out (by omega)
      obtain ⟨n, hn⟩ := hq.out
      have x1 : wr.cell? ⟨ga, oa + k, none⟩ = some (.int .i64 (ss.getD k 0)) := by rw [hn]; exact hca k hlt
      have x2 : wr.cell? ⟨gb, ob + k, none⟩ = some (.int .i64 (ss.getD k 0)) := by rw [hn]; exact hcb k hlt
      have k1 : (0 : Int) ≤ (k : Int) := by omega
      have k2 : (k : Int) < (ss.length : Int) := by omega
      have HD : Hid (∀ m, ∃ n, wr.drewN m = w.drewN n) := fun m => ⟨n + m, by rw [hn]; simp [World.drewN, Nat.add_assoc]⟩
      generalize ss.getD k 0 = z at *
      clear hca hcb hq hn HA HB
      go_wp2_with fail
      go_quiet (fail)
      go_wp2_with fail
      go_roundw
      case rel => exact ⟨k + 1, by omega, by go_num, HD.out _⟩
      case measure => simp [intOf]; omega
    · have hke : k = ss.length := by omega
      subst hke
      go_wp2_with fail
      go_ret
      exact ⟨rfl, hq.out⟩
end Go.Proofs.YtpaekbghnejhoaaDoor
namespace Go.Proofs.YtpaekbghnejhoaaDoor
open Go.RowKit
set_option linter.unusedVariables false
attribute [local go_sem ↓] Go.wp_at_zero Go.wp_at_succ
/-- the state's objects -/
def aL (b : Nat) : List OI := [⟨3, 8, 0, [4], .slice (some ⟨b, 0, none⟩) 1 1⟩, ⟨1, 5, 0, [8], .slice (some ⟨b + 1, 0, none⟩) 1 1⟩, ⟨2, 5, 0, [4, 9], .slice (some ⟨b + 1 + 1, 0, none⟩) 2 2⟩]
theorem rd_lit {w : World} {g : Nat} {ss : List Int} {t : TypeId} (h : w.heap[g]? = some (.cells (ss.map (Value.int .i64)).toArray t (0, 0))) (hs : ss.length ≤ 17592186043904) : Rd w (.slice (some ⟨g, 0, none⟩) ss.length ss.length) ss := by
  refine ⟨⟨some ⟨g, 0, none⟩, ss.length, rfl, fun hp => ⟨g, 0, rfl, lt_of_heap h, fun i hi => ?_⟩⟩, fun c hc => (by cases hc), hs⟩
  rw [Nat.zero_add, cell_in h]
  rw [List.getElem?_toArray, List.getElem?_map, List.getD_eq_getElem?_getD, List.getElem?_eq_getElem hi]
  rfl
theorem aL_at (w : World) : SAt ((((w.alloc (Obj.cells #[Value.int IntKind.i64 4] 40)).alloc (Obj.cells #[Value.int IntKind.i64 8] 40)).alloc (Obj.cells #[Value.int IntKind.i64 4, Value.int IntKind.i64 9] 40)).alloc (Obj.cells #[Value.int IntKind.i64 3, Value.int IntKind.i64 8, Value.int IntKind.i64 0, Value.slice (some { block := w.heap.size, off := 0 }) 1 1, Value.int IntKind.i64 1, Value.int IntKind.i64 5, Value.int IntKind.i64 0, Value.slice (some { block := w.heap.size + 1, off := 0 }) 1 1, Value.int IntKind.i64 2, Value.int IntKind.i64 5, Value.int IntKind.i64 0, Value.slice (some { block := w.heap.size + 1 + 1, off := 0 }) 2 2] 44))
    (.slice (some ⟨w.heap.size + 1 + 1 + 1, 0, none⟩) 3 3) (aL w.heap.size) := by
  obtain ⟨A, hA⟩ : ∃ A, A = w.alloc (Obj.cells #[Value.int IntKind.i64 4] 40) := ⟨_, rfl⟩
  obtain ⟨B, hB⟩ : ∃ B, B = A.alloc (Obj.cells #[Value.int IntKind.i64 8] 40) := ⟨_, rfl⟩
  obtain ⟨C, hC⟩ : ∃ C, C = B.alloc (Obj.cells #[Value.int IntKind.i64 4, Value.int IntKind.i64 9] 40) := ⟨_, rfl⟩
  obtain ⟨D, hD⟩ : ∃ D, D = C.alloc (Obj.cells #[Value.int IntKind.i64 3, Value.int IntKind.i64 8, Value.int IntKind.i64 0, Value.slice (some { block := w.heap.size, off := 0 }) 1 1, Value.int IntKind.i64 1, Value.int IntKind.i64 5, Value.int IntKind.i64 0, Value.slice (some { block := w.heap.size + 1, off := 0 }) 1 1, Value.int IntKind.i64 2, Value.int IntKind.i64 5, Value.int IntKind.i64 0, Value.slice (some { block := w.heap.size + 1 + 1, off := 0 }) 2 2] 44) := ⟨_, rfl⟩
  rw [← hA, ← hB, ← hC, ← hD]
  have sA : A.heap.size = w.heap.size + 1 := by rw [hA]; simp
  have sB : B.heap.size = w.heap.size + 1 + 1 := by rw [hB]; simp [sA]
  have sC : C.heap.size = w.heap.size + 1 + 1 + 1 := by rw [hC]; simp [sB]
  have b0 : A.heap[w.heap.size]? = some (.cells #[Value.int IntKind.i64 4] 40 (0, 0)) := by rw [hA]; exact heap_alloc_new _ _
  have b1 : B.heap[w.heap.size + 1]? = some (.cells #[Value.int IntKind.i64 8] 40 (0, 0)) := by rw [hB, ← sA]; exact heap_alloc_new _ _
  have b2 : C.heap[w.heap.size + 1 + 1]? = some (.cells #[Value.int IntKind.i64 4, Value.int IntKind.i64 9] 40 (0, 0)) := by rw [hC, ← sB]; exact heap_alloc_new _ _
  have b3 := heap_alloc_new C (Obj.cells #[Value.int IntKind.i64 3, Value.int IntKind.i64 8, Value.int IntKind.i64 0, Value.slice (some { block := w.heap.size, off := 0 }) 1 1, Value.int IntKind.i64 1, Value.int IntKind.i64 5, Value.int IntKind.i64 0, Value.slice (some { block := w.heap.size + 1, off := 0 }) 1 1, Value.int IntKind.i64 2, Value.int IntKind.i64 5, Value.int IntKind.i64 0, Value.slice (some { block := w.heap.size + 1 + 1, off := 0 }) 2 2] 44)
  rw [← hD, sC] at b3
  have fB : Fr [] A B := by rw [hB]; exact Fr.alloc [] _ _
  have fC : Fr [] B C := by rw [hC]; exact Fr.alloc [] _ _
  have fD : Fr [] C D := by rw [hD]; exact Fr.alloc [] _ _
  have r0 : Rd D (.slice (some ⟨w.heap.size, 0, none⟩) 1 1) [4] := (((rd_lit (ss := [4]) b0 (by simp)).idle fB).idle fC).idle fD
  have r1 : Rd D (.slice (some ⟨w.heap.size + 1, 0, none⟩) 1 1) [8] := ((rd_lit (ss := [8]) b1 (by simp)).idle fC).idle fD
  have r2 : Rd D (.slice (some ⟨w.heap.size + 1 + 1, 0, none⟩) 2 2) [4, 9] := (rd_lit (ss := [4, 9]) b2 (by simp)).idle fD
  refine ⟨⟨some ⟨w.heap.size + 1 + 1 + 1, 0, none⟩, 3, rfl, fun _ => ⟨w.heap.size + 1 + 1 + 1, 0, rfl, fun k hk => ?_⟩⟩, fun o ho => ?_, by simp [aL]⟩
  · have hk' : k = 0 ∨ k = 1 ∨ k = 2 := by have : k < 3 := hk; omega
    rcases hk' with rfl | rfl | rfl
    · exact ⟨_, rfl, by rw [cell_in b3]; rfl, by rw [cell_in b3]; rfl, by rw [cell_in b3]; rfl, by rw [cell_in b3]; rfl⟩
    · exact ⟨_, rfl, by rw [cell_in b3]; rfl, by rw [cell_in b3]; rfl, by rw [cell_in b3]; rfl, by rw [cell_in b3]; rfl⟩
    · exact ⟨_, rfl, by rw [cell_in b3]; rfl, by rw [cell_in b3]; rfl, by rw [cell_in b3]; rfl, by rw [cell_in b3]; rfl⟩
  · have ho' : o = ⟨3, 8, 0, [4], .slice (some ⟨w.heap.size, 0, none⟩) 1 1⟩ ∨ o = ⟨1, 5, 0, [8], .slice (some ⟨w.heap.size + 1, 0, none⟩) 1 1⟩ ∨ o = ⟨2, 5, 0, [4, 9], .slice (some ⟨w.heap.size + 1 + 1, 0, none⟩) 2 2⟩ := by simpa [aL] using ho
    rcases ho' with rfl | rfl | rfl
    · exact r0
    · exact r1
    · exact r2
theorem aL_load (b : Nat) (ov : Value) (w : World) (ha : SAt w ov (aL b)) (hT : Tab w) (hT0 : 0 < w.heap.size) : Calls Tryd.prog 7 #[.agg #[.int .i64 20, .int .i64 4, .int .i64 0, ov]] w fun e w' =>
    ∃ l H M, e = .returned (.tuple #[.pointer (some ⟨w.heap.size + 1, 0, none⟩), .int .i64 0]) ∧ Rep w' (w.heap.size + 1) l H ∧ KOf 20 4 0 aK H M ∧ Fr [] w w' ∧ ∀ g ∈ foot (w.heap.size + 1) l, w.heap.size ≤ g := by
  refine (Load_any 20 4 0 ov (aL b) w ha hT hT0 (by decide) (by decide) (by decide)).mono ?_
  rintro e w' (⟨l, H, M, rfl, hl⟩ | ⟨k, o, H, M, rfl, hf, hk, hl, ht⟩)
  · have h1 := hl.lds
    rw [List.take_length] at h1
    exact ⟨l, H, M, rfl, hl.rep, h1.kOf (by decide) (by decide) (by decide), hl.fr, hl.new⟩
  · exfalso
    have h1 := hl.kOf (by decide) (by decide) (by decide)
    have h2 := h1.takes (oiKey o)
    have h3 : takesB H (oiKey o).1 (oiKey o).2.1 (oiKey o).2.2.1 (oiKey o).2.2.2 = false := ht
    rw [h3] at h2
    have h4 := aK_takes k (oiKey o) (by have : aK = (aL b).map oiKey := rfl; rw [this, List.getElem?_map, hk]; rfl)
    have h5 : aK.take k = ((aL b).take k).map oiKey := by rw [List.map_take]; rfl
    rw [h5, ← h2] at h4
    cases h4
end Go.Proofs.YtpaekbghnejhoaaDoor
namespace Go.Proofs.YtpaekbghnejhoaaDoor
open Go.RowKit
set_option linter.unusedVariables false
attribute [local go_sem ↓] Go.wp_at_zero Go.wp_at_succ
theorem own_ints {w : World} {base : Nat} {v : Value} {st : List Nat} (h : w.ownsRow base 3 1 v st.length (st.map I)) : w.ownsRow base 3 1 v (zs st).length ((zs st).map (Value.int .i64)) := by
  unfold zs
  rw [List.length_map, List.map_map]
  exact h
set_option maxRecDepth 20000 in
set_option maxHeartbeats 2000000 in
theorem alive_ok (w : World) (hT : Tab w) (hT0 : 0 < w.heap.size) : Calls Tryd.prog 9 #[] w fun e w' => e = .returned (.bool true) ∧ Fr [] w w' := by
  obtain ⟨W0, hW0⟩ : ∃ W0, W0 = (((w.alloc (Obj.cells #[Value.int IntKind.i64 4] 40)).alloc (Obj.cells #[Value.int IntKind.i64 8] 40)).alloc (Obj.cells #[Value.int IntKind.i64 4, Value.int IntKind.i64 9] 40)).alloc (Obj.cells #[Value.int IntKind.i64 3, Value.int IntKind.i64 8, Value.int IntKind.i64 0, Value.slice (some { block := w.heap.size, off := 0 }) 1 1, Value.int IntKind.i64 1, Value.int IntKind.i64 5, Value.int IntKind.i64 0, Value.slice (some { block := w.heap.size + 1, off := 0 }) 1 1, Value.int IntKind.i64 2, Value.int IntKind.i64 5, Value.int IntKind.i64 0, Value.slice (some { block := w.heap.size + 1 + 1, off := 0 }) 2 2] 44) := ⟨_, rfl⟩
  have F0 : Hid (Fr [] w W0) := by rw [hW0]; exact (((Fr.alloc [] _ _).trans (Fr.alloc [] _ _) (by simp)).trans (Fr.alloc [] _ _) (by simp)).trans (Fr.alloc [] _ _) (by simp)
  have hSA := aL_at w
  rw [← hW0] at hSA
  have HLd := mkHid (aL_load w.heap.size _ W0 hSA (hT.fr F0.out hT0) (Nat.lt_of_lt_of_le hT0 F0.out.size))
  have HTb : Hid (∀ V, Fr [] W0 V → Tab V) := fun V hV => hT.fr (F0.out.trans hV (by simp)) hT0
  clear hSA hT hT0
  go_enter Tryd.func9, Tryd.ntmps9
  go_wp2_with fail
  rw [← hW0]
  refine Calls.mono HLd.out ?_
  clear HLd hW0
  rintro e w1 ⟨l, H, M, rfl, hrep, hk, hf1, hnew⟩
  generalize ha : W0.heap.size + 1 = a at *
  have HK := mkHid hk.ka
  have HAge : Hid (H.age ≤ 1000000000) := by show H.age ≤ _; rw [hk.age]; decide
  have HRe := mkHid hrep
  have HF1 := mkHid hf1
  have HNw := mkHid hnew
  clear hk hrep hf1 hnew
  go_wp2_with fail
  refine Calls.mono (num_any 0 w1 (by decide) (by decide)) ?_
  rintro e w2 ⟨rfl, rfl⟩
  go_wp2_with fail
  have hRd1 : Rd (w2.alloc (.cells #[.int .i64 8] 40)) (.slice (some ⟨w2.heap.size, 0, none⟩) ([8] : List Int).length 1) [8] := rd_lit (ss := [8]) (heap_alloc_new w2 _) (by simp)
  refine Calls.mono (Reach_ok a l H M (some ⟨w2.heap.size, 0, none⟩) 1 [8] _ (HRe.out.alloc _) HK.out.inv (HTb.out _ (HF1.out.trans (Fr.alloc [] _ _) (by simp))) hRd1) ?_
  rintro e w3 ⟨v, rfl, rs, hsr, hrow, hf3⟩
  have hst := aK_stays HK.out hsr
  unfold stays at hst
  rw [hst] at hrow
  have hF3 : Fr [] w2 w3 := (Fr.alloc [] _ _).trans hf3 (by simp)
  have hrd := own_rd (own_ints hrow) (by simp [zs])
  obtain ⟨pv, cv, rfl, -⟩ := hrd.at_
  have HRow := mkHid hrow
  have HF3 := mkHid hF3
  clear hrow hf3 hst hsr hRd1 hrd hF3
  go_wp2_with fail
  have hRd2 : Rd (w3.alloc (.cells #[.int .i64 8] 40)) (.slice (some ⟨w3.heap.size, 0, none⟩) ([8] : List Int).length 1) [8] := rd_lit (ss := [8]) (heap_alloc_new w3 _) (by simp)
  have hfo : ∀ g ∈ foot a l, g < w2.heap.size := fun g hg => HRe.out.lt g hg
  refine Calls.mono (Run_ok a l H M (some ⟨w3.heap.size, 0, none⟩) 1 [8] _ ((HRe.out.keep HF3.out (by simp)).alloc _) HK.out.inv (HTb.out _ ((HF1.out.trans HF3.out (by simp)).trans (Fr.alloc [] _ _) (by simp))) hRd2 HAge.out) ?_
  rintro e w4 ⟨rs2, hsr2, rfl, hrep4, hinv4, hnx4⟩
  obtain ⟨e1, e2⟩ := aK_kept HK.out hsr2 HAge.out
  have hall := (run_all HK.out.inv rs2 hinv4).trans (aK_stays HK.out hsr2)
  have hse := hinv4.told.seats
  have hfw4 : Fr [] w w4 := ((F0.out.trans HF1.out (by simp)).trans ((HF3.out.trans (Fr.alloc [] _ _) (by simp))) (by simp)).trans hnx4.1 (fun b hb => .inr (Nat.le_trans F0.out.size (HNw.out b hb)))
  have hrd4 : Rd w4 (.slice pv (zs [1, 2]).length cv) (zs [1, 2]) := by
    refine own_rd (own_ints (own_congr (own_congr HRow.out fun g hg => (Fr.alloc [] w3 (.cells #[.int .i64 8] 40)).block g (HRow.out.lt g hg).2 (by simp)) fun g hg => hnx4.1.block g ?_ ?_)) (by simp [zs])
    · have := (HRow.out.lt g hg).2; simp; omega
    · intro hm
      have h1 := (HRow.out.lt g hg).1
      have h2 := hfo g hm
      simp at h1
      omega
  generalize keepH H (stays H rs2) = H4 at *
  rw [e1, e2]
  have HRp4 := mkHid hrep4
  have HAll := mkHid hall
  have HSe := mkHid hse
  have HFw := mkHid hfw4
  have HRd4 := mkHid hrd4
  clear hsr2 hrep4 hinv4 hnx4 e1 e2 hall hse hfw4 hrd4 hRd2 HRow HF3 HF1 HRe HK HAge hfo HTb HNw F0
  have hz2 : (zs [1, 2]).length = 2 := rfl
  rw [hz2] at *
  go_wp2_with fail
  refine Calls.mono (num_any 0 w4 (by decide) (by decide)) ?_
  rintro e w5 ⟨rfl, rfl⟩
  go_wp2_with fail
  refine Calls.mono (num_any 0 w5 (by decide) (by decide)) ?_
  rintro e w6 ⟨rfl, rfl⟩
  go_wp2_with fail
  have hr1 : Rd (w6.alloc (.cells #[.int .i64 1, .int .i64 2] 3)) (.slice (some ⟨w6.heap.size, 0, none⟩) 2 2) (zs [1, 2]) := rd_lit (ss := [1, 2]) (heap_alloc_new w6 _) (by simp)
  refine Calls.mono (sameInts_ok (zs [1, 2]) _ _ _ (HRd4.out.idle (Fr.alloc [] _ _)) hr1) ?_
  rintro e w7 ⟨rfl, n7, hw7⟩
  have hf7 : Fr [] w6 w7 := by rw [hw7]; exact (Fr.alloc [] _ _).trans (Fr.drewN [] _ _) (by simp)
  have HF7 := mkHid hf7
  clear hr1 hw7 hf7
  go_wp2_with fail
  refine Calls.mono (All_ok a l H4 w7 (HRp4.out.keep HF7.out (by simp)) HSe.out) ?_
  rintro e w8 ⟨v8, rfl, hrow8, hf8⟩
  rw [HAll.out] at hrow8
  have hrd8 := own_rd (own_ints hrow8) (by simp [zs])
  obtain ⟨p8, c8, rfl, -⟩ := hrd8.at_
  have HR8 := mkHid hrd8
  have HF8 := mkHid hf8
  clear hrow8 hrd8 hf8
  go_wp2_with fail
  have hr1 : Rd (w8.alloc (.cells #[.int .i64 1, .int .i64 2] 3)) (.slice (some ⟨w8.heap.size, 0, none⟩) 2 2) (zs [1, 2]) := rd_lit (ss := [1, 2]) (heap_alloc_new w8 _) (by simp)
  refine Calls.mono (sameInts_ok (zs [1, 2]) _ _ _ (HR8.out.idle (Fr.alloc [] _ _)) hr1) ?_
  rintro e w9 ⟨rfl, n9, hw9⟩
  have HF9 : Hid (Fr [] w8 w9) := by rw [hw9]; exact (Fr.alloc [] _ _).trans (Fr.drewN [] _ _) (by simp)
  clear hr1 hw9
  go_wp2_with fail
  go_ret
  exact ⟨rfl, ((HFw.out.trans HF7.out (by simp)).trans HF8.out (by simp)).trans HF9.out (by simp)⟩
end Go.Proofs.YtpaekbghnejhoaaDoor
namespace Go.Proofs.YtpaekbghnejhoaaDoor
open Go.RowKit
set_option linter.unusedVariables false
/-- the walk in the order of the text, shut -/
structure WQ (ops : Array Oper) (C : World → Prop) (Q : Act → Prop) (l : List Oper) (a : Act) : Prop where
  out : wpQuiet Tryd.prog ops C Q l a
section
variable {ops : Array Oper} {o : Oper} {rest : List Oper} {a : Act} {C : World → Prop} {Q : Act → Prop}
theorem wq_nil (h : Q a) : WQ ops C Q [] a := ⟨h⟩
/-- a step of a region that draws: an operation that is not wanted -/
theorem wq_skip (hw : Region.wanted o (yielded ops a.tmps) = false) (h : WQ ops C Q rest (a.put o.dst undef)) : WQ ops C Q (o :: rest) a :=
  ⟨by unfold wpQuiet; rw [hw]; exact h.out⟩
/-- one that yields a value and leaves the world -/
theorem wq_val {v : Value} (hw : Region.wanted o (yielded ops a.tmps) = true) (hv : ∀ V, C V → (execOp a.eval o).run Tryd.prog V = .ok (.value v) V) (h : WQ ops C Q rest (a.put o.dst v)) : WQ ops C Q (o :: rest) a :=
  ⟨by unfold wpQuiet; rw [if_pos hw]; exact ⟨v, fun V hV => by unfold Oper.quietAt; rw [hv V hV]; exact ⟨rfl, rfl⟩, h.out⟩⟩
/-- a call that hands back one value, and a world of the class -/
theorem wq_call (f : FuncId) (fn : Func) (hfn : Tryd.prog.funcs[f]? = some fn) (hnm : (fn.name == "runtime.NumGoroutine") = false) (hbd : fn.body.isSome = true) (xs : Array Operand) (ts : Array TypeId)
    (ho : o.op = .call { callee := .value (.func f), args := xs, argTypes := ts }) (hw : Region.wanted o (yielded ops a.tmps) = true) (vs : Array Value) (hvs : xs.map a.eval = vs) (v : Value)
    (hc : ∀ V, C V → Calls Tryd.prog f vs V fun e w' => e = .returned v ∧ C w') (h : WQ ops C Q rest (a.put o.dst v)) : WQ ops C Q (o :: rest) a := by
  refine ⟨?_⟩
  unfold wpQuiet
  rw [if_pos hw]
  refine ⟨v, fun V hV => ?_, h.out⟩
  unfold Oper.quietAt
  have e1 : (execOp a.eval o).run Tryd.prog V = .ok (.enter f vs) V := by
    have h1 : ¬ fn.name = "runtime.NumGoroutine" := by simpa using hnm
    have h2 : ¬ fn.body = none := by intro e; rw [e] at hbd; simp at hbd
    simp [execOp, ho, resolve, invoke, Act.eval, hvs, Deferred.ofValue, callFunc, hfn, h1, h2]
  rw [e1]
  exact ⟨rfl, hc V hV⟩
end
/-- a region that draws its order, walked once, where the calls may allocate -/
theorem region_quiet {W1 : World} {id : Nat} {l : List Oper} {Q : Exit → Act → World → Prop} {a : Act} {w : World} (hq : Hid (Fr [] W1 w)) (hm : Tryd.prog.follows .mixedOrders = true) (hB : Region.lexB .any l.toArray = true)
    (h : WQ l.toArray (fun V => Hid (Fr [] W1 V)) (fun a' => ∀ w', Hid (Fr [] W1 w') → Q .normal a' w') l a) : (Code.region id l.toArray true).wp Tryd.prog Q a w :=
  wp_region_quiet (C := fun V => Hid (Fr [] W1 V)) hm hB (show Hid (Fr [] W1 w.drew) from hid_drew hq) (by simpa using h.out)
theorem hid_alloc {S : List Nat} {w W : World} {o : Obj} (h : Hid (Fr S w W)) : Hid (Fr S w (W.alloc o)) := h.out.trans (Fr.alloc S W o) (fun b hb => .inl hb)
theorem hid_set4 {w W : World} {X : Nat} {a b c d : Value} (h : Hid (Fr [] w W)) (hX : w.heap.size ≤ X) : Hid (Fr [] w ((((W.setCell ⟨X, 0, none⟩ a).setCell ⟨X, 1, none⟩ b).setCell ⟨X, 2, none⟩ c).setCell ⟨X, 3, none⟩ d)) :=
  h.out.trans ((((Fr.setCell (S := [X]) W ⟨X, 0, none⟩ a (by simp)).trans (Fr.setCell (S := [X]) _ ⟨X, 1, none⟩ b (by simp)) (fun b hb => .inl hb)).trans (Fr.setCell (S := [X]) _ ⟨X, 2, none⟩ c (by simp)) (fun b hb => .inl hb)).trans (Fr.setCell (S := [X]) _ ⟨X, 3, none⟩ d (by simp)) (fun b hb => .inl hb)) (fun b hb => .inr (by simp at hb; omega))
theorem set4_at {W : World} {X : Nat} {a b c d a' b' c' d' : Value} {t : TypeId} (h : W.heap[X]? = some (.cells #[a', b', c', d'] t (0, 0))) : ((((W.setCell ⟨X, 0, none⟩ a).setCell ⟨X, 1, none⟩ b).setCell ⟨X, 2, none⟩ c).setCell ⟨X, 3, none⟩ d).heap[X]? = some (.cells #[a, b, c, d] t (0, 0)) := by
  rw [set_in (set_in (set_in (set_in h 0 _) 1 _) 2 _) 3 _]
  rfl
end Go.Proofs.YtpaekbghnejhoaaDoor
namespace Go.Proofs.YtpaekbghnejhoaaDoor
open Go.RowKit
set_option linter.unusedVariables false
attribute [local go_sem ↓] Go.wp_at_zero Go.wp_at_succ
set_option maxRecDepth 20000 in
set_option maxHeartbeats 4000000 in
theorem closed_ok (l : List OI) (x1 x2 x3 : Int) (ov lv rv : Value) (ls roots : List Int) (w : World) (ha : SAt w ov l) (hl : Rd w lv ls) (hr : Rd w rv roots)
    (h1 : ∀ z ∈ roots, inside l ls z) (h2 : ∀ q ∈ ls, ∃ o, l.find? (fun o => decide (o.oop = q)) = some o ∧ inside l ls o.cls ∧ (o.fmt = 0 → ∀ z ∈ o.slots, inside l ls z)) :
    Calls Tryd.prog 21 #[.agg #[.int .i64 x1, .int .i64 x2, .int .i64 x3, ov], lv, rv] w fun e w' => e = .returned (.bool true) ∧ Fr [] w w' := by
  have HA := mkHid ha
  have HL := mkHid hl
  have HR := mkHid hr
  have H1 := mkHid h1
  have H2 := mkHid h2
  obtain ⟨pa, ca, rfl, -⟩ := ha.at_
  obtain ⟨pl, cl, rfl, hpl⟩ := hl.at_
  obtain ⟨pr, cr, rfl, hpr⟩ := hr.at_
  have HPL := mkHid hpl
  have HPR := mkHid hpr
  have s1 := ha.short
  have s2 := hl.short
  have s3 := hr.short
  obtain ⟨W1, hW1⟩ : ∃ W1, W1 = w.alloc (.cells #[.int .i64 x1, .int .i64 x2, .int .i64 x3, .slice pa l.length ca] 24) := ⟨_, rfl⟩
  have F1 : Hid (Fr [] w W1) := by rw [hW1]; exact Fr.alloc [] _ _
  have hB : W1.heap[w.heap.size]? = some (.cells #[.int .i64 x1, .int .i64 x2, .int .i64 x3, .slice pa l.length ca] 24 (0, 0)) := by rw [hW1]; exact heap_alloc_new _ _
  have HS : Hid (∀ V, Hid (Fr [] W1 V) → V.cell? ⟨w.heap.size, 0, none⟩ = some (.int .i64 x1) ∧ V.cell? ⟨w.heap.size, 1, none⟩ = some (.int .i64 x2) ∧ V.cell? ⟨w.heap.size, 2, none⟩ = some (.int .i64 x3) ∧ V.cell? ⟨w.heap.size, 3, none⟩ = some (.slice pa l.length ca)) := fun V hV => by
    have hb := (hV.out.block _ (lt_of_heap hB) (by simp)).trans hB
    exact ⟨by rw [cell_in hb]; rfl, by rw [cell_in hb]; rfl, by rw [cell_in hb]; rfl, by rw [cell_in hb]; rfl⟩
  have HNa : Hid (∀ V z, Hid (Fr [] W1 V) → Calls Tryd.prog 58 #[.agg #[.int .i64 x1, .int .i64 x2, .int .i64 x3, .slice pa l.length ca], .int .i64 z] V fun e w' => e = .returned (.bool (namesS l z)) ∧ Hid (Fr [] W1 w')) := fun V z hV =>
    (names_ok l z x1 x2 x3 _ V (HA.out.idle (F1.out.trans hV.out (by simp)))).mono fun e w' ⟨he, hf⟩ => ⟨he, hV.out.trans hf (by simp)⟩
  have HIn : Hid (∀ V z, Hid (Fr [] W1 V) → Calls Tryd.prog 15 #[.slice pl ls.length cl, .int .i64 z] V fun e w' => e = .returned (.bool (decide (z ∈ ls))) ∧ w' = V) := fun V z hV =>
    in_ok ls z _ V (HL.out.idle (F1.out.trans hV.out (by simp)))
  clear ha hl hr h1 h2 hpl hpr hB
  go_enter Tryd.func21, Tryd.ntmps21
  go_wp2_with fail
  rw [← hW1]
  have hS1 : w.heap.size < W1.heap.size := by rw [hW1]; simp
  clear hW1
  go_loopw [7] (fun q wr => ∃ k : Nat, k ≤ roots.length ∧ q = .int .i64 k ∧ Hid (Fr [] W1 wr)) (fun q _ => roots.length - (intOf q).toNat)
  case atStart => exact ⟨0, Nat.zero_le _, rfl, Fr.refl _ _⟩
  case round =>
    obtain ⟨k, hkn, rfl, hq⟩ := hrel
    have k1 : (0 : Int) ≤ (k : Int) := by omega
    by_cases hlt : k < roots.length
    · obtain ⟨gr, og, rfl, hgl, hcr⟩ := HPR.out (by omega)
      have k2 : (k : Int) < (roots.length : Int) := by omega
      have hz := hcr k hlt
      have hin := H1.out (roots.getD k 0) (by rw [List.getD_eq_getElem?_getD, List.getElem?_eq_getElem hlt]; exact List.getElem_mem _)
      generalize roots.getD k 0 = z at *
      have HCl : Hid (∀ V, Hid (Fr [] W1 V) → (V.cell? ⟨w.heap.size, 0, none⟩ = some (.int .i64 x1) ∧ V.cell? ⟨w.heap.size, 1, none⟩ = some (.int .i64 x2) ∧ V.cell? ⟨w.heap.size, 2, none⟩ = some (.int .i64 x3) ∧ V.cell? ⟨w.heap.size, 3, none⟩ = some (.slice pa l.length ca)) ∧ V.cell? ⟨gr, og + k, none⟩ = some (.int .i64 z) ∧ Hid (Fr [] W1 V)) := fun V hV =>
        ⟨HS.out V hV, ((F1.out.trans hV.out (by simp)).cell (p := ⟨gr, og + k, none⟩) hgl (by simp)).trans hz, hV⟩
      unfold inside at hin
      have HN := mkHid (fun V hV => HNa.out V z hV)
      clear hcr hz
      cases hnb : namesS l z with
      | false =>
        rw [hnb] at HN
        clear hin
        go_wp2_with fail
        refine region_quiet hq (by kernel_rfl) (by kernel_rfl) ?_
        iterate 16
          first
            | refine wq_skip rfl ?_
            | refine wq_call 58 Tryd.f58 Tryd.func58 (by kernel_rfl) (by kernel_rfl) _ _ rfl rfl _ (by simp [Act.eval]) _ HN.out ?_
            | (refine wq_val (v := ?_) rfl ?_ ?_
               rotate_left
               · (intro V hV; obtain ⟨⟨c0, c1, c2, c3⟩, c4, -⟩ := HCl.out V hV; go_simp; first | done | with_reducible rfl))
          try simp only [Act.put, List.setIfInBounds_toArray, List.set_cons_zero, List.set_cons_succ]
        refine wq_nil ?_
        intro w' hf'
        go_wp2_with fail
        go_roundw
        case rel => exact ⟨k + 1, by omega, by go_num, hf'⟩
        case measure => simp [intOf]; omega
      | true =>
        rw [hnb] at HN
        have hbn := hnb
        unfold namesS at hbn
        rw [Bool.and_eq_true, decide_eq_true_eq] at hbn
        have hd : IntKind.i64.wrap (z.tdiv 4) = z / 4 := by
          rw [Int.tdiv_eq_ediv_of_nonneg (by omega), iwrap]; unfold wrap64; omega
        have HI : Hid (∀ V, Hid (Fr [] W1 V) → Calls Tryd.prog 15 #[.slice pl ls.length cl, .int .i64 (z / 4)] V fun e w' => e = .returned (.bool true) ∧ Hid (Fr [] W1 w')) := fun V hV =>
          (HIn.out V (z / 4) hV).mono fun e w' ⟨he, hw⟩ => ⟨by rw [he, decide_eq_true (hin hnb)], by rw [hw]; exact hV⟩
        clear hin hbn hnb
        go_wp2_with fail
        refine region_quiet hq (by kernel_rfl) (by kernel_rfl) ?_
        iterate 16
          first
            | refine wq_skip rfl ?_
            | refine wq_call 58 Tryd.f58 Tryd.func58 (by kernel_rfl) (by kernel_rfl) _ _ rfl rfl _ (by simp [Act.eval]) _ HN.out ?_
            | refine wq_call 15 Tryd.f15 Tryd.func15 (by kernel_rfl) (by kernel_rfl) _ _ rfl rfl _ (by simp [Act.eval]) _ HI.out ?_
            | (refine wq_val (v := ?_) rfl ?_ ?_
               rotate_left
               · (intro V hV; obtain ⟨⟨c0, c1, c2, c3⟩, c4, -⟩ := HCl.out V hV; go_simp; first | done | with_reducible rfl))
          try simp only [Act.put, List.setIfInBounds_toArray, List.set_cons_zero, List.set_cons_succ]
        refine wq_nil ?_
        intro w' hf'
        go_wp2_with fail
        go_roundw
        case rel => exact ⟨k + 1, by omega, by go_num, hf'⟩
        case measure => simp [intOf]; omega
    · have hke : k = roots.length := by omega
      subst hke
      clear HPR hkn hlt
      have FQ := hq
      go_wp2_with fail
      go_loopw [8] (fun q wr => ∃ k : Nat, k ≤ ls.length ∧ q = .int .i64 k ∧ Hid (Fr [] W1 wr)) (fun q _ => ls.length - (intOf q).toNat)
      case atStart => exact ⟨0, Nat.zero_le _, rfl, FQ⟩
      case round =>
        clear hq FQ k1
        obtain ⟨k, hkn, rfl, hq⟩ := hrel
        have k1 : (0 : Int) ≤ (k : Int) := by omega
        by_cases hlt : k < ls.length
        · obtain ⟨gl, og, rfl, hgl, hcl⟩ := HPL.out (by omega)
          have k2 : (k : Int) < (ls.length : Int) := by omega
          have hz := hcl k hlt
          have hm : ls.getD k 0 ∈ ls := by rw [List.getD_eq_getElem?_getD, List.getElem?_eq_getElem hlt]; exact List.getElem_mem _
          obtain ⟨o, hfi, hc1, hc2⟩ := H2.out _ hm
          have hot := HA.out.slots o (List.mem_of_find?_eq_some hfi)
          generalize ls.getD k 0 = z at *
          have hat : atR l z = .tuple #[.agg #[.int .i64 o.oop, .int .i64 o.cls, .int .i64 o.fmt, o.v], .bool true] := by unfold atR; rw [hfi]; rfl
          obtain ⟨oo, oc, of_, os, ov⟩ := o
          dsimp only at *
          have hos := hot.short
          have HO := mkHid hot
          obtain ⟨pv, cv, rfl, hpv⟩ := hot.at_
          have HPV := mkHid hpv
          have HC1 := mkHid hc1
          have HC2 := mkHid hc2
          have HCl : Hid (∀ V, Hid (Fr [] W1 V) → (V.cell? ⟨w.heap.size, 0, none⟩ = some (.int .i64 x1) ∧ V.cell? ⟨w.heap.size, 1, none⟩ = some (.int .i64 x2) ∧ V.cell? ⟨w.heap.size, 2, none⟩ = some (.int .i64 x3) ∧ V.cell? ⟨w.heap.size, 3, none⟩ = some (.slice pa l.length ca)) ∧ V.cell? ⟨gl, og + k, none⟩ = some (.int .i64 z) ∧ Hid (Fr [] W1 V)) := fun V hV =>
            ⟨HS.out V hV, ((F1.out.trans hV.out (by simp)).cell (p := ⟨gl, og + k, none⟩) hgl (by simp)).trans hz, hV⟩
          have HAt : Hid (∀ V, Hid (Fr [] W1 V) → Calls Tryd.prog 59 #[.agg #[.int .i64 x1, .int .i64 x2, .int .i64 x3, .slice pa l.length ca], .int .i64 z] V fun e w' => e = .returned (.tuple #[.agg #[.int .i64 oo, .int .i64 oc, .int .i64 of_, .slice pv os.length cv], .bool true]) ∧ Hid (Fr [] V w') ∧ Hid (Fr [] W1 w')) := fun V hV =>
            (at_ok l z x1 x2 x3 _ V (HA.out.idle (F1.out.trans hV.out (by simp)))).mono fun e w' ⟨he, hf⟩ => ⟨by rw [he, hat], hf, hV.out.trans hf (by simp)⟩
          have hWz : W1.heap.size ≤ wr.heap.size := hq.out.size
          clear hcl hz hfi hot hpv hc1 hc2 hat hm
          go_wp2_with fail
          have HXA : Hid (∀ w' : World, Hid (Fr [] (wr.alloc (.cells #[.int .i64 0, .int .i64 0, .int .i64 0, .slice none 0 0] 44)).drew w') → w'.heap[wr.heap.size]? = some (.cells #[.int .i64 0, .int .i64 0, .int .i64 0, .slice none 0 0] 44 (0, 0))) := fun w' hf => by
            have h5 : (wr.alloc (.cells #[.int .i64 0, .int .i64 0, .int .i64 0, .slice none 0 0] 44)).drew.heap[wr.heap.size]? = some (.cells #[.int .i64 0, .int .i64 0, .int .i64 0, .slice none 0 0] 44 (0, 0)) := heap_alloc_new wr _
            exact (hf.out.block _ (lt_of_heap h5) (by simp)).trans h5
          go_cut [9, 10] (fun p b W => ∃ X, p = .pointer (some ⟨X, 0, none⟩) ∧ b = .bool true ∧ Hid (Fr [] W1 W) ∧ Hid (W.heap[X]? = some (.cells #[.int .i64 oo, .int .i64 oc, .int .i64 of_, .slice pv os.length cv] 44 (0, 0))) ∧ w.heap.size < X)
          case first =>
            obtain ⟨⟨c0, c1, c2, c3⟩, c4, -⟩ := HCl.out wr hq
            go_region_held3 (fun w' => (w'.cell? ⟨w.heap.size, 0, none⟩ = some (.int .i64 x1) ∧ w'.cell? ⟨w.heap.size, 1, none⟩ = some (.int .i64 x2) ∧ w'.cell? ⟨w.heap.size, 2, none⟩ = some (.int .i64 x3) ∧ w'.cell? ⟨w.heap.size, 3, none⟩ = some (.slice pa l.length ca)) ∧ w'.cell? ⟨gl, og + k, none⟩ = some (.int .i64 z) ∧ Hid (Fr [] W1 w'))
              (first
                | exact HCl.out _ (hid_drew hq)
                | exact HCl.out _ (hid_drew (hid_alloc hq))
                | exact HCl.out _ (by assumption)
                | exact HCl.out _ (hid_alloc (by assumption))
                | exact HCl.out _ (hid_set4 (by assumption) hWz))
              (first
                | (go_at_call 59; refine (HAt.out _ (hid_drew (hid_alloc hq))).mono ?_; rintro e w' ⟨rfl, hfa, hfb⟩; have hbx := HXA.out _ hfa; have y0 := cell_in hbx 0; have y1 := cell_in hbx 1; have y2 := cell_in hbx 2; have y3 := cell_in hbx 3; have z0 := frozen_in hbx 0; have z1 := frozen_in hbx 1; have z2 := frozen_in hbx 2; have z3 := frozen_in hbx 3)
                | (go_at_call 59; refine (HAt.out _ (hid_drew hq)).mono ?_; rintro e w' ⟨rfl, hfa, hfb⟩; have hzw : wr.heap.size ≤ w'.heap.size := hfa.out.size))
            all_goals go_wp2_with fail
            all_goals
              go_meet
              case rel =>
                first
                  | exact ⟨wr.heap.size, rfl, rfl, hid_set4 (by assumption) hWz, set4_at (HXA.out _ (by assumption)), by omega⟩
                  | exact ⟨_, rfl, rfl, hid_alloc (by assumption), heap_alloc_new _ _, Nat.lt_of_lt_of_le hS1 (Nat.le_trans hWz hzw)⟩
          case rest =>
            obtain ⟨X, rfl, rfl, hq2, hbx, hXs⟩ := hcut
            have HCx : Hid (∀ V, Hid (Fr [] wc V) → (V.cell? ⟨w.heap.size, 0, none⟩ = some (.int .i64 x1) ∧ V.cell? ⟨w.heap.size, 1, none⟩ = some (.int .i64 x2) ∧ V.cell? ⟨w.heap.size, 2, none⟩ = some (.int .i64 x3) ∧ V.cell? ⟨w.heap.size, 3, none⟩ = some (.slice pa l.length ca)) ∧ V.cell? ⟨X, 1, none⟩ = some (.int .i64 oc) ∧ V.cell? ⟨X, 2, none⟩ = some (.int .i64 of_) ∧ V.cell? ⟨X, 3, none⟩ = some (.slice pv os.length cv)) := fun V hV => by
              have hb := (hV.out.block _ (lt_of_heap hbx.out) (by simp)).trans hbx.out
              exact ⟨HS.out V (hq2.out.trans hV.out (by simp)), by rw [cell_in hb]; rfl, by rw [cell_in hb]; rfl, by rw [cell_in hb]; rfl⟩
            have HNc : Hid (∀ V z, Hid (Fr [] wc V) → Calls Tryd.prog 58 #[.agg #[.int .i64 x1, .int .i64 x2, .int .i64 x3, .slice pa l.length ca], .int .i64 z] V fun e w' => e = .returned (.bool (namesS l z)) ∧ Hid (Fr [] wc w')) := fun V z hV =>
              (names_ok l z x1 x2 x3 _ V (HA.out.idle (F1.out.trans (hq2.out.trans hV.out (by simp)) (by simp)))).mono fun e w' ⟨he, hf⟩ => ⟨he, hV.out.trans hf (by simp)⟩
            have HIc : Hid (∀ V z, Hid (Fr [] wc V) → z ∈ ls → Calls Tryd.prog 15 #[.slice (some ⟨gl, og, none⟩) ls.length cl, .int .i64 z] V fun e w' => e = .returned (.bool true) ∧ Hid (Fr [] wc w')) := fun V z hV hz =>
              (HIn.out V z (hq2.out.trans hV.out (by simp))).mono fun e w' ⟨he, hw⟩ => ⟨by rw [he, decide_eq_true hz], by rw [hw]; exact hV⟩
            have HSl : Hid (0 < os.length → ∃ g off, pv = some ⟨g, off, none⟩ ∧ ∀ V, Hid (Fr [] wc V) → ∀ i, i < os.length → V.cell? ⟨g, off + i, none⟩ = some (.int .i64 (os.getD i 0))) := fun hp => by
              obtain ⟨g, off, e, h1, h2⟩ := HPV.out hp
              exact ⟨g, off, e, fun V hV i hi => ((F1.out.trans (hq2.out.trans hV.out (by simp)) (by simp)).cell (p := ⟨g, off + i, none⟩) h1 (by simp)).trans (h2 i hi)⟩
            have HD : Hid (∀ z, namesS l z = true → IntKind.i64.wrap (z.tdiv 4) = z / 4) := fun z hz => by
              unfold namesS at hz
              rw [Bool.and_eq_true, decide_eq_true_eq] at hz
              rw [Int.tdiv_eq_ediv_of_nonneg (by omega), iwrap]; unfold wrap64; omega
            have hR : Hid (Fr [] wc wc) := Fr.refl _ _
            obtain ⟨⟨c0, c1, c2, c3⟩, e1, e2, e3⟩ := HCx.out wc hR
            have HN := mkHid (HNc.out wc oc hR)
            clear hbx HS HXA HAt HCl HPV HNa HIn HO H1 H2
            rcases hnb : namesS l oc with _ | _
            all_goals
              rw [hnb] at HN
              go_wp2_with fail
              refine Calls.mono HN.out ?_
              rintro e w2 ⟨rfl, hf2⟩
              obtain ⟨⟨d0, d1, d2, d3⟩, f1, f2, f3⟩ := HCx.out w2 hf2
              first
                | (have hd := HD.out oc hnb
                   have HI := mkHid (HIc.out w2 (oc / 4) hf2 (HC1.out hnb))
                   go_wp2_with fail
                   refine Calls.mono HI.out ?_
                   clear hf2 d0 d1 d2 d3 f1 f2 f3 HI
                   rintro e w2 ⟨rfl, hf2⟩
                   go_wp2_with fail)
                | go_wp2_with fail
              have FQ := hf2
              clear hf2 hnb HN
              go_loopw [11] (fun q wr => ∃ j : Nat, j ≤ os.length ∧ q = .int .i64 j ∧ Hid (Fr [] wc wr)) (fun q _ => os.length - (intOf q).toNat)
              case atStart => exact ⟨0, Nat.zero_le _, rfl, FQ⟩
              case round =>
                obtain ⟨j, hjn, rfl, hq3⟩ := hrel
                rename_i wq _ _ _
                obtain ⟨⟨d0, d1, d2, d3⟩, f1, f2, f3⟩ := HCx.out _ hq3
                have j1 : (0 : Int) ≤ (j : Int) := by omega
                by_cases hj : j < os.length ∧ of_ = 0
                · obtain ⟨hj, rfl⟩ := hj
                  have j2 : (j : Int) < (os.length : Int) := by omega
                  obtain ⟨gs, osf, rfl, hcs⟩ := HSl.out (by omega)
                  have hin := HC2.out rfl (os.getD j 0) (by rw [List.getD_eq_getElem?_getD, List.getElem?_eq_getElem hj]; exact List.getElem_mem _)
                  have HCs : Hid (∀ V, Hid (Fr [] wc V) → ((V.cell? ⟨w.heap.size, 0, none⟩ = some (.int .i64 x1) ∧ V.cell? ⟨w.heap.size, 1, none⟩ = some (.int .i64 x2) ∧ V.cell? ⟨w.heap.size, 2, none⟩ = some (.int .i64 x3) ∧ V.cell? ⟨w.heap.size, 3, none⟩ = some (.slice pa l.length ca)) ∧ V.cell? ⟨X, 1, none⟩ = some (.int .i64 oc) ∧ V.cell? ⟨X, 2, none⟩ = some (.int .i64 0) ∧ V.cell? ⟨X, 3, none⟩ = some (.slice (some ⟨gs, osf, none⟩) os.length cv)) ∧ V.cell? ⟨gs, osf + j, none⟩ = some (.int .i64 (os.getD j 0))) := fun V hV => ⟨HCx.out V hV, hcs V hV j hj⟩
                  generalize os.getD j 0 = y at *
                  have HN := mkHid (fun V hV => HNc.out V y hV)
                  clear hcs
                  rcases hnb : namesS l y with _ | _
                  all_goals
                    rw [hnb] at HN
                    first
                      | (have hd := HD.out y hnb
                         have HI := mkHid (fun V hV => HIc.out V (y / 4) hV (hin hnb)))
                      | have HI := trivial
                    clear hnb hin
                    go_wp2_with fail
                    refine region_quiet hq3 (by kernel_rfl) (by kernel_rfl) ?_
                    iterate 18
                      first
                        | refine wq_skip rfl ?_
                        | refine wq_call 58 Tryd.f58 Tryd.func58 (by kernel_rfl) (by kernel_rfl) _ _ rfl rfl _ (by simp [Act.eval]) _ HN.out ?_
                        | refine wq_call 15 Tryd.f15 Tryd.func15 (by kernel_rfl) (by kernel_rfl) _ _ rfl rfl _ (by simp [Act.eval]) _ HI.out ?_
                        | (refine wq_val (v := ?_) rfl ?_ ?_
                           rotate_left
                           · (intro V hV; obtain ⟨⟨⟨c0, c1, c2, c3⟩, e1, e2, e3⟩, e4⟩ := HCs.out V hV; go_simp; first | done | with_reducible rfl))
                      try simp only [Act.put, List.setIfInBounds_toArray, List.set_cons_zero, List.set_cons_succ]
                    refine wq_nil ?_
                    intro w' hf'
                    go_wp2_with fail
                    go_roundw
                    case rel => exact ⟨j + 1, by omega, by go_num, hf'⟩
                    case measure => simp [intOf]; omega
                · have HF3 : Hid (Fr [] W1 _) := hq2.out.trans hq3.out (by simp)
                  by_cases hj2 : j < os.length
                  · have hb : (of_ == 0) = false := by
                      have : ¬ of_ = 0 := fun e => hj ⟨hj2, e⟩
                      simpa using this
                    have j2 : (j : Int) < (os.length : Int) := by omega
                    clear hj
                    go_wp2_with fail
                    go_roundw
                    case rel => exact ⟨k + 1, by omega, by go_num, HF3⟩
                    case measure => simp [intOf]; omega
                  · have hje : j = os.length := by omega
                    subst hje
                    clear hj hj2
                    go_wp2_with fail
                    go_roundw
                    case rel => exact ⟨k + 1, by omega, by go_num, HF3⟩
                    case measure => simp [intOf]; omega
        · have hke : k = ls.length := by omega
          subst hke
          go_wp2_with fail
          go_ret
          exact ⟨rfl, F1.out.trans hq.out (by simp)⟩
end Go.Proofs.YtpaekbghnejhoaaDoor
namespace Go.Proofs.YtpaekbghnejhoaaDoor
open Go.RowKit
set_option linter.unusedVariables false
attribute [local go_sem ↓] Go.wp_at_zero Go.wp_at_succ
theorem take_snoc {α : Type} (l : List α) (d : α) (k : Nat) (hk : k < l.length) : l.take (k + 1) = l.take k ++ [l.getD k d] := by
  rw [List.take_succ_eq_append_getElem hk, List.getD_eq_getElem?_getD, List.getElem?_eq_getElem hk]; rfl
theorem getD_in {α : Type} (l : List α) (d : α) (k : Nat) (hk : k < l.length) : l.getD k d ∈ l := by
  rw [List.getD_eq_getElem?_getD, List.getElem?_eq_getElem hk]; exact List.getElem_mem _
theorem no_snoc {l : List Int} {k : Nat} {v z : Int} (hz : l.getD k 0 = z) (hk : k < l.length) (h : v ∉ l.take k) (hn : ¬ z = v) : v ∉ l.take (k + 1) := by
  rw [take_snoc l 0 k hk, List.mem_append, hz]
  rintro (h1 | h1)
  · exact h h1
  · exact hn (List.mem_singleton.1 h1).symm
set_option maxRecDepth 20000 in
set_option maxHeartbeats 4000000 in
theorem named_ok (l : List OI) (x1 x2 x3 q : Int) (ov fv rv : Value) (fs roots : List Int) (w : World) (ha : SAt w ov l) (hf : Rd w fv fs) (hr : Rd w rv roots) (hq : 0 ≤ q) (hq2 : q ≤ 1000000) (hfi : ∀ p ∈ fs, ∃ o, l.find? (fun o => decide (o.oop = p)) = some o) :
    Calls Tryd.prog 60 #[.agg #[.int .i64 x1, .int .i64 x2, .int .i64 x3, ov], .int .i64 q, fv, rv] w fun e w' => e = .returned (.bool (namedB l q fs roots)) ∧ Fr [] w w' := by
  have HA := mkHid ha
  have HFi := mkHid hfi
  obtain ⟨pa, ca, rfl, -⟩ := ha.at_
  obtain ⟨pl, cl, rfl, hpl⟩ := hf.at_
  obtain ⟨pr, cr, rfl, hpr⟩ := hr.at_
  have HPL := mkHid hpl
  have HPR := mkHid hpr
  have s1 := ha.short
  have s2 := hf.short
  have s3 := hr.short
  obtain ⟨W1, hW1⟩ : ∃ W1, W1 = w.alloc (.cells #[.int .i64 x1, .int .i64 x2, .int .i64 x3, .slice pa l.length ca] 24) := ⟨_, rfl⟩
  have F1 : Hid (Fr [] w W1) := by rw [hW1]; exact Fr.alloc [] _ _
  have hB : W1.heap[w.heap.size]? = some (.cells #[.int .i64 x1, .int .i64 x2, .int .i64 x3, .slice pa l.length ca] 24 (0, 0)) := by rw [hW1]; exact heap_alloc_new _ _
  have HS : Hid (∀ V, Hid (Fr [] W1 V) → V.cell? ⟨w.heap.size, 0, none⟩ = some (.int .i64 x1) ∧ V.cell? ⟨w.heap.size, 1, none⟩ = some (.int .i64 x2) ∧ V.cell? ⟨w.heap.size, 2, none⟩ = some (.int .i64 x3) ∧ V.cell? ⟨w.heap.size, 3, none⟩ = some (.slice pa l.length ca)) := fun V hV => by
    have hb := (hV.out.block _ (lt_of_heap hB) (by simp)).trans hB
    exact ⟨by rw [cell_in hb]; rfl, by rw [cell_in hb]; rfl, by rw [cell_in hb]; rfl, by rw [cell_in hb]; rfl⟩
  clear ha hf hr hpl hpr hB hfi
  have HV : Hid (namedB l q fs roots = (decide (4 * q ∈ roots) || fs.any (hitB l (4 * q)))) := rfl
  generalize namedB l q fs roots = RB at *
  go_enter Tryd.func60, Tryd.ntmps60
  go_wp2_with fail
  rw [← hW1]
  have hS1 : w.heap.size < W1.heap.size := by rw [hW1]; simp
  clear hW1
  generalize 4 * q = v at *
  clear hq hq2
  go_loopw [10] (fun q wr => ∃ k : Nat, k ≤ roots.length ∧ q = .int .i64 k ∧ Hid (Fr [] W1 wr) ∧ Hid (v ∉ roots.take k)) (fun q _ => roots.length - (intOf q).toNat)
  case atStart => exact ⟨0, Nat.zero_le _, rfl, Fr.refl _ _, by simp [Hid]⟩
  case round =>
    obtain ⟨k, hkn, rfl, hq, hno⟩ := hrel
    have k1 : (0 : Int) ≤ (k : Int) := by omega
    by_cases hlt : k < roots.length
    · obtain ⟨gr, og, rfl, hgl, hcr⟩ := HPR.out (by omega)
      have k2 : (k : Int) < (roots.length : Int) := by omega
      have hz := ((F1.out.trans hq.out (by simp)).cell (p := ⟨gr, og + k, none⟩) hgl (by simp)).trans (hcr k hlt)
      have hm := getD_in roots 0 k hlt
      have HNo : Hid (¬ roots.getD k 0 = v → v ∉ roots.take (k + 1)) := fun hn => no_snoc rfl hlt hno.out hn
      generalize roots.getD k 0 = z at *
      clear hcr hno
      by_cases he : z = v
      · subst he
        have HT : Hid (RB = true) := by show RB = true; rw [HV.out, decide_eq_true hm, Bool.true_or]
        clear hm HNo HV
        go_wp2_with fail
        go_ret
        exact ⟨by rw [HT.out]; rfl, F1.out.trans hq.out (by simp)⟩
      · have hb : (z == v) = false := by simpa using he
        have HN2 := mkHid (HNo.out he)
        clear HNo he hm
        go_wp2_with fail
        go_roundw
        case rel => exact ⟨k + 1, by omega, by go_num, hq, HN2⟩
        case measure => simp [intOf]; omega
    · have hke : k = roots.length := by omega
      subst hke
      clear HPR hkn hlt
      have FQ := hq
      have HR0 : Hid (RB = fs.any (hitB l v)) := by
        show RB = _
        have := hno.out
        rw [List.take_length] at this
        rw [HV.out, decide_eq_false this, Bool.false_or]
      clear hno HV
      go_wp2_with fail
      go_loopw [11] (fun q wr => ∃ k : Nat, k ≤ fs.length ∧ q = .int .i64 k ∧ Hid (Fr [] W1 wr) ∧ Hid ((fs.take k).any (hitB l v) = false)) (fun q _ => fs.length - (intOf q).toNat)
      case atStart => exact ⟨0, Nat.zero_le _, rfl, FQ, by simp [Hid]⟩
      case round =>
        clear hq FQ k1
        obtain ⟨k, hkn, rfl, hq, hno⟩ := hrel
        have k1 : (0 : Int) ≤ (k : Int) := by omega
        by_cases hlt : k < fs.length
        · obtain ⟨gl, og, rfl, hgl, hcl⟩ := HPL.out (by omega)
          have k2 : (k : Int) < (fs.length : Int) := by omega
          have hz := hcl k hlt
          have hm := getD_in fs 0 k hlt
          obtain ⟨o, hfi⟩ := HFi.out _ hm
          have hot := HA.out.slots o (List.mem_of_find?_eq_some hfi)
          have HNo : Hid (hitB l v (fs.getD k 0) = false → (fs.take (k + 1)).any (hitB l v) = false) := fun hn => by
            rw [take_snoc fs 0 k hlt, List.any_append, hno.out, Bool.false_or]
            show (hitB l v (fs.getD k 0) || false) = false
            rw [hn]; rfl
          have HYes : Hid (hitB l v (fs.getD k 0) = true → RB = true) := fun hn => by
            rw [HR0.out]
            exact List.any_eq_true.2 ⟨_, hm, hn⟩
          have hhit : hitB l v (fs.getD k 0) = (decide (o.cls = v) || (decide (o.fmt = 0) && decide (v ∈ o.slots))) := by unfold hitB; rw [hfi]
          rw [hhit] at HNo HYes
          generalize fs.getD k 0 = z at *
          have hat : atR l z = .tuple #[.agg #[.int .i64 o.oop, .int .i64 o.cls, .int .i64 o.fmt, o.v], .bool true] := by unfold atR; rw [hfi]; rfl
          obtain ⟨oo, oc, of_, os, ov⟩ := o
          dsimp only at *
          have hos := hot.short
          obtain ⟨pv, cv, rfl, hpv⟩ := hot.at_
          have HPV := mkHid hpv
          have HCl : Hid (∀ V, Hid (Fr [] W1 V) → (V.cell? ⟨w.heap.size, 0, none⟩ = some (.int .i64 x1) ∧ V.cell? ⟨w.heap.size, 1, none⟩ = some (.int .i64 x2) ∧ V.cell? ⟨w.heap.size, 2, none⟩ = some (.int .i64 x3) ∧ V.cell? ⟨w.heap.size, 3, none⟩ = some (.slice pa l.length ca)) ∧ V.cell? ⟨gl, og + k, none⟩ = some (.int .i64 z) ∧ Hid (Fr [] W1 V)) := fun V hV =>
            ⟨HS.out V hV, ((F1.out.trans hV.out (by simp)).cell (p := ⟨gl, og + k, none⟩) hgl (by simp)).trans hz, hV⟩
          have HAt : Hid (∀ V, Hid (Fr [] W1 V) → Calls Tryd.prog 59 #[.agg #[.int .i64 x1, .int .i64 x2, .int .i64 x3, .slice pa l.length ca], .int .i64 z] V fun e w' => e = .returned (.tuple #[.agg #[.int .i64 oo, .int .i64 oc, .int .i64 of_, .slice pv os.length cv], .bool true]) ∧ Hid (Fr [] V w') ∧ Hid (Fr [] W1 w')) := fun V hV =>
            (at_ok l z x1 x2 x3 _ V (HA.out.idle (F1.out.trans hV.out (by simp)))).mono fun e w' ⟨he, hf⟩ => ⟨by rw [he, hat], hf, hV.out.trans hf (by simp)⟩
          have hWz : W1.heap.size ≤ wr.heap.size := hq.out.size
          clear hcl hz hfi hot hpv hat hm hhit hno
          go_wp2_with fail
          have HXA : Hid (∀ w' : World, Hid (Fr [] (wr.alloc (.cells #[.int .i64 0, .int .i64 0, .int .i64 0, .slice none 0 0] 44)).drew w') → w'.heap[wr.heap.size]? = some (.cells #[.int .i64 0, .int .i64 0, .int .i64 0, .slice none 0 0] 44 (0, 0))) := fun w' hf => by
            have h5 : (wr.alloc (.cells #[.int .i64 0, .int .i64 0, .int .i64 0, .slice none 0 0] 44)).drew.heap[wr.heap.size]? = some (.cells #[.int .i64 0, .int .i64 0, .int .i64 0, .slice none 0 0] 44 (0, 0)) := heap_alloc_new wr _
            exact (hf.out.block _ (lt_of_heap h5) (by simp)).trans h5
          go_cut [12] (fun p W => ∃ X, p = .pointer (some ⟨X, 0, none⟩) ∧ Hid (Fr [] W1 W) ∧ Hid (W.heap[X]? = some (.cells #[.int .i64 oo, .int .i64 oc, .int .i64 of_, .slice pv os.length cv] 44 (0, 0))) ∧ w.heap.size < X)
          case first =>
            obtain ⟨⟨c0, c1, c2, c3⟩, c4, -⟩ := HCl.out wr hq
            go_region_held3 (fun w' => (w'.cell? ⟨w.heap.size, 0, none⟩ = some (.int .i64 x1) ∧ w'.cell? ⟨w.heap.size, 1, none⟩ = some (.int .i64 x2) ∧ w'.cell? ⟨w.heap.size, 2, none⟩ = some (.int .i64 x3) ∧ w'.cell? ⟨w.heap.size, 3, none⟩ = some (.slice pa l.length ca)) ∧ w'.cell? ⟨gl, og + k, none⟩ = some (.int .i64 z) ∧ Hid (Fr [] W1 w'))
              (first
                | exact HCl.out _ (hid_drew hq)
                | exact HCl.out _ (hid_drew (hid_alloc hq))
                | exact HCl.out _ (by assumption)
                | exact HCl.out _ (hid_alloc (by assumption))
                | exact HCl.out _ (hid_set4 (by assumption) hWz))
              (first
                | (go_at_call 59; refine (HAt.out _ (hid_drew (hid_alloc hq))).mono ?_; rintro e w' ⟨rfl, hfa, hfb⟩; have hbx := HXA.out _ hfa; have y0 := cell_in hbx 0; have y1 := cell_in hbx 1; have y2 := cell_in hbx 2; have y3 := cell_in hbx 3; have z0 := frozen_in hbx 0; have z1 := frozen_in hbx 1; have z2 := frozen_in hbx 2; have z3 := frozen_in hbx 3)
                | (go_at_call 59; refine (HAt.out _ (hid_drew hq)).mono ?_; rintro e w' ⟨rfl, hfa, hfb⟩; have hzw : wr.heap.size ≤ w'.heap.size := hfa.out.size))
            all_goals go_wp2_with fail
            all_goals
              go_meet
              case rel =>
                first
                  | exact ⟨wr.heap.size, rfl, hid_set4 (by assumption) hWz, set4_at (HXA.out _ (by assumption)), by omega⟩
                  | exact ⟨_, rfl, hid_alloc (by assumption), heap_alloc_new _ _, Nat.lt_of_lt_of_le hS1 (Nat.le_trans hWz hzw)⟩
          case rest =>
            obtain ⟨X, rfl, hq2, hbx, hXs⟩ := hcut
            have e1 : wc.cell? ⟨X, 1, none⟩ = some (.int .i64 oc) := by rw [cell_in hbx.out]; rfl
            have e2 : wc.cell? ⟨X, 2, none⟩ = some (.int .i64 of_) := by rw [cell_in hbx.out]; rfl
            have e3 : wc.cell? ⟨X, 3, none⟩ = some (.slice pv os.length cv) := by rw [cell_in hbx.out]; rfl
            have HFw := mkHid (F1.out.trans hq2.out (by simp))
            have HSl : Hid (0 < os.length → ∃ g off, pv = some ⟨g, off, none⟩ ∧ ∀ i, i < os.length → wc.cell? ⟨g, off + i, none⟩ = some (.int .i64 (os.getD i 0))) := fun hp => by
              obtain ⟨g, off, e, h1, h2⟩ := HPV.out hp
              exact ⟨g, off, e, fun i hi => (HFw.out.cell (p := ⟨g, off + i, none⟩) h1 (by simp)).trans (h2 i hi)⟩
            clear hbx HS HXA HAt HCl HPV HFi HA
            by_cases hc : oc = v
            · subst hc
              have HT := mkHid (HYes.out (by simp))
              clear HYes HNo
              go_wp2_with fail
              go_ret
              exact ⟨by rw [HT.out]; rfl, HFw.out⟩
            · have hcb : (oc == v) = false := by simpa using hc
              rw [decide_eq_false hc, Bool.false_or] at HNo HYes
              clear hc
              go_wp2_with fail
              go_loopw [14] (fun q wr => ∃ j : Nat, j ≤ os.length ∧ q = .int .i64 j ∧ wr = wc ∧ Hid (v ∉ os.take j)) (fun q _ => os.length - (intOf q).toNat)
              case atStart => exact ⟨0, Nat.zero_le _, rfl, rfl, by simp [Hid]⟩
              case round =>
                obtain ⟨j, hjn, rfl, rfl, hnj⟩ := hrel
                have j1 : (0 : Int) ≤ (j : Int) := by omega
                by_cases hj2 : j < os.length
                · have j2 : (j : Int) < (os.length : Int) := by omega
                  by_cases hf0 : of_ = 0
                  · subst hf0
                    obtain ⟨gs, osf, rfl, hcs⟩ := HSl.out (by omega)
                    have e4 := hcs j hj2
                    have hm := getD_in os 0 j hj2
                    have HNj : Hid (¬ os.getD j 0 = v → v ∉ os.take (j + 1)) := fun hn => no_snoc rfl hj2 hnj.out hn
                    generalize os.getD j 0 = y at *
                    clear hcs hnj
                    by_cases hy : y = v
                    · subst hy
                      have HT := mkHid (HYes.out (by simp [hm]))
                      clear HYes HNo HNj hm
                      go_wp2_with fail
                      go_ret
                      exact ⟨by rw [HT.out]; rfl, HFw.out⟩
                    · have hyb : (y == v) = false := by simpa using hy
                      have HN2 := mkHid (HNj.out hy)
                      clear HNj hy hm
                      go_wp2_with fail
                      go_roundw
                      case rel => exact ⟨j + 1, by omega, by go_num, trivial, HN2⟩
                      case measure => simp [intOf]; omega
                  · have hfb : (of_ == 0) = false := by simpa using hf0
                    have HN3 := mkHid (HNo.out (by simp [hf0]))
                    clear HNo HYes hf0 hnj
                    go_wp2_with fail
                    go_roundw
                    case rel => exact ⟨k + 1, by omega, by go_num, hq2, HN3⟩
                    case measure => simp [intOf]; omega
                · have hje : j = os.length := by omega
                  subst hje
                  have HN3 := mkHid (HNo.out (by have := hnj.out; rw [List.take_length] at this; simp [this]))
                  clear HNo HYes hnj hj2
                  go_wp2_with fail
                  go_roundw
                  case rel => exact ⟨k + 1, by omega, by go_num, hq2, HN3⟩
                  case measure => simp [intOf]; omega
        · have hke : k = fs.length := by omega
          subst hke
          have HT : Hid (RB = false) := by
            show RB = false
            have := hno.out
            rw [List.take_length] at this
            rw [HR0.out, this]
          clear HR0 hno
          go_wp2_with fail
          go_ret
          exact ⟨by rw [HT.out]; rfl, F1.out.trans hq.out (by simp)⟩
end Go.Proofs.YtpaekbghnejhoaaDoor

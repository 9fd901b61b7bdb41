import Derived.Test.YtpaekbghnejhoaaDoorKG14CBridge
import Derived.Test.YtpaekbghnejhoaaDoorKG12CMarked
import Derived.Test.YtpaekbghnejhoaaDoorKG11HRefB
import Derived.Test.YtpaekbghnejhoaaDoorKG10HTakesN
import Derived.Test.YtpaekbghnejhoaaDoorKG02HSeat
import Derived.Test.YtpaekbghnejhoaaDoorKG05HModelL
import Derived.Test.YtpaekbghnejhoaaDoorKG09HLoadP
import Derived.Deep.Quiet
namespace Go.Proofs.YtpaekbghnejhoaaDoor
open Go.RowKit
set_option linter.unusedVariables false
theorem rise_eq : ∀ (l m : List Nat), l.Pairwise (· < ·) → m.Pairwise (· < ·) → (∀ x, x ∈ l ↔ x ∈ m) → l = m
  | [], [], _, _, _ => rfl
  | [], y :: m, _, _, h => by have := (h y).2 (by simp); simp at this
  | x :: l, [], _, _, h => by have := (h x).1 (by simp); simp at this
  | x :: l, y :: m, hl, hm, h => by
    obtain ⟨l1, l2⟩ := List.pairwise_cons.1 hl
    obtain ⟨m1, m2⟩ := List.pairwise_cons.1 hm
    have hx : x = y := by
      have a1 := (h x).1 (by simp)
      have a2 := (h y).2 (by simp)
      rcases List.mem_cons.1 a1 with e | a1
      · exact e
      · rcases List.mem_cons.1 a2 with e | a2
        · exact e.symm
        · have := m1 x a1; have := l1 y a2; omega
    subst hx
    congr 1
    refine rise_eq l m l2 m2 fun z => ?_
    constructor
    · intro hz
      have := (h z).1 (by simp [hz])
      rcases List.mem_cons.1 this with e | h2
      · have := l1 z hz; omega
      · exact h2
    · intro hz
      have := (h z).2 (by simp [hz])
      rcases List.mem_cons.1 this with e | h2
      · have := m1 z hz; omega
      · exact h2
/-- the fixed state of the laws -/
def aK : List Key := [(3, 8, 0, [4]), (1, 5, 0, [8]), (2, 5, 0, [4, 9])]
theorem aK_takes : ∀ (k : Nat) (o : Key), aK[k]? = some o → takesK 20 4 (aK.take k) o = true := by
  intro k o h
  have hk : k < 3 := (List.getElem?_eq_some_iff.1 h).1
  have : k = 0 ∨ k = 1 ∨ k = 2 := by omega
  rcases this with rfl | rfl | rfl
  · obtain rfl := Option.some.inj h; decide
  · obtain rfl := Option.some.inj h; decide
  · obtain rfl := Option.some.inj h; decide
theorem aK_lk {H : HS} {M : MS} (h : KA 20 4 0 aK H M) : lk M 1 = [5, 8] ∧ lk M 2 = [5, 4, 9] := by
  obtain ⟨-, -, b2, b3, b4⟩ := h.at_ (1, 5, 0, [8]) (by simp [aK])
  obtain ⟨-, -, c2, c3, c4⟩ := h.at_ (2, 5, 0, [4, 9]) (by simp [aK])
  unfold lk leadsOf
  have b3' : (M.things.getD (1 - 1) noTh).fmt = 0 := by have : ((M.things.getD (1 - 1) noTh).fmt : Int) = 0 := b3; omega
  have c3' : (M.things.getD (2 - 1) noTh).fmt = 0 := by have : ((M.things.getD (2 - 1) noTh).fmt : Int) = 0 := c3; omega
  have b2' : (M.things.getD (1 - 1) noTh).cls = 5 := b2
  have c2' : (M.things.getD (2 - 1) noTh).cls = 5 := c2
  have b4' : (M.things.getD (1 - 1) noTh).slots = [8] := b4
  have c4' : (M.things.getD (2 - 1) noTh).slots = [4, 9] := c4
  rw [b2', b3', b4', c2', c3', c4']
  exact ⟨rfl, rfl⟩
theorem aK_rs {H : HS} {M : MS} (h : KA 20 4 0 aK H M) {rs : List Nat} (hs : Sr H M [8] (rs, [])) (q : Nat) : q ∈ rs ↔ q = 1 ∨ q = 2 := by
  obtain ⟨e1, e2⟩ := aK_lk h
  have n1 : namesB H 4 = true := by
    unfold namesB
    rw [Bool.and_eq_true]
    exact ⟨by decide, h.hasK (1, 5, 0, [8]) (by simp [aK])⟩
  have n2 : namesB H 8 = true := by
    unfold namesB
    rw [Bool.and_eq_true]
    exact ⟨by decide, h.hasK (2, 5, 0, [4, 9]) (by simp [aK])⟩
  have n5 : ¬ namesB H 5 = true := by
    unfold namesB
    rw [Bool.and_eq_true]
    exact fun hc => absurd hc.1 (by decide)
  have n9 : ¬ namesB H 9 = true := by
    unfold namesB
    rw [Bool.and_eq_true]
    exact fun hc => absurd hc.1 (by decide)
  have r2 : 2 ∈ rs := hs.root 8 (by simp) n2
  have r1 : 1 ∈ rs := by
    rcases hs.on 2 r2 with h1 | h1
    · simp at h1
    · exact h1 4 (by rw [e2]; simp) n1
  refine ⟨fun hq => hs.least (fun q => q = 1 ∨ q = 2) ⟨fun z hz hb => ?_, fun p hp z hz hb => ?_⟩ q hq, fun hq => by rcases hq with rfl | rfl <;> assumption⟩
  · obtain rfl : z = 8 := by simpa using hz
    exact .inr rfl
  · rcases hp with rfl | rfl
    · rw [e1] at hz
      have : z = 5 ∨ z = 8 := by simpa using hz
      rcases this with rfl | rfl
      · exact absurd hb n5
      · exact .inr rfl
    · rw [e2] at hz
      have : z = 5 ∨ z = 4 ∨ z = 9 := by simpa using hz
      rcases this with rfl | rfl | rfl
      · exact absurd hb n5
      · exact .inl rfl
      · exact absurd hb n9
theorem aK_stays {H : HS} {M : MS} (h : KA 20 4 0 aK H M) {rs : List Nat} (hs : Sr H M [8] (rs, [])) : stays H rs = [1, 2] := by
  refine rise_eq _ _ ?_ (by decide) fun q => ?_
  · rw [stays_eq]; exact List.Pairwise.filter _ List.pairwise_lt_range
  · rw [mem_stays h.inv hs.there, aK_rs h hs]
    simp
theorem aK_kept {H : HS} {M : MS} (h : KA 20 4 0 aK H M) {rs : List Nat} (hs : Sr H M [8] (rs, [])) (ha : H.age ≤ 1000000000) :
    (H.count : Int) - (keepH H (stays H rs)).count = 1 ∧ (H.mem.length : Int) - (keepH H (stays H rs)).mem.length = 3 := by
  have h2 := h.keep (stays H rs) (stays_has h.inv rs) ha
  rw [aK_stays h hs] at h2 ⊢
  have c1 := h.count
  have c2 := h2.count
  have m1 := h.mem
  have m2 := h2.mem
  have e : (aK.filter fun k => decide (k.1.toNat ∈ [1, 2])) = [(1, 5, 0, [8]), (2, 5, 0, [4, 9])] := by decide
  rw [e] at c2 m2
  have e1 : endK aK = 10 := by decide
  have e2 : endK [(1, 5, 0, [8]), (2, 5, 0, [4, 9])] = 7 := by decide
  rw [e1] at m1
  rw [e2] at m2
  rw [m1, m2, c1, c2]
  exact ⟨by decide, by decide⟩
end Go.Proofs.YtpaekbghnejhoaaDoor
namespace Go.Proofs.YtpaekbghnejhoaaDoor
open Go.RowKit
set_option linter.unusedVariables false
attribute [local go_sem ↓] Go.wp_at_zero Go.wp_at_succ
set_option maxRecDepth 20000 in
set_option maxHeartbeats 600000 in
theorem sameInts_ok (ss : List Int) (va vb : Value) (w : World) (ha : Rd w va ss) (hb : Rd w vb ss) :
    Calls Tryd.prog 23 #[va, vb] w fun e w' => e = .returned (.bool true) ∧ ∃ n, w' = w.drewN n := by
  obtain ⟨pa, ca, rfl, hpa⟩ := ha.at_
  obtain ⟨pb, cb, rfl, hpb⟩ := hb.at_
  have hl := ha.short
  clear ha hb
  have HA := mkHid hpa
  have HB := mkHid hpb
  clear hpa hpb
  go_enter Tryd.func23, Tryd.ntmps23
  go_wp2_with fail
  go_loopw [5] (fun q wr => ∃ k : Nat, k ≤ ss.length ∧ q = .int .i64 k ∧ Hid (∃ n, wr = w.drewN n)) (fun q _ => ss.length - (intOf q).toNat)
  case atStart => exact ⟨0, Nat.zero_le _, rfl, 0, rfl⟩
  case round =>
    obtain ⟨k, hkn, rfl, hq⟩ := hrel
    by_cases hlt : k < ss.length
    · obtain ⟨ga, oa, rfl, -, hca⟩ := HA.out (by omega)
      obtain ⟨gb, ob, rfl, -, hcb⟩ := HB.out (by omega)
      obtain ⟨n, hn⟩ := hq.out
      have x1 : wr.cell? ⟨ga, oa + k, none⟩ = some (.int .i64 (ss.getD k 0)) := by rw [hn]; exact hca k hlt
      have x2 : wr.cell? ⟨gb, ob + k, none⟩ = some (.int .i64 (ss.getD k 0)) := by rw [hn]; exact hcb k hlt
      have k1 : (0 : Int) ≤ (k : Int) := by omega
      have k2 : (k : Int) < (ss.length : Int) := by omega
      have HD : Hid (∀ m, ∃ n, wr.drewN m = w.drewN n) := fun m => ⟨n + m, by rw [hn]; simp [World.drewN, Nat.add_assoc]⟩
      generalize ss.getD k 0 = z at *
      clear hca hcb hq hn HA HB
      go_wp2_with fail
      go_quiet (fail)
      go_wp2_with fail
      go_roundw
      case rel => exact ⟨k + 1, by omega, by go_num, HD.out _⟩
      case measure => simp [intOf]; omega
    · have hke : k = ss.length := by omega
      subst hke
      go_wp2_with fail
      go_ret
      exact ⟨rfl, hq.out⟩
end Go.Proofs.YtpaekbghnejhoaaDoor
namespace Go.Proofs.YtpaekbghnejhoaaDoor
open Go.RowKit
set_option linter.unusedVariables false
attribute [local go_sem ↓] Go.wp_at_zero Go.wp_at_succ
/-- the state's objects -/
def aL (b : Nat) : List OI := [⟨3, 8, 0, [4], .slice (some ⟨b, 0, none⟩) 1 1⟩, ⟨1, 5, 0, [8], .slice (some ⟨b + 1, 0, none⟩) 1 1⟩, ⟨2, 5, 0, [4, 9], .slice (some ⟨b + 1 + 1, 0, none⟩) 2 2⟩]
theorem rd_lit {w : World} {g : Nat} {ss : List Int} {t : TypeId} (h : w.heap[g]? = some (.cells (ss.map (Value.int .i64)).toArray t (0, 0))) (hs : ss.length ≤ 17592186043904) : Rd w (.slice (some ⟨g, 0, none⟩) ss.length ss.length) ss := by
  refine ⟨⟨some ⟨g, 0, none⟩, ss.length, rfl, fun hp => ⟨g, 0, rfl, lt_of_heap h, fun i hi => ?_⟩⟩, fun c hc => (by cases hc), hs⟩
  rw [Nat.zero_add, cell_in h]
  rw [List.getElem?_toArray, List.getElem?_map, List.getD_eq_getElem?_getD, List.getElem?_eq_getElem hi]
  rfl
theorem aL_at (w : World) : SAt ((((w.alloc (Obj.cells #[Value.int IntKind.i64 4] 40)).alloc (Obj.cells #[Value.int IntKind.i64 8] 40)).alloc (Obj.cells #[Value.int IntKind.i64 4, Value.int IntKind.i64 9] 40)).alloc (Obj.cells #[Value.int IntKind.i64 3, Value.int IntKind.i64 8, Value.int IntKind.i64 0, Value.slice (some { block := w.heap.size, off := 0 }) 1 1, Value.int IntKind.i64 1, Value.int IntKind.i64 5, Value.int IntKind.i64 0, Value.slice (some { block := w.heap.size + 1, off := 0 }) 1 1, Value.int IntKind.i64 2, Value.int IntKind.i64 5, Value.int IntKind.i64 0, Value.slice (some { block := w.heap.size + 1 + 1, off := 0 }) 2 2] 44))
    (.slice (some ⟨w.heap.size + 1 + 1 + 1, 0, none⟩) 3 3) (aL w.heap.size) := by
  obtain ⟨A, hA⟩ : ∃ A, A = w.alloc (Obj.cells #[Value.int IntKind.i64 4] 40) := ⟨_, rfl⟩
  obtain ⟨B, hB⟩ : ∃ B, B = A.alloc (Obj.cells #[Value.int IntKind.i64 8] 40) := ⟨_, rfl⟩
  obtain ⟨C, hC⟩ : ∃ C, C = B.alloc (Obj.cells #[Value.int IntKind.i64 4, Value.int IntKind.i64 9] 40) := ⟨_, rfl⟩
  obtain ⟨D, hD⟩ : ∃ D, D = C.alloc (Obj.cells #[Value.int IntKind.i64 3, Value.int IntKind.i64 8, Value.int IntKind.i64 0, Value.slice (some { block := w.heap.size, off := 0 }) 1 1, Value.int IntKind.i64 1, Value.int IntKind.i64 5, Value.int IntKind.i64 0, Value.slice (some { block := w.heap.size + 1, off := 0 }) 1 1, Value.int IntKind.i64 2, Value.int IntKind.i64 5, Value.int IntKind.i64 0, Value.slice (some { block := w.heap.size + 1 + 1, off := 0 }) 2 2] 44) := ⟨_, rfl⟩
  rw [← hA, ← hB, ← hC, ← hD]
  have sA : A.heap.size = w.heap.size + 1 := by rw [hA]; simp
  have sB : B.heap.size = w.heap.size + 1 + 1 := by rw [hB]; simp [sA]
  have sC : C.heap.size = w.heap.size + 1 + 1 + 1 := by rw [hC]; simp [sB]
  have b0 : A.heap[w.heap.size]? = some (.cells #[Value.int IntKind.i64 4] 40 (0, 0)) := by rw [hA]; exact heap_alloc_new _ _
  have b1 : B.heap[w.heap.size + 1]? = some (.cells #[Value.int IntKind.i64 8] 40 (0, 0)) := by rw [hB, ← sA]; exact heap_alloc_new _ _
  have b2 : C.heap[w.heap.size + 1 + 1]? = some (.cells #[Value.int IntKind.i64 4, Value.int IntKind.i64 9] 40 (0, 0)) := by rw [hC, ← sB]; exact heap_alloc_new _ _
  have b3 := heap_alloc_new C (Obj.cells #[Value.int IntKind.i64 3, Value.int IntKind.i64 8, Value.int IntKind.i64 0, Value.slice (some { block := w.heap.size, off := 0 }) 1 1, Value.int IntKind.i64 1, Value.int IntKind.i64 5, Value.int IntKind.i64 0, Value.slice (some { block := w.heap.size + 1, off := 0 }) 1 1, Value.int IntKind.i64 2, Value.int IntKind.i64 5, Value.int IntKind.i64 0, Value.slice (some { block := w.heap.size + 1 + 1, off := 0 }) 2 2] 44)
  rw [← hD, sC] at b3
  have fB : Fr [] A B := by rw [hB]; exact Fr.alloc [] _ _
  have fC : Fr [] B C := by rw [hC]; exact Fr.alloc [] _ _
  have fD : Fr [] C D := by rw [hD]; exact Fr.alloc [] _ _
  have r0 : Rd D (.slice (some ⟨w.heap.size, 0, none⟩) 1 1) [4] := (((rd_lit (ss := [4]) b0 (by simp)).idle fB).idle fC).idle fD
  have r1 : Rd D (.slice (some ⟨w.heap.size + 1, 0, none⟩) 1 1) [8] := ((rd_lit (ss := [8]) b1 (by simp)).idle fC).idle fD
  have r2 : Rd D (.slice (some ⟨w.heap.size + 1 + 1, 0, none⟩) 2 2) [4, 9] := (rd_lit (ss := [4, 9]) b2 (by simp)).idle fD
  refine ⟨⟨some ⟨w.heap.size + 1 + 1 + 1, 0, none⟩, 3, rfl, fun _ => ⟨w.heap.size + 1 + 1 + 1, 0, rfl, fun k hk => ?_⟩⟩, fun o ho => ?_, by simp [aL]⟩
  · have hk' : k = 0 ∨ k = 1 ∨ k = 2 := by have : k < 3 := hk; omega
    rcases hk' with rfl | rfl | rfl
    · exact ⟨_, rfl, by rw [cell_in b3]; rfl, by rw [cell_in b3]; rfl, by rw [cell_in b3]; rfl, by rw [cell_in b3]; rfl⟩
    · exact ⟨_, rfl, by rw [cell_in b3]; rfl, by rw [cell_in b3]; rfl, by rw [cell_in b3]; rfl, by rw [cell_in b3]; rfl⟩
    · exact ⟨_, rfl, by rw [cell_in b3]; rfl, by rw [cell_in b3]; rfl, by rw [cell_in b3]; rfl, by rw [cell_in b3]; rfl⟩
  · have ho' : o = ⟨3, 8, 0, [4], .slice (some ⟨w.heap.size, 0, none⟩) 1 1⟩ ∨ o = ⟨1, 5, 0, [8], .slice (some ⟨w.heap.size + 1, 0, none⟩) 1 1⟩ ∨ o = ⟨2, 5, 0, [4, 9], .slice (some ⟨w.heap.size + 1 + 1, 0, none⟩) 2 2⟩ := by simpa [aL] using ho
    rcases ho' with rfl | rfl | rfl
    · exact r0
    · exact r1
    · exact r2
theorem aL_load (b : Nat) (ov : Value) (w : World) (ha : SAt w ov (aL b)) (hT : Tab w) (hT0 : 0 < w.heap.size) : Calls Tryd.prog 7 #[.agg #[.int .i64 20, .int .i64 4, .int .i64 0, ov]] w fun e w' =>
    ∃ l H M, e = .returned (.tuple #[.pointer (some ⟨w.heap.size + 1, 0, none⟩), .int .i64 0]) ∧ Rep w' (w.heap.size + 1) l H ∧ KOf 20 4 0 aK H M ∧ Fr [] w w' ∧ ∀ g ∈ foot (w.heap.size + 1) l, w.heap.size ≤ g := by
  refine (Load_any 20 4 0 ov (aL b) w ha hT hT0 (by decide) (by decide) (by decide)).mono ?_
  rintro e w' (⟨l, H, M, rfl, hl⟩ | ⟨k, o, H, M, rfl, hf, hk, hl, ht⟩)
  · have h1 := hl.lds
    rw [List.take_length] at h1
    exact ⟨l, H, M, rfl, hl.rep, h1.kOf (by decide) (by decide) (by decide), hl.fr, hl.new⟩
  · exfalso
    have h1 := hl.kOf (by decide) (by decide) (by decide)
    have h2 := h1.takes (oiKey o)
    have h3 : takesB H (oiKey o).1 (oiKey o).2.1 (oiKey o).2.2.1 (oiKey o).2.2.2 = false := ht
    rw [h3] at h2
    have h4 := aK_takes k (oiKey o) (by have : aK = (aL b).map oiKey := rfl; rw [this, List.getElem?_map, hk]; rfl)
    have h5 : aK.take k = ((aL b).take k).map oiKey := by rw [List.map_take]; rfl
    rw [h5, ← h2] at h4
    cases h4
end Go.Proofs.YtpaekbghnejhoaaDoor
namespace Go.Proofs.YtpaekbghnejhoaaDoor
open Go.RowKit
set_option linter.unusedVariables false
attribute [local go_sem ↓] Go.wp_at_zero Go.wp_at_succ
theorem own_ints {w : World} {base : Nat} {v : Value} {st : List Nat} (h : w.ownsRow base 3 1 v st.length (st.map I)) : w.ownsRow base 3 1 v (zs st).length ((zs st).map (Value.int .i64)) := by
  unfold zs
  rw [List.length_map, List.map_map]
  exact h
set_option maxRecDepth 20000 in
set_option maxHeartbeats 2000000 in
theorem alive_ok (w : World) (hT : Tab w) (hT0 : 0 < w.heap.size) : Calls Tryd.prog 9 #[] w fun e w' => e = .returned (.bool true) ∧ Fr [] w w' := by
  obtain ⟨W0, hW0⟩ : ∃ W0, W0 = (((w.alloc (Obj.cells #[Value.int IntKind.i64 4] 40)).alloc (Obj.cells #[Value.int IntKind.i64 8] 40)).alloc (Obj.cells #[Value.int IntKind.i64 4, Value.int IntKind.i64 9] 40)).alloc (Obj.cells #[Value.int IntKind.i64 3, Value.int IntKind.i64 8, Value.int IntKind.i64 0, Value.slice (some { block := w.heap.size, off := 0 }) 1 1, Value.int IntKind.i64 1, Value.int IntKind.i64 5, Value.int IntKind.i64 0, Value.slice (some { block := w.heap.size + 1, off := 0 }) 1 1, Value.int IntKind.i64 2, Value.int IntKind.i64 5, Value.int IntKind.i64 0, Value.slice (some { block := w.heap.size + 1 + 1, off := 0 }) 2 2] 44) := ⟨_, rfl⟩
  have F0 : Hid (Fr [] w W0) := by rw [hW0]; exact (((Fr.alloc [] _ _).trans (Fr.alloc [] _ _) (by simp)).trans (Fr.alloc [] _ _) (by simp)).trans (Fr.alloc [] _ _) (by simp)
  have hSA := aL_at w
  rw [← hW0] at hSA
  have HLd := mkHid (aL_load w.heap.size _ W0 hSA (hT.fr F0.out hT0) (Nat.lt_of_lt_of_le hT0 F0.out.size))
  have HTb : Hid (∀ V, Fr [] W0 V → Tab V) := fun V hV => hT.fr (F0.out.trans hV (by simp)) hT0
  clear hSA hT hT0
  go_enter Tryd.func9, Tryd.ntmps9
  go_wp2_with fail
  rw [← hW0]
  refine Calls.mono HLd.out ?_
  clear HLd hW0
  rintro e w1 ⟨l, H, M, rfl, hrep, hk, hf1, hnew⟩
  generalize ha : W0.heap.size + 1 = a at *
  have HK := mkHid hk.ka
  have HAge : Hid (H.age ≤ 1000000000) := by show H.age ≤ _; rw [hk.age]; decide
  have HRe := mkHid hrep
  have HF1 := mkHid hf1
  have HNw := mkHid hnew
  clear hk hrep hf1 hnew
  go_wp2_with fail
  refine Calls.mono (num_any 0 w1 (by decide) (by decide)) ?_
  rintro e w2 ⟨rfl, rfl⟩
  go_wp2_with fail
  have hRd1 : Rd (w2.alloc (.cells #[.int .i64 8] 40)) (.slice (some ⟨w2.heap.size, 0, none⟩) ([8] : List Int).length 1) [8] := rd_lit (ss := [8]) (heap_alloc_new w2 _) (by simp)
  refine Calls.mono (Reach_ok a l H M (some ⟨w2.heap.size, 0, none⟩) 1 [8] _ (HRe.out.alloc _) HK.out.inv (HTb.out _ (HF1.out.trans (Fr.alloc [] _ _) (by simp))) hRd1) ?_
  rintro e w3 ⟨v, rfl, rs, hsr, hrow, hf3⟩
  have hst := aK_stays HK.out hsr
  unfold stays at hst
  rw [hst] at hrow
  have hF3 : Fr [] w2 w3 := (Fr.alloc [] _ _).trans hf3 (by simp)
  have hrd := own_rd (own_ints hrow) (by simp [zs])
  obtain ⟨pv, cv, rfl, -⟩ := hrd.at_
  have HRow := mkHid hrow
  have HF3 := mkHid hF3
  clear hrow hf3 hst hsr hRd1 hrd hF3
  go_wp2_with fail
  have hRd2 : Rd (w3.alloc (.cells #[.int .i64 8] 40)) (.slice (some ⟨w3.heap.size, 0, none⟩) ([8] : List Int).length 1) [8] := rd_lit (ss := [8]) (heap_alloc_new w3 _) (by simp)
  have hfo : ∀ g ∈ foot a l, g < w2.heap.size := fun g hg => HRe.out.lt g hg
  refine Calls.mono (Run_ok a l H M (some ⟨w3.heap.size, 0, none⟩) 1 [8] _ ((HRe.out.keep HF3.out (by simp)).alloc _) HK.out.inv (HTb.out _ ((HF1.out.trans HF3.out (by simp)).trans (Fr.alloc [] _ _) (by simp))) hRd2 HAge.out) ?_
  rintro e w4 ⟨rs2, hsr2, rfl, hrep4, hinv4, hnx4⟩
  obtain ⟨e1, e2⟩ := aK_kept HK.out hsr2 HAge.out
  have hall := (run_all HK.out.inv rs2 hinv4).trans (aK_stays HK.out hsr2)
  have hse := hinv4.told.seats
  have hfw4 : Fr [] w w4 := ((F0.out.trans HF1.out (by simp)).trans ((HF3.out.trans (Fr.alloc [] _ _) (by simp))) (by simp)).trans hnx4.1 (fun b hb => .inr (Nat.le_trans F0.out.size (HNw.out b hb)))
  have hrd4 : Rd w4 (.slice pv (zs [1, 2]).length cv) (zs [1, 2]) := by
    refine own_rd (own_ints (own_congr (own_congr HRow.out fun g hg => (Fr.alloc [] w3 (.cells #[.int .i64 8] 40)).block g (HRow.out.lt g hg).2 (by simp)) fun g hg => hnx4.1.block g ?_ ?_)) (by simp [zs])
    · have := (HRow.out.lt g hg).2; simp; omega
    · intro hm
      have h1 := (HRow.out.lt g hg).1
      have h2 := hfo g hm
      simp at h1
      omega
  generalize keepH H (stays H rs2) = H4 at *
  rw [e1, e2]
  have HRp4 := mkHid hrep4
  have HAll := mkHid hall
  have HSe := mkHid hse
  have HFw := mkHid hfw4
  have HRd4 := mkHid hrd4
  clear hsr2 hrep4 hinv4 hnx4 e1 e2 hall hse hfw4 hrd4 hRd2 HRow HF3 HF1 HRe HK HAge hfo HTb HNw F0
  have hz2 : (zs [1, 2]).length = 2 := rfl
  rw [hz2] at *
  go_wp2_with fail
  refine Calls.mono (num_any 0 w4 (by decide) (by decide)) ?_
  rintro e w5 ⟨rfl, rfl⟩
  go_wp2_with fail
  refine Calls.mono (num_any 0 w5 (by decide) (by decide)) ?_
  rintro e w6 ⟨rfl, rfl⟩
  go_wp2_with fail
  have hr1 : Rd (w6.alloc (.cells #[.int .i64 1, .int .i64 2] 3)) (.slice (some ⟨w6.heap.size, 0, none⟩) 2 2) (zs [1, 2]) := rd_lit (ss := [1, 2]) (heap_alloc_new w6 _) (by simp)
  refine Calls.mono (sameInts_ok (zs [1, 2]) _ _ _ (HRd4.out.idle (Fr.alloc [] _ _)) hr1) ?_
  rintro e w7 ⟨rfl, n7, hw7⟩
  have hf7 : Fr [] w6 w7 := by rw [hw7]; exact (Fr.alloc [] _ _).trans (Fr.drewN [] _ _) (by simp)
  have HF7 := mkHid hf7
  clear hr1 hw7 hf7
  go_wp2_with fail
  refine Calls.mono (All_ok a l H4 w7 (HRp4.out.keep HF7.out (by simp)) HSe.out) ?_
  rintro e w8 ⟨v8, rfl, hrow8, hf8⟩
  rw [HAll.out] at hrow8
  have hrd8 := own_rd (own_ints hrow8) (by simp [zs])
  obtain ⟨p8, c8, rfl, -⟩ := hrd8.at_
  have HR8 := mkHid hrd8
  have HF8 := mkHid hf8
  clear hrow8 hrd8 hf8
  go_wp2_with fail
  have hr1 : Rd (w8.alloc (.cells #[.int .i64 1, .int .i64 2] 3)) (.slice (some ⟨w8.heap.size, 0, none⟩) 2 2) (zs [1, 2]) := rd_lit (ss := [1, 2]) (heap_alloc_new w8 _) (by simp)
  refine Calls.mono (sameInts_ok (zs [1, 2]) _ _ _ (HR8.out.idle (Fr.alloc [] _ _)) hr1) ?_
  rintro e w9 ⟨rfl, n9, hw9⟩
  have HF9 : Hid (Fr [] w8 w9) := by rw [hw9]; exact (Fr.alloc [] _ _).trans (Fr.drewN [] _ _) (by simp)
  clear hr1 hw9
  go_wp2_with fail
  go_ret
  exact ⟨rfl, ((HFw.out.trans HF7.out (by simp)).trans HF8.out (by simp)).trans HF9.out (by simp)⟩
end Go.Proofs.YtpaekbghnejhoaaDoor
namespace Go.Proofs.YtpaekbghnejhoaaDoor
open Go.RowKit
set_option linter.unusedVariables false
theorem sr_same {H : HS} {M : MS} {roots : List Int} {rs rs2 : List Nat} (h : Sr H M roots (rs, [])) (h2 : Sr H M roots (rs2, [])) : stays H rs = stays H rs2 := by
  have cl : ∀ r : List Nat, Sr H M roots (r, []) → Cl H M roots (fun q => q ∈ r) := fun r hr => ⟨hr.root, fun q hq z hz hb => by
    rcases hr.on q hq with h1 | h1
    · simp at h1
    · exact h1 z hz hb⟩
  unfold stays
  refine List.filter_congr fun q _ => ?_
  rw [Bool.eq_iff_iff, decide_eq_true_eq, decide_eq_true_eq]
  exact ⟨h.least _ (cl rs2 h2) q, h2.least _ (cl rs h) q⟩
theorem filter_at {α : Type} (f : α → Bool) : ∀ (l : List α) (i : Nat) (o : α), l[i]? = some o → f o = true → (l.filter f)[((l.take i).filter f).length]? = some o
  | [], i, o, h, _ => by simp at h
  | x :: l, 0, o, h, hf => by
    have : x = o := by simpa using h
    subst this
    simp [hf]
  | x :: l, i + 1, o, h, hf => by
    have h1 : l[i]? = some o := by simpa using h
    have ih := filter_at f l i o h1 hf
    rw [List.take_succ_cons, List.filter_cons, List.filter_cons]
    by_cases hx : f x = true
    · rw [if_pos hx, if_pos hx, List.length_cons, List.getElem?_cons_succ]; exact ih
    · rw [if_neg hx, if_neg hx]; exact ih
/-- whether an object stays -/
def inSt (st : List Nat) (o : OI) : Bool := decide (o.oop.toNat ∈ st)
theorem keys_filter (la : List OI) (st : List Nat) : ((la.map oiKey).filter fun k => decide (k.1.toNat ∈ st)) = (la.filter (inSt st)).map oiKey := by
  rw [List.filter_map]; rfl
/-- how many of the first stay, and how many words they take -/
def keptN (la : List OI) (st : List Nat) (i : Nat) : Nat := ((la.take i).filter (inSt st)).length
def usedN (la : List OI) (st : List Nat) (i : Nat) : Int := endK (((la.take i).filter (inSt st)).map oiKey)
theorem take_some {la : List OI} {i : Nat} {o : OI} (h : la[i]? = some o) : la.take (i + 1) = la.take i ++ [o] := by rw [List.take_add_one, h]; rfl
theorem kept_yes {la : List OI} {st : List Nat} {i : Nat} {o : OI} (h : la[i]? = some o) (hf : inSt st o = true) : keptN la st (i + 1) = keptN la st i + 1 ∧ usedN la st (i + 1) = usedN la st i + lenOf (o.slots.length : Int) o.fmt := by
  unfold keptN usedN
  rw [take_some h, List.filter_append, List.filter_cons_of_pos hf, List.map_append, endK_append]
  exact ⟨by simp, by simp [endK, oiKey]⟩
theorem kept_no {la : List OI} {st : List Nat} {i : Nat} {o : OI} (h : la[i]? = some o) (hf : inSt st o = false) : keptN la st (i + 1) = keptN la st i ∧ usedN la st (i + 1) = usedN la st i := by
  unfold keptN usedN
  rw [take_some h, List.filter_append, List.filter_cons_of_neg (by rw [hf]; simp)]
  exact ⟨by simp, by simp⟩
theorem endK_nonneg : ∀ ks : List Key, 0 ≤ endK ks
  | [] => by simp [endK]
  | k :: t => by
    have := endK_nonneg t
    have h2 : 0 ≤ lenOf (k.2.2.2.length : Int) k.2.2.1 := by unfold lenOf; split <;> omega
    simp only [endK]
    omega
theorem used_le (la : List OI) (st : List Nat) (i : Nat) : 0 ≤ usedN la st i ∧ usedN la st i ≤ endK ((la.filter (inSt st)).map oiKey) := by
  unfold usedN
  refine ⟨endK_nonneg _, ?_⟩
  conv => rhs; rw [← List.take_append_drop i la, List.filter_append, List.map_append, endK_append]
  have := endK_nonneg (((la.drop i).filter (inSt st)).map oiKey)
  omega
theorem kept_le (la : List OI) (st : List Nat) (i : Nat) : keptN la st i ≤ (la.filter (inSt st)).length := by
  unfold keptN
  conv => rhs; rw [← List.take_append_drop i la, List.filter_append, List.length_append]
  omega
theorem kept_all (la : List OI) (st : List Nat) : keptN la st la.length = (la.filter (inSt st)).length ∧ usedN la st la.length = endK ((la.filter (inSt st)).map oiKey) := by
  unfold keptN usedN
  rw [List.take_length]
  exact ⟨rfl, rfl⟩
theorem srep_told {w : World} {base : Nat} {ov : Value} {l : List OS} {ks : List Key} (h : SRep w base ov l) (hk : (l.map osKey).map (fun k : Nat × Int × Nat × List Int => ((k.1 : Int), k.2.1, (k.2.2.1 : Int), k.2.2.2)) = ks) (hl : ks.length ≤ 1048576) (hs : ∀ k ∈ ks, k.2.2.2.length ≤ 1048576) : SAt w ov (l.map toOI) ∧ (l.map toOI).map oiKey = ks := by
  have hll : l.length = ks.length := by rw [← hk]; simp
  refine ⟨h.sat (by omega) (fun o ho => ?_), by rw [← hk, List.map_map, List.map_map]; rfl⟩
  have h1 : ((o.oop : Int), o.cls, (o.fmt : Int), o.slots) ∈ ks := by rw [← hk, List.map_map]; exact List.mem_map_of_mem (f := (fun k : Nat × Int × Nat × List Int => ((k.1 : Int), k.2.1, (k.2.2.1 : Int), k.2.2.2)) ∘ osKey) ho
  have := hs _ h1
  dsimp only at this
  omega
theorem zs_nodup {l : List Nat} (h : l.Nodup) : (zs l).Nodup := by
  unfold zs
  refine List.pairwise_map.2 (h.imp fun hab e => hab (by omega))
/-- what a Run leaves, by keys -/
structure Left (words oops mark : Nat) (la : List OI) (H : HS) (M : MS) (st : List Nat) : Prop where
  ka : KA words oops mark ((la.filter (inSt st)).map oiKey) (keepH H st) { M with things := keptTh M.things st }
  all : allTo (keepH H st) (keepH H st).seats.length = st
  cnt : (keepH H st).count = st.length
  len : (la.filter (inSt st)).length = st.length
theorem left_of {words oops mark : Nat} {la : List OI} {H : HS} {M : MS} (h : KA words oops mark (la.map oiKey) H M) {roots : List Int} {rs : List Nat} (hs : Sr H M roots (rs, [])) (ha : H.age ≤ 1000000000) : Left words oops mark la H M (stays H rs) := by
  have hk := h.keep (stays H rs) (stays_has h.inv rs) ha
  rw [keys_filter] at hk
  have hall := run_all h.inv rs hk.inv
  have hc : (keepH H (stays H rs)).count = (stays H rs).length := by rw [← hk.inv.countAll, hall]
  exact ⟨hk, hall, hc, by have := hk.count; rw [hc] at this; simpa using this.symm⟩
/-- a second Run takes nothing -/
structure Same (words oops mark : Nat) (ks : List Key) (H H2 : HS) (M2 : MS) : Prop where
  ka : KA words oops mark ks H2 M2
  cnt : (H.count : Int) - H2.count = 0
  mem : (H.mem.length : Int) - H2.mem.length = 0
theorem same_of {words oops mark : Nat} {la : List OI} {H : HS} {M : MS} (h : KA words oops mark (la.map oiKey) H M) {roots : List Int} {rs rs2 : List Nat} (hs : Sr H M roots (rs, [])) (ha : H.age ≤ 999999999)
    (h2 : Sr (keepH H (stays H rs)) { M with things := keptTh M.things (stays H rs) } roots (rs2, [])) :
    Same words oops mark ((la.filter (inSt (stays H rs))).map oiKey) (keepH H (stays H rs)) (keepH (keepH H (stays H rs)) (stays (keepH H (stays H rs)) rs2)) { M with things := keptTh (keptTh M.things (stays H rs)) (stays (keepH H (stays H rs)) rs2) } := by
  have hl := left_of h hs (by omega)
  have hag : (keepH H (stays H rs)).age ≤ 1000000000 := by show H.age + 1 ≤ _; omega
  have hk2 := hl.ka.keep (stays (keepH H (stays H rs)) rs2) (stays_has hl.ka.inv rs2) hag
  have hk3 : KA words oops mark ((la.filter (inSt (stays H rs))).map oiKey) (keepH (keepH H (stays H rs)) (stays (keepH H (stays H rs)) rs2)) { M with things := keptTh (keptTh M.things (stays H rs)) (stays (keepH H (stays H rs)) rs2) } := by
    have e := keep_all_keys hl.ka
    rw [← again_all h.inv hs hl.ka.inv h2] at e
    rw [e] at hk2
    exact hk2
  have c1 := hl.ka.count
  have c2 := hk3.count
  have m1 := hl.ka.mem
  have m2 := hk3.mem
  exact ⟨hk3, by omega, by omega⟩
end Go.Proofs.YtpaekbghnejhoaaDoor
namespace Go.Proofs.YtpaekbghnejhoaaDoor
open Go.RowKit
set_option linter.unusedVariables false
theorem SRep.fr {w w' : World} {base : Nat} {ov : Value} {l : List OS} {S : List Nat} (h : SRep w base ov l) (hf : Fr S w w') (hd : ∀ g ∈ S, g < base) : SRep w' base ov l :=
  ⟨own_congr h.row fun g hg => hf.block g (h.row.lt g hg).2 (fun hm => by have h1 := (h.row.lt g hg).1; have h2 := hd g hm; omega), fun o ho => own_congr (h.slots o ho) fun g hg => hf.block g ((h.slots o ho).lt g hg).2 (fun hm => by have h1 := ((h.slots o ho).lt g hg).1; have h2 := hd g hm; omega)⟩
theorem KA.slots {words oops mark : Nat} {ks : List Key} {H : HS} {M : MS} (h : KA words oops mark ks H M) : ∀ k ∈ ks, k.2.2.2.length ≤ 8192 := fun k hk => by
  obtain ⟨b0, b1, b2, b3, b4⟩ := h.at_ k hk
  have := h.inv.model.slots _ (there_lt b1)
  rw [b4] at this
  omega
theorem KA.klen {words oops mark : Nat} {ks : List Key} {H : HS} {M : MS} (h : KA words oops mark ks H M) : ks.length ≤ 65538 := by
  have h1 := h.count
  have h2 := h.inv.countAll
  have h3 := allTo_len H H.seats.length
  have h4 := h.inv.told.seats
  omega
/-- what State tells, by keys -/
structure Tld (w : World) (base : Nat) (ov : Value) (lo : List OS) (ks : List Key) : Prop where
  rep : SRep w base ov lo
  keys : (lo.map toOI).map oiKey = ks
  len : ks.length ≤ 65538
  slots : ∀ k ∈ ks, k.2.2.2.length ≤ 8192
theorem Tld.fr {w w' : World} {base : Nat} {ov : Value} {lo : List OS} {ks : List Key} {S : List Nat} (h : Tld w base ov lo ks) (hf : Fr S w w') (hd : ∀ g ∈ S, g < base) : Tld w' base ov lo ks :=
  ⟨h.rep.fr hf hd, h.keys, h.len, h.slots⟩
theorem Tld.sat {w : World} {base : Nat} {ov : Value} {lo : List OS} {ks : List Key} (h : Tld w base ov lo ks) : SAt w ov (lo.map toOI) := by
  have hll : lo.length = ks.length := by rw [← h.keys]; simp
  have hl := h.len
  refine h.rep.sat (by omega) (fun o ho => ?_)
  have h1 : oiKey (toOI o) ∈ ks := by rw [← h.keys]; exact List.mem_map_of_mem (List.mem_map_of_mem ho)
  have := h.slots _ h1
  have e : (oiKey (toOI o)).2.2.2 = o.slots := rfl
  rw [e] at this
  omega
theorem state_of {words oops mark : Nat} {ks : List Key} {H : HS} {M : MS} {a : Nat} {l : Lay} {w : World} (hr : Rep w a l H) (h : KA words oops mark ks H M) :
    Calls Tryd.prog 12 #[.pointer (some ⟨a, 0, none⟩)] w fun e w' => ∃ p c lo, e = .returned (.agg #[.int .i64 (words : Int), .int .i64 (oops : Int), .int .i64 (mark : Int), .slice p ks.length c]) ∧ Tld w' w.heap.size (.slice p ks.length c) lo ks ∧ Fr [] w w' := by
  refine (State_ok a l H M w hr h.inv.toInvV).mono ?_
  rintro e w' ⟨ov, ls, rfl, hs, hk, hf⟩
  have hkk : (ls.map toOI).map oiKey = ks := by
    rw [← h.st, ← hk, List.map_map, List.map_map]; rfl
  have hll : ls.length = ks.length := by rw [← hkk]; simp
  have ht : Tld w' w.heap.size ov ls ks := ⟨hs, hkk, h.klen, h.slots⟩
  obtain ⟨p, c, e1, -⟩ := ht.sat.at_
  rw [List.length_map, hll] at e1
  subst e1
  exact ⟨p, c, ls, by rw [h.words, h.oops, h.mark], ht, hf⟩
end Go.Proofs.YtpaekbghnejhoaaDoor
namespace Go.Proofs.YtpaekbghnejhoaaDoor
open Go.RowKit
set_option linter.unusedVariables false
/-- objects that stay, whatever else is allocated -/
structure Hold (words oops : Nat) (ks : List Key) (H : HS) (M : MS) : Prop where
  inv : Inv H M
  words : H.words = words
  oops : H.oops = oops
  mark : H.mark = 0
  age : H.age ≤ 1000
  at_ : ∀ k ∈ ks, 1 ≤ k.1 ∧ (M.things.getD (k.1.toNat - 1) noTh).there = true ∧ (M.things.getD (k.1.toNat - 1) noTh).slots = k.2.2.2
theorem KA.hold {words oops mark : Nat} {ks : List Key} {H : HS} {M : MS} (h : KA words oops mark ks H M) (ha : H.age ≤ 1000) : Hold words oops ks { H with mark := 0 } { M with mark := 0 } :=
  ⟨h.inv.setMark 0 (by decide), h.words, h.oops, rfl, ha, fun k hk => by
    obtain ⟨b0, b1, -, -, b4⟩ := h.at_ k hk
    exact ⟨b0, b1, b4⟩⟩
theorem Hold.small {words oops : Nat} {ks : List Key} {H : HS} {M : MS} (h : Hold words oops ks H M) : (H.mem.length : Int) ≤ 1048576 := by
  have h1 := h.inv.safe.small.mem
  have h2 := h.inv.room
  omega
/-- a thing beside them is made or changed -/
theorem Hold.other {words oops : Nat} {ks : List Key} {H H' : HS} {M M' : MS} (h : Hold words oops ks H M) (hi : Inv H' M') (hw : H'.words = H.words) (ho : H'.oops = H.oops) (hm : H'.mark = 0) (ha : H'.age = H.age) (q : Nat) (hq : ∀ k ∈ ks, k.1 ≠ (q : Int) + 1) (hs : ∀ i, i ≠ q → i < M.things.length → M'.things.getD i noTh = M.things.getD i noTh) : Hold words oops ks H' M' :=
  ⟨hi, hw.trans h.words, ho.trans h.oops, hm, by rw [ha]; exact h.age, fun k hk => by
    obtain ⟨b0, b1, b2⟩ := h.at_ k hk
    rw [hs (k.1.toNat - 1) (fun e => hq k hk (by omega)) (there_lt b1)]
    exact ⟨b0, b1, b2⟩⟩
theorem free_alloc {words oops : Nat} {ks : List Key} {H : HS} {M : MS} (h : Hold words oops ks H M) (a : Nat) (l : Lay) (w : World) (hr : Rep w a l H) (hT : Tab w) (hT2 : Tab64 w) (ha : 2 ≤ a) (n : Nat) (hn : n ≤ 8192) :
    Calls Tryd.prog 14 #[.pointer (some ⟨a, 0, none⟩), .int .i64 8, .int .i64 (n : Int), .int .i64 0] w fun e w' =>
      (e = .returned (.tuple #[.int .i64 0, .int .i64 23]) ∧ Rep w' a l H ∧ Nx a l l w w') ∨
      (∃ (o : Nat) (l' : Lay) (H' : HS) (M' : MS), e = .returned (.tuple #[.int .i64 ((o : Int) + 1), .int .i64 0]) ∧ Rep w' a l' H' ∧ Nx a l l' w w' ∧ Hold words oops ks H' M' ∧ (∀ k ∈ ks, k.1 ≠ (o : Int) + 1) ∧ o ≤ 65538 ∧ (M'.things.getD o noTh).there = true ∧ (M'.things.getD o noTh).fmt = 0 ∧ (M'.things.getD o noTh).slots.length = n) := by
  by_cases hf : H.oops = H.count ∨ H.words < H.mem.length + lenN n 0
  · refine (Alloc_full 8 n 0 a l H w hr h.inv.safe.small hT (by decide) (by decide) (by omega) hf).mono ?_
    rintro e w' ⟨rfl, k, rfl⟩
    exact .inl ⟨rfl, hr.drewN k, Nx.frw (Fr.drewN _ _ _)⟩
  · have hc : H.count < H.oops := by have := h.inv.safe.small.count; omega
    have hr2 : H.mem.length + lenN n 0 ≤ H.words := by omega
    refine (Alloc_ok 8 n 0 a l H w hr h.inv.safe hT hT2 ha (by decide) (by decide) (by omega) hc hr2 (by rw [h.mark]; decide)).mono ?_
    rintro e w' ⟨k, hk, hkf, rfl, l', hr', hx⟩
    have hlow := h.inv.lowest k hk hkf
    have hI := h.inv.lay k hk 8 n 0 none none 0 0 (by omega) hn hc hr2
    have hfr := (lowTo_free M.things).1
    have hle := lowTo_le M.things
    have hml := h.inv.model.len
    rw [hlow] at hr' ⊢
    obtain ⟨o, ho⟩ : ∃ o, lowTo M.things = o + 1 := ⟨lowTo M.things - 1, by omega⟩
    rw [ho] at hr' hI hfr hle ⊢
    rw [Nat.add_sub_cancel] at hI hfr
    have hput := putTh_at M.things o ⟨true, 8, 0, endTo M.things M.things.length, List.replicate n (newX 0), none, 0⟩ (by omega)
    have hlen : M.things.length ≤ (putTh M.things o ⟨true, 8, 0, endTo M.things M.things.length, List.replicate n (newX 0), none, 0⟩).length ∧ o < (putTh M.things o ⟨true, 8, 0, endTo M.things M.things.length, List.replicate n (newX 0), none, 0⟩).length := by
      unfold putTh
      split
      · rw [List.length_set]; omega
      · rw [List.length_append]; simp; omega
    have hne : ∀ k ∈ ks, k.1 ≠ (o : Int) + 1 := fun k hk e => by
      obtain ⟨b0, b1, -⟩ := h.at_ k hk
      rw [show k.1.toNat - 1 = o from by omega, hfr] at b1
      cases b1
    have hat : (putTh M.things o ⟨true, 8, 0, endTo M.things M.things.length, List.replicate n (newX 0), none, 0⟩).getD o noTh = ⟨true, 8, 0, endTo M.things M.things.length, List.replicate n (newX 0), none, 0⟩ := by rw [hput o hlen.2, if_pos rfl]
    refine .inr ⟨o, l', _, _, by rw [show ((o + 1 : Nat) : Int) = (o : Int) + 1 from by omega], hr', hx, h.other hI rfl rfl (by show H.mark - 1 = 0; rw [h.mark]) rfl o hne (fun i hi hl => ?_), hne, by omega, ?_, ?_, ?_⟩
    · show (putTh M.things o _).getD i noTh = _
      rw [hput i (by omega), if_neg hi]
    · show ((putTh M.things o _).getD o noTh).there = true
      rw [hat]
    · show ((putTh M.things o _).getD o noTh).fmt = 0
      rw [hat]
    · show ((putTh M.things o _).getD o noTh).slots.length = n
      rw [hat]; simp
theorem free_put {words oops : Nat} {ks : List Key} {H : HS} {M : MS} (h : Hold words oops ks H M) (a : Nat) (l : Lay) (w : World) (hr : Rep w a l H) (hT : Tab w) (o n : Nat) (hne : ∀ k ∈ ks, k.1 ≠ (o : Int) + 1) (hb : (M.things.getD o noTh).there = true) (hf : (M.things.getD o noTh).fmt = 0) (hn : (M.things.getD o noTh).slots.length = n) :
    Calls Tryd.prog 16 #[.pointer (some ⟨a, 0, none⟩), .int .i64 ((o : Int) + 1), .int .i64 0, .int .i64 4] w fun e w' => ∃ (z : Int) (H' : HS) (M' : MS), e = .returned (.int .i64 z) ∧ Rep w' a l H' ∧ Nx a l l w w' ∧ Hold words oops ks H' M' := by
  have hk := there_lt hb
  have hI := h.inv.is o hk hb
  obtain ⟨h1, h2, h3⟩ := has_yes hI.has
  have hmem := h.small
  have hroom := hI.room
  have h22 := lenN_two (M.things.getD o noTh).slots.length (M.things.getD o noTh).fmt
  have hlen := hI.len
  have e1 : ((o + 1 : Nat) : Int) = (o : Int) + 1 := by omega
  rw [← e1]
  by_cases h0 : n = 0
  · refine (Put_slot (o + 1) (M.things.getD o noTh).slots.length (M.things.getD o noTh).fmt 0 4 a l H w hr hI.has hmem (by omega) hI.shape (by omega) (by right; omega)).mono ?_
    rintro e w' ⟨rfl, hfr⟩
    exact ⟨21, H, M, rfl, hr.keep hfr (by simp), Nx.frw (hfr.mono (by simp)), h⟩
  · have hil : 0 < (M.things.getD o noTh).slots.length := by omega
    have hw := lenN_word (M.things.getD o noTh).slots.length 0 (M.things.getD o noTh).fmt hf hil
    refine (Put_ok (o + 1) 0 (M.things.getD o noTh).slots.length (M.things.getD o noTh).fmt 4 a l H _ w hr hmem h1 h2 h3 (by omega) hI.shape (by omega) (by omega) (by omega) (by rw [hf]; decide) hT (fun V hV => by
      rw [hf]
      exact setSlot_w (H.seats.getD (o + 1) (0, 0, 0)) 0 4 a l H V hV (by omega) hmem)).mono ?_
    rintro e w' ⟨rfl, hr', hx⟩
    exact ⟨0, _, _, rfl, hr', hx, h.other (h.inv.putW o hk hb 0 4 hil hf) rfl rfl h.mark rfl o hne (fun i hi hl => by
      show (M.things.set o _).getD i noTh = _
      rw [getD_set M.things o i _ hk, if_neg hi])⟩
theorem free_at {words oops : Nat} {ks : List Key} {H : HS} {M : MS} (h : Hold words oops ks H M) (a : Nat) (l : Lay) (w : World) (hr : Rep w a l H) (k : Key) (hk : k ∈ ks) (i : Nat) (hi : i < k.2.2.2.length) :
    Calls Tryd.prog 17 #[.pointer (some ⟨a, 0, none⟩), .int .i64 k.1, .int .i64 (i : Int)] w fun e w' => e = .returned (.tuple #[.int .i64 (k.2.2.2.getD i 0), .int .i64 0]) ∧ Fr [] w w' := by
  obtain ⟨b0, b1, b2⟩ := h.at_ k hk
  have hI := h.inv.is (k.1.toNat - 1) (there_lt b1) b1
  rw [show k.1.toNat - 1 + 1 = k.1.toNat from by omega] at hI
  have h1 := hI.at i (by rw [b2]; exact hi) a l h.small w hr
  rw [b2, show ((k.1.toNat : Nat) : Int) = k.1 from by omega] at h1
  exact h1
/-- behind a Run without a root -/
structure Bare (words oops : Nat) (H : HS) : Prop where
  room1 : (H.words : Int) - H.mem.length = words
  room2 : (H.oops : Int) - H.count = oops
  all : allTo H H.seats.length = []
  small : Small H
  seats : (H.seats.length : Int) ≤ 65538
theorem free_none {words oops : Nat} {ks : List Key} {H : HS} {M : MS} (h : Hold words oops ks H M) {rs : List Nat} (hs : Sr H M [] (rs, [])) (hI : Inv (keepH H (stays H rs)) { M with things := keptTh M.things (stays H rs) }) : Bare words oops (keepH H (stays H rs)) := by
  have hst : stays H rs = [] := by
    unfold stays
    rw [List.filter_eq_nil_iff]
    intro q _ hq
    have hq' : q ∈ rs := by simpa using hq
    exact hs.least (fun _ => False) ⟨fun z hz => by simp at hz, fun _ hf => hf.elim⟩ q hq'
  have hall := run_all h.inv rs hI
  obtain ⟨hK, -⟩ := h.inv.keep (stays H rs) (stays_has h.inv rs) (by have := h.age; omega)
  have hm := keep_mem h.inv.toInvV (stays H rs) hK
  have hc := hI.countAll
  rw [hall] at hc
  rw [hst] at hm hc hall hI ⊢
  have hm0 : (keepH H []).mem.length = 0 := by rw [hm, List.filter_eq_nil_iff.2 (fun o _ => by simp)]; rfl
  have hc0 : (keepH H []).count = 0 := by rw [← hc]; rfl
  have hw : (keepH H []).words = words := by have e1 := hI.words; have e2 := h.inv.words; rw [e1]; show M.words = _; rw [← e2, h.words]
  have ho : (keepH H []).oops = oops := by have e1 := hI.oops; have e2 := h.inv.oops; rw [e1]; show M.oops = _; rw [← e2, h.oops]
  exact ⟨by rw [hm0, hw]; simp, by rw [hc0, ho]; simp, hall, hI.safe.small, hI.told.seats⟩
end Go.Proofs.YtpaekbghnejhoaaDoor
namespace Go.Proofs.YtpaekbghnejhoaaDoor
open Go.RowKit
set_option linter.unusedVariables false
/-- the walk in the order of the text, shut -/
structure WQ (ops : Array Oper) (C : World → Prop) (Q : Act → Prop) (l : List Oper) (a : Act) : Prop where
  out : wpQuiet Tryd.prog ops C Q l a
section
variable {ops : Array Oper} {o : Oper} {rest : List Oper} {a : Act} {C : World → Prop} {Q : Act → Prop}
theorem wq_nil (h : Q a) : WQ ops C Q [] a := ⟨h⟩
/-- a step of a region that draws: an operation that is not wanted -/
theorem wq_skip (hw : Region.wanted o (yielded ops a.tmps) = false) (h : WQ ops C Q rest (a.put o.dst undef)) : WQ ops C Q (o :: rest) a :=
  ⟨by unfold wpQuiet; rw [hw]; exact h.out⟩
/-- one that yields a value and leaves the world -/
theorem wq_val {v : Value} (hw : Region.wanted o (yielded ops a.tmps) = true) (hv : ∀ V, C V → (execOp a.eval o).run Tryd.prog V = .ok (.value v) V) (h : WQ ops C Q rest (a.put o.dst v)) : WQ ops C Q (o :: rest) a :=
  ⟨by unfold wpQuiet; rw [if_pos hw]; exact ⟨v, fun V hV => by unfold Oper.quietAt; rw [hv V hV]; exact ⟨rfl, rfl⟩, h.out⟩⟩
/-- a call that hands back one value, and a world of the class -/
theorem wq_call (f : FuncId) (fn : Func) (hfn : Tryd.prog.funcs[f]? = some fn) (hnm : (fn.name == "runtime.NumGoroutine") = false) (hbd : fn.body.isSome = true) (xs : Array Operand) (ts : Array TypeId)
    (ho : o.op = .call { callee := .value (.func f), args := xs, argTypes := ts }) (hw : Region.wanted o (yielded ops a.tmps) = true) (vs : Array Value) (hvs : xs.map a.eval = vs) (v : Value)
    (hc : ∀ V, C V → Calls Tryd.prog f vs V fun e w' => e = .returned v ∧ C w') (h : WQ ops C Q rest (a.put o.dst v)) : WQ ops C Q (o :: rest) a := by
  refine ⟨?_⟩
  unfold wpQuiet
  rw [if_pos hw]
  refine ⟨v, fun V hV => ?_, h.out⟩
  unfold Oper.quietAt
  have e1 : (execOp a.eval o).run Tryd.prog V = .ok (.enter f vs) V := by
    have h1 : ¬ fn.name = "runtime.NumGoroutine" := by simpa using hnm
    have h2 : ¬ fn.body = none := by intro e; rw [e] at hbd; simp at hbd
    simp [execOp, ho, resolve, invoke, Act.eval, hvs, Deferred.ofValue, callFunc, hfn, h1, h2]
  rw [e1]
  exact ⟨rfl, hc V hV⟩
end
/-- a region that draws its order, walked once, where the calls may allocate -/
theorem region_quiet {W1 : World} {id : Nat} {l : List Oper} {Q : Exit → Act → World → Prop} {a : Act} {w : World} (hq : Hid (Fr [] W1 w)) (hm : Tryd.prog.follows .mixedOrders = true) (hB : Region.lexB .any l.toArray = true)
    (h : WQ l.toArray (fun V => Hid (Fr [] W1 V)) (fun a' => ∀ w', Hid (Fr [] W1 w') → Q .normal a' w') l a) : (Code.region id l.toArray true).wp Tryd.prog Q a w :=
  wp_region_quiet (C := fun V => Hid (Fr [] W1 V)) hm hB (show Hid (Fr [] W1 w.drew) from hid_drew hq) (by simpa using h.out)
theorem hid_alloc {S : List Nat} {w W : World} {o : Obj} (h : Hid (Fr S w W)) : Hid (Fr S w (W.alloc o)) := h.out.trans (Fr.alloc S W o) (fun b hb => .inl hb)
theorem hid_set4 {w W : World} {X : Nat} {a b c d : Value} (h : Hid (Fr [] w W)) (hX : w.heap.size ≤ X) : Hid (Fr [] w ((((W.setCell ⟨X, 0, none⟩ a).setCell ⟨X, 1, none⟩ b).setCell ⟨X, 2, none⟩ c).setCell ⟨X, 3, none⟩ d)) :=
  h.out.trans ((((Fr.setCell (S := [X]) W ⟨X, 0, none⟩ a (by simp)).trans (Fr.setCell (S := [X]) _ ⟨X, 1, none⟩ b (by simp)) (fun b hb => .inl hb)).trans (Fr.setCell (S := [X]) _ ⟨X, 2, none⟩ c (by simp)) (fun b hb => .inl hb)).trans (Fr.setCell (S := [X]) _ ⟨X, 3, none⟩ d (by simp)) (fun b hb => .inl hb)) (fun b hb => .inr (by simp at hb; omega))
theorem set4_at {W : World} {X : Nat} {a b c d a' b' c' d' : Value} {t : TypeId} (h : W.heap[X]? = some (.cells #[a', b', c', d'] t (0, 0))) : ((((W.setCell ⟨X, 0, none⟩ a).setCell ⟨X, 1, none⟩ b).setCell ⟨X, 2, none⟩ c).setCell ⟨X, 3, none⟩ d).heap[X]? = some (.cells #[a, b, c, d] t (0, 0)) := by
  rw [set_in (set_in (set_in (set_in h 0 _) 1 _) 2 _) 3 _]
  rfl
end Go.Proofs.YtpaekbghnejhoaaDoor

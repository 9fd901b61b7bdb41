import Derived.Test.YtpaekbghnejhoaaDoorKG06HInvA
import Derived.Test.YtpaekbghnejhoaaDoorKG08HGrowS
import Derived.Deep.RegionLaw
import Derived.Deep.DeepCutAuto
namespace Go.Proofs.YtpaekbghnejhoaaDoor
open Go.RowKit
set_option linter.unusedVariables false
attribute [local go_sem ↓] Go.wp_at_zero Go.wp_at_succ
/-- a call of a Go function, as one step of a region that draws -/
theorem step_call {ops : Array Oper} {o : Oper} {a : Act} {w : World} {K : Act → World → Prop} {Q : Exit → Act → World → Prop} {E : Prop} (hgd : o.guard = none) (f : FuncId) (fn : Func) (hfn : Tryd.prog.funcs[f]? = some fn) (hnm : (fn.name == "runtime.NumGoroutine") = false) (hbd : fn.body.isSome = true) (xs : Array Operand) (ts : Array TypeId)
    (ho : o.op = .call { callee := .value (.func f), args := xs, argTypes := ts }) (vs : Array Value) (hvs : xs.map a.eval = vs) (R : Value → World → Prop) (hc : Calls Tryd.prog f vs w fun e w' => ∃ v, e = .returned v ∧ R v w')
    (h : ∀ v w', R v w' → K (a.put o.dst v) w') : if Region.wanted o (yielded ops a.tmps) = true then Oper.wp Tryd.prog o a w K Q else E := by
  have hw : Region.wanted o (yielded ops a.tmps) = true := by simp [Region.wanted, hgd]
  rw [if_pos hw]
  unfold Oper.wp
  have e1 : (execOp a.eval o).run Tryd.prog w = .ok (.enter f vs) w := by
    have h1 : ¬ fn.name = "runtime.NumGoroutine" := by simpa using hnm
    have h2 : ¬ fn.body = none := by intro e; rw [e] at hbd; simp at hbd
    simp [execOp, ho, resolve, invoke, Act.eval, hvs, Deferred.ofValue, callFunc, hfn, h1, h2]
  rw [e1]
  show Calls Tryd.prog f vs w _
  exact hc.mono (fun e w' ⟨v, he, hr⟩ => by subst he; exact h v w' hr)
/-- one slot, read -/
theorem Is.slot {H : HS} {oop : Nat} {t : Th} (hi : Is H oop t) (i : Nat) (hin : i < t.slots.length) (a : Nat) (l : Lay) (hb : (H.mem.length : Int) ≤ 1048576) (w : World) (h : Rep w a l H) :
    Calls Tryd.prog 52 #[.pointer (some ⟨a, 0, none⟩), sv (H.seats.getD oop (0, 0, 0)), .int .i64 t.fmt, .int .i64 i] w fun e w' => e = .returned (.int .i64 (t.slots.getD i 0)) ∧ Fr [] w w' := by
  have hr := hi.room
  have hl := hi.len
  have h2' := lenN_two t.slots.length t.fmt
  rcases (show t.fmt = 0 ∨ t.fmt = 1 from by have := hi.fmt; omega) with hf | hf
  · have := lenN_word t.slots.length i t.fmt hf hin
    rw [hf, ← hi.word hf i hin]
    exact slot_w _ i a l H w h (by omega) hb
  · obtain ⟨old, o1, o2, o3⟩ := hi.byte hf i hin
    have := lenN_byte t.slots.length i hin
    rw [← hf] at this
    rw [hf, o3]
    exact getB_any _ i old a l H w h (by omega) hb o1 (by omega)
theorem own_base {w : World} {b0 b1 : Nat} {e : TypeId} {size : Nat} {v : Value} {n : Nat} {xs : List Value} (h : w.ownsRow b1 e size v n xs) (hb : b0 ≤ b1) : w.ownsRow b0 e size v n xs := by
  refine ⟨h.1, ?_⟩
  rcases h.2 with h2 | ⟨g, cap, cur, h2, h3, h4⟩
  · exact .inl h2
  · exact .inr ⟨g, cap, cur, h2, Nat.le_trans hb h3, h4⟩
/-- an object that is being told: k of its slots stand -/
structure Obj1 (w W : World) (B : Nat) (oop cls fmt : Int) (p L t : Nat) (ss : List Int) (k : Nat) : Prop where
  fr : Fr [] w W
  lo : w.heap.size + 2 ≤ B
  res : W.heap[w.heap.size]? = some (.cells #[.int .i64 0, .int .i64 0, .int .i64 0, .slice none 0 0] 44 (0, 0))
  seat : W.heap[w.heap.size + 1]? = some (.cells #[.int .i64 (p : Int), .int .i64 (L : Int), .int .i64 (t : Int)] 86 (0, 0))
  at_ : ∃ v, W.heap[B]? = some (.cells #[.int .i64 oop, .int .i64 cls, .int .i64 fmt, v] 44 (0, 0)) ∧ W.ownsRow (B + 1) 40 1 v k ((ss.take k).map (Value.int .i64))
/-- nothing of it is touched -/
theorem Obj1.idle {w W W' : World} {B : Nat} {oop cls fmt : Int} {p L t : Nat} {ss : List Int} {k : Nat} (h : Obj1 w W B oop cls fmt p L t ss k) (hf : Fr [] W W') : Obj1 w W' B oop cls fmt p L t ss k := by
  obtain ⟨v, h1, h2⟩ := h.at_
  exact ⟨h.fr.trans hf (by simp), h.lo, (hf.block _ (lt_of_heap h.res) (by simp)).trans h.res, (hf.block _ (lt_of_heap h.seat) (by simp)).trans h.seat, v, (hf.block _ (lt_of_heap h1) (by simp)).trans h1, own_congr h2 fun g hg => by
    obtain ⟨c, p, q⟩ : ∃ c, True ∧ W.heap[g]? = some c := ⟨_, trivial, Array.getElem?_eq_getElem (h2.lt g hg).2⟩
    exact hf.block g (h2.lt g hg).2 (by simp)⟩
/-- one slot more -/
theorem Obj1.next {w W V W2 : World} {B : Nat} {oop cls fmt : Int} {p L t : Nat} {ss : List Int} {k g2 cap : Nat} {v : Value} {x : Int} (h : Obj1 w W B oop cls fmt p L t ss k) (hv : W.heap[B]? = some (.cells #[.int .i64 oop, .int .i64 cls, .int .i64 fmt, v] 44 (0, 0))) (ho : W.ownsRow (B + 1) 40 1 v k ((ss.take k).map (Value.int .i64)))
    (hk : k < ss.length) (hx : ss.getD k 0 = x) (hg : (W.alloc (.cells #[.int .i64 x] 40)).grownBy W2 v.ownBlock) (hown : W2.ownsRow (B + 1) 40 1 (.slice (some ⟨g2, 0, none⟩) (k + 1) cap) (k + 1) ((ss.take k).map (Value.int .i64) ++ [.int .i64 x]))
    (he : Eqw (W2.setCell ⟨B, 3, none⟩ (.slice (some ⟨g2, 0, none⟩) (k + 1) cap)) V) : Obj1 w V B oop cls fmt p L t ss (k + 1) := by
  have hBl := lt_of_heap hv
  have hne : ∀ b, v.ownBlock = some b → B + 1 ≤ b := fun b hb => (ho.lt b hb).1
  have hsame : ∀ i, i < W.heap.size → i ≤ B → W2.heap[i]? = W.heap[i]? := fun i hi hle => by
    rw [hg.block i (by simp; omega) (fun e => by have := hne _ e.symm; omega)]
    exact Below.heap_alloc _ _ _ hi
  have hV : ∀ i, i ≠ B → V.heap[i]? = W2.heap[i]? := fun i hi => by rw [he.2.2.2, set_else hi]
  have hlo := h.lo
  have hg2 : B + 1 ≤ g2 := (hown.lt g2 rfl).1
  refine ⟨?_, h.lo, ?_, ?_, .slice (some ⟨g2, 0, none⟩) (k + 1) cap, ?_, ?_⟩
  · have F1 : Fr [] w W2 := by
      refine ⟨hg.os.trans h.fr.os, hg.tape.trans h.fr.tape, hg.output.trans h.fr.output, Nat.le_trans h.fr.size (Nat.le_trans (by simp) hg.size), fun i hi hn => ?_⟩
      have := h.fr.size
      rw [hsame i (by omega) (by omega)]
      exact h.fr.block i hi (by simp)
    have F2 : Fr [] w (W2.setCell ⟨B, 3, none⟩ (.slice (some ⟨g2, 0, none⟩) (k + 1) cap)) := F1.trans (Fr.setCell (S := [B]) _ _ _ (by simp)) (fun b hb => by simp at hb; subst hb; right; omega)
    exact F2.trans (he.fr []) (by simp)
  · rw [hV _ (by omega), hsame _ (lt_of_heap h.res) (by omega)]; exact h.res
  · rw [hV _ (by omega), hsame _ (lt_of_heap h.seat) (by omega)]; exact h.seat
  · have h4 := hsame B hBl (Nat.le_refl _)
    rw [hv] at h4
    rw [he.2.2.2, set_in h4]
    rfl
  · have e1 : (ss.take (k + 1)).map (Value.int .i64) = (ss.take k).map (Value.int .i64) ++ [.int .i64 x] := by
      rw [List.take_succ_eq_append_getElem hk, List.map_append, ← hx, List.getD_eq_getElem?_getD, List.getElem?_eq_getElem hk]
      rfl
    rw [e1]
    exact own_congr hown fun g hg3 => hV g (by
      have : g = g2 := by simpa [Value.ownBlock] using hg3.symm
      omega)
set_option maxRecDepth 20000 in
set_option maxHeartbeats 1000000 in
theorem object_ok (oop : Nat) (t : Th) (a : Nat) (l : Lay) (H : HS) (w : World) (h : Rep w a l H) (hi : Is H oop t) (hb : (H.mem.length : Int) ≤ 1048576) :
    Calls Tryd.prog 42 #[.pointer (some ⟨a, 0, none⟩), .int .i64 oop] w fun e w' => ∃ v, e = .returned (.agg #[.int .i64 oop, .int .i64 t.cls, .int .i64 (t.fmt : Int), v]) ∧ w'.ownsRow w.heap.size 40 1 v t.slots.length (t.slots.map (Value.int .i64)) ∧ Fr [] w w' := by
  obtain ⟨h1, h2, h3⟩ := has_yes hi.has
  have hr := hi.room
  have hl := hi.len
  have hfm := hi.fmt
  have h2' := lenN_two t.slots.length t.fmt
  have hal := h.lt a (by simp [foot])
  obtain ⟨gs, hgs, hcs, hfs, hgsa, hgsl⟩ := h.seatAt oop (by omega)
  obtain ⟨p0, p1, p2⟩ := hcs oop (by omega)
  obtain ⟨gm, hgm, hcg, hfg, hga, hgl⟩ := h.memBlock (by omega)
  have qm := hcg (H.seats.getD oop (0, 0, 0)).1 (by omega)
  rw [hi.cls] at qm
  have c4 := h.c4
  have c5 := h.c5
  rw [hgs] at c5
  rw [hgm] at c4
  have HSh : Hid (∀ V, Fr [] w V → Calls Tryd.prog 49 #[.pointer (some ⟨a, 0, none⟩), sv (H.seats.getD oop (0, 0, 0))] V fun e w' => e = .returned (.tuple #[.int .i64 t.slots.length, .int .i64 t.fmt]) ∧ Fr [] V w') := by
    intro V hV
    have := shape_of (H.seats.getD oop (0, 0, 0)) (2 * t.slots.length + t.fmt) a l H V (h.keep hV (by simp)) (by omega) hi.shape hb
    rw [show (2 * t.slots.length + t.fmt) / 2 = t.slots.length from by omega, show (2 * t.slots.length + t.fmt) % 2 = t.fmt from by omega] at this
    exact this
  have HSl : Hid (∀ V, Fr [] w V → ∀ i, i < t.slots.length → Calls Tryd.prog 52 #[.pointer (some ⟨a, 0, none⟩), sv (H.seats.getD oop (0, 0, 0)), .int .i64 t.fmt, .int .i64 i] V fun e w' => e = .returned (.int .i64 (t.slots.getD i 0)) ∧ Fr [] V w') := fun V hV i hin => hi.slot i hin a l hb V (h.keep hV (by simp))
  have hs1 := hi.room
  clear h hi hcs hfs hcg
  generalize H.seats.getD oop (0, 0, 0) = s at *
  obtain ⟨p, L, tn⟩ := s
  dsimp only [sv, I] at *
  have k1 : (0 : Int) ≤ (oop : Int) := by omega
  have k2 : (oop : Int) < (H.seats.length : Int) := by omega
  have k3 : (0 : Int) ≤ (p : Int) := by omega
  have k4 : (p : Int) < (H.mem.length : Int) := by omega
  obtain ⟨j0, ji, jz0, jz1, jz2⟩ := info_parts info33
  go_enter Tryd.func42, Tryd.ntmps42
  go_wp2_with fail
  have F2 : Fr [] w ((w.alloc (.cells #[.int .i64 0, .int .i64 0, .int .i64 0, .slice none 0 0] 44)).alloc (.cells #[.int .i64 (p : Int), .int .i64 (L : Int), .int .i64 (tn : Int)] 86)) := (Fr.alloc [] _ _).trans (Fr.alloc [] _ _) (by simp)
  have HB : Hid (((w.alloc (.cells #[.int .i64 0, .int .i64 0, .int .i64 0, .slice none 0 0] 44)).alloc (.cells #[.int .i64 (p : Int), .int .i64 (L : Int), .int .i64 (tn : Int)] 86)).heap[w.heap.size]? = some (.cells #[.int .i64 0, .int .i64 0, .int .i64 0, .slice none 0 0] 44 (0, 0)) ∧
      ((w.alloc (.cells #[.int .i64 0, .int .i64 0, .int .i64 0, .slice none 0 0] 44)).alloc (.cells #[.int .i64 (p : Int), .int .i64 (L : Int), .int .i64 (tn : Int)] 86)).heap[w.heap.size + 1]? = some (.cells #[.int .i64 (p : Int), .int .i64 (L : Int), .int .i64 (tn : Int)] 86 (0, 0)) ∧
      ((w.alloc (.cells #[.int .i64 0, .int .i64 0, .int .i64 0, .slice none 0 0] 44)).alloc (.cells #[.int .i64 (p : Int), .int .i64 (L : Int), .int .i64 (tn : Int)] 86)).heap.size = w.heap.size + 2) := by
    refine ⟨?_, ?_, by simp⟩
    · rw [Below.heap_alloc _ _ _ (by simp)]; exact heap_alloc_new _ _
    · have := heap_alloc_new (w.alloc (.cells #[.int .i64 0, .int .i64 0, .int .i64 0, .slice none 0 0] 44)) (.cells #[.int .i64 (p : Int), .int .i64 (L : Int), .int .i64 (tn : Int)] 86)
      simpa using this
  have HSh2 := mkHid (HSh.out _ F2)
  have HF2 := mkHid F2
  clear F2 HSh
  generalize ((w.alloc (.cells #[.int .i64 0, .int .i64 0, .int .i64 0, .slice none 0 0] 44)).alloc (.cells #[.int .i64 (p : Int), .int .i64 (L : Int), .int .i64 (tn : Int)] 86)) = W2 at *
  refine Calls.mono HSh2.out ?_
  rintro e w3 ⟨rfl, hf3⟩
  obtain ⟨hb1, hb2, hb3⟩ := HB.out
  have F3 := HF2.out.trans hf3 (by simp)
  have r1 := (hf3.block _ (lt_of_heap hb1) (by simp)).trans hb1
  have r2 := (hf3.block _ (lt_of_heap hb2) (by simp)).trans hb2
  have hz3 := hf3.size
  have d4 := (F3.cell (p := ⟨a, 4, none⟩) hal (by simp)).trans c4
  have dm := (F3.cell (p := ⟨gm, p, none⟩) hgl (by simp)).trans qm
  have b0 : w3.cell? ⟨w.heap.size + 1, 0, none⟩ = some (.int .i64 (p : Int)) := by rw [cell_in r2]; rfl
  have hz4 : w.heap.size + 2 ≤ w3.heap.size := by omega
  have hz5 : w.heap.size + 1 < w3.heap.size := by omega
  have hz6 : a < w3.heap.size := by omega
  have hz7 : gm < w3.heap.size := by omega
  have HO : Hid (∀ V, Eqw (w3.alloc (.cells #[.int .i64 (oop : Int), .int .i64 t.cls, .int .i64 (t.fmt : Int), .slice none 0 0] 44)) V → Obj1 w V w3.heap.size oop t.cls t.fmt p L tn t.slots 0) := by
    intro V hV
    have hk : ∀ i, i < w3.heap.size → V.heap[i]? = w3.heap[i]? := fun i hi => by rw [hV.2.2.2]; exact Below.heap_alloc _ _ _ hi
    exact ⟨(F3.trans (Fr.alloc [] _ _) (by simp)).trans (hV.fr []) (by simp), hz4, (hk _ (by omega)).trans r1, (hk _ (by omega)).trans r2, .slice none 0 0, by rw [hV.2.2.2]; exact heap_alloc_new _ _, World.ownsRow_nil _ _ _ _⟩
  clear hb1 hb2 hb3 F3 r1 r2 hf3 HB HF2 HSh2 p0 p1 p2 qm c4 c5
  go_wp2_with fail
  go_region
  all_goals go_wp2_with fail
  have HO1 := mkHid (HO.out _ (eqw_drew _))
  have HG := mkHid (grow105 t.slots.length (by omega) ((w3.alloc (.cells #[.int .i64 (oop : Int), .int .i64 t.cls, .int .i64 (t.fmt : Int), .slice none 0 0] 44)).drew))
  have hVs : ((w3.alloc (.cells #[.int .i64 (oop : Int), .int .i64 t.cls, .int .i64 (t.fmt : Int), .slice none 0 0] 44)).drew).heap.size = w3.heap.size + 1 := by simp
  clear HO d4 dm b0 hz5 hz6 hz7 k1 k2 k3 k4 hgsl hgl hga hgsa hgs hgm
  generalize (w3.alloc (.cells #[.int .i64 (oop : Int), .int .i64 t.cls, .int .i64 (t.fmt : Int), .slice none 0 0] 44)).drew = V0 at *
  refine Calls.mono HG.out ?_
  rintro e w4 ⟨v4, rfl, ho4, hf4⟩
  obtain ⟨p4, c4, rfl⟩ : ∃ p c, v4 = .slice p 0 c := by
    rcases ho4.2 with ⟨h2, h3⟩ | ⟨g, cap, cur, h2, _⟩
    · exact ⟨none, 0, h2⟩
    · exact ⟨_, cap, h2⟩
  have hO4 := HO1.out.idle hf4
  obtain ⟨v0, hv0, -⟩ := hO4.at_
  have e3 : w4.cell? ⟨w3.heap.size, 3, none⟩ = some v0 := by rw [cell_in hv0]; rfl
  have f3 := frozen_in hv0 3
  rw [hVs] at ho4
  have HO4 : Hid (Obj1 w (w4.setCell ⟨w3.heap.size, 3, none⟩ (.slice p4 0 c4)) w3.heap.size oop t.cls t.fmt p L tn t.slots 0) := by
    have hne : ∀ i, i ≠ w3.heap.size → (w4.setCell ⟨w3.heap.size, 3, none⟩ (.slice p4 0 c4)).heap[i]? = w4.heap[i]? := fun i hi => set_else hi
    refine ⟨hO4.fr.trans (Fr.setCell (S := [w3.heap.size]) _ _ _ (by simp)) (fun b hb => by simp at hb; subst hb; right; omega), hO4.lo, (hne _ (by omega)).trans hO4.res, (hne _ (by omega)).trans hO4.seat, .slice p4 0 c4, ?_, ?_⟩
    · rw [set_in hv0]; rfl
    · exact own_congr ho4 fun g hg => hne g (by have := (ho4.lt g hg).1; omega)
  clear hO4 hv0 ho4 hf4 HG HO1
  go_wp2_with fail
  generalize w4.setCell ⟨w3.heap.size, 3, none⟩ (.slice p4 0 c4) = W4 at *
  go_loopw [40] (fun q wr => ∃ k : Nat, k ≤ t.slots.length ∧ q = .int .i64 k ∧ Hid (Obj1 w wr w3.heap.size oop t.cls t.fmt p L tn t.slots k)) (fun q _ => t.slots.length - (intOf q).toNat)
  case atStart => exact ⟨0, Nat.zero_le _, rfl, HO4.out⟩
  case round =>
    obtain ⟨k, hkn, rfl, hq⟩ := hrel
    obtain ⟨v, hv, ho⟩ := hq.out.at_
    by_cases hlt : k < t.slots.length
    · have k2 : (k : Int) < (t.slots.length : Int) := by omega
      have d3 : wr.cell? ⟨w3.heap.size, 3, none⟩ = some v := by rw [cell_in hv]; rfl
      have g0 : wr.cell? ⟨w.heap.size + 1, 0, none⟩ = some (.int .i64 (p : Int)) := by rw [cell_in hq.out.seat]; rfl
      have g1 : wr.cell? ⟨w.heap.size + 1, 1, none⟩ = some (.int .i64 (L : Int)) := by rw [cell_in hq.out.seat]; rfl
      have g2 : wr.cell? ⟨w.heap.size + 1, 2, none⟩ = some (.int .i64 (tn : Int)) := by rw [cell_in hq.out.seat]; rfl
      obtain ⟨x, hx⟩ : ∃ x, t.slots.getD k 0 = x := ⟨_, rfl⟩
      have HSk : Hid (Calls Tryd.prog 52 #[.pointer (some ⟨a, 0, none⟩), .agg #[.int .i64 (p : Int), .int .i64 (L : Int), .int .i64 (tn : Int)], .int .i64 t.fmt, .int .i64 k] wr.drew fun e w' => ∃ v, e = .returned v ∧ (v = .int .i64 x ∧ Hid (Fr [] wr w'))) := by
        have := HSl.out wr.drew (hq.out.fr.trans (Fr.drew [] wr) (by simp)) k hlt
        rw [hx] at this
        refine Calls.mono this ?_
        rintro e w' ⟨rfl, hf⟩
        exact ⟨_, rfl, rfl, (Fr.drew [] wr).trans hf (by simp)⟩
      have HBf : Hid (∀ V, Hid (Fr [] wr V) → w3.heap.size < V.heap.size ∧ V.cell? ⟨w3.heap.size, 3, none⟩ = some v ∧ (V.alloc (.cells #[.int .i64 x] 40)).ownsRow (w3.heap.size + 1) 40 1 v k ((t.slots.take k).map (Value.int .i64)) ∧ (∀ j u, ([.int .i64 x] : List Value)[j]? = some u → (V.alloc (.cells #[.int .i64 x] 40)).cell? ((⟨V.heap.size, 0, none⟩ : Addr).add j) = some u)) := by
        intro V hV
        refine ⟨Nat.lt_of_lt_of_le (lt_of_heap hv) hV.out.size, (hV.out.cell (p := ⟨w3.heap.size, 3, none⟩) (lt_of_heap hv) (by simp)).trans d3, (own_congr ho fun g hg => hV.out.block g (ho.lt g hg).2 (by simp)).alloc _, World.news_of_block (heap_alloc_new V (.cells #[.int .i64 x] 40))⟩
      have HN : Hid (∀ V g2 cap W2 V2, Hid (Fr [] wr V) → (V.alloc (.cells #[.int .i64 x] 40)).grownBy W2 v.ownBlock → W2.ownsRow (w3.heap.size + 1) 40 1 (.slice (some ⟨g2, 0, none⟩) (k + 1) cap) (k + 1) ((t.slots.take k).map (Value.int .i64) ++ [.int .i64 x]) → Eqw (W2.setCell ⟨w3.heap.size, 3, none⟩ (.slice (some ⟨g2, 0, none⟩) (k + 1) cap)) V2 → Obj1 w V2 w3.heap.size oop t.cls t.fmt p L tn t.slots (k + 1)) := by
        intro V g2 cap W2 V2 hV hg hown he
        exact (hq.out.idle hV.out).next ((hV.out.block _ (lt_of_heap hv) (by simp)).trans hv) (own_congr ho fun g hg => hV.out.block g (ho.lt g hg).2 (by simp)) hlt hx hg hown he
      have HFz : Hid (∀ V W2, Hid (Fr [] wr V) → (V.alloc (.cells #[.int .i64 x] 40)).grownBy W2 v.ownBlock → W2.frozen? ⟨w3.heap.size, 3, none⟩ = false ∧ W2.cell? ⟨w3.heap.size, 3, none⟩ = some v) := by
        intro V W2 hV hg
        have h1 : W2.heap[w3.heap.size]? = some (.cells #[.int .i64 (oop : Int), .int .i64 t.cls, .int .i64 (t.fmt : Int), v] 44 (0, 0)) := by
          rw [hg.block _ (by simp; have := lt_of_heap hv; have := hV.out.size; omega) (fun e => by have := (ho.lt _ e.symm).1; omega), Below.heap_alloc _ _ _ (Nat.lt_of_lt_of_le (lt_of_heap hv) hV.out.size)]
          exact (hV.out.block _ (lt_of_heap hv) (by simp)).trans hv
        exact ⟨frozen_in h1 3, by rw [cell_in h1]; rfl⟩
      have hB := lt_of_heap hv
      clear hq hv ho HSl hx
      go_wp2_with fail
      go_region_law
        (first
          | (refine step_append_lies _ rfl (.tmp 44) (.tmp 50) 25 rfl (w3.heap.size + 1) 40 j0 (.int .i64 0) 1 8 Tryd.underlying25 ji jz0 jz1 jz2 rfl (by decide) v k ((t.slots.take k).map (Value.int .i64)) (by simp [Act.eval]) z3 ⟨w5.heap.size, 0, none⟩ 1 1 [.int .i64 x] (by simp [Act.eval]) rfl z4 (by simp [Value.oneCell']) (by decide) (by unfold maxLen; omega) (by omega) (by simp; omega) _ rfl ?_; intro g6 c6 w6 hown6 hgrow6 hat6 hlt6; obtain ⟨y1, y2⟩ := HFz.out w5 w6 hf5 hgrow6)
          | (refine step_call rfl 52 Tryd.f52 Tryd.func52 (by kernel_rfl) (by kernel_rfl) _ _ rfl _ (by simp [Act.eval]) _ HSk.out ?_; rintro _ w5 ⟨rfl, hf5⟩; obtain ⟨z1, z2, z3, z4⟩ := HBf.out w5 hf5))
      all_goals go_wp2_with fail
      all_goals
        go_roundw
        case rel => exact ⟨k + 1, by omega, by go_num, HN.out w5 g6 c6 w6 _ hf5 hgrow6 hown6 ⟨rfl, rfl, rfl, rfl⟩⟩
        case measure => simp [intOf]; omega
    · have hke : k = t.slots.length := by omega
      subst hke
      rw [List.take_length] at ho
      have hB := lt_of_heap hv
      have d0 : wr.cell? ⟨w3.heap.size, 0, none⟩ = some (.int .i64 (oop : Int)) := by rw [cell_in hv]; rfl
      have d1 : wr.cell? ⟨w3.heap.size, 1, none⟩ = some (.int .i64 t.cls) := by rw [cell_in hv]; rfl
      have d2 : wr.cell? ⟨w3.heap.size, 2, none⟩ = some (.int .i64 (t.fmt : Int)) := by rw [cell_in hv]; rfl
      have d3 : wr.cell? ⟨w3.heap.size, 3, none⟩ = some v := by rw [cell_in hv]; rfl
      have hr := hq.out.res
      have r0 : wr.cell? ⟨w.heap.size, 0, none⟩ = some (.int .i64 0) := by rw [cell_in hr]; rfl
      have r1 : wr.cell? ⟨w.heap.size, 1, none⟩ = some (.int .i64 0) := by rw [cell_in hr]; rfl
      have r2 : wr.cell? ⟨w.heap.size, 2, none⟩ = some (.int .i64 0) := by rw [cell_in hr]; rfl
      have r3 : wr.cell? ⟨w.heap.size, 3, none⟩ = some (.slice none 0 0) := by rw [cell_in hr]; rfl
      have y0 := frozen_in hr 0
      have y1 := frozen_in hr 1
      have y2 := frozen_in hr 2
      have y3 := frozen_in hr 3
      have hlo := hq.out.lo
      obtain ⟨pv, cv, rfl⟩ : ∃ p c, v = .slice p t.slots.length c := by
        rcases ho.2 with ⟨h2, h3⟩ | ⟨g, cap, cur, h2, _⟩
        · exact ⟨none, 0, by rw [h2, h3]⟩
        · exact ⟨_, cap, h2⟩
      have HE : Hid (∀ V, Fr [w.heap.size] wr V → V.ownsRow w.heap.size 40 1 (.slice pv t.slots.length cv) t.slots.length (t.slots.map (Value.int .i64)) ∧ Fr [] w V) := by
        intro V hV
        refine ⟨own_base (own_congr ho fun g hg => hV.block g (ho.lt g hg).2 (by have := (ho.lt g hg).1; simp; omega)) (by omega), hq.out.fr.trans hV (fun b hb => by simp at hb; subst hb; right; exact Nat.le_refl _)⟩
      have hne : w.heap.size ≠ w3.heap.size := by omega
      have HRes := mkHid hr
      clear hq hv ho HSl hr
      go_wp2_with fail
      obtain ⟨V, hV⟩ : ∃ V, V = (((wr.setCell ⟨w.heap.size, 0, none⟩ (.int .i64 (oop : Int))).setCell ⟨w.heap.size, 1, none⟩ (.int .i64 t.cls)).setCell ⟨w.heap.size, 2, none⟩ (.int .i64 (t.fmt : Int))).setCell ⟨w.heap.size, 3, none⟩ (.slice pv t.slots.length cv) := ⟨_, rfl⟩
      have hVb : V.heap[w.heap.size]? = some (.cells #[.int .i64 (oop : Int), .int .i64 t.cls, .int .i64 (t.fmt : Int), .slice pv t.slots.length cv] 44 (0, 0)) := by
        rw [hV, set_in (set_in (set_in (set_in HRes.out 0 _) 1 _) 2 _) 3 _]
        rfl
      have F : Fr [w.heap.size] wr V := by
        rw [hV]
        exact (((Fr.setCell (S := [w.heap.size]) wr ⟨w.heap.size, 0, none⟩ (.int .i64 (oop : Int)) (by simp)).trans (Fr.setCell (S := [w.heap.size]) _ ⟨w.heap.size, 1, none⟩ (.int .i64 t.cls) (by simp)) (fun b hb => .inl hb)).trans (Fr.setCell (S := [w.heap.size]) _ ⟨w.heap.size, 2, none⟩ (.int .i64 (t.fmt : Int)) (by simp)) (fun b hb => .inl hb)).trans (Fr.setCell (S := [w.heap.size]) _ ⟨w.heap.size, 3, none⟩ (.slice pv t.slots.length cv) (by simp)) (fun b hb => .inl hb)
      rw [← hV]
      clear hV
      have x0 : V.cell? ⟨w.heap.size, 0, none⟩ = some (.int .i64 (oop : Int)) := by rw [cell_in hVb]; rfl
      have x1 : V.cell? ⟨w.heap.size, 1, none⟩ = some (.int .i64 t.cls) := by rw [cell_in hVb]; rfl
      have x2 : V.cell? ⟨w.heap.size, 2, none⟩ = some (.int .i64 (t.fmt : Int)) := by rw [cell_in hVb]; rfl
      have x3 : V.cell? ⟨w.heap.size, 3, none⟩ = some (.slice pv t.slots.length cv) := by rw [cell_in hVb]; rfl
      refine bodyPost_ret (v := .agg #[.int .i64 (oop : Int), .int .i64 t.cls, .int .i64 (t.fmt : Int), .slice pv t.slots.length cv]) (by simp [results, Tryd.results42, go_sem, x0, x1, x2, x3]) rfl ?_
      obtain ⟨h5, h6⟩ := HE.out V F
      exact ⟨_, rfl, h5, h6⟩
end Go.Proofs.YtpaekbghnejhoaaDoor

namespace Go.Proofs.YtpaekbghnejhoaaDoor
open Go.RowKit
set_option linter.unusedVariables false
attribute [local go_sem ↓] Go.wp_at_zero Go.wp_at_succ
/-- an object as data, and where its slots lie -/
structure OS where
  oop : Nat
  cls : Int
  fmt : Nat
  slots : List Int
  v : Value
def os4 (o : OS) : List Value := [.int .i64 (o.oop : Int), .int .i64 o.cls, .int .i64 (o.fmt : Int), o.v]
def osCells (l : List OS) : List Value := l.flatMap os4
def osKey (o : OS) : Nat × Int × Nat × List Int := (o.oop, o.cls, o.fmt, o.slots)
/-- a list of objects that was told -/
structure SRep (w : World) (base : Nat) (ov : Value) (l : List OS) : Prop where
  row : w.ownsRow base 44 4 ov l.length (osCells l)
  slots : ∀ o ∈ l, w.ownsRow base 40 1 o.v o.slots.length (o.slots.map (Value.int .i64))
theorem SRep.idle {w w' : World} {base : Nat} {ov : Value} {l : List OS} (h : SRep w base ov l) (hf : Fr [] w w') : SRep w' base ov l :=
  ⟨own_congr h.row fun g hg => hf.block g (h.row.lt g hg).2 (by simp), fun o ho => own_congr (h.slots o ho) fun g hg => hf.block g ((h.slots o ho).lt g hg).2 (by simp)⟩
/-- what the state tells of the first j of the order -/
def stKeys (H : HS) (S : List Th) (j : Nat) : List (Nat × Int × Nat × List Int) := ((H.order.take j).filter (fun o => o != 0)).map fun o => (o, (S.getD (o - 1) noTh).cls, (S.getD (o - 1) noTh).fmt, (S.getD (o - 1) noTh).slots)
theorem stKeys_zero (H : HS) (S : List Th) (j : Nat) (hj : j < H.order.length) (h0 : H.order.getD j 0 = 0) : stKeys H S (j + 1) = stKeys H S j := by
  unfold stKeys
  rw [List.getD_eq_getElem?_getD, List.getElem?_eq_getElem hj] at h0
  have h0' : H.order[j] = 0 := h0
  rw [List.take_succ_eq_append_getElem hj, List.filter_append, h0']
  simp
theorem stKeys_one (H : HS) (S : List Th) (j o : Nat) (hj : j < H.order.length) (h0 : H.order.getD j 0 = o) (hn : o ≠ 0) : stKeys H S (j + 1) = stKeys H S j ++ [(o, (S.getD (o - 1) noTh).cls, (S.getD (o - 1) noTh).fmt, (S.getD (o - 1) noTh).slots)] := by
  unfold stKeys
  rw [List.getD_eq_getElem?_getD, List.getElem?_eq_getElem hj] at h0
  have h0' : H.order[j] = o := h0
  rw [List.take_succ_eq_append_getElem hj, List.filter_append, h0', List.map_append]
  simp [hn]
/-- a state that is being told: in block B -/
structure St1 (w W : World) (B words oops mark : Nat) (ks : List (Nat × Int × Nat × List Int)) : Prop where
  fr : Fr [] w W
  lo : w.heap.size + 1 ≤ B
  res : W.heap[w.heap.size]? = some (.cells #[.int .i64 0, .int .i64 0, .int .i64 0, .slice none 0 0] 24 (0, 0))
  at_ : ∃ ov l, W.heap[B]? = some (.cells #[.int .i64 (words : Int), .int .i64 (oops : Int), .int .i64 (mark : Int), ov] 24 (0, 0)) ∧ SRep W (B + 1) ov l ∧ l.map osKey = ks
theorem St1.idle {w W W' : World} {B words oops mark : Nat} {ks : List (Nat × Int × Nat × List Int)} (h : St1 w W B words oops mark ks) (hf : Fr [] W W') : St1 w W' B words oops mark ks := by
  obtain ⟨ov, l, h1, h2, h3⟩ := h.at_
  exact ⟨h.fr.trans hf (by simp), h.lo, (hf.block _ (lt_of_heap h.res) (by simp)).trans h.res, ov, l, (hf.block _ (lt_of_heap h1) (by simp)).trans h1, h2.idle hf, h3⟩
theorem osCells_append (l : List OS) (o : OS) : osCells (l ++ [o]) = osCells l ++ os4 o := by simp [osCells]
/-- one object more -/
theorem St1.next {w W V W2 : World} {B words oops mark : Nat} {ks : List (Nat × Int × Nat × List Int)} {ov : Value} {l : List OS} {o : OS} {g2 cap : Nat} (h : St1 w W B words oops mark ks) (hv : W.heap[B]? = some (.cells #[.int .i64 (words : Int), .int .i64 (oops : Int), .int .i64 (mark : Int), ov] 24 (0, 0))) (hr : SRep W (B + 1) ov l) (hk : l.map osKey = ks)
    (ho : W.ownsRow (B + 1) 40 1 o.v o.slots.length (o.slots.map (Value.int .i64)))
    (hg : (W.alloc (.cells (os4 o).toArray 44)).grownBy W2 ov.ownBlock) (hown : W2.ownsRow (B + 1) 44 4 (.slice (some ⟨g2, 0, none⟩) (l.length + 1) cap) (l.length + 1) (osCells l ++ os4 o))
    (he : Eqw (W2.setCell ⟨B, 3, none⟩ (.slice (some ⟨g2, 0, none⟩) (l.length + 1) cap)) V) : St1 w V B words oops mark (ks ++ [osKey o]) := by
  have hBl := lt_of_heap hv
  have hlo := h.lo
  have hne : ∀ b, ov.ownBlock = some b → B + 1 ≤ b := fun b hb => (hr.row.lt b hb).1
  have hsame : ∀ i, i < W.heap.size → some i ≠ ov.ownBlock → W2.heap[i]? = W.heap[i]? := fun i hi hn => by
    rw [hg.block i (by simp; omega) hn]
    exact Below.heap_alloc _ _ _ hi
  have hlow : ∀ i, i < W.heap.size → i ≤ B → W2.heap[i]? = W.heap[i]? := fun i hi hle => hsame i hi (fun e => by have := hne _ e.symm; omega)
  have hV : ∀ i, i ≠ B → V.heap[i]? = W2.heap[i]? := fun i hi => by rw [he.2.2.2, set_else hi]
  have hg2 : B + 1 ≤ g2 := (hown.lt g2 rfl).1
  have hsl : ∀ x : OS, W.ownsRow (B + 1) 40 1 x.v x.slots.length (x.slots.map (Value.int .i64)) → V.ownsRow (B + 1) 40 1 x.v x.slots.length (x.slots.map (Value.int .i64)) := fun x hx => by
    refine own_congr hx fun g hg3 => ?_
    have hl := hx.lt g hg3
    rw [hV g (by omega)]
    refine hsame g hl.2 (fun e => ?_)
    rcases hx.2 with ⟨q1, _⟩ | ⟨g', cap', cur', q1, q2, q3, _⟩
    · rw [q1] at hg3; simp [Value.ownBlock] at hg3
    · rw [q1] at hg3
      have e1 : g' = g := by simpa [Value.ownBlock] using hg3
      subst e1
      rcases hr.row.2 with ⟨r1, _⟩ | ⟨g'', cap'', cur'', r1, r2, r3, _⟩
      · rw [r1] at e; simp [Value.ownBlock] at e
      · rw [r1] at e
        have e2 : g' = g'' := by simpa [Value.ownBlock] using e
        subst e2
        rw [q3] at r3
        simp at r3
  refine ⟨?_, h.lo, ?_, .slice (some ⟨g2, 0, none⟩) (l.length + 1) cap, l ++ [o], ?_, ⟨?_, ?_⟩, by rw [List.map_append, hk]; rfl⟩
  · have F1 : Fr [] w W2 := by
      refine ⟨hg.os.trans h.fr.os, hg.tape.trans h.fr.tape, hg.output.trans h.fr.output, Nat.le_trans h.fr.size (Nat.le_trans (by simp) hg.size), fun i hi hn => ?_⟩
      have := h.fr.size
      rw [hlow i (by omega) (by omega)]
      exact h.fr.block i hi (by simp)
    have F2 : Fr [] w (W2.setCell ⟨B, 3, none⟩ (.slice (some ⟨g2, 0, none⟩) (l.length + 1) cap)) := F1.trans (Fr.setCell (S := [B]) _ _ _ (by simp)) (fun b hb => by simp at hb; subst hb; right; omega)
    exact F2.trans (he.fr []) (by simp)
  · rw [hV _ (by omega), hlow _ (lt_of_heap h.res) (by omega)]; exact h.res
  · have h4 := hlow B hBl (Nat.le_refl _)
    rw [hv] at h4
    rw [he.2.2.2, set_in h4]
    rfl
  · rw [List.length_append, osCells_append]
    exact own_congr hown fun g hg3 => hV g (by
      have : g = g2 := by simpa [Value.ownBlock] using hg3.symm
      omega)
  · intro x hx
    rcases List.mem_append.1 hx with h1 | h1
    · exact hsl x (hr.slots x h1)
    · have : x = o := by simpa using h1
      rw [this]
      exact hsl o ho
end Go.Proofs.YtpaekbghnejhoaaDoor

namespace Go.Proofs.YtpaekbghnejhoaaDoor
open Go.RowKit
set_option linter.unusedVariables false
/-- what lies between a point and a Back: allocations alone -/
structure Behind (H0 : HS) (M0 : MS) (H : HS) (M : MS) : Prop where
  inv : Inv H M
  age : H.age = H0.age
  words : H.words = H0.words
  oops : H.oops = H0.oops
  mark : H.mark = 0
  len : H0.order.length ≤ H.order.length
  old : ∀ j, j < H0.order.length → H.order.getD j 0 = H0.order.getD j 0
  young : ∀ j, H0.order.length ≤ j → j < H.order.length → H.order.getD j 0 ≠ 0
  tl : M0.things.length ≤ M.things.length
  same : ∀ k, (M0.things.getD k noTh).there = true → M.things.getD k noTh = M0.things.getD k noTh
theorem behind_refl {H : HS} {M : MS} (h : Inv H M) (hm : H.mark = 0) : Behind H M H M :=
  ⟨h, rfl, rfl, rfl, hm, Nat.le_refl _, fun _ _ => rfl, fun j h1 h2 => by omega, Nat.le_refl _, fun _ _ => rfl⟩
/-- which of the things are old: those whose turn lies ahead of the point -/
theorem Behind.turnOld {H0 H : HS} {M0 M : MS} (h0 : Inv H0 M0) (h : Behind H0 M0 H M) (k : Nat) (hb : (M.things.getD k noTh).there = true) : (M0.things.getD k noTh).there = true ↔ (H.seats.getD (k + 1) (0, 0, 0)).2.2 < H0.order.length := by
  obtain ⟨u1, u2⟩ := h.inv.turn k (th_in hb) hb
  constructor
  · intro hb0
    obtain ⟨v1, v2⟩ := h0.turn k (th_in hb0) hb0
    have e := h.old _ v1
    rw [v2] at e
    have := (h.inv.order (H0.seats.getD (k + 1) (0, 0, 0)).2.2 (by have := h.len; omega) (by omega)).2.2
    rw [e] at this
    omega
  · intro hlt
    have e := h.old _ hlt
    rw [u2] at e
    have := (h0.order _ hlt (by omega)).2.1
    rw [← e, Nat.add_sub_cancel] at this
    exact this
/-- the young ones go, one by one -/
theorem Behind.backs {H0 H : HS} {M0 M : MS} (h0 : Inv H0 M0) (h : Behind H0 M0 H M) : ∀ j, H0.order.length + j ≤ H.order.length → ∃ X : List Th, InvV (backTo H H0.order.length j) { M with things := X } ∧ X.length = M.things.length ∧
    (∀ k, X.getD k noTh = if (M.things.getD k noTh).there = true ∧ H0.order.length ≤ (H.seats.getD (k + 1) (0, 0, 0)).2.2 ∧ (H.seats.getD (k + 1) (0, 0, 0)).2.2 < H0.order.length + j then gone (M.things.getD k noTh) else M.things.getD k noTh) ∧
    (backTo H H0.order.length j).order.length = H.order.length ∧ (∀ r, r < H0.order.length ∨ H0.order.length + j ≤ r → (backTo H H0.order.length j).order.getD r 0 = H.order.getD r 0) ∧
    (∀ r, H0.order.length ≤ r → r < H0.order.length + j → (backTo H H0.order.length j).order.getD r 0 = 0) ∧
    (backTo H H0.order.length j).words = H.words ∧ (backTo H H0.order.length j).oops = H.oops ∧ (backTo H H0.order.length j).mark = H.mark := by
  intro j
  induction j with
  | zero => intro _; exact ⟨M.things, h.inv.toInvV, rfl, fun k => by rw [if_neg (by omega)], rfl, fun _ _ => rfl, fun r h1 h2 => by omega, rfl, rfl, rfl⟩
  | succ j ih =>
    intro hj
    obtain ⟨X, h1, h2, h3, h4, h5, h6, h7, h8, h9⟩ := ih (by omega)
    have hne := h.young (H0.order.length + j) (by omega) (by omega)
    have ho := h5 (H0.order.length + j) (.inr (Nat.le_refl _))
    obtain ⟨u1, u2, u3⟩ := h.inv.order (H0.order.length + j) (by omega) hne
    obtain ⟨o1, o2, o3⟩ := h1.order (H0.order.length + j) (by omega) (by rw [ho]; exact hne)
    rw [ho] at o1 o2 o3
    obtain ⟨i0, hi0⟩ : ∃ i0, H.order.getD (H0.order.length + j) 0 = i0 + 1 := ⟨H.order.getD (H0.order.length + j) 0 - 1, by omega⟩
    rw [hi0] at u1 u2 u3 o1 o2 o3
    rw [Nat.add_sub_cancel] at u2 o2
    have hlt : i0 < X.length := o1
    have hvac := h1.vac i0 hlt o2
    have hg := fun i => getD_set X i0 i (gone (X.getD i0 noTh)) hlt
    have e : backTo H H0.order.length (j + 1) = vacH (backTo H H0.order.length j) (i0 + 1) := by
      show vacH (backTo H H0.order.length j) (H.order.getD (H0.order.length + j) 0) = _
      rw [hi0]
    rw [e]
    have hord : ∀ r, (vacH (backTo H H0.order.length j) (i0 + 1)).order.getD r 0 = if r = H0.order.length + j then 0 else (backTo H H0.order.length j).order.getD r 0 := fun r => by
      show ((backTo H H0.order.length j).order.set ((backTo H H0.order.length j).seats.getD (i0 + 1) (0, 0, 0)).2.2 0).getD r 0 = _
      rw [o3, getD_nat _ _ _ _ (by omega)]
    refine ⟨X.set i0 (gone (X.getD i0 noTh)), hvac, by rw [List.length_set]; exact h2, fun k => ?_, ?_, fun r hr => ?_, fun r r1 r2 => ?_, h7, h8, h9⟩
    · have hXi : X.getD i0 noTh = M.things.getD i0 noTh := by rw [h3 i0, if_neg (fun hh => by omega)]
      have hat : ∀ k, (M.things.getD k noTh).there = true → (H.seats.getD (k + 1) (0, 0, 0)).2.2 = H0.order.length + j → k = i0 := fun k hb e => by
        have := (h.inv.turn k (th_in hb) hb).2
        rw [e, hi0] at this
        omega
      rw [hg]
      by_cases e2 : k = i0
      · rw [if_pos e2, hXi, e2, if_pos ⟨u2, by omega, by omega⟩]
      · rw [if_neg e2, h3 k]
        have hiff : ((M.things.getD k noTh).there = true ∧ H0.order.length ≤ (H.seats.getD (k + 1) (0, 0, 0)).2.2 ∧ (H.seats.getD (k + 1) (0, 0, 0)).2.2 < H0.order.length + j) ↔ ((M.things.getD k noTh).there = true ∧ H0.order.length ≤ (H.seats.getD (k + 1) (0, 0, 0)).2.2 ∧ (H.seats.getD (k + 1) (0, 0, 0)).2.2 < H0.order.length + (j + 1)) := by
          refine ⟨fun q => ⟨q.1, q.2.1, by omega⟩, fun q => ⟨q.1, q.2.1, ?_⟩⟩
          by_cases e3 : (H.seats.getD (k + 1) (0, 0, 0)).2.2 = H0.order.length + j
          · exact absurd (hat k q.1 e3) e2
          · have := q.2.2; omega
        simp only [hiff]
    · show ((backTo H H0.order.length j).order.set _ 0).length = _; rw [List.length_set]; exact h4
    · rw [hord, if_neg (by omega)]; exact h5 r (by omega)
    · rw [hord]
      by_cases e3 : r = H0.order.length + j
      · rw [if_pos e3]
      · rw [if_neg e3]; exact h6 r r1 (by omega)
theorem Behind.backOk {H0 H : HS} {M0 M : MS} (h0 : Inv H0 M0) (h : Behind H0 M0 H M) (hage : (H.age : Int) ≤ 1000000000) : BackOk H H0.order.length where
  t := h.len
  vac := fun j hj => by
    obtain ⟨X, h1, h2, h3, h4, h5, h6, h7, h8, h9⟩ := h.backs h0 j (by omega)
    have hne := h.young (H0.order.length + j) (by omega) hj
    have ho := h5 (H0.order.length + j) (.inr (Nat.le_refl _))
    obtain ⟨o1, o2, o3⟩ := h1.order (H0.order.length + j) (by omega) (by rw [ho]; exact hne)
    rw [ho] at o1 o2 o3
    obtain ⟨i0, hi0⟩ : ∃ i0, H.order.getD (H0.order.length + j) 0 = i0 + 1 := ⟨H.order.getD (H0.order.length + j) 0 - 1, by omega⟩
    rw [hi0] at o1 o2 ho ⊢
    rw [Nat.add_sub_cancel] at o2
    exact ⟨h1.vacOk i0 o1 o2, ho, h4⟩
  r1 := by have := h.inv.safe.order; omega
  a1 := hage
/-- two models of which one has things more that are not there -/
structure Agree (M M0 : MS) : Prop where
  words : M.words = M0.words
  oops : M.oops = M0.oops
  mark : M.mark = M0.mark
  len : M0.things.length ≤ M.things.length
  there : ∀ k, (M.things.getD k noTh).there = (M0.things.getD k noTh).there
  same : ∀ k, (M0.things.getD k noTh).there = true → M.things.getD k noTh = M0.things.getD k noTh
theorem thereTo_out (S : List Th) (k : Nat) (hk : S.length ≤ k) : thereTo S k = thereTo S S.length := by
  unfold thereTo
  rw [List.take_of_length_le hk, List.take_length]
theorem Agree.thereTo {M M0 : MS} (h : Agree M M0) : ∀ k, k ≤ M.things.length → thereTo M.things k = Go.Proofs.YtpaekbghnejhoaaDoor.thereTo M0.things k := by
  intro k
  induction k with
  | zero => intro _; rfl
  | succ k ih =>
    intro hk
    have hl := h.len
    by_cases e : k < M0.things.length
    · rw [thereTo_succ _ _ (by omega), thereTo_succ _ _ e, ih (by omega), h.there k]
    · have hf : (M.things.getD k noTh).there = false := by
        rw [h.there k, List.getD_eq_getElem?_getD, List.getElem?_eq_none (by omega)]
        rfl
      rw [thereTo_succ _ _ (by omega), ih (by omega), hf, thereTo_out M0.things k (by omega), thereTo_out M0.things (k + 1) (by omega)]
      simp
theorem Agree.thereAll {M M0 : MS} (h : Agree M M0) : Go.Proofs.YtpaekbghnejhoaaDoor.thereTo M.things M.things.length = Go.Proofs.YtpaekbghnejhoaaDoor.thereTo M0.things M0.things.length := by
  rw [h.thereTo _ (Nat.le_refl _), thereTo_out M0.things _ h.len]
theorem Agree.endAll {M M0 : MS} (h : Agree M M0) : endTo M.things M.things.length = endTo M0.things M0.things.length := by
  have hmax : ∀ (S : List Th) (k : Nat), k ≤ S.length → (∀ j, j < k → (S.getD j noTh).there = true → (S.getD j noTh).place + lenN (S.getD j noTh).slots.length (S.getD j noTh).fmt ≤ endTo S k) ∧ (endTo S k = 0 ∨ ∃ j, j < k ∧ (S.getD j noTh).there = true ∧ (S.getD j noTh).place + lenN (S.getD j noTh).slots.length (S.getD j noTh).fmt = endTo S k) := by
    intro S k
    induction k with
    | zero => intro _; exact ⟨fun j hj => by omega, .inl rfl⟩
    | succ k ih =>
      intro hk
      obtain ⟨a1, a2⟩ := ih (by omega)
      rw [endTo_succ]
      split
      · rename_i hc
        refine ⟨fun j hj hb => ?_, .inr ⟨k, by omega, hc.1, rfl⟩⟩
        by_cases e : j = k
        · rw [e]; exact Nat.le_refl _
        · have := a1 j (by omega) hb; omega
      · rename_i hc
        refine ⟨fun j hj hb => ?_, ?_⟩
        · by_cases e : j = k
          · rw [e] at hb ⊢
            by_cases hx : endTo S k < (S.getD k noTh).place + lenN (S.getD k noTh).slots.length (S.getD k noTh).fmt
            · exact absurd ⟨hb, hx⟩ hc
            · omega
          · exact a1 j (by omega) hb
        · rcases a2 with a2 | ⟨j, j1, j2, j3⟩
          · exact .inl a2
          · exact .inr ⟨j, by omega, j2, j3⟩
  obtain ⟨a1, a2⟩ := hmax M0.things M0.things.length (Nat.le_refl _)
  refine endTo_is M.things _ _ (fun j hj hb => ?_) ?_
  · have hb0 : (M0.things.getD j noTh).there = true := by rw [← h.there j]; exact hb
    rw [h.same j hb0]
    exact a1 j (th_in hb0) hb0
  · rcases a2 with a2 | ⟨j, j1, j2, j3⟩
    · exact .inl a2
    · exact .inr ⟨j, by have := h.len; omega, by rw [h.there j]; exact j2, by rw [h.same j j2]; exact j3⟩
theorem Agree.low {M M0 : MS} (h : Agree M M0) : lowTo M.things = lowTo M0.things := by
  obtain ⟨f1, f2⟩ := lowTo_free M0.things
  obtain ⟨g1, g2⟩ := lowTo_free M.things
  have p0 : 1 ≤ lowTo M0.things := by unfold lowTo; omega
  have p1 : 1 ≤ lowTo M.things := by unfold lowTo; omega
  rcases Nat.lt_trichotomy (lowTo M.things) (lowTo M0.things) with e | e | e
  · have := f2 (lowTo M.things - 1) (by omega)
    rw [← h.there, g1] at this
    cases this
  · exact e
  · have := g2 (lowTo M0.things - 1) (by omega)
    rw [h.there, f1] at this
    cases this
/-- what the heap says of the one it says of the other -/
theorem Agree.told {H : HS} {M M0 : MS} (h : Agree M M0) (ht : Told H M) : Told H M0 where
  small := ht.small
  words := ht.words.trans h.words
  oops := ht.oops.trans h.oops
  mark := ht.mark.trans h.mark
  fin := by rw [ht.fin, h.endAll]
  cnt := by rw [ht.cnt, h.thereAll]
  is := fun k hk hb => by rw [← h.same k hb]; exact ht.is k (by have := h.len; omega) (by rw [h.there]; exact hb)
  none := fun k hk hb => ht.none k (by have := h.len; omega) (by rw [h.there]; exact hb)
  all := fun k hk hb => by rw [← h.thereTo k (by have := h.len; omega)]; exact ht.all k (by have := h.len; omega) (by rw [h.there]; exact hb)
  allLen := by rw [ht.allLen, h.thereAll]
  seats := ht.seats
/-- behind a Back all is as it was at the point -/
theorem Behind.back {H0 H : HS} {M0 M : MS} (h0 : Inv H0 M0) (hm0 : H0.mark = 0) (h : Behind H0 M0 H M) : ∃ t e0 M2, DrawOk (backTo H H0.order.length (H.order.length - H0.order.length)) t e0 ∧ Inv { drawH (backTo H H0.order.length (H.order.length - H0.order.length)) t e0 with age := H.age + 1 } M2 ∧ Agree M2 M0 ∧
    stKeys (drawH (backTo H H0.order.length (H.order.length - H0.order.length)) t e0) M2.things (drawH (backTo H H0.order.length (H.order.length - H0.order.length)) t e0).order.length = stKeys H0 M0.things H0.order.length ∧
    (drawH (backTo H H0.order.length (H.order.length - H0.order.length)) t e0).words = H0.words ∧ (drawH (backTo H H0.order.length (H.order.length - H0.order.length)) t e0).oops = H0.oops ∧ (drawH (backTo H H0.order.length (H.order.length - H0.order.length)) t e0).mark = 0 := by
  have hlen := h.len
  obtain ⟨X, h1, h2, h3, h4, h5, h6, h7, h8, h9⟩ := h.backs h0 (H.order.length - H0.order.length) (by omega)
  obtain ⟨t, e0, hd, hinv⟩ := h1.draw
  have hXt : ∀ k, (X.getD k noTh).there = (M0.things.getD k noTh).there ∧ ((M0.things.getD k noTh).there = true → X.getD k noTh = M0.things.getD k noTh) := fun k => by
    rw [h3 k]
    cases hb : (M.things.getD k noTh).there with
    | false =>
      rw [if_neg (fun hc => by cases hc.1), hb]
      cases hb0 : (M0.things.getD k noTh).there with
      | false => exact ⟨rfl, fun hc => by cases hc⟩
      | true =>
        have := h.same k hb0
        rw [this, hb0] at hb
        cases hb
    | true =>
      have hiff := h.turnOld h0 k hb
      have hu := (h.inv.turn k (th_in hb) hb).1
      cases hb0 : (M0.things.getD k noTh).there with
      | true =>
        have := hiff.1 hb0
        rw [if_neg (fun hc => by omega), h.same k hb0]
        exact ⟨hb0, fun _ => rfl⟩
      | false =>
        have : ¬ (H.seats.getD (k + 1) (0, 0, 0)).2.2 < H0.order.length := fun hc => by
          have := hiff.2 hc
          rw [hb0] at this
          cases this
        rw [if_pos ⟨rfl, by omega, by omega⟩]
        exact ⟨rfl, fun hc => by cases hc⟩
  have hag : Agree { M with things := X } M0 := by
    refine ⟨?_, ?_, ?_, ?_, fun k => (hXt k).1, fun k hb => (hXt k).2 hb⟩
    · show M.words = M0.words; rw [← h.inv.words, h.words, h0.words]
    · show M.oops = M0.oops; rw [← h.inv.oops, h.oops, h0.oops]
    · show M.mark = M0.mark; rw [← h.inv.mark, h.mark, ← h0.mark, hm0]
    · show M0.things.length ≤ X.length; rw [h2]; exact h.tl
  have htT : t = H0.order.length := by
    have ht1 := hd.t1
    rcases Nat.lt_trichotomy t H0.order.length with e | e | e
    · exfalso
      have hz := hd.t2 (H0.order.length - 1) (by omega) (by omega)
      rw [h5 _ (.inl (by omega)), h.old _ (by omega)] at hz
      exact h0.last (H0.order.length - 1) (by omega) hz
    · exact e
    · exfalso
      have := (hd.t3 (by omega)).1
      exact this (h6 (t - 1) (by omega) (by omega))
  have hord : (drawH (backTo H H0.order.length (H.order.length - H0.order.length)) t e0).order = H0.order := by
    show (backTo H H0.order.length (H.order.length - H0.order.length)).order.take t = H0.order
    rw [htT]
    apply List.ext_getElem?
    intro r
    rw [List.getElem?_take]
    by_cases hr : r < H0.order.length
    · rw [if_pos hr]
      have e1 := h5 r (.inl hr)
      rw [h.old r hr] at e1
      rw [List.getD_eq_getElem?_getD, List.getD_eq_getElem?_getD, List.getElem?_eq_getElem (by omega), List.getElem?_eq_getElem hr] at e1
      rw [List.getElem?_eq_getElem (by omega), List.getElem?_eq_getElem hr]
      exact congrArg some e1
    · rw [if_neg hr, List.getElem?_eq_none (by omega)]
  refine ⟨t, e0, { M with things := X }, hd, hinv.aged _, hag, ?_, ?_, ?_, ?_⟩
  · unfold stKeys
    rw [hord, List.take_length]
    apply List.map_congr_left
    intro o ho
    obtain ⟨ho1, ho2⟩ := List.mem_filter.1 ho
    obtain ⟨r, hr, hro⟩ := List.getElem_of_mem ho1
    have hne : o ≠ 0 := by simpa using ho2
    have hg : H0.order.getD r 0 = o := by rw [List.getD_eq_getElem?_getD, List.getElem?_eq_getElem hr, hro]; rfl
    have hb := (h0.order r hr (by rw [hg]; exact hne)).2.1
    rw [hg] at hb
    show (o, (X.getD (o - 1) noTh).cls, (X.getD (o - 1) noTh).fmt, (X.getD (o - 1) noTh).slots) = _
    rw [(hXt (o - 1)).2 hb]
  · show (backTo H H0.order.length (H.order.length - H0.order.length)).words = _; rw [h7]; exact h.words
  · show (backTo H H0.order.length (H.order.length - H0.order.length)).oops = _; rw [h8]; exact h.oops
  · show (backTo H H0.order.length (H.order.length - H0.order.length)).mark = _; rw [h9]; exact h.mark
end Go.Proofs.YtpaekbghnejhoaaDoor

namespace Go.Proofs.YtpaekbghnejhoaaDoor
open Go.RowKit
set_option linter.unusedVariables false
/-- a thing is laid at q, whatever lies ahead of it -/
def putAt (S : List Th) (q : Nat) (t : Th) : List Th := if q < S.length then S.set q t else S ++ (List.replicate (q - S.length) noTh ++ [t])
theorem putAt_get (S : List Th) (q i : Nat) (t : Th) : (putAt S q t).getD i noTh = if i = q then t else S.getD i noTh := by
  unfold putAt
  split
  · rename_i h; exact getD_set S q i t h
  · rename_i h
    rw [List.getD_eq_getElem?_getD, List.getD_eq_getElem?_getD]
    by_cases h1 : i < S.length
    · rw [List.getElem?_append_left h1, if_neg (by omega)]
    · rw [List.getElem?_append_right (by omega), List.getElem?_eq_none (l := S) (by omega)]
      by_cases h2 : i < q
      · rw [List.getElem?_append_left (by simp; omega), List.getElem?_replicate, if_pos (by omega), if_neg (by omega)]; rfl
      · rw [List.getElem?_append_right (by simp; omega), List.length_replicate]
        by_cases h3 : i = q
        · rw [if_pos h3, show i - S.length - (q - S.length) = 0 from by omega]; rfl
        · rw [if_neg h3, List.getElem?_eq_none (by simp; omega)]
theorem putAt_length (S : List Th) (q : Nat) (t : Th) : (putAt S q t).length = max S.length (q + 1) := by
  unfold putAt
  split
  · rw [List.length_set]; omega
  · simp; omega
theorem thereTo_putAt (S : List Th) (q : Nat) (t : Th) (hf : (S.getD q noTh).there = false) (ht : t.there = true) : thereTo (putAt S q t) (putAt S q t).length = thereTo S S.length + 1 := by
  by_cases h : q < S.length
  · have := thereTo_put S q t (by omega) hf ht
    unfold putTh at this
    unfold putAt
    rw [if_pos h] at this ⊢
    exact this
  · unfold putAt
    rw [if_neg h]
    unfold thereTo
    rw [List.take_length, List.take_length, List.filter_append, List.filter_append]
    simp [ht, noTh]
theorem Inv.layAt {H : HS} {M : MS} (h : Inv H M) (q : Nat) (hq0 : q < M.oops) (hqf : (M.things.getD q noTh).there = false) (cl : Int) (n f : Nat) (p pt : Option Addr) (c ct : Nat) (hf : f ≤ 1) (hn : n ≤ 8192) (hr1 : H.count < H.oops) (hr2 : H.mem.length + lenN n f ≤ H.words) :
    Inv (layH H (q + 1) cl n f) { M with things := putAt M.things q ⟨true, cl, f, endTo M.things M.things.length, List.replicate n (newX f), p, c⟩, pt := pt, ct := ct } := by
  have hfree : (M.things.getD q noTh).there = false ∧ True := ⟨hqf, trivial⟩
  rw [← h.fin]
  generalize ht : (⟨true, cl, f, H.mem.length, List.replicate n (newX f), p, c⟩ : Th) = t
  have t1 : t.there = true := by rw [← ht]
  have t2 : t.cls = cl := by rw [← ht]
  have t3 : t.fmt = f := by rw [← ht]
  have t4 : t.place = H.mem.length := by rw [← ht]
  have t5 : t.slots = List.replicate n (newX f) := by rw [← ht]
  have t6 : t.slots.length = n := by rw [t5]; simp
  have hg := fun i => putAt_get M.things q i t
  have hgl := putAt_length M.things q t
  have hS : ∀ i, (layH H (q + 1) cl n f).seats.getD i (0, 0, 0) = if i = q + 1 then (H.mem.length, lenN n f, H.order.length) else H.seats.getD i (0, 0, 0) := fun i => laySeat H.seats (q + 1) i _
  have hSl : (layH H (q + 1) cl n f).seats.length = max H.seats.length (q + 2) := by
    show ((padSeats H.seats (q + 1 + 1)).set (q + 1) _).length = _
    unfold padSeats
    simp
    omega
  have hM : (layH H (q + 1) cl n f).mem = H.mem ++ objCells cl n f := rfl
  have hMl : (H.mem ++ objCells cl n f).length = H.mem.length + lenN n f := by rw [List.length_append, objCells_len cl n f hf]
  have hO : (layH H (q + 1) cl n f).order = H.order ++ [q + 1] := rfl
  have hOg : ∀ j, (H.order ++ [q + 1]).getD j 0 = if j = H.order.length then q + 1 else H.order.getD j 0 := fun j => by
    rw [List.getD_eq_getElem?_getD, List.getD_eq_getElem?_getD]
    by_cases e : j = H.order.length
    · rw [if_pos e, e, List.getElem?_append_right (Nat.le_refl _)]; simp
    · rw [if_neg e]
      by_cases hl : j < H.order.length
      · rw [List.getElem?_append_left hl]
      · rw [List.getElem?_eq_none (by simp; omega), List.getElem?_eq_none (by omega)]
  have hL := h.len
  have hsm := h.safe.small
  have ho := hsm.oops
  have hw := hsm.words
  have hshort := h.short
  have hl2 := lenN_two n f
  have hmost := h.most
  have hoo := h.oops
  have hend : ∀ i, i < M.things.length → (M.things.getD i noTh).there = true → (M.things.getD i noTh).place + lenN (M.things.getD i noTh).slots.length (M.things.getD i noTh).fmt ≤ H.mem.length := fun i h1 h2 => by rw [h.fin]; exact endTo_ge M.things _ i h1 h2
  exact {
    safe := ⟨⟨hw, ho, by rw [hM, hMl]; show ((H.mem.length + lenN n f : Nat) : Int) ≤ (H.words : Int); omega, by show ((H.count + 1 : Nat) : Int) ≤ (H.oops : Int); omega, hsm.mark⟩,
      by show H.low ≤ (addBits H.bits (q + 1)).length; rw [addBits_len]; have := h.safe.low; omega,
      by show ((addBits H.bits (q + 1)).length : Int) ≤ 1024; rw [addBits_len]; have := h.safe.bl; omega,
      fun i => addBits_le H.bits (q + 1) h.safe.bits i, by rw [hSl]; have := h.safe.seats; omega,
      by rw [hO]; simp only [List.length_append, List.length_singleton]; omega⟩
    words := h.words
    oops := h.oops
    mark := h.mark
    len := by
      rw [hSl]
      show max H.seats.length (q + 2) ≤ (putAt M.things q t).length + 1
      rw [hgl]
      omega
    seat0 := by rw [hS, if_neg (by omega)]; exact h.seat0
    there := fun i hi => by
      show (((putAt M.things q t).getD i noTh).there = true ↔ _)
      rw [hg i, hS (i + 1)]
      by_cases e : i = q
      · rw [if_pos e, if_pos (by omega)]; simp only [t1, true_iff]; show lenN n f ≠ 0; omega
      · rw [if_neg e, if_neg (by omega)]
        by_cases hil : i < M.things.length
        · exact h.there i hil
        · have e1 : M.things.getD i noTh = noTh := by rw [List.getD_eq_getElem?_getD, List.getElem?_eq_none (by omega)]; rfl
          have e2 : H.seats.getD (i + 1) (0, 0, 0) = (0, 0, 0) := by
            rw [List.getD_eq_getElem?_getD, List.getElem?_eq_none (by omega)]; rfl
          rw [e1, e2]
          simp [noTh]
    seat := fun i hi hb => by
      have hb2 : ((putAt M.things q t).getD i noTh).there = true := hb
      show _ = ((putAt M.things q t).getD i noTh).place ∧ _ = lenN ((putAt M.things q t).getD i noTh).slots.length ((putAt M.things q t).getD i noTh).fmt
      rw [hg i] at hb2 ⊢
      rw [hS (i + 1)]
      by_cases e : i = q
      · rw [if_pos e, if_pos (by omega), t4, t6, t3]; exact ⟨rfl, rfl⟩
      · rw [if_neg e] at hb2 ⊢; rw [if_neg (by omega)]; exact h.seat i (th_in hb2) hb2
    is := fun i hi hb => by
      have hb2 : ((putAt M.things q t).getD i noTh).there = true := hb
      show Is _ (i + 1) ((putAt M.things q t).getD i noTh)
      rw [hg i] at hb2 ⊢
      by_cases e : i = q
      · rw [if_pos e, e]; exact is_laid _ q cl n f t hf hn t2 t3 t5
      · rw [if_neg e] at hb2 ⊢
        have hi2 := th_in hb2
        have hI := h.is i hi2 hb2
        have hr := hI.room
        refine hI.same (by rw [hS, if_neg (by omega)]) (by rw [hSl]; have := (has_yes hI.has).2.1; omega) (by rw [hM, hMl]; omega) (fun x h1 h2 => by rw [hM]; exact getD_left _ _ x (by omega))
    count := by show H.count + 1 = thereTo (putAt M.things q t) (putAt M.things q t).length; rw [thereTo_putAt M.things q t hqf t1, h.count]
    fin := by
      rw [hM, hMl]
      show _ = endTo (putAt M.things q t) (putAt M.things q t).length
      refine (endTo_is _ _ _ (fun j hj hb => ?_) (.inr ⟨q, by omega, by rw [hg, if_pos rfl]; exact t1, by rw [hg, if_pos rfl, t4, t6, t3]⟩)).symm
      rw [hg j] at hb ⊢
      by_cases e : j = q
      · rw [if_pos e, t4, t6, t3]; exact Nat.le_refl _
      · rw [if_neg e] at hb ⊢
        have := hend j (th_in hb) hb
        omega
    turn := fun i hi hb => by
      have hb2 : ((putAt M.things q t).getD i noTh).there = true := hb
      rw [hg i] at hb2
      rw [hS (i + 1), hO, hOg]
      by_cases e : i = q
      · rw [if_pos (by omega)]; simp; omega
      · rw [if_neg e] at hb2
        rw [if_neg (by omega)]
        have := h.turn i (th_in hb2) hb2
        rw [if_neg (by omega)]
        exact ⟨by rw [List.length_append, List.length_singleton]; omega, this.2⟩
    order := fun j hj hne => by
      rw [hO] at hj hne ⊢
      show _ ≤ (putAt M.things q t).length ∧ ((putAt M.things q t).getD _ noTh).there = true ∧ _
      rw [hOg] at hne ⊢
      by_cases e : j = H.order.length
      · rw [if_pos e, hS, if_pos rfl, hg, if_pos (by omega)]
        exact ⟨by omega, t1, e.symm⟩
      · rw [if_neg e] at hne ⊢
        simp at hj
        obtain ⟨o1, o2, o3⟩ := h.order j (by omega) hne
        have hne2 : H.order.getD j 0 ≠ q + 1 := fun e2 => by
          rw [e2, Nat.add_sub_cancel, hfree.1] at o2
          simp at o2
        rw [hS, if_neg hne2, hg, if_neg (by omega)]
        exact ⟨by omega, o2, o3⟩
    rise := fun i j hij hj hi0 hj0 => by
      rw [hO] at hj hi0 hj0 ⊢
      rw [hOg] at hi0 hj0 ⊢
      rw [hOg j]
      simp at hj
      rw [if_neg (by omega)] at hi0 ⊢
      obtain ⟨o1, o2, o3⟩ := h.order i (by omega) hi0
      have hne2 : H.order.getD i 0 ≠ q + 1 := fun e2 => by
        rw [e2, Nat.add_sub_cancel, hfree.1] at o2
        simp at o2
      rw [hS, if_neg hne2, hS]
      by_cases e : j = H.order.length
      · rw [if_pos e, if_pos rfl]
        have hI := h.seat (H.order.getD i 0 - 1) (by omega) o2
        have := hend (H.order.getD i 0 - 1) (by omega) o2
        rw [show H.order.getD i 0 - 1 + 1 = H.order.getD i 0 from by omega] at hI
        show _ ≤ H.mem.length
        omega
      · rw [if_neg e] at hj0 ⊢
        obtain ⟨p1, p2, p3⟩ := h.order j (by omega) hj0
        have hne3 : H.order.getD j 0 ≠ q + 1 := fun e2 => by
          rw [e2, Nat.add_sub_cancel, hfree.1] at p2
          simp at p2
        rw [if_neg hne3]
        exact h.rise i j hij (by omega) hi0 hj0
    last := fun j hj => by
      rw [hO] at hj ⊢
      simp at hj
      rw [hOg, if_pos (by omega)]
      omega
    gaps := fun x hx hc => by
      rw [hM] at hx ⊢
      rw [hMl] at hx
      by_cases hlt : x < H.mem.length
      · rw [getD_left _ _ x hlt]
        refine h.gaps x hlt (fun i hi hb => ?_)
        have hiq : i ≠ q := fun e => by rw [e, hfree.1] at hb; simp at hb
        have := hc i (by show i < (putAt M.things q t).length; omega) (by show ((putAt M.things q t).getD i noTh).there = true; rw [hg, if_neg hiq]; exact hb)
        have h3 : x < ((putAt M.things q t).getD i noTh).place ∨ ((putAt M.things q t).getD i noTh).place + lenN ((putAt M.things q t).getD i noTh).slots.length ((putAt M.things q t).getD i noTh).fmt ≤ x := this
        rw [hg, if_neg hiq] at h3
        exact h3
      · have := hc q (by show q < (putAt M.things q t).length; omega) (by show ((putAt M.things q t).getD q noTh).there = true; rw [hg, if_pos rfl]; exact t1)
        have h3 : x < ((putAt M.things q t).getD q noTh).place ∨ ((putAt M.things q t).getD q noTh).place + lenN ((putAt M.things q t).getD q noTh).slots.length ((putAt M.things q t).getD q noTh).fmt ≤ x := this
        rw [hg, if_pos rfl, t4, t6, t3] at h3
        omega
    bit := fun j => by
      show ((addBits H.bits (q + 1)).getD (j / 64) 0).testBit (j % 64) = ((putAt M.things q t).getD j noTh).there
      rw [addBits_bit H.bits (q + 1) j (by omega), hg, Nat.add_sub_cancel]
      split
      · exact t1.symm
      · exact h.bit j
    low := fun i hi => by
      have hi2 : i < H.low := hi
      show (addBits H.bits (q + 1)).getD i 0 = full
      have hb : H.bits.getD i 0 = full := h.low i hi2
      have h1 := addBits_le H.bits (q + 1) h.safe.bits i
      rw [addBits_getD] at h1 ⊢
      split
      · rw [if_pos (by assumption)] at h1
        have := Nat.left_le_or (n := H.bits.getD i 0) (m := 2 ^ ((q + 1 - 1) % 64))
        omega
      · exact hb
    model := ⟨by show ((putAt M.things q t).length : Int) ≤ 65538; have := h.model.len; omega, fun i hi => by
        show (((putAt M.things q t).getD i noTh).slots.length : Int) ≤ 8192
        rw [hg]
        split
        · rw [t6]; omega
        · by_cases hil : i < M.things.length
          · exact h.model.slots i hil
          · rw [List.getD_eq_getElem?_getD, List.getElem?_eq_none (by omega)]; simp [noTh], fun i hi => by
        show (((putAt M.things q t).getD i noTh).place : Int) ≤ 1048576
        rw [hg]
        split
        · rw [t4]; have := h.room; omega
        · by_cases hil : i < M.things.length
          · exact h.model.place i hil
          · rw [List.getD_eq_getElem?_getD, List.getElem?_eq_none (by omega)]; simp [noTh]⟩
    deep := fun j hj hne => by
      rw [hO] at hj hne ⊢
      rw [hOg] at hne ⊢
      by_cases e : j = H.order.length
      · rw [if_pos e, hS, if_pos rfl]
        show 2 * j ≤ H.mem.length
        omega
      · rw [if_neg e] at hne ⊢
        simp at hj
        obtain ⟨o1, o2, o3⟩ := h.order j (by omega) hne
        have hne2 : H.order.getD j 0 ≠ q + 1 := fun e2 => by
          rw [e2, Nat.add_sub_cancel, hfree.1] at o2
          simp at o2
        rw [hS, if_neg hne2]
        exact h.deep j (by omega) hne
    most := by show (putAt M.things q t).length ≤ M.oops; omega
    room := h.room }
end Go.Proofs.YtpaekbghnejhoaaDoor


import Derived.Test.YtjeeibokdnepgaaSBase
import Derived.LaidEqlPtr
import Derived.Lib.SliceRun
namespace Go.Proofs.Ytjeeibokdnepgaa
open Go.RowKit Go.Maps Go.WideMaps
set_option linter.unusedVariables false
set_option linter.unusedSimpArgs false
theorem lt_of_heap {w : World} {g : Nat} {o : Obj} (h : w.heap[g]? = some o) : g < w.heap.size := (Array.getElem?_eq_some_iff.1 h).1
theorem cell_in {w : World} {a : Nat} {C : Array Value} {t : TypeId} (h : w.heap[a]? = some (.cells C t (0, 0))) (i : Nat) : w.cell? ⟨a, i, none⟩ = C[i]? := by simp [World.cell?, h]
theorem frozen_in {w : World} {a : Nat} {C : Array Value} {t : TypeId} (h : w.heap[a]? = some (.cells C t (0, 0))) (i : Nat) : w.frozen? ⟨a, i, none⟩ = false := by simp [World.frozen?, h]
theorem set_in {w : World} {a : Nat} {C : Array Value} {t : TypeId} (h : w.heap[a]? = some (.cells C t (0, 0))) (i : Nat) (v : Value) : (w.setCell ⟨a, i, none⟩ v).heap[a]? = some (.cells (C.setIfInBounds i v) t (0, 0)) := by
  simp [World.setCell, Array.getElem?_modify, h]
theorem blk_own (ao : Option Addr) (n c : Nat) (g : Nat) : (Value.slice ao n c).ownBlock = some g ↔ g ∈ blk ao := by
  cases ao <;> simp [Value.ownBlock, blk, eq_comm]
theorem own_blk {w : World} {base : Nat} {e : TypeId} {size : Nat} {ao : Option Addr} {k c n : Nat} {xs : List Value} (h : w.ownsRow base e size (.slice ao k c) n xs) (g : Nat) (hg : g ∈ blk ao) :
    ∃ cur, w.heap[g]? = some (.cells cur e (0, 0)) := by
  rcases h.2 with ⟨h2, _⟩ | ⟨g', cap, cur, h2, h3, h4, h5⟩
  · injection h2 with h2; subst h2; simp [blk] at hg
  · injection h2 with h2; subst h2; simp [blk] at hg; subst hg; exact ⟨cur, h4⟩
/-- where a table's list and map lie -/
structure Lay where
  p : Option Addr
  cap : Nat
  b : Nat
def Lay.v (l : Lay) (n : Nat) : Value := .slice l.p n l.cap
def foot (a : Nat) (l : Lay) : List Nat := a :: l.b :: blk l.p
def tcells (a most n : Nat) (l : Lay) : Array Value := #[.pointer (some ⟨a, 0, none⟩), .int .i64 (most : Int), .slice l.p n l.cap, .map (some l.b)]
/-- the table at block a has room for most texts, and has these -/
structure TRep (w : World) (a : Nat) (l : Lay) (most : Nat) (ts : List ByteArray) : Prop where
  top : w.heap[a]? = some (.cells (tcells a most ts.length l) 70 (0, 0))
  row : w.ownsRow 0 9 1 (.slice l.p ts.length l.cap) ts.length (ts.map Value.string)
  map : MapOf w l.b (pos ts) ts.length
  nodup : ts.Nodup
  fit : ∀ s ∈ ts, 1 ≤ s.size ∧ s.size ≤ 96
  len : ts.length ≤ most
  most : most ≤ 4096
theorem TRep.lt {w : World} {a : Nat} {l : Lay} {most : Nat} {ts : List ByteArray} (h : TRep w a l most ts) : ∀ g ∈ foot a l, g < w.heap.size := by
  intro g hg
  simp only [foot, List.mem_cons] at hg
  rcases hg with rfl | rfl | hg
  · exact lt_of_heap h.top
  · exact h.map.lt
  · obtain ⟨c, hc⟩ := own_blk h.row g hg; exact lt_of_heap hc
theorem TRep.congr {w w' : World} {a : Nat} {l : Lay} {most : Nat} {ts : List ByteArray} (h : TRep w a l most ts) (hb : ∀ g ∈ foot a l, w'.heap[g]? = w.heap[g]?) : TRep w' a l most ts :=
  ⟨(hb a (by simp [foot])).trans h.top, own_congr h.row fun g hg => hb g (by simp [foot, (blk_own _ _ _ _).1 hg]), h.map.congr (hb l.b (by simp [foot])), h.nodup, h.fit, h.len, h.most⟩
theorem TRep.keep {w w' : World} {a : Nat} {l : Lay} {most : Nat} {ts : List ByteArray} {S : List Nat} (h : TRep w a l most ts) (hf : Fr S w w') (hd : ∀ g ∈ foot a l, g ∉ S) : TRep w' a l most ts :=
  h.congr fun g hg => hf.block g (h.lt g hg) (hd g hg)
theorem TRep.idle {w w' : World} {a : Nat} {l : Lay} {most : Nat} {ts : List ByteArray} (h : TRep w a l most ts) (hf : Fr [] w w') : TRep w' a l most ts := h.keep hf (by simp)
theorem TRep.c0 {w : World} {a : Nat} {l : Lay} {most : Nat} {ts : List ByteArray} (h : TRep w a l most ts) : w.cell? ⟨a, 0, none⟩ = some (.pointer (some ⟨a, 0, none⟩)) := by rw [cell_in h.top]; rfl
theorem TRep.c1 {w : World} {a : Nat} {l : Lay} {most : Nat} {ts : List ByteArray} (h : TRep w a l most ts) : w.cell? ⟨a, 1, none⟩ = some (.int .i64 (most : Int)) := by rw [cell_in h.top]; rfl
theorem TRep.c2 {w : World} {a : Nat} {l : Lay} {most : Nat} {ts : List ByteArray} (h : TRep w a l most ts) : w.cell? ⟨a, 2, none⟩ = some (.slice l.p ts.length l.cap) := by rw [cell_in h.top]; rfl
theorem TRep.c3 {w : World} {a : Nat} {l : Lay} {most : Nat} {ts : List ByteArray} (h : TRep w a l most ts) : w.cell? ⟨a, 3, none⟩ = some (.map (some l.b)) := by rw [cell_in h.top]; rfl
theorem TRep.frozen {w : World} {a : Nat} {l : Lay} {most : Nat} {ts : List ByteArray} (h : TRep w a l most ts) (i : Nat) : w.frozen? ⟨a, i, none⟩ = false := frozen_in h.top i
/-- its three blocks are three -/
theorem TRep.apart {w : World} {a : Nat} {l : Lay} {most : Nat} {ts : List ByteArray} (h : TRep w a l most ts) : l.b ≠ a ∧ a ∉ blk l.p ∧ l.b ∉ blk l.p := by
  obtain ⟨D, ⟨es, clock, h1, _⟩, _⟩ := h.map.at_
  have ht := h.top
  refine ⟨fun e => ?_, fun hm => ?_, fun hm => ?_⟩
  · rw [e] at h1; rw [h1] at ht; cases ht
  · obtain ⟨c, hc⟩ := own_blk h.row a hm; rw [hc] at ht; simp at ht
  · obtain ⟨c, hc⟩ := own_blk h.row l.b hm; rw [hc] at h1; cases h1
/-- a text of the list, by its cell -/
theorem row_cell {w : World} {p : Option Addr} {cap base n : Nat} {ts : List ByteArray} (h : w.ownsRow base 9 1 (.slice p n cap) n (ts.map Value.string)) (hp : 0 < n) :
    n = ts.length ∧ ∃ g, p = some ⟨g, 0, none⟩ ∧ (∀ i, i < n → w.cell? ⟨g, i, none⟩ = some (.string (ts.getD i ⟨#[]⟩))) ∧ (∀ i, w.frozen? ⟨g, i, none⟩ = false) ∧ g < w.heap.size := by
  have hn : n = ts.length := by have := h.1; simpa using this.symm
  refine ⟨hn, ?_⟩
  rcases h.2 with ⟨h2, h3⟩ | ⟨g, cap', cur, h2, h3, h4, h5, h6⟩
  · omega
  · injection h2 with h2 h2' h2''
    subst h2
    refine ⟨g, rfl, fun i hi => ?_, fun i => frozen_in h4 i, lt_of_heap h4⟩
    rw [h.cellAt i (by omega), List.getElem?_map, List.getD_eq_getElem?_getD, List.getElem?_eq_getElem (by omega)]
    rfl
theorem info70 : (Try.prog.info? 70).isSome = true := by kernel_rfl
set_option maxHeartbeats 400000 in
theorem made_yes (a : Nat) (w : World) (h : w.cell? ⟨a, 0, none⟩ = some (.pointer (some ⟨a, 0, none⟩))) :
    Calls Try.prog 31 #[.pointer (some ⟨a, 0, none⟩)] w fun e w' => e = .returned (.bool true) ∧ w' = w := by
  obtain ⟨j, hj⟩ := Option.isSome_iff_exists.1 info70
  have hq := run_eql_ptr_same (P := Try.prog) w ⟨a, 0, none⟩ Try.underlying23 hj
  clear hj
  go_enter Try.func31, Try.ntmps31
  go_wp2
  go_ret
  exact ⟨rfl, rfl⟩
set_option maxHeartbeats 400000 in
theorem made_nil (w : World) : Calls Try.prog 31 #[.pointer none] w fun e w' => e = .returned (.bool false) ∧ w' = w := by
  go_enter Try.func31, Try.ntmps31
  go_wp2
  go_ret
  exact ⟨rfl, rfl⟩
set_option maxHeartbeats 400000 in
theorem run_eql_nil_ptr (w : World) (a : Addr) : (binOp .eql 23 (.pointer none) (.pointer (some a))).run Try.prog w = .ok (.bool false) w := by
  have h : ∀ d : Nat, (Op.equalIn (d + 1) 23 (.pointer none) (.pointer (some a))).run Try.prog w = .ok false w := fun d => by
    simp [Op.equalIn, run_underlying Try.underlying23]
  simp only [binOp]
  simp [Op.equal, Op.maxDepth, h 9999]
set_option maxHeartbeats 400000 in
theorem made_zero (a : Nat) (w : World) (h : w.cell? ⟨a, 0, none⟩ = some (.pointer none)) :
    Calls Try.prog 31 #[.pointer (some ⟨a, 0, none⟩)] w fun e w' => e = .returned (.bool false) ∧ w' = w := by
  have hq := run_eql_nil_ptr w ⟨a, 0, none⟩
  go_enter Try.func31, Try.ntmps31
  go_wp2
  go_ret
  exact ⟨rfl, rfl⟩
set_option maxHeartbeats 400000 in
theorem num_any (n : Int) (w : World) (h0 : -9223372036854775808 ≤ n) (h1 : n ≤ 9223372036854775807) :
    Calls Try.prog 12 #[.int .i64 n] w fun e w' => e = .returned (.int .i64 n) ∧ w' = w := by
  go_enter Try.func12, Try.ntmps12
  go_wp2
  go_ret
  exact ⟨by first | rfl | (unfold wrap64; simp; omega), rfl⟩
set_option maxHeartbeats 400000 in
theorem Count_any (a : Nat) (l : Lay) (most : Nat) (ts : List ByteArray) (w : World) (h : TRep w a l most ts) :
    Calls Try.prog 9 #[.pointer (some ⟨a, 0, none⟩)] w fun e w' => e = .returned (.int .i64 (ts.length : Int)) ∧ w' = w := by
  have c0 := h.c0
  have c2 := h.c2
  clear h
  go_enter Try.func9, Try.ntmps9
  go_wp2_with (go_at_call 31; refine (made_yes _ _ c0).mono ?_; rintro e w' ⟨rfl, rfl⟩)
  go_ret
  exact ⟨rfl, rfl⟩
def lookN (o : Option Nat) : Int := ((o.getD 0 : Nat) : Int)
set_option maxRecDepth 20000 in
set_option maxHeartbeats 1000000 in
theorem Find_any (s : ByteArray) (a : Nat) (l : Lay) (most : Nat) (ts : List ByteArray) (w : World) (h : TRep w a l most ts) (hs : s.size ≤ 140737488355328) :
    Calls Try.prog 15 #[.pointer (some ⟨a, 0, none⟩), .string s] w fun e w' => e = .returned (.tuple #[.int .i64 (lookN (pos ts s)), .bool (pos ts s).isSome]) ∧ w' = w := by
  have c0 := h.c0
  have c3 := h.c3
  obtain ⟨D, hown, hh, ha, hz⟩ := h.map.at_
  have hkey : keyOf Try.prog 9 (.string s) = some (kS s) := keyOf_string_mk Try.underlying9 (by unfold maxLen; omega)
  have hhq := hh s
  have haq := ha s
  clear h hh ha
  go_enter Try.func15, Try.ntmps15
  go_wp2_with (first | (go_at_call 31; refine (made_yes _ _ c0).mono ?_; rintro e w' ⟨rfl, rfl⟩) | (at_lookup; refine wpList_lookup_own_ok_int _ rfl _ _ 68 rfl 9 3 .i64 mlaw Try.underlying68 Try.underlying3 (mzero _) l.b ts.length _ rfl hown _ _ rfl hkey ?_; intro c hat hwc; rw [hhq]; have HC : Hid (lookN (pos ts s) = c) := (by rw [haq] at hat; injection hat with hat; injection hat); clear hat))
  go_ret2
  exact ⟨by rw [HC.out]; rfl, rfl⟩
set_option maxHeartbeats 400000 in
theorem New_no (n : Int) (w : World) (h : n < 0 ∨ 4096 < n) :
    Calls Try.prog 16 #[.int .i64 n] w fun e w' => e = .returned (.tuple #[.pointer none, .int .i64 1]) ∧ w' = w := by
  by_cases h0 : n < 0
  · go_enter Try.func16, Try.ntmps16
    go_wp2
    go_ret2
    exact ⟨rfl, rfl⟩
  · have h1 : 4096 < n := by omega
    have h2 : 0 ≤ n := by omega
    clear h h0
    go_enter Try.func16, Try.ntmps16
    go_wp2
    go_ret2
    exact ⟨rfl, rfl⟩
set_option maxHeartbeats 1000000 in
theorem New_in (most : Nat) (w : World) (h : most ≤ 4096) :
    Calls Try.prog 16 #[.int .i64 (most : Int)] w fun e w' => ∃ a l, e = .returned (.tuple #[.pointer (some ⟨a, 0, none⟩), .int .i64 0]) ∧ TRep w' a l most [] ∧ Fr [] w w' ∧ (∀ g ∈ foot a l, w.heap.size ≤ g) := by
  have g1 : (0 : Int) ≤ (most : Int) := by omega
  have g2 : (most : Int) ≤ 4096 := by omega
  have hmm := @run_makeMap Try.prog
  have HM := mkHid h
  clear h
  go_enter Try.func16, Try.ntmps16
  go_wp2
  go_ret2
  refine ⟨w.heap.size + 1, ⟨none, 0, w.heap.size⟩, rfl, ⟨?_, World.ownsRow_nil _ _ _ _, ?_, List.nodup_nil, by simp, by simp, HM.out⟩, ?_, by simp [foot, blk]⟩
  · have hx := heap_alloc_new (w.alloc (.map #[] 0)) (.cells (tcells (w.heap.size + 1) most 0 ⟨none, 0, w.heap.size⟩) 70)
    have e1 : (w.alloc (.map #[] 0)).heap.size = w.heap.size + 1 := by simp
    rw [e1] at hx
    exact hx
  · have hx : (w.alloc (.map #[] 0)).ownsMap Try.prog 9 (plainElem (H := Unit) Try.prog 3) w.heap.size 0 (.map []) := World.ownsMap_made w _ _ _
    obtain ⟨es, clock, y1, y2⟩ := hx
    refine ⟨.map [], ⟨es, clock, ?_, y2⟩, fun s => rfl, fun s => rfl, rfl⟩
    rw [Below.heap_alloc _ _ _ (by simp)]
    exact y1
  · exact (Fr.alloc [] w _).trans (Fr.alloc [] _ _) (by simp)
set_option maxRecDepth 20000 in
set_option maxHeartbeats 1000000 in
theorem Text_no (n : Int) (a : Nat) (l : Lay) (most : Nat) (ts : List ByteArray) (w : World) (h : TRep w a l most ts) (hn : n < 0 ∨ (ts.length : Int) ≤ n) :
    Calls Try.prog 19 #[.pointer (some ⟨a, 0, none⟩), .int .i64 n] w fun e w' => e = .returned (.tuple #[.string ⟨#[]⟩, .int .i64 61]) ∧ w' = w := by
  have c0 := h.c0
  have c2 := h.c2
  clear h
  by_cases h0 : n < 0
  · clear hn
    go_enter Try.func19, Try.ntmps19
    go_wp2_with (go_at_call 31; refine (made_yes _ _ c0).mono ?_; rintro e w' ⟨rfl, rfl⟩)
    go_ret2
    exact ⟨rfl, rfl⟩
  · have h1 : (ts.length : Int) ≤ n := by omega
    have h2 : 0 ≤ n := by omega
    clear hn h0
    go_enter Try.func19, Try.ntmps19
    go_wp2_with (go_at_call 31; refine (made_yes _ _ c0).mono ?_; rintro e w' ⟨rfl, rfl⟩)
    go_ret2
    exact ⟨rfl, rfl⟩
set_option maxRecDepth 20000 in
set_option maxHeartbeats 1000000 in
theorem Text_in (n : Nat) (a : Nat) (l : Lay) (most : Nat) (ts : List ByteArray) (w : World) (h : TRep w a l most ts) (hn : n < ts.length) :
    Calls Try.prog 19 #[.pointer (some ⟨a, 0, none⟩), .int .i64 (n : Int)] w fun e w' => e = .returned (.tuple #[.string (ts.getD n ⟨#[]⟩), .int .i64 0]) ∧ w' = w := by
  have c0 := h.c0
  have c2 := h.c2
  obtain ⟨_, g, hg, hc, _, _⟩ := row_cell h.row (by omega)
  have cn := hc n hn
  rw [hg] at c2
  have hlen := Nat.le_trans h.len h.most
  have h1 : (n : Int) < (ts.length : Int) := by omega
  have h2 : (0 : Int) ≤ (n : Int) := by omega
  clear h hg hc hn
  go_enter Try.func19, Try.ntmps19
  go_wp2_with (go_at_call 31; refine (made_yes _ _ c0).mono ?_; rintro e w' ⟨rfl, rfl⟩)
  go_ret2
  exact ⟨rfl, rfl⟩
end Go.Proofs.Ytjeeibokdnepgaa

import Derived.Test.YtclkoffnjiiioaaGreatDoorG01IPm
import Derived.Test.YtclkoffnjiiioaaGreatDoorG32IRe2
namespace Go.Proofs.YtclkoffnjiiioaaGreatDoor
open Go.RowKit
set_option linter.unusedVariables false
set_option linter.unusedSimpArgs false
attribute [local go_sem ↓] Go.wp_at_zero Go.wp_at_succ
theorem rname_ok_at (m : Nat) (h1 : 1 ≤ m) (h2 : m ≤ 28) : (#[.string ⟨#[]⟩, .string ⟨#[115, 101, 108, 102]⟩, .string ⟨#[110, 105, 108]⟩, .string ⟨#[116, 114, 117, 101]⟩, .string ⟨#[102, 97, 108, 115, 101]⟩, .string ⟨#[105, 110, 116]⟩, .string ⟨#[108, 105, 116]⟩, .string ⟨#[115, 121, 109]⟩, .string ⟨#[99, 108, 97, 115, 115]⟩, .string ⟨#[102, 105, 101, 108, 100]⟩, .string ⟨#[116, 101, 109, 112]⟩, .string ⟨#[103, 108, 111, 98, 97, 108]⟩, .string ⟨#[115, 116, 111, 114, 101, 102, 105, 101, 108, 100]⟩, .string ⟨#[115, 116, 111, 114, 101, 116, 101, 109, 112]⟩, .string ⟨#[115, 116, 111, 114, 101, 103, 108, 111, 98, 97, 108]⟩, .string ⟨#[112, 111, 112]⟩, .string ⟨#[100, 117, 112]⟩, .string ⟨#[115, 101, 110, 100]⟩, .string ⟨#[115, 117, 112, 101, 114]⟩, .string ⟨#[98, 108, 111, 99, 107]⟩, .string ⟨#[114, 101, 116, 117, 114, 110]⟩, .string ⟨#[104, 111, 109, 101, 114, 101, 116, 117, 114, 110]⟩, .string ⟨#[98, 108, 111, 99, 107, 114, 101, 116, 117, 114, 110]⟩, .string ⟨#[106, 117, 109, 112]⟩, .string ⟨#[105, 102, 116, 114, 117, 101]⟩, .string ⟨#[105, 102, 102, 97, 108, 115, 101]⟩, .string ⟨#[98, 97, 99, 107]⟩, .string ⟨#[102, 105, 114, 115, 116]⟩, .string ⟨#[110, 101, 120, 116]⟩] : Array Value)[m]? = some (.string (nmB m)) := by
  rcases (show m = 1 ∨ m = 2 ∨ m = 3 ∨ m = 4 ∨ m = 5 ∨ m = 6 ∨ m = 7 ∨ m = 8 ∨ m = 9 ∨ m = 10 ∨ m = 11 ∨ m = 12 ∨ m = 13 ∨ m = 14 ∨ m = 15 ∨ m = 16 ∨ m = 17 ∨ m = 18 ∨ m = 19 ∨ m = 20 ∨ m = 21 ∨ m = 22 ∨ m = 23 ∨ m = 24 ∨ m = 25 ∨ m = 26 ∨ m = 27 ∨ m = 28 by omega) with rfl | rfl | rfl | rfl | rfl | rfl | rfl | rfl | rfl | rfl | rfl | rfl | rfl | rfl | rfl | rfl | rfl | rfl | rfl | rfl | rfl | rfl | rfl | rfl | rfl | rfl | rfl | rfl <;> rfl
set_option maxRecDepth 100000 in
set_option maxHeartbeats 8000000 in
theorem rname_ok (m : Nat) (h1 : 1 ≤ m) (h2 : m ≤ 28) (W : World) : Calls Tryz.prog 47 #[.int .i64 (m : Int)] W fun e w' => e = .returned (.string (nmB m)) ∧ Fr [] W w' := by
  have hix := rname_ok_at m h1 h2
  obtain ⟨z, hz⟩ : ∃ z, z = (.string (nmB m) : Value) := ⟨_, rfl⟩
  rw [← hz] at hix ⊢
  obtain ⟨V1, hV1⟩ : ∃ U, (W.alloc (.cells #[.string ⟨#[]⟩, .string ⟨#[]⟩, .string ⟨#[]⟩, .string ⟨#[]⟩, .string ⟨#[]⟩, .string ⟨#[]⟩, .string ⟨#[]⟩, .string ⟨#[]⟩, .string ⟨#[]⟩, .string ⟨#[]⟩, .string ⟨#[]⟩, .string ⟨#[]⟩, .string ⟨#[]⟩, .string ⟨#[]⟩, .string ⟨#[]⟩, .string ⟨#[]⟩, .string ⟨#[]⟩, .string ⟨#[]⟩, .string ⟨#[]⟩, .string ⟨#[]⟩, .string ⟨#[]⟩, .string ⟨#[]⟩, .string ⟨#[]⟩, .string ⟨#[]⟩, .string ⟨#[]⟩, .string ⟨#[]⟩, .string ⟨#[]⟩, .string ⟨#[]⟩, .string ⟨#[]⟩] 119)).setRow W.heap.size #[.string ⟨#[]⟩, .string ⟨#[115, 101, 108, 102]⟩, .string ⟨#[110, 105, 108]⟩, .string ⟨#[116, 114, 117, 101]⟩, .string ⟨#[102, 97, 108, 115, 101]⟩, .string ⟨#[105, 110, 116]⟩, .string ⟨#[108, 105, 116]⟩, .string ⟨#[115, 121, 109]⟩, .string ⟨#[99, 108, 97, 115, 115]⟩, .string ⟨#[102, 105, 101, 108, 100]⟩, .string ⟨#[116, 101, 109, 112]⟩, .string ⟨#[103, 108, 111, 98, 97, 108]⟩, .string ⟨#[115, 116, 111, 114, 101, 102, 105, 101, 108, 100]⟩, .string ⟨#[115, 116, 111, 114, 101, 116, 101, 109, 112]⟩, .string ⟨#[115, 116, 111, 114, 101, 103, 108, 111, 98, 97, 108]⟩, .string ⟨#[112, 111, 112]⟩, .string ⟨#[100, 117, 112]⟩, .string ⟨#[115, 101, 110, 100]⟩, .string ⟨#[115, 117, 112, 101, 114]⟩, .string ⟨#[98, 108, 111, 99, 107]⟩, .string ⟨#[114, 101, 116, 117, 114, 110]⟩, .string ⟨#[104, 111, 109, 101, 114, 101, 116, 117, 114, 110]⟩, .string ⟨#[98, 108, 111, 99, 107, 114, 101, 116, 117, 114, 110]⟩, .string ⟨#[106, 117, 109, 112]⟩, .string ⟨#[105, 102, 116, 114, 117, 101]⟩, .string ⟨#[105, 102, 102, 97, 108, 115, 101]⟩, .string ⟨#[98, 97, 99, 107]⟩, .string ⟨#[102, 105, 114, 115, 116]⟩, .string ⟨#[110, 101, 120, 116]⟩] = U := ⟨_, rfl⟩
  have hb : V1.heap[W.heap.size]? = some (.cells #[.string ⟨#[]⟩, .string ⟨#[115, 101, 108, 102]⟩, .string ⟨#[110, 105, 108]⟩, .string ⟨#[116, 114, 117, 101]⟩, .string ⟨#[102, 97, 108, 115, 101]⟩, .string ⟨#[105, 110, 116]⟩, .string ⟨#[108, 105, 116]⟩, .string ⟨#[115, 121, 109]⟩, .string ⟨#[99, 108, 97, 115, 115]⟩, .string ⟨#[102, 105, 101, 108, 100]⟩, .string ⟨#[116, 101, 109, 112]⟩, .string ⟨#[103, 108, 111, 98, 97, 108]⟩, .string ⟨#[115, 116, 111, 114, 101, 102, 105, 101, 108, 100]⟩, .string ⟨#[115, 116, 111, 114, 101, 116, 101, 109, 112]⟩, .string ⟨#[115, 116, 111, 114, 101, 103, 108, 111, 98, 97, 108]⟩, .string ⟨#[112, 111, 112]⟩, .string ⟨#[100, 117, 112]⟩, .string ⟨#[115, 101, 110, 100]⟩, .string ⟨#[115, 117, 112, 101, 114]⟩, .string ⟨#[98, 108, 111, 99, 107]⟩, .string ⟨#[114, 101, 116, 117, 114, 110]⟩, .string ⟨#[104, 111, 109, 101, 114, 101, 116, 117, 114, 110]⟩, .string ⟨#[98, 108, 111, 99, 107, 114, 101, 116, 117, 114, 110]⟩, .string ⟨#[106, 117, 109, 112]⟩, .string ⟨#[105, 102, 116, 114, 117, 101]⟩, .string ⟨#[105, 102, 102, 97, 108, 115, 101]⟩, .string ⟨#[98, 97, 99, 107]⟩, .string ⟨#[102, 105, 114, 115, 116]⟩, .string ⟨#[110, 101, 120, 116]⟩] 119 (0, 0)) := by rw [← hV1]; exact setRow_heap _ _ _ _ _ _ (heap_alloc_new W _)
  have f1 : Fr [] W V1 := by rw [← hV1]; exact (Fr.alloc [] W _).sr (Nat.le_refl _) _
  have c0 : V1.cell? ⟨W.heap.size, m, none⟩ = some z := (cell_in hb m).trans hix
  have HF := mkHid f1
  have m0 : (0 : Int) ≤ (m : Int) := by omega
  have m1 : (m : Int) < 29 := by omega
  clear hix hz hb f1
  go_enter Tryz.func47, Tryz.ntmps47
  go_wp2_with (refine wpList_store_row rfl 119 _ _ rfl W.heap.size #[.string ⟨#[]⟩, .string ⟨#[115, 101, 108, 102]⟩, .string ⟨#[110, 105, 108]⟩, .string ⟨#[116, 114, 117, 101]⟩, .string ⟨#[102, 97, 108, 115, 101]⟩, .string ⟨#[105, 110, 116]⟩, .string ⟨#[108, 105, 116]⟩, .string ⟨#[115, 121, 109]⟩, .string ⟨#[99, 108, 97, 115, 115]⟩, .string ⟨#[102, 105, 101, 108, 100]⟩, .string ⟨#[116, 101, 109, 112]⟩, .string ⟨#[103, 108, 111, 98, 97, 108]⟩, .string ⟨#[115, 116, 111, 114, 101, 102, 105, 101, 108, 100]⟩, .string ⟨#[115, 116, 111, 114, 101, 116, 101, 109, 112]⟩, .string ⟨#[115, 116, 111, 114, 101, 103, 108, 111, 98, 97, 108]⟩, .string ⟨#[112, 111, 112]⟩, .string ⟨#[100, 117, 112]⟩, .string ⟨#[115, 101, 110, 100]⟩, .string ⟨#[115, 117, 112, 101, 114]⟩, .string ⟨#[98, 108, 111, 99, 107]⟩, .string ⟨#[114, 101, 116, 117, 114, 110]⟩, .string ⟨#[104, 111, 109, 101, 114, 101, 116, 117, 114, 110]⟩, .string ⟨#[98, 108, 111, 99, 107, 114, 101, 116, 117, 114, 110]⟩, .string ⟨#[106, 117, 109, 112]⟩, .string ⟨#[105, 102, 116, 114, 117, 101]⟩, .string ⟨#[105, 102, 102, 97, 108, 115, 101]⟩, .string ⟨#[98, 97, 99, 107]⟩, .string ⟨#[102, 105, 114, 115, 116]⟩, .string ⟨#[110, 101, 120, 116]⟩] rfl rfl 119 _ (heap_alloc_new W _) (by kernel_rfl) rfl (by kernel_rfl) ?_)
  go_ret
  exact ⟨rfl, HF.out⟩
end Go.Proofs.YtclkoffnjiiioaaGreatDoor

namespace Go.Proofs.YtclkoffnjiiioaaGreatDoor
open Go.RowKit
set_option linter.unusedVariables false
set_option linter.unusedSimpArgs false
attribute [local go_sem ↓] Go.wp_at_zero Go.wp_at_succ
/-- the end of a word -/
def twQ (l : Bs) (k : Nat) : Nat := k + ((l.drop k).takeWhile (· != 32)).length
theorem tw_at (l : Bs) (k j : Nat) (hj : j < ((l.drop k).takeWhile (· != 32)).length) : ∃ b, l[k + j]? = some b ∧ ((b.toNat : Int) != 32) = true := by
  obtain ⟨b, h1, h2⟩ := (tw_get (p := (· != 32)) (l.drop k)).1 j hj
  rw [List.getElem?_drop] at h1
  refine ⟨b, h1, ?_⟩
  have hb : b ≠ 32 := by simpa using h2
  have : ¬ (b.toNat : Int) = 32 := fun e => hb (UInt8.toNat_inj.1 (show b.toNat = 32 by omega))
  simpa using this
theorem tw_end (l : Bs) (k : Nat) (hk : k ≤ l.length) : twQ l k = l.length ∨ ∃ b, l[twQ l k]? = some b ∧ ((b.toNat : Int) != 32) = false := by
  rcases (tw_get (p := (· != 32)) (l.drop k)).2 with h | ⟨b, h1, h2⟩
  · left
    unfold twQ
    rw [h, List.length_drop]
    omega
  · right
    rw [List.getElem?_drop] at h1
    refine ⟨b, h1, ?_⟩
    have hb : b = 32 := by simpa using h2
    rw [hb]
    rfl
theorem tw_le (l : Bs) (k : Nat) (hk : k ≤ l.length) : k ≤ twQ l k ∧ twQ l k ≤ l.length := by
  unfold twQ
  have := (List.takeWhile_prefix (l := l.drop k) (· != 32)).length_le
  rw [List.length_drop] at this
  omega
theorem tq_drop (l : Bs) (k : Nat) : l.drop (twQ l k) = (l.drop k).dropWhile (· != 32) := by
  unfold twQ
  rw [← List.drop_drop]
  generalize l.drop k = x
  have h := List.takeWhile_append_dropWhile (p := (· != 32)) (l := x)
  conv => lhs; arg 2; rw [← h]
  exact List.drop_left
theorem tq_take (l : Bs) (k : Nat) : (l.drop k).take (twQ l k - k) = (l.drop k).takeWhile (· != 32) := by
  unfold twQ
  rw [Nat.add_sub_cancel_left]
  generalize l.drop k = x
  have h := List.takeWhile_append_dropWhile (p := (· != 32)) (l := x)
  conv => lhs; arg 2; rw [← h]
  exact List.take_left
/-- so far the operations have been looked at -/
def opTo (b : Bs) (bad : Bool) (i : Nat) : Nat := if bad = true then 0 else if opN b < i then opN b else 0
theorem opN_28 (b : Bs) : opN b ≤ 28 := by
  by_cases h : opN b = 0
  · omega
  · exact (opN_some h).2.1
theorem op_hit {b : Bs} {i : Nat} (h1 : 1 ≤ i) (h2 : i ≤ 28) : (nmB i).data.toList = b ↔ opN b = i := by
  constructor
  · intro h
    rw [← h]
    exact (nm_is i (by omega)).2 h1
  · intro h
    have := (opN_some (b := b) (by omega)).2.2
    rw [h] at this
    exact this
/-- what an instruction's numbers come to -/
def finN (o : Nat) (R : Option (List Int × Bs)) : Option (List Int) := match R with
  | some (ns, []) => some ((o : Int) :: ns)
  | _ => none
theorem ins_no {l : Bs} {m : Nat} (h : tokP (Lib.itoa (m : Int) ++ [32]) l = none) : insD l m = none := by
  unfold insD
  rw [h]
theorem ins_op {l r1 : Bs} {m : Nat} (h : tokP (Lib.itoa (m : Int) ++ [32]) l = some r1) (h0 : opN (r1.takeWhile (· != 32)) = 0 ∨ 4096 < m + 1 + opd (opN (r1.takeWhile (· != 32)))) : insD l m = none := by
  unfold insD
  rw [h]
  simp only
  rw [if_pos h0]
theorem ins_yes {l r1 : Bs} {m : Nat} (h : tokP (Lib.itoa (m : Int) ++ [32]) l = some r1) (h0 : ¬ (opN (r1.takeWhile (· != 32)) = 0 ∨ 4096 < m + 1 + opd (opN (r1.takeWhile (· != 32))))) : insD l m = finN (opN (r1.takeWhile (· != 32))) (numsQ (opd (opN (r1.takeWhile (· != 32)))) (r1.dropWhile (· != 32))) := by
  unfold insD finN
  rw [h]
  simp only
  rw [if_neg h0]
  rfl
/-- one number more -/
def upN (ns : List Int) (R : Option (List Int × Bs)) : Option (List Int × Bs) := match R with
  | none => none
  | some (l, z) => some (ns ++ l, z)
theorem upN_nil (R : Option (List Int × Bs)) : upN [] R = R := by cases R <;> rfl
theorem nums_step {k : Nat} {s s1 s2 : Option Bs} {v : Int} {ns : List Int} (h1 : s1 = s.bind (tokP [32])) (h2 : s2.map (fun y => (v, y)) = s1.bind numQ) : (s.bind (numsQ (k + 1))).elim none (fun q => some q) = (s2.bind (numsQ k)).elim none (fun q => some (v :: q.1, q.2)) := by
  cases s with
  | none =>
    subst h1
    cases s2 with
    | none => rfl
    | some y => cases h2
  | some x =>
    rw [Option.bind_some] at h1 ⊢
    rw [numsQ]
    cases s1 with
    | none =>
      rw [← h1]
      cases s2 with
      | none => rfl
      | some y => cases h2
    | some y =>
      rw [← h1]
      simp only
      rw [Option.bind_some] at h2
      cases s2 with
      | none => rw [← h2]; rfl
      | some z =>
        rw [← h2, Option.bind_some]
        simp only [Option.map_some]
        cases numsQ k z with
        | none => rfl
        | some q => rfl
/-- the numbers of an instruction under way -/
def NmS (T : Option (List Int × Bs)) (j : Nat) (ns : List Int) (s : Option Bs) : Prop := T = upN ns (s.bind (numsQ j))
theorem NmS.step {T : Option (List Int × Bs)} {j : Nat} {ns : List Int} {s s1 s2 : Option Bs} {v : Int} (h : NmS T (j + 1) ns s) (h1 : s1 = s.bind (tokP [32])) (h2 : s2.map (fun y => (v, y)) = s1.bind numQ) : NmS T j (ns ++ [v]) s2 := by
  unfold NmS at h ⊢
  have e := nums_step (k := j) (ns := ns) h1 h2
  rw [h]
  cases ha : s.bind (numsQ (j + 1)) with
  | none =>
    rw [ha] at e
    cases hb : s2.bind (numsQ j) with
    | none => rfl
    | some q => rw [hb] at e; cases e
  | some q =>
    rw [ha] at e
    cases hb : s2.bind (numsQ j) with
    | none => rw [hb] at e; cases e
    | some q' =>
      rw [hb] at e
      simp only [Option.elim_some, Option.some.injEq] at e
      rw [e]
      unfold upN
      simp
theorem NmS.fin {T : Option (List Int × Bs)} {ns : List Int} {s : Option Bs} {o : Nat} (h : NmS T 0 ns s) : finN o T = if s = some [] then some ((o : Int) :: ns) else none := by
  unfold NmS at h
  rw [h]
  cases s with
  | none => rfl
  | some y =>
    rw [Option.bind_some, numsQ]
    unfold upN finN
    simp only [List.append_nil]
    cases y with
    | nil => rfl
    | cons c z => simp
/-- the words of a code under way: a word more -/
theorem word_push {W V : World} {B gc g8 r k d : Nat} {bad : Bool} {a t s lv : Value} {l : Bs} {pw p : Option Addr} {c : Nat} {ws : List Int} (v : Int) (hB : B ≤ W.heap.size) (hrw : W.heap.size ≤ r ∧ W.heap.size ≤ gc ∧ W.heap.size ≤ g8) (hL : LB V gc g8 r #[a, t, s, lv, .slice p ws.length c] l k d bad) (hrow : V.ownsRow B 3 1 (.slice p ws.length c) ws.length (ws.map (Value.int .i64))) (hF : Fr (blk pw) W V) (hp : ∀ g ∈ blk p, g ∈ blk pw ∨ (gc < g ∧ g8 < g ∧ r < g)) (hpw : ∀ g ∈ blk pw, g < W.heap.size) (hw : ws.length ≤ 5000) (n1 : gc ≠ r) (n3 : g8 ≠ gc) :
    ∃ p2 c2 w5, (Builtin.append_ #[23, 23] 23 #[.slice p ws.length c, .slice (some ⟨V.heap.size, 0, none⟩) 1 1]).run Tryz.prog (V.alloc (.cells #[.int .i64 v] 3)) = .ok (.slice p2 (ws.length + 1) c2) w5 ∧ w5.heap[gc]? = some (.cells #[a, t, s, lv, .slice p ws.length c] 25 (0, 0)) ∧
      LB (w5.setCell ⟨gc, 4, none⟩ (.slice p2 (ws.length + 1) c2)) gc g8 r #[a, t, s, lv, .slice p2 (ws ++ [v]).length c2] l k d bad ∧ (w5.setCell ⟨gc, 4, none⟩ (.slice p2 (ws.length + 1) c2)).ownsRow B 3 1 (.slice p2 (ws ++ [v]).length c2) (ws ++ [v]).length ((ws ++ [v]).map (Value.int .i64)) ∧ Fr (blk pw) W (w5.setCell ⟨gc, 4, none⟩ (.slice p2 (ws.length + 1) c2)) ∧ (∀ g ∈ blk p2, g ∈ blk pw ∨ (gc < g ∧ g8 < g ∧ r < g)) := by
  obtain ⟨h1, h2, h3⟩ := hrw
  have hsz := hF.size
  obtain ⟨p2, c2, w5, hr5, ho, hm⟩ := push_int V B p c ws v hrow (by omega) (by omega)
  have hnp : ∀ g, W.heap.size ≤ g → g < V.heap.size → (g = gc ∨ g = g8 ∨ g = r) → g ∉ blk p := fun g hg hgv he hmem => by
    rcases hp g hmem with q | q
    · have := hpw g q; omega
    · omega
  have lgc := lt_of_heap hL.c
  have lg8 := lt_of_heap hL.z
  have lr := hL.q.lt
  have f5 : Fr (blk p) V w5 := by
    rcases hm with ⟨-, -, q⟩ | ⟨q, -⟩
    · exact q
    · exact q.mono (by simp)
  have hp2 : ∀ g ∈ blk p2, g ∈ blk pw ∨ (gc < g ∧ g8 < g ∧ r < g) := fun g hg => by
    rcases hm with ⟨q, -, -⟩ | ⟨-, q⟩
    · rw [q] at hg; exact hp g hg
    · right; have := q g hg; omega
  have hl5 : LB w5 gc g8 r _ l k d bad := ⟨(f5.block gc lgc (hnp gc h2 lgc (.inl rfl))).trans hL.c, (f5.block g8 lg8 (hnp g8 h3 lg8 (.inr (.inl rfl)))).trans hL.z, hL.q.fr f5 (hnp r h1 lr (.inr (.inr rfl)))⟩
  have fs : Fr [gc] w5 (w5.setCell ⟨gc, 4, none⟩ (.slice p2 (ws.length + 1) c2)) := Fr.setCell (S := [gc]) w5 ⟨gc, 4, none⟩ _ (by simp)
  have hlen : (ws ++ [v]).length = ws.length + 1 := by simp
  refine ⟨p2, c2, w5, hr5, hl5.c, by rw [hlen]; exact hl5.set n1 n3 4 _, own_congr ho fun g hg => fs.block g (own_lt ho g hg).2 (fun hm => ?_), ?_, hp2⟩
  · have e : g = gc := by simpa using hm
    have hmem := (blk_own _ _ _ _).1 hg
    rw [e] at hmem
    rcases hp2 gc hmem with q | q
    · have := hpw gc q; omega
    · omega
  · refine (hF.trans f5 (fun g hg => ?_)).trans fs (fun g hg => .inr (by simp at hg; omega))
    rcases hp g hg with q | q
    · exact .inl q
    · exact .inr (by omega)
/-- what the reading of an instruction's line leaves -/
def L2R (W : World) (B : Nat) (K : Co) (lp : Option Addr) (lc : Nat) (pw : Option Addr) (l : Bs) (e : Ending) (w' : World) : Prop :=
  ∃ (vs : List Int) (ok : Bool) (pw' : Option Addr) (cw' : Nat), e = .returned (.tuple #[.agg (({ K with ws := K.ws ++ vs } : Co).v lp lc pw' cw'), .int .i64 2, .bool ok]) ∧ Fr (blk pw) W w' ∧ (ok = true → w'.ownsRow B 3 1 (.slice pw' (K.ws ++ vs).length cw') (K.ws ++ vs).length ((K.ws ++ vs).map (Value.int .i64))) ∧ insD l K.ws.length = if ok = true then some vs else none
end Go.Proofs.YtclkoffnjiiioaaGreatDoor

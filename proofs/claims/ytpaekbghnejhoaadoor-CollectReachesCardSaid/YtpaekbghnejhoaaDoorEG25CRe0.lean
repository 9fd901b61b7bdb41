import Derived.Test.YtpaekbghnejhoaaDoorEG22KAdd
import Derived.Test.YtpaekbghnejhoaaDoorEG23KFull
import Derived.Test.YtpaekbghnejhoaaDoorEKRight
namespace Go.Proofs.YtpaekbghnejhoaaDoor
open Go.RowKit
set_option linter.unusedVariables false
set_option linter.unusedSimpArgs false
attribute [local go_sem ↓] Go.wp_at_zero Go.wp_at_succ
/-- a list of oops as it is told -/
def Tol (w0 : World) (w : World) (v : Value) (ls : List Nat) : Prop := w.ownsRow w0.heap.size 3 1 v ls.length (ls.map I)
/-- the two heaps, nil or not: what they tell in every later world -/
structure Hp (w1 : World) (P Q : Option Addr) (E : Int) (IsR : List Int → List Nat → Prop) : Prop where
  reach : ∀ w, Fr [] w1 w → ∀ (p : Option Addr) (c : Nat) (roots : List Int), Rd w (.slice p roots.length c) roots → Calls Tryd.prog 19 #[.pointer P, .slice p roots.length c] w fun e w' => ∃ v ls, e = .returned (.tuple #[v, .int .i64 E]) ∧ IsR roots ls ∧ Tol w w' v ls ∧ Fr [] w w'
  rreach : ∀ w, Fr [] w1 w → ∀ (p : Option Addr) (c : Nat) (roots : List Int), Rd w (.slice p roots.length c) roots → Calls Tryd.prog 28 #[.pointer Q, .slice p roots.length c] w fun e w' => ∃ v ls, e = .returned (.tuple #[v, .int .i64 E]) ∧ IsR roots ls ∧ Tol w w' v ls ∧ Fr [] w w'
  one : ∀ roots l1 l2, IsR roots l1 → IsR roots l2 → l1 = l2
  len : ∀ roots l, IsR roots l → l.length ≤ 65538
  err : E = 0 ∨ E = 2
  told : ∃ (x y z : Nat) (ks : List Key), (∀ w, Fr [] w1 w → Calls Tryd.prog 12 #[.pointer P] w fun e w' => ∃ ov ls, e = .returned (.agg #[.int .i64 (x : Int), .int .i64 (y : Int), .int .i64 (z : Int), ov]) ∧ SAt w' ov ls ∧ ls.map oiKey = ks ∧ Fr [] w w') ∧
    (∀ w, Fr [] w1 w → Calls Tryd.prog 30 #[.pointer Q] w fun e w' => ∃ ov ls, e = .returned (.agg #[.int .i64 (x : Int), .int .i64 (y : Int), .int .i64 (z : Int), ov]) ∧ SAt w' ov ls ∧ ls.map oiKey = ks ∧ Fr [] w w')
theorem hp_nil (w1 : World) : Hp w1 none none 2 (fun _ ls => ls = []) where
  reach w hw p c roots hr := (Reach_nil _ w).mono fun e w' ⟨h1, h2⟩ => ⟨_, [], h1, rfl, World.ownsRow_nil _ _ _ _, h2⟩
  rreach w hw p c roots hr := (rReach_nil _ w).mono fun e w' ⟨h1, h2⟩ => ⟨_, [], h1, rfl, World.ownsRow_nil _ _ _ _, by rw [h2]; exact Fr.refl _ _⟩
  one roots l1 l2 h1 h2 := h1.trans h2.symm
  len roots l h := by rw [h]; simp
  err := .inr rfl
  told := ⟨0, 0, 0, [], fun w hw => (State_nil w).mono fun e w' ⟨h1, h2⟩ => ⟨_, [], h1, sat_nil _, rfl, h2⟩, fun w hw => (rState_nil w).mono fun e w' ⟨h1, h2⟩ => ⟨_, [], h1, sat_nil _, rfl, h2⟩⟩
theorem hp_some {w1 : World} {a : Nat} {l : Lay} {B r N : Nat} {words oops mark : Nat} {ks : List Key} {H : HS} {M : MS} {R : RS} (h : Twin w1 a l B r N words oops mark ks H M R) (hT : Tab w1) (hT0 : 0 < w1.heap.size) :
    Hp w1 (some ⟨a, 0, none⟩) (some ⟨r, 0, none⟩) 0 (fun roots st => Sts H M roots st) where
  reach w hw p c roots hr := (Reach_ok a l H M p c roots w (h.rep.keep hw (by simp)) h.ka.inv (hT.fr hw hT0) hr).mono fun e w' ⟨v, h1, rs, h2, h3, h4⟩ => ⟨v, stays H rs, h1, ⟨rs, h2, rfl⟩, h3, h4⟩
  rreach w hw p c roots hr := (rReach_ok H M B r R p c roots w (h.rrep.idle hw) (h.rk.ok h.ka) (twin_tw h.ka h.rk) (twin_one h.ka h.rk) h.ka.inv (twin_ras h.ka h.rk) hr).mono fun e w' ⟨v, h1, rs, h2, h3, h4⟩ => ⟨v, stays H rs, h1, ⟨rs, h2, rfl⟩, h3, h4⟩
  one roots l1 l2 h1 h2 := h1.one h2
  len roots l h2 := by
    obtain ⟨rs, -, rfl⟩ := h2
    have h3 : (stays H rs).length ≤ (allTo H H.seats.length).length := List.length_filter_le _ _
    have h4 := allTo_len H H.seats.length
    have h5 := h.ka.inv.told.seats
    omega
  err := .inl rfl
  told := ⟨words, oops, mark, ks, fun w hw => (state_of (h.rep.keep hw (by simp)) h.ka).mono fun e w' ⟨p, c, lo, h1, h2, h3⟩ => ⟨_, _, h1, h2.sat, h2.keys, h3⟩, fun w hw => (rState_of (h.rrep.idle hw) h.rk h.ka).mono fun e w' ⟨p, c, lo, h1, h2, h3⟩ => ⟨_, _, h1, h2.sat, h2.keys, h3⟩⟩
/-- both heaps, loaded -/
theorem hp_loaded (x y z : Int) (ov : Value) (la : List OI) (w : World) (ha : SAt w ov la) (hT : Tab w) (hT0 : 0 < w.heap.size) :
    Calls Tryd.prog 26 #[.agg #[.int .i64 x, .int .i64 y, .int .i64 z, ov]] w fun e w' => ∃ (P Q : Option Addr) (E : Int) (IsR : List Int → List Nat → Prop), e = .returned (.tuple #[.pointer P, .pointer Q, .bool true]) ∧ Hp w' P Q E IsR ∧ Fr [] w w' := by
  refine (loaded_ok x y z ov la w ha hT hT0).mono ?_
  rintro e w' (⟨rfl, hf⟩ | ⟨xn, yn, zn, a, B, r, l, H, M, R, rfl, htw, hturn, hf, hnew, hB1, hB2⟩)
  · exact ⟨none, none, 2, _, rfl, hp_nil w', hf⟩
  · exact ⟨_, _, 0, _, rfl, hp_some htw (hT.fr hf hT0) (Nat.lt_of_lt_of_le hT0 hf.size), hf⟩
set_option maxHeartbeats 1000000 in
theorem numbers_ok (B b : Nat) (Is Ms : List Le) (Ks : List Int) (vI vM vK x : Le) (xs : List Int) (w : World) (h : Bk w B b Is Ms Ks vI vM vK) (hl : xs.length = x.n) (hx : w.ownsRow B 3 1 x.v x.n (xs.map (Value.int .i64))) (hs : x.n ≤ 17592186043904) (hk : Ks.length ≤ 1000000)
    (aK : ∀ g ∈ blk x.p, g ∉ blk vK.p) (aI : ∀ g ∈ blk x.p, ∀ j, j < Ks.length → g ∉ blk (Is.getD j noLe).p) (aM : ∀ g ∈ blk x.p, ∀ j, j < Ms.length → g ∉ blk (Ms.getD j noLe).p) (hB : B ≤ w.heap.size) :
    Calls Tryd.prog 31 #[.pointer (some ⟨b, 0, none⟩), x.v] w fun e w' => e = .returned (.tuple #[]) ∧ ∃ vI' vK', Bk w' B b (Is ++ [x]) Ms (Ks ++ [markOfN Ks.length]) vI' vM vK' ∧ (∀ g ∈ blk vI'.p, g ∈ blk vI.p ∨ w.heap.size ≤ g) ∧ (∀ g ∈ blk vK'.p, g ∈ blk vK.p ∨ w.heap.size ≤ g) ∧ Fr (blk x.p ++ b :: (blk vI.p ++ blk vK.p)) w w' := by
  have HI := mkHid (ints_ok B b Is Ms Ks vI vM vK x xs w h hl hx hs hk aK aI aM hB)
  clear h hl hx hs hk aK aI aM hB
  go_enter Tryd.func31, Tryd.ntmps31
  go_wp2_with fail
  refine Calls.mono HI.out ?_
  rintro e w' ⟨rfl, h⟩
  have H2 := mkHid h
  clear h HI
  go_wp2_with fail
  go_end0
  exact ⟨rfl, H2.out⟩
set_option maxHeartbeats 1000000 in
theorem Right_ok (B b : Nat) (Is Ms : List Le) (Ks : List Int) (vI vM vK : Le) (w : World) (h : Bk w B b Is Ms Ks vI vM vK) (hk : Ks.length ≤ 1000000) (hn : ∀ i, i < Ks.length → (Is.getD i noLe).n ≤ 1000000) (hB : B ≤ w.heap.size) :
    Calls Tryd.prog 32 #[.pointer (some ⟨b, 0, none⟩)] w fun e w' => e = .returned (.bool true) ∧ ∃ Ms' vM', Ms'.length = Ks.length ∧ Bk w' B b Is Ms' Ks vI vM' vK ∧ Fr (gFoot b vM Is) w w' := by
  have HI := mkHid (right_ok B b Is Ms Ks vI vM vK w h hk hn hB)
  clear h hk hn hB
  go_enter Tryd.func32, Tryd.ntmps32
  go_wp2_with fail
  refine Calls.mono HI.out ?_
  rintro e w' ⟨rfl, h⟩
  have H2 := mkHid h
  clear h HI
  go_wp2_with fail
  go_ret
  exact ⟨rfl, H2.out⟩
end Go.Proofs.YtpaekbghnejhoaaDoor
namespace Go.Proofs.YtpaekbghnejhoaaDoor
open Go.RowKit
set_option linter.unusedVariables false
set_option linter.unusedSimpArgs false
/-- a list of oops that was told, and where it lies -/
structure Lst (w : World) (lo hi : Nat) (x : Le) (ls : List Nat) : Prop where
  own : w.ownsRow lo 3 1 x.v x.n (ls.map I)
  n : x.n = ls.length
  at_ : ∀ g ∈ blk x.p, lo ≤ g ∧ g < hi
  len : ls.length ≤ 65538
theorem Tol.lst {w0 w : World} {v : Value} {ls : List Nat} (h : Tol w0 w v ls) (hl : ls.length ≤ 65538) : ∃ x : Le, v = x.v ∧ Lst w w0.heap.size w.heap.size x ls := by
  obtain ⟨p, c, rfl⟩ := row_is h
  refine ⟨⟨p, ls.length, c⟩, rfl, h, rfl, fun g hg => ?_, hl⟩
  obtain ⟨h1, cur, h2⟩ := le_own (x := ⟨p, ls.length, c⟩) h hg
  exact ⟨h1, lt_of_heap h2⟩
theorem Lst.keep {w w' : World} {lo hi : Nat} {x : Le} {ls : List Nat} {S : List Nat} (h : Lst w lo hi x ls) (hf : Fr S w w') (hd : ∀ g ∈ S, g < lo ∨ hi ≤ g) : Lst w' lo hi x ls :=
  ⟨ow_keep h.own hf fun g hg hm => by have := h.at_ g hg; have := hd g hm; omega, h.n, h.at_, h.len⟩
theorem Lst.idle {w w' : World} {lo hi : Nat} {x : Le} {ls : List Nat} (h : Lst w lo hi x ls) (hf : Fr [] w w') : Lst w' lo hi x ls := h.keep hf (by simp)
theorem Lst.rd {w : World} {lo hi : Nat} {x : Le} {ls : List Nat} (h : Lst w lo hi x ls) : Rd w x.v (zs ls) := by
  have h1 := h.own
  rw [I_map, h.n] at h1
  have e : (zs ls).length = ls.length := by simp [zs]
  have h2 : w.ownsRow lo 3 1 x.v (zs ls).length ((zs ls).map (Value.int .i64)) := by rw [e]; exact h1
  exact own_rd h2 (by rw [e]; have := h.len; omega)
theorem same_lst {w : World} {l1 h1 l2 h2 : Nat} {x y : Le} {ls : List Nat} (hx : Lst w l1 h1 x ls) (hy : Lst w l2 h2 y ls) :
    Calls Tryd.prog 23 #[x.v, y.v] w fun e w' => e = .returned (.bool true) ∧ Fr [] w w' :=
  (sameInts_ok (zs ls) x.v y.v w hx.rd hy.rd).mono fun e w' ⟨h3, n, h4⟩ => ⟨h3, by rw [h4]; exact Fr.drewN [] _ _⟩
/-- what the law has in hand -/
structure Rs3 (w1 : World) (B g cg n : Nat) (gs : List Int) (w : World) : Prop where
  fr : Fr [] w1 w
  gv : w.ownsRow w1.heap.size 40 1 (.slice (some ⟨g, 0, none⟩) (n + 2) cg) (n + 2) (gs.map (Value.int .i64))
  gB : g < B
  lo : w1.heap.size ≤ B
theorem Rs3.keep {w1 w w' : World} {B g cg n : Nat} {gs : List Int} {S : List Nat} (h : Rs3 w1 B g cg n gs w) (hf : Fr S w w') (hd : ∀ b ∈ S, B ≤ b) : Rs3 w1 B g cg n gs w' :=
  ⟨h.fr.trans hf fun b hb => .inr (Nat.le_trans h.lo (hd b hb)), own_congr h.gv fun b hb => hf.block b (h.gv.lt b hb).2 (fun hm => by
    have e : g = b := by simpa [Value.ownBlock] using hb
    have := hd b hm
    have := h.gB
    omega), h.gB, h.lo⟩
theorem Rs3.idle {w1 w w' : World} {B g cg n : Nat} {gs : List Int} (h : Rs3 w1 B g cg n gs w) (hf : Fr [] w w') : Rs3 w1 B g cg n gs w' := h.keep hf (by simp)
/-- an empty book -/
theorem Bk.new {w : World} {B b : Nat} (hb : w.heap[b]? = some (.cells #[N0, N0, N0, N0, N0, N0, N0, N0, N0] 70 (0, 0))) (hB : B ≤ b) : Bk w B b [] [] [] noLe noLe noLe where
  lo := hB
  top := hb
  nI := rfl
  nM := rfl
  nK := rfl
  rI := World.ownsRow_nil _ _ _ _
  rM := World.ownsRow_nil _ _ _ _
  rK := World.ownsRow_nil _ _ _ _
  len := rfl
  lem := Nat.le_refl _
  ne := fun g hg => by simp [noLe, blk] at hg
  ints := fun i hi => by simp at hi
  more := fun i hi => by simp at hi
  neI := fun i hi => by simp at hi
  neM := fun i hi => by simp at hi
  own := fun i _ hi => by simp at hi
  apI := fun i _ hi => by simp at hi
  apM := fun i _ hi => by simp at hi
end Go.Proofs.YtpaekbghnejhoaaDoor

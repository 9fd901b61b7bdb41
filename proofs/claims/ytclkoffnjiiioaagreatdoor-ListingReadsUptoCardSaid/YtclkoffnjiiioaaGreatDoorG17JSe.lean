import Derived.Test.YtclkoffnjiiioaaGreatDoorG16JSc
import Derived.Test.YtclkoffnjiiioaaGreatDoorG09JRdD
import Derived.Test.YtclkoffnjiiioaaGreatDoorG01IPm
namespace Go.Proofs.YtclkoffnjiiioaaGreatDoor
open Go.RowKit
set_option linter.unusedVariables false
set_option linter.unusedSimpArgs false
theorem own_lift {w : World} {B B' : Nat} {e : TypeId} {s n : Nat} {v : Value} {xs : List Value} (h : w.ownsRow B e s v n xs) (hB : ∀ g, v.ownBlock = some g → B' ≤ g) : w.ownsRow B' e s v n xs := by
  refine ⟨h.1, ?_⟩
  rcases h.2 with q | ⟨g, cap, cur, e, q1, q2⟩
  · exact .inl q
  · exact .inr ⟨g, cap, cur, e, hB g (by rw [e]; rfl), q2⟩
theorem llL_mem {v : Value} : ∀ {ts : List LitT}, v ∈ llL ts → ∃ t ∈ ts, v ∈ llT t
  | [], h => by rw [llL_nil] at h; cases h
  | t :: ts, h => by
    rw [llL_cons] at h
    rcases List.mem_append.1 h with h | h
    · exact ⟨t, by simp, h⟩
    · obtain ⟨u, hu, hg⟩ := llL_mem h
      exact ⟨u, by simp [hu], hg⟩
theorem lls_each {w : World} {Ok : Nat → Prop} {p : Option Addr} {c : Nat} {ts : List LitT} (h : LitsX w Ok p c ts) : ∀ v ∈ lls p c ts, ∃ p n c, v = .slice p n c ∧ n ≤ 2513169434916 ∧ (∃ xs, w.ownsRow 0 49 4 v n xs) ∧ ∀ g, v.ownBlock = some g → Ok g := by
  induction h with
  | mk p c ts own ok nd short txt kids ih =>
    intro v hv
    unfold lls at hv
    rcases List.mem_cons.1 hv with rfl | hv
    · exact ⟨p, ts.length, c, rfl, short, ⟨_, own⟩, fun g hg => ok g ((blk_own _ _ _ _).1 hg)⟩
    · obtain ⟨t, ht, hv⟩ := llL_mem hv
      have hk : t.kids.length ≠ 0 := fun e => by rw [llT_at, if_pos e] at hv; cases hv
      exact ih t ht v (by rw [lls_kids t hk]; exact hv)
mutual
theorem llT_sub : ∀ (t : LitT), ((llT t).flatMap vb).Sublist (ftT t)
  | .mk k x m p c ts => by
    rw [llT, ftT]
    split
    · exact List.nil_sublist _
    · rw [List.flatMap_cons, vb_slice]
      exact (List.Sublist.refl _).append (llL_sub ts)
theorem llL_sub : ∀ (ts : List LitT), ((llL ts).flatMap vb).Sublist (ftL ts)
  | [] => by rw [llL, ftL]; exact List.nil_sublist _
  | t :: ts => by
    rw [llL, ftL, List.flatMap_append]
    exact (llT_sub t).append (llL_sub ts)
end
theorem apart_of : ∀ {vs : List Value}, (vs.flatMap vb).Nodup → ∀ (i j : Nat) (vi vj : Value), i ≠ j → vs[i]? = some vi → vs[j]? = some vj → ∀ g, vi.ownBlock = some g → vj.ownBlock ≠ some g
  | [], h, i, j, vi, vj, hij, hi, hj, g, hg => by simp at hi
  | v :: vs, h, i, j, vi, vj, hij, hi, hj, g, hg => by
    rw [List.flatMap_cons, List.nodup_append] at h
    have key : ∀ (k : Nat) (vk : Value), vs[k]? = some vk → ∀ g, v.ownBlock = some g → vk.ownBlock ≠ some g := fun k vk hk g hg hk2 => h.2.2 g (vb_mem.2 hg) g (List.mem_flatMap.2 ⟨vk, List.mem_of_getElem? hk, vb_mem.2 hk2⟩) rfl
    cases i with
    | zero =>
      have e : v = vi := by simpa using hi
      subst e
      cases j with
      | zero => exact absurd rfl hij
      | succ j => exact key j vj (by simpa using hj) g hg
    | succ i =>
      cases j with
      | zero =>
        have e : v = vj := by simpa using hj
        subst e
        intro hg2
        exact key i vi (by simpa using hi) g hg2 hg
      | succ j => exact apart_of h.2.1 i j vi vj (by omega) (by simpa using hi) (by simpa using hj) g hg
/-- lists of literals, each in a block of its own; of number j so many are written -/
structure LkR (w : World) (lim : Nat) (vs : List Value) (m0 : Int) (done : Nat → Nat) : Prop where
  each : ∀ (j : Nat) (v : Value), vs[j]? = some v → ∃ p n c, v = .slice p n c ∧ n ≤ 2513169434916 ∧ MkR w lim v (m0 - (j : Int)) n (min (done j) n)
  apart : ∀ (i j : Nat) (vi vj : Value), i ≠ j → vs[i]? = some vi → vs[j]? = some vj → ∀ g, vi.ownBlock = some g → vj.ownBlock ≠ some g
theorem LkR.of {w : World} {lim : Nat} {p : Option Addr} {c : Nat} {ts : List LitT} (h : LitsX w (fun g => lim ≤ g) p c ts) (m0 : Int) : LkR w lim (lls p c ts) m0 (fun _ => 0) := by
  refine ⟨fun j v hv => ?_, apart_of ?_⟩
  · obtain ⟨p, n, c, e, h1, ⟨xs, h2⟩, h3⟩ := lls_each h v (List.mem_of_getElem? hv)
    refine ⟨p, n, c, e, h1, ?_⟩
    rw [Nat.min_eq_left (Nat.zero_le _)]
    exact MkR.zero (own_lift h2 h3)
  · have := h.top.2.1
    unfold lls
    rw [List.flatMap_cons, vb_slice]
    exact ((List.Sublist.refl _).append (llL_sub ts)).nodup this
theorem LkR.fr {w w' : World} {lim : Nat} {vs : List Value} {m0 : Int} {done : Nat → Nat} {S : List Nat} (h : LkR w lim vs m0 done) (f : Fr S w w') (hS : ∀ v ∈ vs, ∀ g, v.ownBlock = some g → g ∉ S) : LkR w' lim vs m0 done :=
  ⟨fun j v hv => by
    obtain ⟨p, n, c, e, h1, h2⟩ := h.each j v hv
    exact ⟨p, n, c, e, h1, h2.fr f (hS v (List.mem_of_getElem? hv))⟩, h.apart⟩
/-- all of the first i lists, and of number i so many -/
def dn (i k : Nat) : Nat → Nat := fun j => if j < i then 3000000000000 else if j = i then k else 0
/-- the next literal of number i is written -/
theorem LkR.step {w : World} {lim : Nat} {vs : List Value} {m0 : Int} {i k : Nat} (h : LkR w lim vs m0 (dn i k)) {g n c : Nat} (hv : vs[i]? = some (.slice (some ⟨g, 0, none⟩) n c)) (hk : k < n) :
    (∀ j, j < 4 → ∃ v, w.cell? ⟨g, k * 4 + j, none⟩ = some v) ∧ (∀ j, w.frozen? ⟨g, j, none⟩ = false) ∧ LkR ((((w.setCell ⟨g, k * 4, none⟩ (.int .i64 (m0 - (i : Int)))).setCell ⟨g, k * 4 + 1, none⟩ (.string ⟨#[]⟩)).setCell ⟨g, k * 4 + 2, none⟩ (.int .i64 0)).setCell ⟨g, k * 4 + 3, none⟩ (.slice none 0 0)) lim vs m0 (dn i (k + 1)) ∧
      Fr [g] w ((((w.setCell ⟨g, k * 4, none⟩ (.int .i64 (m0 - (i : Int)))).setCell ⟨g, k * 4 + 1, none⟩ (.string ⟨#[]⟩)).setCell ⟨g, k * 4 + 2, none⟩ (.int .i64 0)).setCell ⟨g, k * 4 + 3, none⟩ (.slice none 0 0)) := by
  obtain ⟨p, n', c', e, h1, h2⟩ := h.each i _ hv
  injection e with e1 e2 e3
  subst e2
  have hd : dn i k i = k := by unfold dn; rw [if_neg (by omega), if_pos rfl]
  rw [hd, Nat.min_eq_left (by omega)] at h2
  obtain ⟨s1, s2, s3, s4⟩ := h2.step hk
  refine ⟨s1, s2, ⟨fun j v hj => ?_, h.apart⟩, s4⟩
  by_cases hij : j = i
  · subst hij
    rw [hv] at hj
    injection hj with hj
    subst hj
    refine ⟨_, n, c, rfl, h1, ?_⟩
    have hd2 : dn j (k + 1) j = k + 1 := by unfold dn; rw [if_neg (by omega), if_pos rfl]
    rw [hd2, Nat.min_eq_left (by omega)]
    exact s3
  · obtain ⟨p, n2, c2, e, h3, h4⟩ := h.each j v hj
    have hd2 : dn i (k + 1) j = dn i k j := by
      unfold dn
      by_cases q : j < i
      · rw [if_pos q, if_pos q]
      · rw [if_neg q, if_neg q, if_neg hij, if_neg hij]
    refine ⟨p, n2, c2, e, h3, ?_⟩
    rw [hd2]
    exact h4.fr s4 (fun g' hg' hm => by
      have e2 : g' = g := by simpa using hm
      rw [e2] at hg'
      exact h.apart i j _ _ (fun q => hij q.symm) hv hj g rfl hg')
theorem LkR.next {w : World} {lim : Nat} {vs : List Value} {m0 : Int} {i k : Nat} (h : LkR w lim vs m0 (dn i k)) {p : Option Addr} {n c : Nat} (hv : vs[i]? = some (.slice p n c)) (hk : n ≤ k) : LkR w lim vs m0 (dn (i + 1) 0) := by
  refine ⟨fun j v hj => ?_, h.apart⟩
  obtain ⟨p2, n2, c2, e, h3, h4⟩ := h.each j v hj
  refine ⟨p2, n2, c2, e, h3, ?_⟩
  by_cases hij : j = i
  · subst hij
    rw [hv] at hj
    injection hj with hj
    rw [← hj] at e
    injection e with _ e2 _
    subst e2
    have a1 : dn j k j = k := by unfold dn; rw [if_neg (by omega), if_pos rfl]
    have a2 : dn (j + 1) 0 j = 3000000000000 := by unfold dn; rw [if_pos (by omega)]
    rw [a1, Nat.min_eq_right hk] at h4
    rw [a2, Nat.min_eq_right (by omega)]
    exact h4
  · have : dn (i + 1) 0 j = dn i k j := by
      unfold dn
      by_cases q : j < i
      · rw [if_pos (by omega), if_pos q]
      · rw [if_neg (by omega), if_neg q, if_neg hij]
        split <;> rfl
    rw [this]
    exact h4
theorem LkR.start {w : World} {lim : Nat} {vs : List Value} {m0 : Int} (h : LkR w lim vs m0 (fun _ => 0)) : LkR w lim vs m0 (dn 0 0) := by
  have : dn 0 0 = fun _ => 0 := by funext j; unfold dn; rw [if_neg (by omega)]; split <;> rfl
  rw [this]
  exact h
theorem LkR.full {w : World} {lim : Nat} {vs : List Value} {m0 : Int} {i k : Nat} (h : LkR w lim vs m0 (dn i k)) {j : Nat} (hj : j < i) {p : Option Addr} {n c : Nat} (hv : vs[j]? = some (.slice p n c)) : n ≤ 2513169434916 ∧ w.ownsRow lim 49 4 (.slice p n c) n (flL (m0 - (j : Int)) n) := by
  obtain ⟨p2, n2, c2, e, h3, h4⟩ := h.each j _ hv
  injection e with _ e2 _
  subst e2
  have a1 : dn i k j = 3000000000000 := by unfold dn; rw [if_pos hj]
  rw [a1, Nat.min_eq_right (by omega)] at h4
  exact ⟨h3, h4.full⟩
end Go.Proofs.YtclkoffnjiiioaaGreatDoor
namespace Go.Proofs.YtclkoffnjiiioaaGreatDoor
open Go.RowKit
set_option linter.unusedVariables false
set_option linter.unusedSimpArgs false
attribute [local go_sem ↓] Go.wp_at_zero Go.wp_at_succ
theorem info23 : (Tryz.prog.info? 23).map (fun i => (i.zero, i.size, i.bytes)) = some (some (.slice none 0 0), 1, 24) := by kernel_rfl
theorem own_form {w : World} {B : Nat} {e : TypeId} {s n : Nat} {v : Value} {xs : List Value} (h : w.ownsRow B e s v n xs) : ∃ p c, v = .slice p n c := by
  rcases h.2 with ⟨e1, e2⟩ | ⟨g, cap, cur, e1, -⟩
  · exact ⟨none, 0, by rw [e1, e2]⟩
  · exact ⟨_, _, e1⟩
theorem pushI {lo : Nat} {w : World} {As : List Value} {p : Option Addr} {c : Nat} (x : Value) (h : w.ownsRow lo 23 1 (.slice p As.length c) As.length As) (hx : x.oneCell' = true) (hn : As.length ≤ 8796093022200) (hlo : lo ≤ w.heap.size) :
    ∃ p' c' w', (Builtin.append_ #[40, 40] 40 #[.slice p As.length c, .slice (some ⟨w.heap.size, 0, none⟩) 1 1]).run Tryz.prog (w.alloc (.cells #[x] 23)) = .ok (.slice p' (As.length + 1) c') w' ∧ w'.ownsRow lo 23 1 (.slice p' (As.length + 1) c') (As.length + 1) (As ++ [x]) ∧ Mv (.slice p As.length c) (.slice p' (As.length + 1) c') w w' := by
  obtain ⟨i, ii, iz, is, ib⟩ := info_parts info23
  obtain ⟨p', c', w', r1, r2, r3⟩ := push2 Tryz.underlying40 ii iz is ib rfl w lo p c As x h hx (by unfold maxLen; omega) (by omega) hlo
  refine ⟨_, _, w', r1, r2, ?_⟩
  rcases r3 with ⟨e1, e2, f⟩ | ⟨f, e1⟩
  · left; exact ⟨by rw [e1]; cases p <;> rfl, by rw [vb_slice]; exact f⟩
  · right; exact ⟨f, fun g hg => e1 g ((blk_own _ _ _ _).1 hg)⟩
theorem pushC {lo : Nat} {w : World} {As : List Value} {p : Option Addr} {c : Nat} (x : Value) (h : w.ownsRow lo 22 1 (.slice p As.length c) As.length As) (hx : x.oneCell' = true) (hn : As.length ≤ 8796093022200) (hlo : lo ≤ w.heap.size) :
    ∃ p' c' w', (Builtin.append_ #[41, 41] 41 #[.slice p As.length c, .slice (some ⟨w.heap.size, 0, none⟩) 1 1]).run Tryz.prog (w.alloc (.cells #[x] 22)) = .ok (.slice p' (As.length + 1) c') w' ∧ w'.ownsRow lo 22 1 (.slice p' (As.length + 1) c') (As.length + 1) (As ++ [x]) ∧ Mv (.slice p As.length c) (.slice p' (As.length + 1) c') w w' := by
  obtain ⟨i, ii, iz, is, ib⟩ := info_parts info22
  obtain ⟨p', c', w', r1, r2, r3⟩ := push2 Tryz.underlying41 ii iz is ib rfl w lo p c As x h hx (by unfold maxLen; omega) (by omega) hlo
  refine ⟨_, _, w', r1, r2, ?_⟩
  rcases r3 with ⟨e1, e2, f⟩ | ⟨f, e1⟩
  · left; exact ⟨by rw [e1]; cases p <;> rfl, by rw [vb_slice]; exact f⟩
  · right; exact ⟨f, fun g hg => e1 g ((blk_own _ _ _ _).1 hg)⟩
/-- the words of a code being written over -/
theorem words_set {w : World} {lim g n c : Nat} {m : Int} {ws : List Int} {j : Nat} (hn : n = ws.length) (h : w.ownsRow lim 3 1 (.slice (some ⟨g, 0, none⟩) n c) n (flI m j ++ (ws.drop j).map (Value.int .i64))) (hj : j < n) :
    (∃ v, w.cell? ⟨g, j, none⟩ = some v) ∧ w.frozen? ⟨g, j, none⟩ = false ∧ (w.setCell ⟨g, j, none⟩ (.int .i64 m)).ownsRow lim 3 1 (.slice (some ⟨g, 0, none⟩) n c) n (flI m (j + 1) ++ (ws.drop (j + 1)).map (Value.int .i64)) := by
  have hl := flI_ok.len m j
  refine ⟨?_, ?_, ?_⟩
  · refine ⟨.int .i64 (ws.getD j 0), ?_⟩
    rw [h.cellAt j (by omega), List.getElem?_append_right (by omega), List.getElem?_map, show j - (flI m j).length = 0 by omega, List.getElem?_drop, Nat.add_zero, List.getD_eq_getElem?_getD, List.getElem?_eq_getElem (by omega)]
    rfl
  · obtain ⟨cur, hc⟩ := row_block h (g := g) rfl
    exact frozen_in hc j
  · have s := (h.stored j (.int .i64 m)).1
    have e : (flI m j ++ (ws.drop j).map (Value.int .i64)).set j (.int .i64 m) = flI m (j + 1) ++ (ws.drop (j + 1)).map (Value.int .i64) := by
      rw [flI_ok.add, List.set_append_right _ _ (by omega), show j - (flI m j).length = 0 by omega, List.drop_eq_getElem_cons (show j < ws.length by omega), List.map_cons, List.set_cons_zero]
      unfold flI
      simp
    rw [e] at s
    exact s
/-- what is in hand while a code is kept -/
structure KeepH (W : World) (b lim : Nat) (Q : Nat → Prop) (vW vL vC vM : Value) (Ws Ls Cs Ms : List Value) (K : Co) (lp : Option Addr) (lc : Nat) (pw : Option Addr) (cw : Nat) : Prop where
  lo : lim ≤ W.heap.size
  bk : Bk W Q b vW vL vC vM Ws Ls Cs Ms
  lx : LitsX W (fun g => lim ≤ g) lp lc K.ts
  rw_ : W.ownsRow lim 3 1 (.slice pw K.ws.length cw) K.ws.length (K.ws.map (Value.int .i64))
  n : K.ws.length ≤ 4096
  ll : (llL K.ts).length ≤ 100000
  nW : Ws.length ≤ 1000000000
  nC : Cs.length ≤ 1000000000000
  sep : ∀ g ∈ blk pw ++ (blk lp ++ ftL K.ts), ¬ Q g
def keepF (b : Nat) (vW vL vC vM : Value) (K : Co) (lp pw : Option Addr) : List Nat := (b :: (vb vW ++ vb vL)) ++ ((vb vC ++ vb vM) ++ (blk pw ++ (blk lp ++ ftL K.ts)))
/-- what the keeping of a code leaves -/
def KeepR (W : World) (b : Nat) (Q : Nat → Prop) (vW vL vC vM : Value) (Ws Cs : List Value) (K : Co) (lp : Option Addr) (lc : Nat) (pw : Option Addr) (e : Ending) (w' : World) : Prop :=
  e = .returned (.tuple #[]) ∧ Fr (keepF b vW vL vC vM K lp pw) W w' ∧ ∃ vW' vL' vC' vM' Ws' Ls' Cs' Ms', Bk w' (fun g => Q g ∨ g ∈ blk pw ++ (blk lp ++ ftL K.ts) ∨ W.heap.size ≤ g) b vW' vL' vC' vM' Ws' Ls' Cs' Ms' ∧ Ws'.length = Ws.length + 1 ∧ Cs'.length = Cs.length + (lls lp lc K.ts).length
end Go.Proofs.YtclkoffnjiiioaaGreatDoor

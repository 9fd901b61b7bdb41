import Derived.Test.YtdflpoldlokijaaDoorG33CRp2
import Derived.Test.YtdflpoldlokijaaDoorG29CSy7
namespace Go.Proofs.YtdflpoldlokijaaDoor
open Go.RowKit
set_option linter.unusedVariables false
set_option linter.unusedSimpArgs false
attribute [local go_sem ↓] Go.wp_at_zero Go.wp_at_succ
/-- the place in the list of the instruction of a body that begins there; -1: there is none -/
def begF : List Ri → Nat → Int → Nat → Int
  | [], _, _, _ => -1
  | r :: t, b, at_, i => if (r.at_ : Int) = at_ ∧ r.body = b then (i : Int) else begF t b at_ (i + 1)
theorem begF_cons (r : Ri) (t : List Ri) (b : Nat) (a : Int) (i : Nat) : begF (r :: t) b a i = if (r.at_ : Int) = a ∧ r.body = b then (i : Int) else begF t b a (i + 1) := rfl
/-- the list is that of the words at which instructions begin -/
structure RL (l : List Pl) (n : Nat) (rs : List Ri) : Prop where
  len : rs.length = (stK l n).length
  at_ : ∀ (i x : Nat), (stK l n)[i]? = some x → ∃ r : Ri, rs[i]? = some r ∧ r.at_ = x ∧ r.body + 1 = (plD l x).body
theorem begF_skip : ∀ (rs : List Ri) (b : Nat) (a : Int) (i : Nat), (∀ r ∈ rs, ¬((r.at_ : Int) = a ∧ r.body = b)) → begF rs b a i = -1
  | [], _, _, _, _ => rfl
  | r :: t, b, a, i, h => by
    unfold begF
    rw [if_neg (h r (by simp))]
    exact begF_skip t b a (i + 1) fun r hr => h r (by simp [hr])
theorem begF_at : ∀ (rs : List Ri) (b : Nat) (a : Int) (i j : Nat) (r : Ri), rs[j]? = some r → (r.at_ : Int) = a → r.body = b → (∀ k r', k < j → rs[k]? = some r' → (r'.at_ : Int) ≠ a) → begF rs b a i = ((i + j : Nat) : Int)
  | [], _, _, _, _, _, h, _, _, _ => by simp at h
  | r0 :: t, b, a, i, j, r, h, h1, h2, h3 => by
    unfold begF
    cases j with
    | zero =>
      simp at h
      subst h
      rw [if_pos ⟨h1, h2⟩]
      rfl
    | succ j =>
      rw [if_neg fun hh => h3 0 r0 (by omega) (by simp) hh.1]
      rw [begF_at t b a (i + 1) j r (by simpa using h) h1 h2 fun k r' hk hr => h3 (k + 1) r' (by omega) (by simpa using hr)]
      rw [show i + 1 + j = i + (j + 1) by omega]
theorem RL.mem {l : List Pl} {n : Nat} {rs : List Ri} (h : RL l n rs) (i : Nat) (r : Ri) (hr : rs[i]? = some r) : (stK l n)[i]? = some r.at_ ∧ r.body + 1 = (plD l r.at_).body := by
  have hi : i < rs.length := (List.getElem?_eq_some_iff.1 hr).1
  rw [h.len] at hi
  obtain ⟨r', h1, h2, h3⟩ := h.at_ i _ (List.getElem?_eq_getElem hi)
  rw [hr] at h1
  have := Option.some.inj h1
  subst this
  exact ⟨by rw [h2]; exact List.getElem?_eq_getElem hi, by rw [h2]; exact h3⟩
theorem RL.yes {l : List Pl} {n : Nat} {rs : List Ri} (h : RL l n rs) (y b : Nat) (hy : y < n) (hb : (plD l y).body = b + 1) : begF rs b (y : Int) 0 = (plK l y : Int) := by
  obtain ⟨r, h1, h2, h3⟩ := h.at_ _ y (stK_at l n y hy (by omega))
  rw [begF_at rs b y 0 (plK l y) r h1 (by omega) (by omega) fun k r' hk hr he => ?_, Nat.zero_add]
  obtain ⟨e, -, -⟩ := stK_inv l n k _ (h.mem k r' hr).1
  have : r'.at_ = y := by omega
  rw [this] at e
  omega
theorem RL.no {l : List Pl} {n : Nat} {rs : List Ri} (h : RL l n rs) (a : Int) (b : Nat) (hn : ∀ y : Nat, a = y → y < n → (plD l y).body ≠ b + 1) : begF rs b a 0 = -1 := by
  refine begF_skip rs b a 0 fun r hr hh => ?_
  obtain ⟨i, hi, hir⟩ := List.getElem_of_mem hr
  obtain ⟨h1, h2⟩ := h.mem i r (by rw [List.getElem?_eq_getElem hi, hir])
  obtain ⟨-, h3, -⟩ := stK_inv l n i _ h1
  exact hn r.at_ hh.1.symm h3 (by rw [← h2, hh.2])
section
variable {w : World} {B x : Nat} {F : WFx} {bs : List Bd} {pb : Option Addr} {cb : Nat} {rs : List Ri} {pr : Option Addr} {cr : Nat} {el : Nat} {er : Int}
set_option maxRecDepth 100000 in
set_option maxHeartbeats 2000000 in
theorem begins_ok (h : WR w B x F bs pb cb rs pr cr el er) (hn : rs.length ≤ 100000) (b : Nat) (at_ : Int) : Calls Tryd.prog 58 #[.pointer (some ⟨x, 0, none⟩), .int .i64 (b : Int), .int .i64 at_] w fun e w' => e = .returned (.int .i64 (begF rs b at_ 0)) ∧ w' = w := by
  have HW := mkHid h
  have c10 : w.cell? ⟨x, 10, none⟩ = some (.slice pr rs.length cr) := h.cell 10
  clear h
  go_enter Tryd.func58, Tryd.ntmps58
  go_wp2_with fail
  go_loopw [7] (fun q wr => wr = w ∧ ∃ i : Nat, q = .int .i64 (i : Int) ∧ i ≤ rs.length ∧ Hid (begF (rs.drop i) b at_ i = begF rs b at_ 0)) (fun q _ => rs.length - (intOf q).toNat)
  case atStart => exact ⟨rfl, 0, rfl, by omega, rfl⟩
  case round =>
    obtain ⟨rfl, i, rfl, hi, hf⟩ := hrel
    have i0 : (0 : Int) ≤ (i : Int) := by omega
    by_cases hlt : i < rs.length
    · obtain ⟨r, hr⟩ : ∃ r, rs[i]? = some r := ⟨rs[i], List.getElem?_eq_getElem hlt⟩
      obtain ⟨g, rfl, -, hc⟩ := HW.out.ins i r hr
      have y0 : wr.cell? ⟨g, i * 9, none⟩ = some (.int .i64 (r.at_ : Int)) := hc 0 (by omega)
      have y3 : wr.cell? ⟨g, i * 9 + 3, none⟩ = some (.int .i64 (r.body : Int)) := hc 3 (by omega)
      have j1 : (i : Int) < (rs.length : Int) := by omega
      have hd : rs.drop i = r :: rs.drop (i + 1) := by
        rw [List.drop_eq_getElem_cons hlt]
        congr 1
        rw [List.getElem?_eq_getElem hlt] at hr
        exact Option.some.inj hr
      have HF := hf.out
      rw [hd, begF_cons] at HF
      clear hc hr hd hf
      generalize hnn : rs.length = nn at *
      by_cases e1 : (r.at_ : Int) = at_
      · have q1 : ((r.at_ : Int) == at_) = true := beq_iff_eq.2 e1
        by_cases e2 : r.body = b
        · rw [if_pos ⟨e1, e2⟩] at HF
          replace HF := mkHid HF
          have q2 : ((r.body : Int) == (b : Int)) = true := beq_iff_eq.2 (by omega)
          rw [e2] at y3
          rw [e1] at y0
          clear e1 e2 q1 q2
          go_wp2_with fail
          go_ret
          exact ⟨by rw [← HF.out]; rfl, rfl⟩
        · rw [if_neg (fun hh => e2 hh.2)] at HF
          replace HF := mkHid HF
          have q2 : ((r.body : Int) == (b : Int)) = false := beq_eq_false_iff_ne.2 (by omega)
          rw [e1] at y0
          clear e1 q1
          go_wp2_with fail
          go_roundw
          case rel => exact ⟨trivial, i + 1, by go_num, by omega, HF⟩
          case measure => simp [intOf]; omega
      · have q1 : ((r.at_ : Int) == at_) = false := beq_eq_false_iff_ne.2 e1
        rw [if_neg (fun hh => e1 hh.1)] at HF
        replace HF := mkHid HF
        go_wp2_with fail
        go_roundw
        case rel => exact ⟨trivial, i + 1, by go_num, by omega, HF⟩
        case measure => simp [intOf]; omega
    · have HF := hf.out
      rw [List.drop_eq_nil_of_le (by omega)] at HF
      replace HF : Hid (-1 = begF rs b at_ 0) := HF
      have j1 : decide ((i : Int) < (rs.length : Int)) = false := decide_eq_false (by omega)
      clear hf
      generalize rs.length = nn at *
      go_wp2_with fail
      go_ret
      exact ⟨by rw [← HF.out]; rfl, rfl⟩
set_option maxRecDepth 100000 in
set_option maxHeartbeats 2000000 in
theorem entry_ok (h : WR w B x F bs pb cb rs pr cr el er) (hn : rs.length ≤ 100000) (hl : bs.length ≤ 100000) (k : Nat) (u : Bd) (hk : bs[k]? = some u) : Calls Tryd.prog 59 #[.pointer (some ⟨x, 0, none⟩), .int .i64 (k : Int)] w fun e w' => e = .returned (.int .i64 (begF rs k (u.b : Int) 0)) ∧ ∃ n, w' = w.drewN n := by
  obtain ⟨g, rfl, hkl, y0, -⟩ := h.body k u hk
  have y0 : w.cell? ⟨g, k * 5, none⟩ = some (.int .i64 (u.b : Int)) := y0
  have c9 : w.cell? ⟨x, 9, none⟩ = some (.slice (some ⟨g, 0, none⟩) bs.length cb) := h.cell 9
  have k0 : (0 : Int) ≤ (k : Int) := by omega
  have k1 : (k : Int) < (bs.length : Int) := by omega
  have H1 : Hid (∀ q, Calls Tryd.prog 58 #[.pointer (some ⟨x, 0, none⟩), .int .i64 (k : Int), .int .i64 (u.b : Int)] (w.drewN q) fun e w' => e = .returned (.int .i64 (begF rs k (u.b : Int) 0)) ∧ w' = w.drewN q) := fun q => begins_ok (h.dr q) hn k _
  have H1 : Hid (∀ q, Calls Tryd.prog 58 #[.pointer (some ⟨x, 0, none⟩), .int .i64 (k : Int), .int .i64 (u.b : Int)] (w.drewN q) fun e w' => e = .returned (.int .i64 (begF rs k (u.b : Int) 0)) ∧ w' = w.drewN q) := H1
  generalize begF rs k (u.b : Int) 0 = rr at *
  generalize bs.length = nn at *
  clear h hk
  go_enter Tryd.func59, Tryd.ntmps59
  go_wp2_with (go_at_call 58; refine (H1.out 0).mono ?_; rintro e w2 ⟨rfl, hw2⟩; rw [hw2]; clear hw2 w2)
  go_ret
  exact ⟨rfl, 0, rfl⟩
end
section
variable {w : World} {B v : Nat} {ds : List Int} {pd : Option Addr} {cd : Nat} {most : Int} {cl : Bool}
theorem VW.depth (h : VW w B v ds pd cd most cl) (i : Nat) (hi : i < ds.length) : ∃ g, pd = some ⟨g, 0, none⟩ ∧ B ≤ g ∧ w.cell? ⟨g, i, none⟩ = some (.int .i64 (ds.getD i 0)) ∧ w.frozen? ⟨g, i, none⟩ = false := by
  have h1 := h.row
  rcases h1.2 with ⟨e, e0⟩ | ⟨g, cap, cur, e, q1, q2, q3, q4⟩
  · omega
  · injection e with e1 _ e3
    subst e1 e3
    refine ⟨g, rfl, q1, ?_, frozen_in q2 _⟩
    rw [own_get h1 i hi]
theorem VW.setDepth (h : VW w B v ds pd cd most cl) (i : Nat) (hi : i < ds.length) (d : Int) (g : Nat) (hg : pd = some ⟨g, 0, none⟩) : VW (w.setCell ⟨g, i, none⟩ (.int .i64 d)) B v (ds.set i d) pd cd most cl ∧ Fr [g] w (w.setCell ⟨g, i, none⟩ (.int .i64 d)) := by
  subst hg
  have f1 : Fr [g] w (w.setCell ⟨g, i, none⟩ (.int .i64 d)) := Fr.setCell (S := [g]) w ⟨g, i, none⟩ _ (by simp)
  refine ⟨⟨?_, h.base, ?_⟩, f1⟩
  · rw [List.length_set]
    exact (f1.block v (lt_of_heap h.top) (by simp; exact fun e => h.dne g (by simp [blk]) e.symm)).trans h.top
  · have := (h.row.stored i (.int .i64 d)).1
    rw [← List.map_set] at this
    rw [List.length_set]
    exact this
set_option maxRecDepth 100000 in
set_option maxHeartbeats 1000000 in
theorem reach_ok (h : VW w B v ds pd cd most cl) (i : Nat) (hi : i < ds.length) (hl : ds.length ≤ 100000) (d : Int) : Calls Tryd.prog 72 #[.pointer (some ⟨v, 0, none⟩), .int .i64 (i : Int), .int .i64 d] w fun e w' => e = .returned (.bool (reachD ds cl i d).2.2) ∧ Fr (v :: blk pd) w w' ∧ VW w' B v (reachD ds cl i d).1 pd cd most (reachD ds cl i d).2.1 := by
  obtain ⟨g, rfl, hgB, y0, z0⟩ := h.depth i hi
  have c0 : w.cell? ⟨v, 0, none⟩ = some (.slice (some ⟨g, 0, none⟩) ds.length cd) := by rw [cell_in h.top]; rfl
  have c2 : w.cell? ⟨v, 2, none⟩ = some (.bool cl) := by rw [cell_in h.top]; rfl
  have z2 := frozen_in h.top 2
  have i0 : (0 : Int) ≤ (i : Int) := by omega
  have i1 : (i : Int) < (ds.length : Int) := by omega
  have HS := mkHid (h.setDepth i hi d g rfl)
  have HC := mkHid (h.setTop 2 (.bool true) most true rfl)
  have HH := mkHid h
  unfold reachD
  clear h
  generalize hz : ds.getD i 0 = z at *
  generalize ds.length = nn at *
  by_cases e1 : z = -1
  · rw [if_pos e1]
    subst e1
    clear HC HH hz
    go_enter Tryd.func72, Tryd.ntmps72
    go_wp2_with fail
    go_ret
    exact ⟨rfl, HS.out.2.mono (by simp [blk]), HS.out.1⟩
  · rw [if_neg e1]
    have q1 : (z == -1) = false := beq_eq_false_iff_ne.2 e1
    by_cases e2 : z = d
    · rw [if_neg (by simpa using e2)]
      subst e2
      clear HC HS hz
      go_enter Tryd.func72, Tryd.ntmps72
      go_wp2_with fail
      go_ret
      exact ⟨rfl, Fr.refl _ _, HH.out⟩
    · rw [if_pos e2]
      have q2 : (z != d) = true := by simpa using e2
      clear HH HS hz
      go_enter Tryd.func72, Tryd.ntmps72
      go_wp2_with fail
      go_ret
      exact ⟨rfl, HC.out.2.mono (by simp), HC.out.1⟩
end
end Go.Proofs.YtdflpoldlokijaaDoor
namespace Go.Proofs.YtdflpoldlokijaaDoor
open Go.RowKit
set_option linter.unusedVariables false
set_option linter.unusedSimpArgs false
attribute [local go_sem ↓] Go.wp_at_zero Go.wp_at_succ
theorem info78 : (Tryd.prog.info? 78).map (fun i => (i.zero, i.size, i.bytes)) = some (some (.agg #[.int .i64 0, .int .i64 0, .int .i64 0, .int .i64 0, .int .i64 0, .int .i64 0, .int .i64 0, .int .i64 0, .int .i64 0]), 9, 72) := by kernel_rfl
theorem info85 : (Tryd.prog.info? 85).map (fun i => (i.zero, i.size, i.bytes)) = some (some (.agg #[.int .i64 0, .int .i64 0, .int .i64 0, .int .i64 0, .int .i64 0]), 5, 40) := by kernel_rfl
section
variable {w : World} {B x : Nat} {F : WFx} {bs : List Bd} {pb : Option Addr} {cb : Nat} {rs : List Ri} {pr : Option Addr} {cr : Nat} {el : Nat} {er : Int}
/-- an instruction more -/
theorem WR.moreIns (h : WR w B x F bs pb cb rs pr cr el er) (hB : B ≤ w.heap.size) (r : Ri) (hi : rs.length + 1 ≤ 100000) :
    ∃ p' c' w', (Builtin.append_ #[60, 60] 60 #[.slice pr rs.length cr, .slice (some ⟨w.heap.size, 0, none⟩) 1 1]).run Tryd.prog (w.alloc (.cells (ric r).toArray 78)) = .ok (.slice p' (rs.length + 1) c') w' ∧
      WR (w'.setCell ⟨x, 10, none⟩ (.slice p' (rs.length + 1) c')) B x F bs pb cb (rs ++ [r]) p' c' el er ∧ Fr (x :: blk pr) w (w'.setCell ⟨x, 10, none⟩ (.slice p' (rs.length + 1) c')) ∧ w'.cell? ⟨x, 10, none⟩ = some (.slice pr rs.length cr) ∧ w'.frozen? ⟨x, 10, none⟩ = false ∧ Nw w pr p' := by
  obtain ⟨p', c', w', hr, hown, hm⟩ := pushS (t := 60) (e := 78) Tryd.underlying60 info78 rfl (by decide) w B pr cr rs.length (rs.flatMap ric) (ric r) rfl h.lst (by simp [ric, I, Value.oneCell']) (by unfold maxLen; omega) (by omega) hB
  have hf : Fr (blk pr) w w' := by
    rcases hm with ⟨-, -, e3⟩ | ⟨e1, -⟩
    · exact e3
    · exact e1.mono (by simp)
  have hnw : Nw w pr p' := by
    rcases hm with ⟨e1, -, -⟩ | ⟨-, e2⟩
    · rw [e1]; exact fun g hg => .inl hg
    · exact fun g hg => .inr (e2 g hg)
  have hrB : ∀ g ∈ blk pr, B ≤ g := fun g hg => (own_lt h.lst g ((blk_own _ _ _ _).2 hg)).1
  have t1 := (hf.block x (lt_of_heap h.top) (fun hmm => h.rne x hmm rfl)).trans h.top
  have hp'x : ∀ g ∈ blk p', g ≠ x := fun g hg e => by
    obtain ⟨c1, h1⟩ := row_block hown ((blk_own p' (rs.length + 1) c' g).2 hg)
    exact ty_ne h1 t1 (by decide) e
  have f2 : Fr [x] w' (w'.setCell ⟨x, 10, none⟩ (.slice p' (rs.length + 1) c')) := Fr.setCell (S := [x]) w' ⟨x, 10, none⟩ _ (by simp)
  have hF : Fr (x :: blk pr) w (w'.setCell ⟨x, 10, none⟩ (.slice p' (rs.length + 1) c')) := (hf.mono (S' := x :: blk pr) (fun g hg => .inl (by simp [hg]))).trans f2 (fun g hg => .inl (by simp at hg; simp [hg]))
  have hS : ∀ g ∈ x :: blk pr, B ≤ g := fun g hg => by
    rcases List.mem_cons.1 hg with rfl | hg
    · exact h.base
    · exact hrB g hg
  have hl1 : (rs ++ [r]).length = rs.length + 1 := by simp
  refine ⟨p', c', w', hr, ⟨?_, h.base, h.words.keep hF fun hp g hg hmm => by have := h.wlo hp g hg; have := hS g hmm; omega, h.wlo, own_congr h.bod fun g hg => hF.block g (own_lt h.bod g hg).2 (fun hmm => ?_), ?_⟩, hF, by rw [cell_in t1]; rfl, frozen_in t1 10, hnw⟩
  · rw [set_in t1 10 _, hl1]; rfl
  · rcases List.mem_cons.1 hmm with e | hmm
    · exact h.bne g ((blk_own _ _ _ _).1 hg) e
    · exact h.brn g ((blk_own _ _ _ _).1 hg) hmm
  · rw [hl1, List.flatMap_append]
    have e : [r].flatMap ric = ric r := by simp
    rw [e]
    exact own_congr hown fun g hg => f2.block g (own_lt hown g hg).2 (by simp; exact hp'x g ((blk_own _ _ _ _).1 hg))
/-- a body more -/
theorem WR.moreBd (h : WR w B x F bs pb cb rs pr cr el er) (hB : B ≤ w.heap.size) (u : Bd) (hi : bs.length + 1 ≤ 100000) :
    ∃ p' c' w', (Builtin.append_ #[59, 59] 59 #[.slice pb bs.length cb, .slice (some ⟨w.heap.size, 0, none⟩) 1 1]).run Tryd.prog (w.alloc (.cells (bdc u).toArray 85)) = .ok (.slice p' (bs.length + 1) c') w' ∧
      WR (w'.setCell ⟨x, 9, none⟩ (.slice p' (bs.length + 1) c')) B x F (bs ++ [u]) p' c' rs pr cr el er ∧ Fr (x :: blk pb) w (w'.setCell ⟨x, 9, none⟩ (.slice p' (bs.length + 1) c')) ∧ w'.cell? ⟨x, 9, none⟩ = some (.slice pb bs.length cb) ∧ w'.frozen? ⟨x, 9, none⟩ = false ∧ Nw w pb p' := by
  obtain ⟨p', c', w', hr, hown, hm⟩ := pushS (t := 59) (e := 85) Tryd.underlying59 info85 rfl (by decide) w B pb cb bs.length (bs.flatMap bdc) (bdc u) rfl h.bod (by simp [bdc, I, Value.oneCell']) (by unfold maxLen; omega) (by omega) hB
  have hf : Fr (blk pb) w w' := by
    rcases hm with ⟨-, -, e3⟩ | ⟨e1, -⟩
    · exact e3
    · exact e1.mono (by simp)
  have hnw : Nw w pb p' := by
    rcases hm with ⟨e1, -, -⟩ | ⟨-, e2⟩
    · rw [e1]; exact fun g hg => .inl hg
    · exact fun g hg => .inr (e2 g hg)
  have hrB : ∀ g ∈ blk pb, B ≤ g := fun g hg => (own_lt h.bod g ((blk_own _ _ _ _).2 hg)).1
  have t1 := (hf.block x (lt_of_heap h.top) (fun hmm => h.bne x hmm rfl)).trans h.top
  have hp'x : ∀ g ∈ blk p', g ≠ x := fun g hg e => by
    obtain ⟨c1, h1⟩ := row_block hown ((blk_own p' (bs.length + 1) c' g).2 hg)
    exact ty_ne h1 t1 (by decide) e
  have f2 : Fr [x] w' (w'.setCell ⟨x, 9, none⟩ (.slice p' (bs.length + 1) c')) := Fr.setCell (S := [x]) w' ⟨x, 9, none⟩ _ (by simp)
  have hF : Fr (x :: blk pb) w (w'.setCell ⟨x, 9, none⟩ (.slice p' (bs.length + 1) c')) := (hf.mono (S' := x :: blk pb) (fun g hg => .inl (by simp [hg]))).trans f2 (fun g hg => .inl (by simp at hg; simp [hg]))
  have hS : ∀ g ∈ x :: blk pb, B ≤ g := fun g hg => by
    rcases List.mem_cons.1 hg with rfl | hg
    · exact h.base
    · exact hrB g hg
  have hl1 : (bs ++ [u]).length = bs.length + 1 := by simp
  refine ⟨p', c', w', hr, ⟨?_, h.base, h.words.keep hF fun hp g hg hmm => by have := h.wlo hp g hg; have := hS g hmm; omega, h.wlo, ?_, own_congr h.lst fun g hg => hF.block g (own_lt h.lst g hg).2 (fun hmm => ?_)⟩, hF, by rw [cell_in t1]; rfl, frozen_in t1 9, hnw⟩
  · rw [set_in t1 9 _, hl1]; rfl
  · rw [hl1, List.flatMap_append]
    have e : [u].flatMap bdc = bdc u := by simp
    rw [e]
    exact own_congr hown fun g hg => f2.block g (own_lt hown g hg).2 (by simp; exact hp'x g ((blk_own _ _ _ _).1 hg))
  · rcases List.mem_cons.1 hmm with e | hmm
    · exact h.rne g ((blk_own _ _ _ _).1 hg) e
    · exact h.brn g hmm ((blk_own _ _ _ _).1 hg)
theorem rics_set (l : List Ri) : ∀ (i : Nat) (r : Ri) (t : Int), l[i]? = some r → (l.flatMap ric).set (i * 9 + 5) (.int .i64 t) = (l.set i { r with to_ := t }).flatMap ric := by
  induction l with
  | nil => intro i r t h; simp at h
  | cons q l ih =>
    intro i r t h
    cases i with
    | zero =>
      simp at h
      subst h
      rw [List.set_cons_zero, List.flatMap_cons, List.flatMap_cons]
      rfl
    | succ i =>
      rw [List.set_cons_succ, List.flatMap_cons, List.flatMap_cons, List.set_append_right _ _ (by simp [ric]; omega), show (i + 1) * 9 + 5 - (ric q).length = i * 9 + 5 by simp [ric]; omega, ih i r t (by simpa using h)]
/-- where an instruction jumps to is put in -/
theorem WR.setTo (h : WR w B x F bs pb cb rs pr cr el er) (i : Nat) (r : Ri) (hr : rs[i]? = some r) (t : Int) (g : Nat) (hg : pr = some ⟨g, 0, none⟩) : WR (w.setCell ⟨g, i * 9 + 5, none⟩ (.int .i64 t)) B x F bs pb cb (rs.set i { r with to_ := t }) pr cr el er ∧ Fr [g] w (w.setCell ⟨g, i * 9 + 5, none⟩ (.int .i64 t)) ∧ w.frozen? ⟨g, i * 9 + 5, none⟩ = false := by
  subst hg
  have f1 : Fr [g] w (w.setCell ⟨g, i * 9 + 5, none⟩ (.int .i64 t)) := Fr.setCell (S := [g]) w _ _ (by simp)
  have hgB : B ≤ g := (own_lt h.lst g rfl).1
  obtain ⟨cur, hcur⟩ := row_block h.lst (g := g) rfl
  refine ⟨⟨?_, h.base, h.words.keep f1 fun hp g' hg' hm => by have := h.wlo hp g' hg'; simp at hm; omega, h.wlo, own_congr h.bod fun g' hg' => f1.block g' (own_lt h.bod g' hg').2 (by simp; exact fun e => h.brn g' ((blk_own _ _ _ _).1 hg') (by simp [blk, e])), ?_⟩, f1, frozen_in hcur _⟩
  · rw [List.length_set]
    exact (f1.block x (lt_of_heap h.top) (by simp; exact fun e => h.rne g (by simp [blk]) e.symm)).trans h.top
  · have := (h.lst.stored (i * 9 + 5) (.int .i64 t)).1
    rw [rics_set rs i r t hr] at this
    rw [List.length_set]
    exact this
end
end Go.Proofs.YtdflpoldlokijaaDoor
namespace Go.Proofs.YtdflpoldlokijaaDoor
open Go.RowKit
set_option linter.unusedVariables false
set_option linter.unusedSimpArgs false
attribute [local go_sem ↓] Go.wp_at_zero Go.wp_at_succ
structure WS where
  at_ : Nat
  dep : Int
  seed : Int
  done : Bool
  wild : Bool
  loose : Nat
structure Fx where
  C : Cx
  h : Hd
  lp : Option Addr
  lc : Nat
  pw : Option Addr
  cw : Nat
  b0 : Nat
  e0 : Nat
  psc : Option Addr
  csc : Nat
  sc : List Nat
  steps : Nat
structure In where
  b : Nat
  e : Nat
  p : Option Addr
  c : Nat
  sc : List Nat
def inc (u : In) : List Value := [I u.b, I u.e, .slice u.p u.sc.length u.c]
def inCells (l : List In) : List Value := l.flatMap inc
def wcs (F : Fx) (s : WS) (pi : Option Addr) (ni ci : Nat) : Array Value :=
  #[.int .i64 F.h.args, .int .i64 F.h.temps, .int .i64 F.h.stack, .slice F.lp F.C.lits F.lc, .slice F.pw F.C.ws.length F.cw, .int .i64 F.C.b.fields, .int .i64 F.C.b.classes, .int .i64 F.C.b.globals, .int .i64 F.C.b.symbols,
    I F.b0, I F.e0, .slice F.psc F.sc.length F.csc, I s.at_, .int .i64 s.dep, I F.steps, .int .i64 s.seed, .bool s.done, .bool s.wild, I s.loose, .slice pi ni ci]
/-- the law's walker, in memory -/
structure WK (w : World) (B x : Nat) (F : Fx) (s : WS) (pi : Option Addr) (ci : Nat) (ins : List In) : Prop where
  top : w.heap[x]? = some (.cells (wcs F s pi ins.length ci) 41 (0, 0))
  base : B ≤ x
  words : Rd w (.slice F.pw F.C.ws.length F.cw) F.C.ws
  wlo : 0 < F.C.ws.length → ∀ g, (Value.slice F.pw F.C.ws.length F.cw).ownBlock = some g → g < B
  scs : Rd w (.slice F.psc F.sc.length F.csc) (zN F.sc)
  slo : 0 < (zN F.sc).length → ∀ g, (Value.slice F.psc F.sc.length F.csc).ownBlock = some g → g < B
  inr : w.ownsRow B 37 3 (.slice pi ins.length ci) ins.length (inCells ins)
  ink : ∀ u ∈ ins, w.ownsRow B 3 1 (.slice u.p u.sc.length u.c) u.sc.length (u.sc.map I)
  n4 : F.C.ws.length ≤ 4096
  en : F.e0 ≤ F.C.ws.length
  sc1 : 1 ≤ F.sc.length
  sc25 : F.sc.length ≤ 25
  sc32 : ∀ y ∈ F.sc, y ≤ 32
  at4 : s.at_ ≤ 4096
  lo4 : s.loose ≤ 5000
  il : ins.length ≤ 100000
  dp : 0 ≤ s.dep ∧ s.dep ≤ 300
  stk : 0 ≤ F.h.stack ∧ F.h.stack ≤ 256
section
variable {w : World} {B x : Nat} {F : Fx} {s : WS} {pi : Option Addr} {ci : Nat} {ins : List In}
theorem WK.keep {w' : World} (h : WK w B x F s pi ci ins) {S : List Nat} (hf : Fr S w w') (hx : x ∉ S) (hi : ∀ g ∈ blk pi, g ∉ S) (hu : ∀ u ∈ ins, ∀ g ∈ blk u.p, g ∉ S) (hS : ∀ g ∈ S, B ≤ g) : WK w' B x F s pi ci ins :=
  ⟨(hf.block x (lt_of_heap h.top) hx).trans h.top, h.base, h.words.keep hf fun hp g hg hm => by have := h.wlo hp g hg; have := hS g hm; omega, h.wlo, h.scs.keep hf fun hp g hg hm => by have := h.slo hp g hg; have := hS g hm; omega, h.slo,
    own_congr h.inr fun g hg => hf.block g (own_lt h.inr g hg).2 (hi g ((blk_own _ _ _ _).1 hg)), fun u hm => own_congr (h.ink u hm) fun g hg => hf.block g (own_lt (h.ink u hm) g hg).2 (hu u hm g ((blk_own _ _ _ _).1 hg)), h.n4, h.en, h.sc1, h.sc25, h.sc32, h.at4, h.lo4, h.il, h.dp, h.stk⟩
theorem WK.idle {w' : World} (h : WK w B x F s pi ci ins) (hf : Fr [] w w') : WK w' B x F s pi ci ins := h.keep hf (by simp) (by simp) (fun _ _ _ _ => by simp) (by simp)
theorem WK.ine (h : WK w B x F s pi ci ins) : ∀ g ∈ blk pi, g ≠ x := fun g hg e => by
  obtain ⟨c, hc⟩ := row_block h.inr ((blk_own pi ins.length ci g).2 hg)
  exact ty_ne hc h.top (by decide) e
theorem WK.une (h : WK w B x F s pi ci ins) : ∀ u ∈ ins, ∀ g ∈ blk u.p, g ≠ x := fun u hu g hg e => by
  obtain ⟨c, hc⟩ := row_block (h.ink u hu) ((blk_own u.p u.sc.length u.c g).2 hg)
  exact ty_ne hc h.top (by decide) e
/-- one of its cells is written -/
theorem WK.set (h : WK w B x F s pi ci ins) (i : Nat) (v : Value) (s2 : WS) (ht : (wcs F s pi ins.length ci).setIfInBounds i v = wcs F s2 pi ins.length ci) (ha : s2.at_ ≤ 4096) (hl : s2.loose ≤ 5000) (hd : 0 ≤ s2.dep ∧ s2.dep ≤ 300) : WK (w.setCell ⟨x, i, none⟩ v) B x F s2 pi ci ins ∧ Fr [x] w (w.setCell ⟨x, i, none⟩ v) := by
  have f : Fr [x] w (w.setCell ⟨x, i, none⟩ v) := Fr.setCell (S := [x]) w ⟨x, i, none⟩ v (by simp)
  have hS : ∀ g ∈ [x], B ≤ g := fun g hg => by simp at hg; rw [hg]; exact h.base
  exact ⟨⟨by rw [set_in h.top i v, ht], h.base, h.words.keep f fun hp g hg hm => by have := h.wlo hp g hg; have := hS g hm; omega, h.wlo, h.scs.keep f fun hp g hg hm => by have := h.slo hp g hg; have := hS g hm; omega, h.slo,
    own_congr h.inr fun g hg => f.block g (own_lt h.inr g hg).2 (by simp; exact h.ine g ((blk_own _ _ _ _).1 hg)), fun u hm => own_congr (h.ink u hm) fun g hg => f.block g (own_lt (h.ink u hm) g hg).2 (by simp; exact h.une u hm g ((blk_own _ _ _ _).1 hg)), h.n4, h.en, h.sc1, h.sc25, h.sc32, ha, hl, h.il, hd, h.stk⟩, f⟩
theorem WK.cell (h : WK w B x F s pi ci ins) (i : Nat) : w.cell? ⟨x, i, none⟩ = (wcs F s pi ins.length ci)[i]? := cell_in h.top i
theorem WK.fz (h : WK w B x F s pi ci ins) (i : Nat) : w.frozen? ⟨x, i, none⟩ = false := frozen_in h.top i
set_option maxRecDepth 100000 in
set_option maxHeartbeats 2000000 in
theorem word_ok (h : WK w B x F s pi ci ins) (i : Nat) (hi : s.at_ + i < F.e0) (hi4 : i ≤ 4) : Calls Tryd.prog 28 #[.pointer (some ⟨x, 0, none⟩), .int .i64 i] w fun e w' => e = .returned (.int .i64 (F.C.w (s.at_ + i))) ∧ ∃ n, w' = w.drewN n := by
  have a4 := h.at4
  have n4 := h.n4
  have en := h.en
  obtain ⟨p, c, ew, hw⟩ := h.words.at_
  obtain ⟨g, off, e2, hg, hwc⟩ := hw (by omega)
  have x0 := hwc (s.at_ + i) (by omega)
  have x0 : w.cell? ⟨g, off + (s.at_ + i), none⟩ = some (.int .i64 (F.C.w (s.at_ + i))) := x0
  injection ew with e3 _ e4
  have c4 : w.cell? ⟨x, 4, none⟩ = some (.slice (some ⟨g, off, none⟩) F.C.ws.length F.cw) := by rw [h.cell 4]; show some (Value.slice F.pw F.C.ws.length F.cw) = _; rw [e3, e2]
  have c10 : w.cell? ⟨x, 10, none⟩ = some (.int .i64 (F.e0 : Int)) := h.cell 10
  have c12 : w.cell? ⟨x, 12, none⟩ = some (.int .i64 (s.at_ : Int)) := h.cell 12
  generalize F.C.w (s.at_ + i) = z at *
  generalize s.at_ = at_ at *
  generalize F.e0 = en0 at *
  generalize F.C.ws.length = nn at *
  have h1 : (at_ : Int) + (i : Int) < (en0 : Int) := by omega
  have h2 : decide ((en0 : Int) ≤ (at_ : Int) + (i : Int)) = false := decide_eq_false (by omega)
  have h3 : (at_ : Int) + (i : Int) < (nn : Int) := by omega
  have h4 : (0 : Int) ≤ (at_ : Int) + (i : Int) := by omega
  have hwr : IntKind.i64.wrap ((at_ : Int) + (i : Int)) = (at_ : Int) + (i : Int) := iwrap_id (by omega) (by omega)
  have htn : ((at_ : Int) + (i : Int)).toNat = at_ + i := by omega
  clear h hw hwc e2 e3 e4 hi
  go_enter Tryd.func28, Tryd.ntmps28
  go_wp2_with fail
  go_quiet (fail)
  go_wp2_with fail
  obtain ⟨W, hW⟩ : ∃ W, w.drewN nq = W := ⟨_, rfl⟩
  rw [hW]
  have c4 : W.cell? ⟨x, 4, none⟩ = some (.slice (some ⟨g, off, none⟩) nn F.cw) := by rw [← hW]; exact c4
  have c12 : W.cell? ⟨x, 12, none⟩ = some (.int .i64 (at_ : Int)) := by rw [← hW]; exact c12
  have x0 : W.cell? ⟨g, off + (at_ + i), none⟩ = some (.int .i64 z) := by rw [← hW]; exact x0
  have HW := mkHid hW
  clear hW
  go_quiet (fail)
  go_wp2_with fail
  go_ret
  exact ⟨rfl, _, by rw [← HW.out, World.drewN_drewN]⟩
set_option maxHeartbeats 400000 in
theorem needs_ok (x : Nat) (w : World) : Calls Tryd.prog 30 #[.pointer (some ⟨x, 0, none⟩), .bool true] w fun e w' => e = .returned (.tuple #[]) ∧ w' = w := by
  go_enter Tryd.func30, Tryd.ntmps30
  go_wp2_with fail
  go_end0
  exact ⟨rfl, rfl⟩
set_option maxRecDepth 100000 in
set_option maxHeartbeats 2000000 in
theorem moves_ok (h : WK w B x F s pi ci ins) (t l : Nat) (h1 : (t : Int) ≤ s.dep) (h2 : s.dep - t + l ≤ F.h.stack) : Calls Tryd.prog 32 #[.pointer (some ⟨x, 0, none⟩), .int .i64 t, .int .i64 l] w fun e w' => e = .returned (.tuple #[]) ∧ Fr [x] w w' ∧ WK w' B x F ⟨s.at_, s.dep - t + l, s.seed, s.done, s.wild, s.loose⟩ pi ci ins := by
  obtain ⟨dp1, dp2⟩ := h.dp
  obtain ⟨sk1, sk2⟩ := h.stk
  have c13 : w.cell? ⟨x, 13, none⟩ = some (.int .i64 s.dep) := h.cell 13
  have c2 : w.cell? ⟨x, 2, none⟩ = some (.int .i64 F.h.stack) := h.cell 2
  have f13 := h.fz 13
  have hA := h.set 13 (.int .i64 (s.dep - t)) ⟨s.at_, s.dep - t, s.seed, s.done, s.wild, s.loose⟩ rfl h.at4 h.lo4 ⟨by show 0 ≤ s.dep - t; omega, by show s.dep - t ≤ 300; omega⟩
  have HB2 : Hid (∀ V, WK V B x F ⟨s.at_, s.dep - t, s.seed, s.done, s.wild, s.loose⟩ pi ci ins → WK (V.setCell ⟨x, 13, none⟩ (.int .i64 (s.dep - t + l))) B x F ⟨s.at_, s.dep - t + l, s.seed, s.done, s.wild, s.loose⟩ pi ci ins ∧ Fr [x] V (V.setCell ⟨x, 13, none⟩ (.int .i64 (s.dep - t + l)))) := fun V hV => hV.set 13 _ ⟨s.at_, s.dep - t + l, s.seed, s.done, s.wild, s.loose⟩ rfl hV.at4 hV.lo4 ⟨by show 0 ≤ s.dep - t + l; omega, by show s.dep - t + l ≤ 300; omega⟩
  have HA := mkHid hA
  obtain ⟨st, hst⟩ : ∃ st, F.h.stack = st := ⟨_, rfl⟩
  rw [hst] at c2 h2 sk1 sk2
  have HSt := mkHid hst
  clear hst
  generalize s.dep = d at *
  have q1 : ¬ d - (t : Int) < 0 := by omega
  have q2 : decide (st < d - (t : Int) + (l : Int)) = false := decide_eq_false (by omega)
  have q3 : ¬ st < d - (t : Int) + (l : Int) := by omega
  have q4 : decide (d - (t : Int) < 0) = false := decide_eq_false q1
  clear h hA
  go_enter Tryd.func32, Tryd.ntmps32
  go_wp2_with fail
  obtain ⟨W, hW⟩ : ∃ W, (w.setCell ⟨x, 13, none⟩ (.int .i64 (d - (t : Int)))).setCell ⟨x, 13, none⟩ (.int .i64 (d - (t : Int) + (l : Int))) = W := ⟨_, rfl⟩
  rw [hW]
  have HZ := HB2.out _ HA.out.1
  rw [hW] at HZ
  have HZ1 := mkHid HZ.1
  have HF : Hid (Fr [x] w W) := HA.out.2.trans HZ.2 (fun b hb => .inl hb)
  have c13 : W.cell? ⟨x, 13, none⟩ = some (.int .i64 (d - (t : Int) + (l : Int))) := HZ.1.cell 13
  have c2 : W.cell? ⟨x, 2, none⟩ = some (.int .i64 F.h.stack) := HZ.1.cell 2
  rw [HSt.out] at c2
  clear hW HZ HB2 HA
  go_quiet (fail)
  go_wp2_with fail
  go_end0
  exact ⟨rfl, HF.out.trans (Fr.drewN [x] W _) (by simp), HZ1.out.idle (Fr.drewN [] W _)⟩
set_option maxHeartbeats 1000000 in
theorem slot_ok (h : WK w B x F s pi ci ins) (o i : Int) (hs : isSlotP F.sc o i = true) : Calls Tryd.prog 51 #[.pointer (some ⟨x, 0, none⟩), .int .i64 o, .int .i64 i] w fun e w' => e = .returned (.bool true) ∧ w' = w := by
  have hs' := hs
  unfold isSlotP inR bel at hs'
  simp at hs'
  obtain ⟨⟨o1, o2⟩, i1, i2⟩ := hs'
  obtain ⟨m, rfl⟩ := Int.eq_ofNat_of_zero_le o1
  rw [Int.toNat_natCast] at i2
  have s1 := h.sc1
  have s25 := h.sc25
  obtain ⟨p, c, ew, hw⟩ := h.scs.at_
  obtain ⟨g, off, e2, hg, hwc⟩ := hw (by rw [zN_len]; omega)
  have x0 := hwc (F.sc.length - 1 - m) (by rw [zN_len]; omega)
  have e5 : (zN F.sc).getD (F.sc.length - 1 - m) 0 = ((F.sc.getD (F.sc.length - 1 - m) 0 : Nat) : Int) := by
    unfold zN
    rw [List.getD_eq_getElem?_getD, List.getElem?_map, List.getD_eq_getElem?_getD, List.getElem?_eq_getElem (by omega)]; rfl
  rw [e5] at x0
  injection ew with e3 e9 e4
  have c11 : w.cell? ⟨x, 11, none⟩ = some (.slice (some ⟨g, off, none⟩) F.sc.length F.csc) := by rw [h.cell 11]; show some (Value.slice F.psc F.sc.length F.csc) = _; rw [e3, e2]
  have i2 : i < ((F.sc.getD (F.sc.length - 1 - m) 0 : Nat) : Int) := by rw [List.getD_eq_getElem?_getD]; exact i2
  clear e9 e3 e2 e4 hw hwc hs e5
  generalize F.sc.getD (F.sc.length - 1 - m) 0 = u at *
  clear h
  generalize F.sc.length = nn at *
  have o3 : (m : Int) ≤ (nn : Int) - 1 := by omega
  have o4 : (0 : Int) ≤ (nn : Int) - 1 - (m : Int) := by omega
  have o5 : (nn : Int) - 1 - (m : Int) < (nn : Int) := by omega
  go_enter Tryd.func51, Tryd.ntmps51
  go_wp2_with fail
  go_ret
  exact ⟨rfl, rfl⟩
end
set_option maxHeartbeats 2000000 in
theorem size_ok (n : Nat) (w : World) (h1 : 1 ≤ n) (h2 : n ≤ 28) : Calls Tryd.prog 29 #[.int .i64 n] w fun e w' => e = .returned (.int .i64 (1 + (shp n).opd : Nat)) ∧ w' = w := by
  rcases (show n = 1 ∨ n = 2 ∨ n = 3 ∨ n = 4 ∨ n = 5 ∨ n = 6 ∨ n = 7 ∨ n = 8 ∨ n = 9 ∨ n = 10 ∨ n = 11 ∨ n = 12 ∨ n = 13 ∨ n = 14 ∨ n = 15 ∨ n = 16 ∨ n = 17 ∨ n = 18 ∨ n = 19 ∨ n = 20 ∨ n = 21 ∨ n = 22 ∨ n = 23 ∨ n = 24 ∨ n = 25 ∨ n = 26 ∨ n = 27 ∨ n = 28 by omega) with rfl | rfl | rfl | rfl | rfl | rfl | rfl | rfl | rfl | rfl | rfl | rfl | rfl | rfl | rfl | rfl | rfl | rfl | rfl | rfl | rfl | rfl | rfl | rfl | rfl | rfl | rfl | rfl
  all_goals clear h1 h2
  all_goals go_enter Tryd.func29, Tryd.ntmps29
  all_goals go_wp2_with fail
  all_goals go_ret
  all_goals exact ⟨rfl, rfl⟩
end Go.Proofs.YtdflpoldlokijaaDoor

import Derived.Test.YtblbjgifhgfifaaPQKp3
namespace Go.Proofs.Ytblbjgifhgfifaa
open Go.RowKit Go.Maps Go.WideMaps
set_option linter.unusedVariables false
set_option linter.unusedSimpArgs false
/-- a list that grows behind one of them -/
structure Gx (w1 w3 ws wr : World) (xs : List Cg) (vc : Value) (CT CI : Nat → List Value) (a : Nat) (px : Option Addr) (cx : Nat) (E : List Value) : Prop where
  kp : Kp w1 w3 wr xs vc CT CI
  row : wr.ownsRow w1.heap.size 9 1 (.slice px (tln xs a + E.length) cx) (tln xs a + E.length) (CT a ++ E)
  bl : tv xs a = .slice px (tln xs a) cx ∨ ∀ g ∈ blk px, ws.heap.size ≤ g
  fs : Fr (blkV (tv xs a)) ws wr
  le : w3.heap.size ≤ ws.heap.size
theorem Gx.start {w1 w3 wr : World} {xs : List Cg} {vc : Value} {CT CI : Nat → List Value} {a : Nat} {px : Option Addr} {cx : Nat} (h : Kp w1 w3 wr xs vc CT CI) (ha : a < 2 * xs.length) (e : tv xs a = .slice px (tln xs a) cx) : Gx w1 w3 wr wr xs vc CT CI a px cx [] :=
  ⟨h, by have := h.txt.row a ha; rw [e] at this; rw [List.append_nil]; exact this, .inl e, Fr.refl _ _, h.fr.size⟩
theorem Gx.push {w1 w3 ws wr W : World} {xs : List Cg} {vc : Value} {CT CI : Nat → List Value} {a : Nat} {px : Option Addr} {cx : Nat} {E : List Value} (h : Gx w1 w3 ws wr xs vc CT CI a px cx E) (ha : a < 2 * xs.length) (hW : Fr [] wr W) (hv3 : ∀ g, vc.ownBlock = some g → g < w3.heap.size) (x : Value) (hx : x.oneCell' = true) (hl : tln xs a + E.length + 1 ≤ 8796093022300) :
    ∃ p' c' w', (Builtin.append_ #[24, 24] 24 #[.slice px (tln xs a + E.length) cx, .slice (some ⟨W.heap.size, 0, none⟩) 1 1]).run Try.prog (W.alloc (.cells #[x] 9)) = .ok (.slice p' (tln xs a + E.length + 1) c') w' ∧ Gx w1 w3 ws w' xs vc CT CI a p' c' (E ++ [x]) := by
  obtain ⟨i9, ii, iz, is, ib⟩ := info_parts info9
  have hrow := own_congr (w' := W) h.row (fun g hg => hW.block g (own_lt h.row g hg).2 (by simp))
  have hlen : (CT a ++ E).length = tln xs a + E.length := by have := h.row.1; rw [Nat.mul_one] at this; exact this
  have hcl : (CT a).length = tln xs a := by rw [List.length_append] at hlen; omega
  have hkW := h.kp.idle hW
  have hsW : w1.heap.size ≤ W.heap.size := Nat.le_trans (Nat.le_trans h.kp.le h.kp.fr.size) hW.size
  have hfW : Fr (blkV (tv xs a)) ws W := h.fs.trans hW (by simp)
  obtain ⟨p', c', w', r1, r2, r3⟩ := push2 Try.underlying24 ii iz is ib rfl W w1.heap.size px cx (CT a ++ E) x (by rw [hlen]; exact hrow) hx (by unfold maxLen; omega) (by rw [hlen]; omega) hsW
  rw [hlen] at r1 r2
  rw [List.append_assoc] at r2
  have r2' : w'.ownsRow w1.heap.size 9 1 (.slice p' (tln xs a + (E ++ [x]).length) c') (tln xs a + (E ++ [x]).length) (CT a ++ (E ++ [x])) := by
    rw [List.length_append, show tln xs a + (E.length + [x].length) = tln xs a + E.length + 1 from rfl]; exact r2
  refine ⟨p', c', w', r1, ?_⟩
  rcases r3 with ⟨rfl, rfl, f⟩ | ⟨f, hg⟩
  · rcases h.bl with hb | hb
    · have hpre := own_prefix r2' hcl
      have hS : ∀ g ∈ blk p', (tv xs a).ownBlock = some g ∨ W.heap.size ≤ g := fun g hg => .inl (by rw [hb]; exact (blk_own _ _ _ _).2 hg)
      have hk := hkW.text ha (ck := CT a) (by rw [hb]; exact hpre) f hS
      refine ⟨hk.eqT (fun k _ => by by_cases e : k = a <;> simp [e]), r2', .inl hb, hfW.trans f (fun g hg => .inl (mem_blkV.2 (by rw [hb]; exact (blk_own _ _ _ _).2 hg))), h.le⟩
    · refine ⟨hkW.new f (fun g hg => ?_), r2', .inr hb, hfW.trans f (fun g hg => .inr (hb g hg)), h.le⟩
      have h1 := hb g hg
      have h2 := h.le
      exact ⟨by omega, fun e => by have := hv3 g e; omega⟩
  · have hs1 := hW.size
    have hs2 := h.fs.size
    exact ⟨hkW.idle f, r2', .inr (fun g hg' => by have := hg g hg'; omega), hfW.trans f (by simp), h.le⟩
/-- lists that have grown, each behind its own -/
structure Mor (w1 w3 wr : World) (xs : List Cg) (CT : Nat → List Value) (F : Nat → Value) (ms : List Value) : Prop where
  row : ∀ a x, ms[a]? = some x → (∃ p c, x = .slice p (tln xs a + 65) c) ∧ wr.ownsRow w1.heap.size 9 1 x (tln xs a + 65) (CT a ++ List.replicate 65 (F a))
  bl : ∀ a x, ms[a]? = some x → ∀ g, x.ownBlock = some g → (tv xs a).ownBlock = some g ∨ w3.heap.size ≤ g
theorem Mor.nil (w1 w3 wr : World) (xs : List Cg) (CT : Nat → List Value) (F : Nat → Value) : Mor w1 w3 wr xs CT F [] := ⟨by simp, by simp⟩
theorem Mor.push {w1 w3 ws wr w' : World} {xs : List Cg} {vc : Value} {CT CI : Nat → List Value} {F : Nat → Value} {ms : List Value} {px : Option Addr} {cx : Nat} {S : List Nat} (hM : Mor w1 w3 ws xs CT F ms) (hms : ms.length < 2 * xs.length) (hks : Kp w1 w3 ws xs vc CT CI) (h : Gx w1 w3 ws wr xs vc CT CI ms.length px cx (List.replicate 65 (F ms.length))) (hf : Fr S wr w') (hS : ∀ g ∈ S, (∃ C t, wr.heap[g]? = some (.cells C t (0, 0)) ∧ t ≠ 9) ∨ wr.heap.size ≤ g) :
    Mor w1 w3 w' xs CT F (ms ++ [.slice px (tln xs ms.length + 65) cx]) := by
  have hno : ∀ {v : Value} {n : Nat} {ys : List Value}, wr.ownsRow w1.heap.size 9 1 v n ys → w'.ownsRow w1.heap.size 9 1 v n ys := fun {v n ys} ho => own_congr ho (fun g hg => hf.block g (own_lt ho g hg).2 (fun hm => by
    rcases hS g hm with ⟨C, t, hc, ht⟩ | h1
    · rcases ho.2 with ⟨rfl, _⟩ | ⟨g', c', cur, rfl, _, q1, _⟩
      · cases hg
      · have : g' = g := by simpa [Value.ownBlock] using hg
        subst this
        rw [hc] at q1
        injection q1 with q1
        injection q1 with _ q1
        exact ht q1
    · have := (own_lt ho g hg).2; omega))
  have key : ∀ a x, (ms ++ [.slice px (tln xs ms.length + 65) cx])[a]? = some x → (ms[a]? = some x ∧ a < ms.length) ∨ (a = ms.length ∧ x = .slice px (tln xs ms.length + 65) cx) := fun a x hx => by
    by_cases e : a < ms.length
    · rw [List.getElem?_append_left e] at hx; exact .inl ⟨hx, e⟩
    · rw [List.getElem?_append_right (by omega)] at hx
      have : a - ms.length = 0 := by
        rcases Nat.eq_zero_or_pos (a - ms.length) with h0 | h0
        · exact h0
        · rw [List.getElem?_eq_none (by simp; omega)] at hx; cases hx
      rw [this] at hx
      exact .inr ⟨by omega, (Option.some.inj hx).symm⟩
  refine ⟨fun a x hx => ?_, fun a x hx g hg => ?_⟩
  · rcases key a x hx with ⟨h1, h2⟩ | ⟨rfl, rfl⟩
    · obtain ⟨q1, q2⟩ := hM.row a x h1
      refine ⟨q1, hno (own_congr q2 (fun g hg => h.fs.block g (own_lt q2 g hg).2 (fun hm => ?_)))⟩
      have hm' := mem_blkV.1 hm
      rcases hM.bl a x h1 g hg with h3 | h3
      · exact hks.txt.ap a ms.length (by omega) hms (by omega) g h3 hm'
      · have := (hks.lt g (tv_rb hms hm')).2; omega
    · refine ⟨⟨px, cx, rfl⟩, hno ?_⟩
      have := h.row
      rw [List.length_replicate] at this
      exact this
  · rcases key a x hx with ⟨h1, h2⟩ | ⟨rfl, rfl⟩
    · exact hM.bl a x h1 g hg
    · rcases h.bl with hb | hb
      · exact .inl (by rw [hb]; exact (blk_own _ _ _ _).2 ((blk_own _ _ _ _).1 hg))
      · have h3 := hb g ((blk_own _ _ _ _).1 hg)
        have h4 := h.le
        exact .inr (by omega)
/-- a list that grows behind one of them -/
structure Gi (w1 w3 ws wr : World) (xs : List Cg) (vc : Value) (CT CI : Nat → List Value) (a : Nat) (px : Option Addr) (cx : Nat) (E : List Value) : Prop where
  kp : Kp w1 w3 wr xs vc CT CI
  row : wr.ownsRow w1.heap.size 3 1 (.slice px (fln xs a + E.length) cx) (fln xs a + E.length) (CI a ++ E)
  bl : fv xs a = .slice px (fln xs a) cx ∨ ∀ g ∈ blk px, ws.heap.size ≤ g
  fs : Fr (blkV (fv xs a)) ws wr
  le : w3.heap.size ≤ ws.heap.size
theorem Gi.start {w1 w3 wr : World} {xs : List Cg} {vc : Value} {CT CI : Nat → List Value} {a : Nat} {px : Option Addr} {cx : Nat} (h : Kp w1 w3 wr xs vc CT CI) (ha : a < xs.length) (e : fv xs a = .slice px (fln xs a) cx) : Gi w1 w3 wr wr xs vc CT CI a px cx [] :=
  ⟨h, by have := h.int.row a ha; rw [e] at this; rw [List.append_nil]; exact this, .inl e, Fr.refl _ _, h.fr.size⟩
theorem Gi.push {w1 w3 ws wr W : World} {xs : List Cg} {vc : Value} {CT CI : Nat → List Value} {a : Nat} {px : Option Addr} {cx : Nat} {E : List Value} (h : Gi w1 w3 ws wr xs vc CT CI a px cx E) (ha : a < xs.length) (hW : Fr [] wr W) (hv3 : ∀ g, vc.ownBlock = some g → g < w3.heap.size) (x : Value) (hx : x.oneCell' = true) (hl : fln xs a + E.length + 1 ≤ 8796093022300) :
    ∃ p' c' w', (Builtin.append_ #[34, 34] 34 #[.slice px (fln xs a + E.length) cx, .slice (some ⟨W.heap.size, 0, none⟩) 1 1]).run Try.prog (W.alloc (.cells #[x] 3)) = .ok (.slice p' (fln xs a + E.length + 1) c') w' ∧ Gi w1 w3 ws w' xs vc CT CI a p' c' (E ++ [x]) := by
  obtain ⟨i3, ii, iz, is, ib⟩ := info_parts info3
  have hrow := own_congr (w' := W) h.row (fun g hg => hW.block g (own_lt h.row g hg).2 (by simp))
  have hlen : (CI a ++ E).length = fln xs a + E.length := by have := h.row.1; rw [Nat.mul_one] at this; exact this
  have hcl : (CI a).length = fln xs a := by rw [List.length_append] at hlen; omega
  have hkW := h.kp.idle hW
  have hsW : w1.heap.size ≤ W.heap.size := Nat.le_trans (Nat.le_trans h.kp.le h.kp.fr.size) hW.size
  have hfW : Fr (blkV (fv xs a)) ws W := h.fs.trans hW (by simp)
  obtain ⟨p', c', w', r1, r2, r3⟩ := push2 Try.underlying34 ii iz is ib rfl W w1.heap.size px cx (CI a ++ E) x (by rw [hlen]; exact hrow) hx (by unfold maxLen; omega) (by rw [hlen]; omega) hsW
  rw [hlen] at r1 r2
  rw [List.append_assoc] at r2
  have r2' : w'.ownsRow w1.heap.size 3 1 (.slice p' (fln xs a + (E ++ [x]).length) c') (fln xs a + (E ++ [x]).length) (CI a ++ (E ++ [x])) := by
    rw [List.length_append, show fln xs a + (E.length + [x].length) = fln xs a + E.length + 1 from rfl]; exact r2
  refine ⟨p', c', w', r1, ?_⟩
  rcases r3 with ⟨rfl, rfl, f⟩ | ⟨f, hg⟩
  · rcases h.bl with hb | hb
    · have hpre := own_prefix r2' hcl
      have hS : ∀ g ∈ blk p', (fv xs a).ownBlock = some g ∨ W.heap.size ≤ g := fun g hg => .inl (by rw [hb]; exact (blk_own _ _ _ _).2 hg)
      have hk := hkW.num ha (ck := CI a) (by rw [hb]; exact hpre) f hS
      refine ⟨hk.eqI (fun k _ => by by_cases e : k = a <;> simp [e]), r2', .inl hb, hfW.trans f (fun g hg => .inl (mem_blkV.2 (by rw [hb]; exact (blk_own _ _ _ _).2 hg))), h.le⟩
    · refine ⟨hkW.new f (fun g hg => ?_), r2', .inr hb, hfW.trans f (fun g hg => .inr (hb g hg)), h.le⟩
      have h1 := hb g hg
      have h2 := h.le
      exact ⟨by omega, fun e => by have := hv3 g e; omega⟩
  · have hs1 := hW.size
    have hs2 := h.fs.size
    exact ⟨hkW.idle f, r2', .inr (fun g hg' => by have := hg g hg'; omega), hfW.trans f (by simp), h.le⟩
/-- lists that have grown, each behind its own -/
structure Moi (w1 w3 wr : World) (xs : List Cg) (CI : Nat → List Value) (F : Nat → Value) (ms : List Value) : Prop where
  row : ∀ a x, ms[a]? = some x → (∃ p c, x = .slice p (fln xs a + 65) c) ∧ wr.ownsRow w1.heap.size 3 1 x (fln xs a + 65) (CI a ++ List.replicate 65 (F a))
  bl : ∀ a x, ms[a]? = some x → ∀ g, x.ownBlock = some g → (fv xs a).ownBlock = some g ∨ w3.heap.size ≤ g
theorem Moi.nil (w1 w3 wr : World) (xs : List Cg) (CI : Nat → List Value) (F : Nat → Value) : Moi w1 w3 wr xs CI F [] := ⟨by simp, by simp⟩
theorem Moi.push {w1 w3 ws wr w' : World} {xs : List Cg} {vc : Value} {CT CI : Nat → List Value} {F : Nat → Value} {ms : List Value} {px : Option Addr} {cx : Nat} {S : List Nat} (hM : Moi w1 w3 ws xs CI F ms) (hms : ms.length < xs.length) (hks : Kp w1 w3 ws xs vc CT CI) (h : Gi w1 w3 ws wr xs vc CT CI ms.length px cx (List.replicate 65 (F ms.length))) (hf : Fr S wr w') (hS : ∀ g ∈ S, (∃ C t, wr.heap[g]? = some (.cells C t (0, 0)) ∧ t ≠ 3) ∨ wr.heap.size ≤ g) :
    Moi w1 w3 w' xs CI F (ms ++ [.slice px (fln xs ms.length + 65) cx]) := by
  have hno : ∀ {v : Value} {n : Nat} {ys : List Value}, wr.ownsRow w1.heap.size 3 1 v n ys → w'.ownsRow w1.heap.size 3 1 v n ys := fun {v n ys} ho => own_congr ho (fun g hg => hf.block g (own_lt ho g hg).2 (fun hm => by
    rcases hS g hm with ⟨C, t, hc, ht⟩ | h1
    · rcases ho.2 with ⟨rfl, _⟩ | ⟨g', c', cur, rfl, _, q1, _⟩
      · cases hg
      · have : g' = g := by simpa [Value.ownBlock] using hg
        subst this
        rw [hc] at q1
        injection q1 with q1
        injection q1 with _ q1
        exact ht q1
    · have := (own_lt ho g hg).2; omega))
  have key : ∀ a x, (ms ++ [.slice px (fln xs ms.length + 65) cx])[a]? = some x → (ms[a]? = some x ∧ a < ms.length) ∨ (a = ms.length ∧ x = .slice px (fln xs ms.length + 65) cx) := fun a x hx => by
    by_cases e : a < ms.length
    · rw [List.getElem?_append_left e] at hx; exact .inl ⟨hx, e⟩
    · rw [List.getElem?_append_right (by omega)] at hx
      have : a - ms.length = 0 := by
        rcases Nat.eq_zero_or_pos (a - ms.length) with h0 | h0
        · exact h0
        · rw [List.getElem?_eq_none (by simp; omega)] at hx; cases hx
      rw [this] at hx
      exact .inr ⟨by omega, (Option.some.inj hx).symm⟩
  refine ⟨fun a x hx => ?_, fun a x hx g hg => ?_⟩
  · rcases key a x hx with ⟨h1, h2⟩ | ⟨rfl, rfl⟩
    · obtain ⟨q1, q2⟩ := hM.row a x h1
      refine ⟨q1, hno (own_congr q2 (fun g hg => h.fs.block g (own_lt q2 g hg).2 (fun hm => ?_)))⟩
      have hm' := mem_blkV.1 hm
      rcases hM.bl a x h1 g hg with h3 | h3
      · exact hks.int.ap a ms.length (by omega) hms (by omega) g h3 hm'
      · have := (hks.lt g (fv_rb hms hm')).2; omega
    · refine ⟨⟨px, cx, rfl⟩, hno ?_⟩
      have := h.row
      rw [List.length_replicate] at this
      exact this
  · rcases key a x hx with ⟨h1, h2⟩ | ⟨rfl, rfl⟩
    · exact hM.bl a x h1 g hg
    · rcases h.bl with hb | hb
      · exact .inl (by rw [hb]; exact (blk_own _ _ _ _).2 ((blk_own _ _ _ _).1 hg))
      · have h3 := hb g ((blk_own _ _ _ _).1 hg)
        have h4 := h.le
        exact .inr (by omega)
theorem own_other {wr w' : World} {S : List Nat} {B : Nat} {e : TypeId} {v : Value} {n : Nat} {ys : List Value} (ho : wr.ownsRow B e 1 v n ys) (hf : Fr S wr w') (hS : ∀ g ∈ S, (∃ C t, wr.heap[g]? = some (.cells C t (0, 0)) ∧ t ≠ e) ∨ wr.heap.size ≤ g) : w'.ownsRow B e 1 v n ys := own_congr ho (fun g hg => hf.block g (own_lt ho g hg).2 (fun hm => by
    rcases hS g hm with ⟨C, t, hc, ht⟩ | h1
    · rcases ho.2 with ⟨rfl, _⟩ | ⟨g', c', cur, rfl, _, q1, _⟩
      · cases hg
      · have : g' = g := by simpa [Value.ownBlock] using hg
        subst this
        rw [hc] at q1
        injection q1 with q1
        injection q1 with _ q1
        exact ht q1
    · have := (own_lt ho g hg).2; omega))
theorem own_is {w : World} {B : Nat} {e : TypeId} {s : Nat} {v : Value} {n : Nat} {ys : List Value} (h : w.ownsRow B e s v n ys) {g : Nat} (hg : v.ownBlock = some g) : ∃ C, w.heap[g]? = some (.cells C e (0, 0)) := by
  rcases h.2 with ⟨rfl, _⟩ | ⟨g', c', cur, rfl, _, q1, _⟩
  · cases hg
  · have : g' = g := by simpa [Value.ownBlock] using hg
    subst this
    exact ⟨cur, q1⟩
theorem Mor.keep {w1 w3 wr w' : World} {xs : List Cg} {CT : Nat → List Value} {F : Nat → Value} {ms : List Value} {S : List Nat} (h : Mor w1 w3 wr xs CT F ms) (hf : Fr S wr w') (hS : ∀ g ∈ S, (∃ C t, wr.heap[g]? = some (.cells C t (0, 0)) ∧ t ≠ 9) ∨ wr.heap.size ≤ g) : Mor w1 w3 w' xs CT F ms :=
  ⟨fun a x hx => ⟨(h.row a x hx).1, own_other (h.row a x hx).2 hf hS⟩, h.bl⟩
/-- one more list behind the lists, of texts or of numbers -/
theorem push_hi2 {w1 w3 wr : World} {xs : List Cg} {vc : Value} {CT CI : Nat → List Value} {b0 : Nat} (h : Kp w1 w3 wr xs vc CT CI) (hv3 : ∀ g, vc.ownBlock = some g → g < w3.heap.size) (hb : w3.heap.size ≤ b0) (hb2 : b0 ≤ wr.heap.size) {p : Option Addr} {c m : Nat} {ys : List Value} {x : Value} (hr : wr.ownsRow b0 24 1 (.slice p m c) m ys) (hx : x.oneCell' = true) (hm : m + 1 ≤ 8796093022208) :
    ∃ p' c' w', (Builtin.append_ #[33, 33] 33 #[.slice p m c, .slice (some ⟨wr.heap.size, 0, none⟩) 1 1]).run Try.prog (wr.alloc (.cells #[x] 24)) = .ok (.slice p' (m + 1) c') w' ∧ w'.ownsRow b0 24 1 (.slice p' (m + 1) c') (m + 1) (ys ++ [x]) ∧ Kp w1 w3 w' xs vc CT CI ∧ Fr (blk p) wr w' := by
  have hl : ys.length = m := by have := hr.1; rw [Nat.mul_one] at this; exact this
  obtain ⟨p', c', w', r1, r2, r3⟩ := push_list wr b0 p c ys x (by rw [hl]; exact hr) hx (by omega) hb2
  rw [hl] at r1
  rw [List.length_append, hl] at r2
  have f : Fr (blk p) wr w' := by
    rcases r3 with ⟨_, _, f⟩ | ⟨f, _⟩
    · exact f
    · exact f.mono (by simp)
  refine ⟨p', c', w', r1, r2, h.new f (fun g hg => ?_), f⟩
  have h1 := own_lt hr g ((blk_own _ _ _ _).2 hg)
  exact ⟨by omega, fun e => by have := hv3 g e; omega⟩
theorem info34 : (Try.prog.info? 34).map (fun i => (i.zero, i.size, i.bytes)) = some (some (.slice none 0 0), 1, 24) := by kernel_rfl
theorem push_hiI {w1 w3 wr : World} {xs : List Cg} {vc : Value} {CT CI : Nat → List Value} (h : Kp w1 w3 wr xs vc CT CI) (hv3 : ∀ g, vc.ownBlock = some g → g < w3.heap.size) {p : Option Addr} {c m : Nat} {ys : List Value} {x : Value} (hr : wr.ownsRow w3.heap.size 34 1 (.slice p m c) m ys) (hx : x.oneCell' = true) (hm : m + 1 ≤ 8796093022208) :
    ∃ p' c' w', (Builtin.append_ #[39, 39] 39 #[.slice p m c, .slice (some ⟨wr.heap.size, 0, none⟩) 1 1]).run Try.prog (wr.alloc (.cells #[x] 34)) = .ok (.slice p' (m + 1) c') w' ∧ w'.ownsRow w3.heap.size 34 1 (.slice p' (m + 1) c') (m + 1) (ys ++ [x]) ∧ Kp w1 w3 w' xs vc CT CI ∧ Fr (blk p) wr w' := by
  have hl : ys.length = m := by have := hr.1; rw [Nat.mul_one] at this; exact this
  obtain ⟨i22, ii, iz, is, ib⟩ := info_parts info34
  obtain ⟨p', c', w', r1, r2, r3⟩ := push2 Try.underlying39 ii iz is ib rfl wr w3.heap.size p c ys x (by rw [hl]; exact hr) hx (by unfold maxLen; omega) (by rw [hl]; omega) h.fr.size
  rw [hl] at r1 r2
  have f : Fr (blk p) wr w' := by
    rcases r3 with ⟨_, _, f⟩ | ⟨f, _⟩
    · exact f
    · exact f.mono (by simp)
  refine ⟨p', c', w', r1, r2, h.new f (fun g hg => ?_), f⟩
  have h1 := own_lt hr g ((blk_own _ _ _ _).2 hg)
  exact ⟨h1.1, fun e => by have := hv3 g e; omega⟩
end Go.Proofs.Ytblbjgifhgfifaa

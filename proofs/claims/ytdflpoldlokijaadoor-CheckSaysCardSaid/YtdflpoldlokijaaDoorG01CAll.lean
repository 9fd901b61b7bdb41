import Derived.Test.YtdflpoldlokijaaDoorG00CSafe
namespace Go.Proofs.YtdflpoldlokijaaDoor
set_option linter.unusedVariables false
/-- places whose ways lead to instructions -/
structure PlOk (l : List Pl) : Prop where
  op : ∀ x, x < l.length → (plD l x).body ≠ 0 → (plD l x).nxt ≤ l.length
  blk : ∀ x, x < l.length → (plD l x).body ≠ 0 → (shp (plD l x).op).kind = 2 → (plD l x).fin < l.length ∧ (plD l (plD l x).fin).body ≠ 0
  jmp : ∀ x, x < l.length → (plD l x).body ≠ 0 → 4 ≤ (shp (plD l x).op).kind → (plD l x).to < l.length ∧ (plD l (plD l x).to).body ≠ 0
structure WkOk (l : List Pl) (s : Wk) : Prop where
  len : s.dep.length = l.length
  mem : ∀ x, x ∈ s.come ↔ depD s.dep x ≠ -1
  lt : ∀ x ∈ s.come, x < l.length ∧ (plD l x).body ≠ 0 ∧ 0 ≤ depD s.dep x ∧ depD s.dep x ≤ 2 * (s.come.length : Int)
  nodup : s.come.Nodup
theorem depD_set_ne (l : List Int) (i j : Nat) (p : Int) (h : i ≠ j) : depD (l.set i p) j = depD l j := by
  unfold depD; rw [List.getD_eq_getElem?_getD, List.getD_eq_getElem?_getD, List.getElem?_set_ne h]
theorem depD_set_eq (l : List Int) (i : Nat) (p : Int) (h : i < l.length) : depD (l.set i p) i = p := by
  unfold depD; rw [List.getD_eq_getElem?_getD, List.getElem?_set_self h]; rfl
structure Mt (s s' : Wk) : Prop where
  same : ∀ x, depD s.dep x ≠ -1 → depD s'.dep x = depD s.dep x
  pre : ∃ t, s'.come = s.come ++ t
  ended : s.ended = true → s'.ended = true
  uneven : s.uneven = true → s'.uneven = true
theorem Mt.refl (s : Wk) : Mt s s := ⟨fun _ _ => rfl, ⟨[], by simp⟩, id, id⟩
theorem Mt.trans {a b c : Wk} (h : Mt a b) (g : Mt b c) : Mt a c := by
  refine ⟨fun x hx => ?_, ?_, fun e => g.ended (h.ended e), fun e => g.uneven (h.uneven e)⟩
  · rw [g.same x (by rw [h.same x hx]; exact hx), h.same x hx]
  · obtain ⟨t, ht⟩ := h.pre
    obtain ⟨u, hu⟩ := g.pre
    exact ⟨t ++ u, by rw [hu, ht, List.append_assoc]⟩
theorem meetP_ok {l : List Pl} {s : Wk} (h : WkOk l s) (a : Nat) (d : Int) (ha : a < l.length) (hb : (plD l a).body ≠ 0) (hd : 0 ≤ d) (hd2 : d ≤ 2 * (s.come.length : Int) + 2) :
    WkOk l (meetP s a d) ∧ Mt s (meetP s a d) ∧ (meetP s a d).ended = s.ended ∧ ((meetP s a d).uneven = false → depD (meetP s a d).dep a = d) ∧ depD (meetP s a d).dep a ≠ -1 := by
  unfold meetP
  split
  · rename_i e
    exact ⟨h, Mt.refl _, rfl, fun _ => e, by omega⟩
  · rename_i e1
    split
    · rename_i e2
      have hl := h.len
      have hni : a ∉ s.come := fun hm => ((h.mem a).1 hm) e2
      refine ⟨⟨by simp [h.len], fun x => ?_, fun x hx => ?_, ?_⟩, ⟨fun x hx => ?_, ⟨[a], rfl⟩, id, id⟩, rfl, fun _ => depD_set_eq _ _ _ (by omega), ?_⟩
      · by_cases hx : x = a
        · subst hx
          simp only [List.mem_append, List.mem_singleton, or_true, true_iff]
          rw [depD_set_eq _ _ _ (by omega)]; omega
        · rw [depD_set_ne _ _ _ _ (Ne.symm hx)]
          simp only [List.mem_append, List.mem_singleton, hx, or_false]
          exact h.mem x
      · simp only [List.length_append, List.length_singleton]
        by_cases hxa : x = a
        · subst hxa
          rw [depD_set_eq _ _ _ (by omega)]
          exact ⟨ha, hb, hd, by push_cast; omega⟩
        · have hx' : x ∈ s.come := by simpa [hxa] using hx
          rw [depD_set_ne _ _ _ _ (Ne.symm hxa)]
          have := h.lt x hx'
          exact ⟨this.1, this.2.1, this.2.2.1, by push_cast; omega⟩
      · exact List.nodup_append.2 ⟨h.nodup, by simp, fun x hx y hy => by simp at hy; subst hy; intro e; subst e; exact hni hx⟩
      · rw [depD_set_ne _ _ _ _ (fun e => hx (by rw [← e]; exact e2))]
      · show depD (s.dep.set a d) a ≠ -1
        rw [depD_set_eq _ _ _ (by omega)]; omega
    · rename_i e2
      exact ⟨⟨h.len, h.mem, h.lt, h.nodup⟩, ⟨fun _ _ => rfl, ⟨[], by simp⟩, id, fun _ => rfl⟩, rfl, fun e => absurd e (by simp), e2⟩
/-- all ways on from an instruction are kept -/
structure Shut1 (l : List Pl) (dep : List Int) (x : Nat) : Prop where
  rest : 0 ≤ depD dep x - (shp (plD l x).op).takes - (plD l x).args
  on : (shp (plD l x).op).kind = 1 ∨ (shp (plD l x).op).kind = 2 ∨ (shp (plD l x).op).kind = 5 ∨ (shp (plD l x).op).kind = 7 → (plD l x).nxt ≠ l.length ∧ (plD l (plD l x).nxt).body = (plD l x).body ∧ depD dep (plD l x).nxt = depD dep x - (shp (plD l x).op).takes - (plD l x).args + (shp (plD l x).op).on
  blk : (shp (plD l x).op).kind = 2 → depD dep (plD l x).fin = 0
  jmp : 4 ≤ (shp (plD l x).op).kind → depD dep (plD l x).to = depD dep x - (shp (plD l x).op).takes - (plD l x).args + (shp (plD l x).op).jump
theorem sh_le (op : Int) : (shp op).on ≤ 2 ∧ (shp op).jump ≤ 1 ∧ (shp op).takes ≤ 2 ∧ (shp op).kind ≤ 7 ∧ (shp op).opd ≤ 3 := by
  unfold shp
  split
  · rename_i h
    obtain ⟨n, rfl⟩ := Int.eq_ofNat_of_zero_le (show 0 ≤ op by omega)
    have hn : n < 29 := by omega
    rw [Int.toNat_natCast]
    have : ∀ k, k < 29 → (tbl.getD k noSh).on ≤ 2 ∧ (tbl.getD k noSh).jump ≤ 1 ∧ (tbl.getD k noSh).takes ≤ 2 ∧ (tbl.getD k noSh).kind ≤ 7 ∧ (tbl.getD k noSh).opd ≤ 3 := by decide
    exact this n hn
  · decide
theorem leaveP_ok {l : List Pl} (hl : PlOk l) {s : Wk} (h : WkOk l s) (x : Nat) (hx : x ∈ s.come) :
    WkOk l (leaveP l s x) ∧ Mt s (leaveP l s x) ∧ ((leaveP l s x).ended = false → (leaveP l s x).uneven = false → Shut1 l (leaveP l s x).dep x) := by
  obtain ⟨x1, x2, x3, x4⟩ := h.lt x hx
  have hpos : 1 ≤ s.come.length := List.length_pos_of_mem hx
  have b := sh_le (plD l x).op
  have hne : depD s.dep x ≠ -1 := by omega
  unfold leaveP
  simp only
  generalize hr : restP s (plD l x) x = r
  have hre : r = depD s.dep x - (shp (plD l x).op).takes - (plD l x).args := by rw [← hr]; rfl
  generalize hs1 : (if r < 0 then { s with uneven := true } else s : Wk) = s1
  have w1 : WkOk l s1 ∧ Mt s s1 ∧ s1.dep = s.dep ∧ s1.come = s.come ∧ (s1.uneven = false → 0 ≤ r) := by
    rw [← hs1]
    split
    · exact ⟨⟨h.len, h.mem, h.lt, h.nodup⟩, ⟨fun _ _ => rfl, ⟨[], by simp⟩, id, fun _ => rfl⟩, rfl, rfl, fun e => by cases e⟩
    · exact ⟨h, Mt.refl _, rfl, rfl, fun _ => by omega⟩
  obtain ⟨v1, m1, d1, c1, u1⟩ := w1
  generalize hr1 : (if r < 0 then 0 else r : Int) = r1
  have r1a : 0 ≤ r1 := by rw [← hr1]; split <;> omega
  have r1b : 0 ≤ r → r1 = r := fun h => by rw [← hr1, if_neg (by omega)]
  have r1c : r1 ≤ depD s.dep x := by rw [← hr1]; split <;> omega
  generalize hs2 : (if (shp (plD l x).op).kind = 1 ∨ (shp (plD l x).op).kind = 2 ∨ (shp (plD l x).op).kind = 5 ∨ (shp (plD l x).op).kind = 7 then goOnP l s1 (plD l x) (r1 + (shp (plD l x).op).on) else s1 : Wk) = s2
  have w2 : WkOk l s2 ∧ Mt s1 s2 ∧ (s2.ended = false → s2.uneven = false → ((shp (plD l x).op).kind = 1 ∨ (shp (plD l x).op).kind = 2 ∨ (shp (plD l x).op).kind = 5 ∨ (shp (plD l x).op).kind = 7) → (plD l x).nxt ≠ l.length ∧ (plD l (plD l x).nxt).body = (plD l x).body ∧ depD s2.dep (plD l x).nxt ≠ -1 ∧ depD s2.dep (plD l x).nxt = r1 + (shp (plD l x).op).on) := by
    rw [← hs2]
    split
    · unfold goOnP
      split
      · exact ⟨⟨v1.len, v1.mem, v1.lt, v1.nodup⟩, ⟨fun _ _ => rfl, ⟨[], by simp⟩, fun _ => rfl, id⟩, fun e => absurd e (by simp)⟩
      · rename_i hk hn
        simp only [not_or, Decidable.not_not] at hn
        obtain ⟨n1, n2⟩ := hn
        have := hl.op x x1 x2
        have hm := meetP_ok v1 (plD l x).nxt (r1 + (shp (plD l x).op).on) (by omega) (by rw [n2]; exact x2) (by omega) (by rw [c1]; omega)
        exact ⟨hm.1, hm.2.1, fun _ e2 _ => ⟨n1, n2, hm.2.2.2.2, hm.2.2.2.1 e2⟩⟩
    · rename_i hk
      exact ⟨v1, Mt.refl _, fun _ _ h => absurd h hk⟩
  obtain ⟨v2, m2, k2⟩ := w2
  have m02 := m1.trans m2
  have hlen2 : s.come.length ≤ s2.come.length := by obtain ⟨t, ht⟩ := m02.pre; rw [ht]; simp
  have hsame : ∀ s3 : Wk, Mt s2 s3 → depD s3.dep x = depD s.dep x := fun s3 m3 => (m02.trans m3).same x hne
  have hfin : ∀ s3 : Wk, Mt s2 s3 → s3.ended = false → s3.uneven = false → ((shp (plD l x).op).kind = 2 → depD s3.dep (plD l x).fin = 0) → (4 ≤ (shp (plD l x).op).kind → depD s3.dep (plD l x).to = r1 + (shp (plD l x).op).jump) → Shut1 l s3.dep x := by
    intro s3 m3 e1 e2 a1 a2
    have e3 : s2.ended = false := by cases h : s2.ended; rfl; rw [m3.ended h] at e1; cases e1
    have e4 : s2.uneven = false := by cases h : s2.uneven; rfl; rw [m3.uneven h] at e2; cases e2
    have e5 : s1.uneven = false := by cases h : s1.uneven; rfl; rw [m2.uneven h] at e4; cases e4
    have h0 := u1 e5
    have hr1e := r1b h0
    refine ⟨?_, fun hk => ?_, a1, fun hk => ?_⟩
    · rw [hsame s3 m3, ← hre]; exact h0
    · obtain ⟨n1, n2, n3, n4⟩ := k2 e3 e4 hk
      refine ⟨n1, n2, ?_⟩
      rw [hsame s3 m3, ← hre, m3.same _ n3, n4, hr1e]
    · rw [hsame s3 m3, ← hre, a2 hk, hr1e]
  split
  · rename_i h2
    obtain ⟨f1, f2⟩ := hl.blk x x1 x2 h2
    have hm := meetP_ok v2 (plD l x).fin 0 f1 f2 (by omega) (by omega)
    exact ⟨hm.1, m02.trans hm.2.1, fun e1 e2 => hfin _ hm.2.1 e1 e2 (fun _ => hm.2.2.2.1 e2) (fun h4 => by omega)⟩
  · rename_i h2
    split
    · rename_i h4
      obtain ⟨f1, f2⟩ := hl.jmp x x1 x2 h4
      have hm := meetP_ok v2 (plD l x).to (r1 + (shp (plD l x).op).jump) f1 f2 (by omega) (by omega)
      exact ⟨hm.1, m02.trans hm.2.1, fun e1 e2 => hfin _ hm.2.1 e1 e2 (fun h => absurd h h2) (fun _ => hm.2.2.2.1 e2)⟩
    · rename_i h4
      exact ⟨v2, m02, fun e1 e2 => hfin _ (Mt.refl _) e1 e2 (fun h => absurd h h2) (fun h => absurd h h4)⟩
theorem Shut1.keep {l : List Pl} (hl : PlOk l) {s s' : Wk} {x : Nat} (h : Shut1 l s.dep x) (hm : Mt s s') (hx : depD s.dep x ≠ -1) : Shut1 l s'.dep x := by
  have e := hm.same x hx
  refine ⟨by rw [e]; exact h.rest, fun k => ?_, fun k => ?_, fun k => ?_⟩
  · obtain ⟨a, b, c⟩ := h.on k
    exact ⟨a, b, by rw [e, hm.same _ (by rw [c]; have := h.rest; omega)]; exact c⟩
  · rw [hm.same _ (by rw [h.blk k]; omega)]; exact h.blk k
  · rw [e, hm.same _ (by rw [h.jmp k]; have := h.rest; omega)]; exact h.jmp k
theorem nodup_len : ∀ (n : Nat) {l : List Nat}, l.Nodup → (∀ x ∈ l, x < n) → l.length ≤ n
  | 0, l, _, h => by
    cases l with
    | nil => simp
    | cons a t => exact absurd (h a (by simp)) (by omega)
  | n + 1, l, hn, h => by
    have h1 := nodup_len n (l := l.erase n) (hn.erase n) (fun x hx => by
      have hx' := (hn.mem_erase_iff).1 hx
      have := h x hx'.2
      have := hx'.1
      omega)
    by_cases hm : n ∈ l
    · have := List.length_erase_of_mem hm
      omega
    · rw [List.erase_of_not_mem hm] at h1
      omega
structure GoInv (l : List Pl) (i : Nat) (s : Wk) : Prop where
  ok : WkOk l s
  shut : s.ended = false → s.uneven = false → ∀ j, j < i → ∀ x, s.come[j]? = some x → Shut1 l s.dep x
theorem GoInv.step {l : List Pl} (hl : PlOk l) {i : Nat} {s : Wk} (h : GoInv l i s) (hi : i < s.come.length) : GoInv l (i + 1) (leaveP l s (s.come.getD i 0)) ∧ Mt s (leaveP l s (s.come.getD i 0)) := by
  have hm : s.come.getD i 0 ∈ s.come := by rw [List.getD_eq_getElem?_getD, List.getElem?_eq_getElem hi]; exact List.getElem_mem hi
  have hs := leaveP_ok hl h.ok _ hm
  refine ⟨⟨hs.1, fun e1 e2 j hj x hx => ?_⟩, hs.2.1⟩
  have e3 : s.ended = false := by cases h : s.ended; rfl; rw [hs.2.1.ended h] at e1; cases e1
  have e4 : s.uneven = false := by cases h : s.uneven; rfl; rw [hs.2.1.uneven h] at e2; cases e2
  obtain ⟨t, ht⟩ := hs.2.1.pre
  rw [ht, List.getElem?_append_left (by omega)] at hx
  by_cases hji : j = i
  · subst hji
    have : s.come.getD j 0 = x := by rw [List.getD_eq_getElem?_getD, hx]; rfl
    rw [this] at hs e1 e2 ⊢
    exact hs.2.2 e1 e2
  · exact (h.shut e3 e4 j (by omega) x hx).keep hl hs.2.1 ((h.ok.mem x).1 (List.mem_of_getElem? hx))
theorem goP_ok {l : List Pl} (hl : PlOk l) : ∀ (f i : Nat) (s : Wk), GoInv l i s → l.length < i + f → i ≤ s.come.length → GoInv l (goP l f i s).come.length (goP l f i s) ∧ Mt s (goP l f i s) := by
  intro f
  induction f with
  | zero =>
    intro i s h h1 h2
    have := nodup_len l.length h.ok.nodup (fun x hx => (h.ok.lt x hx).1)
    omega
  | succ f ih =>
    intro i s h h1 h2
    unfold goP
    split
    · rename_i hi
      have hs := h.step hl hi
      have hlen : s.come.length ≤ (leaveP l s (s.come.getD i 0)).come.length := by obtain ⟨t, ht⟩ := hs.2.pre; rw [ht]; simp
      have := ih (i + 1) _ hs.1 (by omega) (by omega)
      exact ⟨this.1, hs.2.trans this.2⟩
    · rename_i hi
      have e : i = s.come.length := by omega
      exact ⟨by rw [← e]; exact h, Mt.refl _⟩
theorem depD_rep (n x : Nat) : depD (List.replicate n (-1)) x = -1 := by
  unfold depD; rw [List.getD_eq_getElem?_getD, List.getElem?_replicate]; split <;> rfl
theorem startP_ok (l : List Pl) (h0 : 0 < l.length) (hb : (plD l 0).body ≠ 0) : GoInv l 0 (startP l.length) ∧ depD (startP l.length).dep 0 = 0 ∧ (startP l.length).come.length ≤ 1 := by
  have hw : WkOk l ⟨List.replicate l.length (-1), [], false, false⟩ := ⟨by simp, fun x => by simp [depD_rep], fun x hx => by simp at hx, by simp⟩
  have hm := meetP_ok hw 0 0 h0 hb (by omega) (by simp)
  have hu : (startP l.length).uneven = false := by
    unfold startP meetP
    split
    · rfl
    · split
      · rfl
      · rename_i h2; exact absurd (depD_rep _ _) h2
  have hc : (startP l.length).come.length ≤ 1 := by
    unfold startP meetP
    split
    · simp
    · split
      · simp
      · simp
  exact ⟨⟨hm.1, fun _ _ j hj => by omega⟩, hm.2.2.2.1 hu, hc⟩
theorem foldl_max_le : ∀ (l : List Int) (a : Int), a ≤ l.foldl max a ∧ ∀ x ∈ l, x ≤ l.foldl max a
  | [], a => ⟨Int.le_refl _, fun x hx => by simp at hx⟩
  | y :: l, a => by
    have h := foldl_max_le l (max a y)
    have h1 : a ≤ max a y := by omega
    have h2 : y ≤ max a y := by omega
    refine ⟨by show a ≤ l.foldl max (max a y); omega, fun x hx => ?_⟩
    show x ≤ l.foldl max (max a y)
    rcases List.mem_cons.1 hx with rfl | hx
    · omega
    · exact h.2 x hx
/-- what follow takes -/
structure FolOk (l : List Pl) (stack : Int) (dep : List Int) : Prop where
  len : dep.length = l.length
  zero : depD dep 0 = 0
  bound : ∀ x, depD dep x ≠ -1 → x < l.length ∧ (plD l x).body ≠ 0 ∧ 0 ≤ depD dep x ∧ depD dep x ≤ stack
  shut : ∀ x, depD dep x ≠ -1 → Shut1 l dep x
theorem follow_sound {l : List Pl} (hl : PlOk l) (hb : (plD l 0).body ≠ 0) (stack : Int) (h : (followP l stack).1 = 0) : FolOk l stack (followP l stack).2 := by
  unfold followP at h ⊢
  split at h
  · simp at h
  rename_i h0
  split at h
  · simp at h
  rename_i h1
  split at h
  · simp at h
  rename_i h2
  rw [if_neg h0, if_neg h1, if_neg h2]
  obtain ⟨s1, s2, s3⟩ := startP_ok l (by omega) hb
  obtain ⟨g1, g2⟩ := goP_ok hl (l.length + 1) 0 _ s1 (by omega) (Nat.zero_le _)
  generalize goP l (l.length + 1) 0 (startP l.length) = s at *
  simp only [not_or, Bool.not_eq_true, Decidable.not_not] at h1 h2
  refine ⟨g1.ok.len, by rw [g2.same 0 (by omega)]; exact s2, fun x hx => ?_, fun x hx => ?_⟩
  · have := g1.ok.lt x ((g1.ok.mem x).2 hx)
    refine ⟨this.1, this.2.1, this.2.2.1, ?_⟩
    rw [← h2.2]
    refine (foldl_max_le s.dep (-1)).2 _ ?_
    have hlt : x < s.dep.length := by rw [g1.ok.len]; exact this.1
    unfold depD
    rw [List.getD_eq_getElem?_getD, List.getElem?_eq_getElem hlt]
    exact List.getElem_mem hlt
  · obtain ⟨j, hj, hjx⟩ := List.getElem_of_mem ((g1.ok.mem x).2 hx)
    exact g1.shut h1 h2.1 j hj x (by rw [List.getElem?_eq_getElem hj, hjx])
end Go.Proofs.YtdflpoldlokijaaDoor
namespace Go.Proofs.YtdflpoldlokijaaDoor
set_option linter.unusedVariables false
theorem goto_same (C : Cx) (p : Pl) (x : Nat) : (p.goto C x).op = p.op ∧ (p.goto C x).body = p.body ∧ (p.goto C x).args = p.args ∧ (p.goto C x).fin = p.fin ∧ (p.goto C x).nxt = p.nxt := by
  unfold Pl.goto; split <;> simp
theorem jumpN_at (C : Cx) (l : List Pl) (x : Nat) : plD (jumpN C l l.length) x = (plD l x).goto C x := by
  unfold plD jumpN
  rw [List.getD_eq_getElem?_getD, List.getD_eq_getElem?_getD, List.getElem?_mapIdx]
  by_cases h : x < l.length
  · rw [List.getElem?_eq_getElem h]; simp [h]
  · rw [List.getElem?_eq_none (by omega)]; rfl
theorem jumpN_len (C : Cx) (l : List Pl) (n : Nat) : (jumpN C l n).length = l.length := by unfold jumpN; simp
theorem InsOk.go {C : Cx} {sc : List Nat} {at_ e0 : Nat} {p : Pl} (h : InsOk C sc at_ e0 p) : InsOk C sc at_ e0 (p.goto C at_) := by
  obtain ⟨e1, e2, e3, e4, e5⟩ := goto_same C p at_
  exact ⟨by rw [e1]; exact h.op, by rw [e1]; exact h.lo, by rw [e1]; exact h.hi, by rw [e1, e4]; exact h.fin, by rw [e4]; exact h.fe, by rw [e1]; exact h.may, by rw [e1]; exact h.fit, by rw [e1, e4, e5]; exact h.blk, by rw [e1, e4, e5]; exact h.nob, by rw [e5]; exact h.ne, by rw [e1, e3]; exact h.snd, by rw [e1, e3]; exact h.nos⟩
/-- an instruction that is come to -/
structure StepOk (C : Cx) (stack : Int) (pls : List Pl) (inf : List Inf) (dep : List Int) (x : Nat) (sc : List Nat) (b0 e0 : Nat) : Prop where
  ins : InsOk C sc x e0 (plD pls x)
  lo : b0 ≤ x
  hi : x < e0
  en : e0 ≤ C.ws.length
  shut : Shut1 pls dep x
  pos : 0 ≤ depD dep x
  top : depD dep x ≤ stack
  blk : (plD pls x).op = 19 → ∃ k', 1 ≤ k' ∧ inf[k' - 1]? = some (sc ++ [(C.w (x + 2)).toNat], (plD pls x).fin, (plD pls x).nxt) ∧ (plD pls (plD pls x).fin).body = k'
  fwd : (shp (plD pls x).op).kind = 4 ∨ (shp (plD pls x).op).kind = 5 → 0 ≤ C.w ((plD pls x).fin - 1) ∧ (plD pls x).to = (plD pls x).fin + (C.w ((plD pls x).fin - 1)).toNat
  bwd : (shp (plD pls x).op).kind = 6 ∨ (shp (plD pls x).op).kind = 7 → ((plD pls x).fin : Int) - x + 1 ≤ C.w ((plD pls x).fin - 1) ∧ C.w ((plD pls x).fin - 1) ≤ (plD pls x).fin ∧ (plD pls x).to = (plD pls x).fin - (C.w ((plD pls x).fin - 1)).toNat
  jbody : 4 ≤ (shp (plD pls x).op).kind → (plD pls (plD pls x).to).body = (plD pls x).body
  bne : (plD pls x).body ≠ 0
structure Safe (C : Cx) (t : Nat) (stack : Int) (pls : List Pl) (inf : List Inf) (dep : List Int) : Prop where
  zero : depD dep 0 = 0
  head : inf[0]? = some ([t], 0, C.ws.length)
  first : (plD pls 0).body = 1
  step : ∀ x, depD dep x ≠ -1 → ∃ sc b0 e0, inf[(plD pls x).body - 1]? = some (sc, b0, e0) ∧ StepOk C stack pls inf dep x sc b0 e0
theorem kind19 (op : Nat) (h1 : 1 ≤ op) (h2 : op ≤ 28) : ((shp op).kind = 2 ↔ op = 19) ∧ (shp op).kind ≠ 0 := by
  have : ∀ k, k < 29 → 1 ≤ k → (((tbl.getD k noSh).kind = 2 ↔ k = 19) ∧ (tbl.getD k noSh).kind ≠ 0) := by decide
  unfold shp
  rw [if_pos (by omega), Int.toNat_natCast]
  exact this op (by omega) h1
theorem goto_to {C : Cx} {p : Pl} {x : Nat} (h : 4 ≤ (shp p.op).kind) : (p.goto C x).to = (toP C p x).getD 0 := by
  unfold Pl.goto isJ; simp [h]
theorem toP_some {C : Cx} {p : Pl} {x t : Nat} (h4 : 4 ≤ (shp p.op).kind) (h : toP C p x = some t) :
    ((shp p.op).kind = 4 ∨ (shp p.op).kind = 5 → 0 ≤ C.w (p.fin - 1) ∧ t = p.fin + (C.w (p.fin - 1)).toNat ∧ t < C.ws.length) ∧
    ((shp p.op).kind = 6 ∨ (shp p.op).kind = 7 → (p.fin : Int) - x + 1 ≤ C.w (p.fin - 1) ∧ C.w (p.fin - 1) ≤ p.fin ∧ t = p.fin - (C.w (p.fin - 1)).toNat) := by
  unfold toP at h
  split at h
  · rename_i hk
    split at h
    · rename_i hb
      unfold bel at hb
      simp at hb h
      exact ⟨fun _ => ⟨hb.1, h.symm, by omega⟩, fun h => by omega⟩
    · simp at h
  · split at h
    · split at h
      · rename_i hb
        unfold inR at hb
        simp at hb h
        exact ⟨fun h => by omega, fun _ => ⟨hb.1, hb.2, h.symm⟩⟩
      · simp at h
    · simp at h
theorem words_safe (C : Cx) (h : Hd) (he : (wordsP C h).1 = 0) : ∃ pls inf, Safe C h.temps.toNat h.stack pls inf (wordsP C h).2 ∧ (wordsP C h).2.length = C.ws.length ∧ 0 < C.ws.length ∧ 0 ≤ h.stack := by
  have he0 := he
  unfold wordsP at he
  split at he
  · rename_i h1; exact absurd he h1
  rename_i h1
  simp only [ne_eq, Decidable.not_not] at h1
  split at he
  · simp at he
  rename_i h2
  have hW : wordsP C h = followP (jumpN C (readP C (C.ws.length + 1) [h.temps.toNat] 0 C.ws.length 1 (startR C h.temps.toNat)).2.pls C.ws.length) h.stack := by
    unfold wordsP
    rw [if_neg (by simpa using h1), if_neg h2]
  rw [hW]
  have hL := readP_len C (C.ws.length + 1) [h.temps.toNat] 0 C.ws.length 1 (startR C h.temps.toNat)
  have hL0 : (startR C h.temps.toNat).pls.length = C.ws.length := by simp [startR]
  have q := readP_inv C (C.ws.length + 1) [h.temps.toNat] 0 C.ws.length 1 0 (startR C h.temps.toNat) h1 (by omega) (by omega) (by omega) (by simp [startR]) (Nat.le_refl _) (fun x _ _ => by show (plD (List.replicate C.ws.length noPl) x).body = 0; rw [plD_rep]; rfl)
  generalize hR : (readP C (C.ws.length + 1) [h.temps.toNat] 0 C.ws.length 1 (startR C h.temps.toNat)).2 = R at *
  have hRl : R.pls.length = C.ws.length := by omega
  rw [← hRl] at he
  have hpos : 0 < C.ws.length := by
    rcases Nat.eq_zero_or_pos C.ws.length with h0 | h0
    · unfold followP at he
      rw [jumpN_len, if_pos (by omega)] at he
      simp at he
    · exact h0
  have hland : ∀ x, x < R.pls.length → landP C R.pls x = true := fun x hx => by
    have h2' : (List.range C.ws.length).all (landP C R.pls) = true := by simpa using h2
    exact List.all_eq_true.1 h2' x (by simp; omega)
  have hgood : ∀ x, x < R.pls.length → (plD R.pls x).body ≠ 0 → GoodI C R x C.ws.length := fun x hx hb => q.good x (Nat.zero_le _) (by omega) hb
  have hj : ∀ x, x < R.pls.length → 4 ≤ (shp (plD R.pls x).op).kind → ∃ t, toP C (plD R.pls x) x = some t ∧ (plD R.pls t).body = (plD R.pls x).body := fun x hx h4 => by
    have := hland x hx
    unfold landP at this
    rw [if_pos (by unfold isJ; simpa using h4)] at this
    split at this
    · cases this
    · rename_i t ht
      exact ⟨t, ht, by simpa using this⟩
  have hlt : ∀ x t, x < R.pls.length → (plD R.pls x).body ≠ 0 → 4 ≤ (shp (plD R.pls x).op).kind → toP C (plD R.pls x) x = some t → t < R.pls.length := fun x t hx hb h4 ht => by
    have k7 := (sh_le (plD R.pls x).op).2.2.2.1
    obtain ⟨a, b⟩ := toP_some h4 ht
    obtain ⟨sc, b0, e0, g1, g2, g3, g4, g5, g6⟩ := hgood x hx hb
    have := g5.fe
    rcases (show ((shp (plD R.pls x).op).kind = 4 ∨ (shp (plD R.pls x).op).kind = 5) ∨ ((shp (plD R.pls x).op).kind = 6 ∨ (shp (plD R.pls x).op).kind = 7) by omega) with hk | hk
    · have := a hk; omega
    · have := b hk; have := g5.gt; omega
  have hLn : (jumpN C R.pls R.pls.length).length = R.pls.length := jumpN_len ..
  have hP : PlOk (jumpN C R.pls R.pls.length) := by
    refine ⟨fun x hx hb => ?_, fun x hx hb hk => ?_, fun x hx hb hk => ?_⟩
    all_goals rw [hLn] at hx ⊢
    all_goals rw [jumpN_at] at *
    all_goals obtain ⟨e1, e2, e3, e4, e5⟩ := goto_same C (plD R.pls x) x
    all_goals rw [e2] at hb
    all_goals obtain ⟨sc, b0, e0, g1, g2, g3, g4, g5, g6⟩ := hgood x hx hb
    · have := g5.ne; rw [e5]; omega
    · rw [e1] at hk
      have h19 := (kind19 _ g5.lo g5.hi).1.1 hk
      obtain ⟨k', k1, k2, k3⟩ := g6 h19
      have := g5.blk h19
      have := g5.ne
      rw [jumpN_at, e4, (goto_same C _ _).2.1, k3]
      omega
    · rw [e1] at hk
      obtain ⟨t, t1, t2⟩ := hj x hx hk
      have t3 := hlt x t hx hb hk t1
      rw [jumpN_at, goto_to hk, t1, (goto_same C _ _).2.1]
      exact ⟨t3, by show (plD R.pls t).body ≠ 0; rw [t2]; exact hb⟩
  have hb0 : (plD (jumpN C R.pls R.pls.length) 0).body = 1 := by
    rw [jumpN_at, (goto_same C _ _).2.1]; exact q.head hpos
  rw [← hRl]
  have F := follow_sound hP (by rw [hb0]; decide) h.stack he
  generalize (followP (jumpN C R.pls R.pls.length) h.stack).2 = dep at *
  refine ⟨jumpN C R.pls R.pls.length, R.inf, ⟨F.zero, inf_get q.inf (by simp [startR]), hb0, fun x hx => ?_⟩, by rw [F.len, hLn], by omega, ?_⟩
  · obtain ⟨x1, x2, x3, x4⟩ := F.bound x hx
    have S := F.shut x hx
    rw [hLn] at x1
    obtain ⟨e1, e2, e3, e4, e5⟩ := goto_same C (plD R.pls x) x
    have eP := jumpN_at C R.pls x
    have hb : (plD R.pls x).body ≠ 0 := by rw [eP, e2] at x2; exact x2
    obtain ⟨sc, b0, e0, g1, g2, g3, g4, g5, g6⟩ := hgood x x1 hb
    refine ⟨sc, b0, e0, by rw [eP, e2]; exact g1, by rw [eP]; exact g5.go, g3, g4, g2, S, x3, x4, fun k => ?_, fun k => ?_, fun k => ?_, fun k => ?_, x2⟩
    · rw [eP, e1] at k
      obtain ⟨k', k1, k2, k3⟩ := g6 k
      refine ⟨k', k1, by rw [eP, e4, e5]; exact k2, ?_⟩
      rw [eP, e4, jumpN_at, (goto_same C _ _).2.1]; exact k3
    · rw [eP, e1] at k
      obtain ⟨t, t1, t2⟩ := hj x x1 (by omega)
      have := (toP_some (by omega) t1).1 k
      rw [eP, e4, goto_to (by omega), t1]
      exact ⟨this.1, this.2.1⟩
    · rw [eP, e1] at k
      obtain ⟨t, t1, t2⟩ := hj x x1 (by omega)
      have := (toP_some (by omega) t1).2 k
      rw [eP, e4, goto_to (by omega), t1]
      exact ⟨this.1, this.2.1, this.2.2⟩
    · rw [eP, e1] at k
      obtain ⟨t, t1, t2⟩ := hj x x1 k
      rw [eP, goto_to k, t1, e2, jumpN_at, (goto_same C _ _).2.1]; exact t2
  · have := (F.bound 0 (by rw [F.zero]; decide)).2.2
    rw [F.zero] at this
    omega
end Go.Proofs.YtdflpoldlokijaaDoor

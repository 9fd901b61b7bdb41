import Derived.Test.YtdflpoldlokijaaDoorG01CAll
import Derived.Test.YtdflpoldlokijaaDoorG29CSy7
namespace Go.Proofs.YtdflpoldlokijaaDoor
set_option linter.unusedVariables false
def onK (p : Pl) : Prop := (shp p.op).kind = 1 ∨ (shp p.op).kind = 2 ∨ (shp p.op).kind = 5 ∨ (shp p.op).kind = 7
def endsP (l : List Pl) (x : Nat) : Prop := onK (plD l x) ∧ ((plD l x).nxt = l.length ∨ (plD l (plD l x).nxt).body ≠ (plD l x).body)
/-- what is come to -/
inductive Rch (l : List Pl) : Nat → Prop
  | zero : Rch l 0
  | on {x : Nat} (h : Rch l x) (hk : onK (plD l x)) (he : ¬ endsP l x) : Rch l (plD l x).nxt
  | blk {x : Nat} (h : Rch l x) (hk : (shp (plD l x).op).kind = 2) : Rch l (plD l x).fin
  | jmp {x : Nat} (h : Rch l x) (hk : 4 ≤ (shp (plD l x).op).kind) : Rch l (plD l x).to
def leftD (l : List Pl) (D : Nat → Int) (x : Nat) : Int := D x - (shp (plD l x).op).takes - (plD l x).args
/-- depths on which all ways agree -/
structure Con1 (l : List Pl) (D : Nat → Int) (x : Nat) : Prop where
  rest : 0 ≤ leftD l D x
  on : onK (plD l x) → ¬ endsP l x → D (plD l x).nxt = leftD l D x + (shp (plD l x).op).on
  blk : (shp (plD l x).op).kind = 2 → D (plD l x).fin = 0
  jmp : 4 ≤ (shp (plD l x).op).kind → D (plD l x).to = leftD l D x + (shp (plD l x).op).jump
structure Con (l : List Pl) (D : Nat → Int) : Prop where
  zero : D 0 = 0
  all : ∀ x, Rch l x → Con1 l D x
/-- where an instruction leads to was come to -/
structure Led (l : List Pl) (dep : List Int) (x : Nat) : Prop where
  on : onK (plD l x) → ¬ endsP l x → depD dep (plD l x).nxt ≠ -1
  blk : (shp (plD l x).op).kind = 2 → depD dep (plD l x).fin ≠ -1
  jmp : 4 ≤ (shp (plD l x).op).kind → depD dep (plD l x).to ≠ -1
theorem Led.keep {l : List Pl} {a b : List Int} {x : Nat} (h : Led l a x) (hm : ∀ y, depD a y ≠ -1 → depD b y ≠ -1) : Led l b x :=
  ⟨fun k e => hm _ (h.on k e), fun k => hm _ (h.blk k), fun k => hm _ (h.jmp k)⟩
theorem rch_all {l : List Pl} {dep : List Int} (h0 : depD dep 0 ≠ -1) (h : ∀ x, depD dep x ≠ -1 → Led l dep x) : ∀ x, Rch l x → depD dep x ≠ -1 := by
  intro x hx
  induction hx with
  | zero => exact h0
  | on hx hk he ih => exact (h _ ih).on hk he
  | blk hx hk ih => exact (h _ ih).blk hk
  | jmp hx hk ih => exact (h _ ih).jmp hk
/-- a state of the program's walk, beside what is come to -/
structure PI (l : List Pl) (s : Wk) : Prop where
  rch : ∀ x ∈ s.come, Rch l x
  mem : ∀ x, x ∈ s.come ↔ depD s.dep x ≠ -1
  endd : s.ended = true → ∃ x, Rch l x ∧ endsP l x
  con : ∀ D, Con l D → s.uneven = false ∧ ∀ x ∈ s.come, depD s.dep x = D x
  len : s.dep.length = l.length
theorem meet_pi {l : List Pl} {s : Wk} (h : PI l s) (a : Nat) (d : Int) (ha : Rch l a) (hl : a < l.length) (hd : d ≠ -1) (hc : ∀ D, Con l D → D a = d) : PI l (meetP s a d) := by
  unfold meetP
  split
  · exact h
  · rename_i e1
    split
    · rename_i e2
      have hlen := h.len
      refine ⟨fun x hx => ?_, fun x => ?_, h.endd, fun D hD => ⟨(h.con D hD).1, fun x hx => ?_⟩, by simp [h.len]⟩
      · rcases List.mem_append.1 hx with hx | hx
        · exact h.rch x hx
        · simp at hx; subst hx; exact ha
      · by_cases hx : x = a
        · subst hx
          simp only [List.mem_append, List.mem_singleton, or_true, true_iff]
          rw [depD_set_eq _ _ _ (by omega)]; exact hd
        · rw [depD_set_ne _ _ _ _ (Ne.symm hx)]
          simp only [List.mem_append, List.mem_singleton, hx, or_false]
          exact h.mem x
      · by_cases hxa : x = a
        · subst hxa
          rw [depD_set_eq _ _ _ (by omega), hc D hD]
        · have hx' : x ∈ s.come := by simpa [hxa] using hx
          rw [depD_set_ne _ _ _ _ (Ne.symm hxa)]
          exact (h.con D hD).2 x hx'
    · rename_i e2
      refine ⟨h.rch, h.mem, h.endd, fun D hD => ?_, h.len⟩
      have h1 := (h.con D hD).2 a ((h.mem a).2 e2)
      rw [hc D hD] at h1
      exact absurd h1 e1
theorem meet_at (s : Wk) (a : Nat) (d : Int) (hl : a < s.dep.length) (hd : d ≠ -1) : depD (meetP s a d).dep a ≠ -1 ∧ (∀ y, depD s.dep y ≠ -1 → depD (meetP s a d).dep y ≠ -1) ∧ (meetP s a d).ended = s.ended := by
  unfold meetP
  split
  · rename_i e; exact ⟨by rw [e]; exact hd, fun _ h => h, rfl⟩
  · split
    · rename_i e2
      refine ⟨by rw [depD_set_eq _ _ _ hl]; exact hd, fun y hy => ?_, rfl⟩
      by_cases hya : a = y
      · subst hya; exact absurd e2 hy
      · rw [depD_set_ne _ _ _ _ hya]; exact hy
    · rename_i e2; exact ⟨e2, fun _ h => h, rfl⟩
theorem leave_pi {l : List Pl} (hl : PlOk l) {s : Wk} (hw : WkOk l s) (h : PI l s) (x : Nat) (hx : x ∈ s.come) :
    PI l (leaveP l s x) ∧ Led l (leaveP l s x).dep x ∧ (endsP l x → (leaveP l s x).ended = true) := by
  obtain ⟨x1, x2, x3, x4⟩ := hw.lt x hx
  have hr := h.rch x hx
  have b := sh_le (plD l x).op
  unfold leaveP
  simp only
  generalize hrr : restP s (plD l x) x = r
  have hre : r = depD s.dep x - (shp (plD l x).op).takes - (plD l x).args := by rw [← hrr]; rfl
  have hcr : ∀ D, Con l D → leftD l D x = r := fun D hD => by
    unfold leftD; rw [← (h.con D hD).2 x hx, hre]
  generalize hs1 : (if r < 0 then { s with uneven := true } else s : Wk) = s1
  have w1 : PI l s1 ∧ s1.dep = s.dep ∧ s1.ended = s.ended := by
    rw [← hs1]
    split
    · rename_i hneg
      refine ⟨⟨h.rch, h.mem, h.endd, fun D hD => ?_, h.len⟩, rfl, rfl⟩
      have := (hD.all x hr).rest
      rw [hcr D hD] at this
      omega
    · exact ⟨h, rfl, rfl⟩
  obtain ⟨v1, d1, en1⟩ := w1
  generalize hr1 : (if r < 0 then 0 else r : Int) = r1
  have r1a : 0 ≤ r1 := by rw [← hr1]; split <;> omega
  have r1b : ∀ D, Con l D → r1 = leftD l D x := fun D hD => by
    have := (hD.all x hr).rest
    rw [hcr D hD] at this ⊢
    rw [← hr1, if_neg (by omega)]
  generalize hs2 : (if (shp (plD l x).op).kind = 1 ∨ (shp (plD l x).op).kind = 2 ∨ (shp (plD l x).op).kind = 5 ∨ (shp (plD l x).op).kind = 7 then goOnP l s1 (plD l x) (r1 + (shp (plD l x).op).on) else s1 : Wk) = s2
  have w2 : PI l s2 ∧ (∀ y, depD s1.dep y ≠ -1 → depD s2.dep y ≠ -1) ∧ (onK (plD l x) → ¬ endsP l x → depD s2.dep (plD l x).nxt ≠ -1) ∧ (endsP l x → s2.ended = true) := by
    rw [← hs2]
    split
    · rename_i hk
      unfold goOnP
      split
      · rename_i hn
        have he : endsP l x := ⟨hk, hn⟩
        exact ⟨⟨v1.rch, v1.mem, fun _ => ⟨x, hr, he⟩, v1.con, v1.len⟩, fun _ h => h, fun _ hh => absurd he hh, fun _ => rfl⟩
      · rename_i hn
        have hne : ¬ endsP l x := fun he => hn he.2
        have hn2 := hn
        simp only [not_or, Decidable.not_not] at hn2
        have := hl.op x x1 x2
        have hlt : (plD l x).nxt < l.length := by have := hn2.1; omega
        have hm := meet_at s1 (plD l x).nxt (r1 + (shp (plD l x).op).on) (by rw [v1.len]; exact hlt) (by omega)
        exact ⟨meet_pi v1 _ _ (.on hr hk hne) hlt (by omega) (fun D hD => by rw [(hD.all x hr).on hk hne, r1b D hD]), hm.2.1, fun _ _ => hm.1, fun he => absurd he hne⟩
    · rename_i hk
      exact ⟨v1, fun _ h => h, fun hh => absurd hh hk, fun he => absurd he.1 hk⟩
  obtain ⟨v2, m2, k2, k3⟩ := w2
  split
  · rename_i h2
    obtain ⟨f1, f2⟩ := hl.blk x x1 x2 h2
    have hm := meet_at s2 (plD l x).fin 0 (by rw [v2.len]; exact f1) (by omega)
    exact ⟨meet_pi v2 _ _ (.blk hr h2) f1 (by omega) (fun D hD => (hD.all x hr).blk h2), ⟨fun a b => hm.2.1 _ (k2 a b), fun _ => hm.1, fun h4 => by omega⟩, fun he => by rw [hm.2.2]; exact k3 he⟩
  · rename_i h2
    split
    · rename_i h4
      obtain ⟨f1, f2⟩ := hl.jmp x x1 x2 h4
      have hm := meet_at s2 (plD l x).to (r1 + (shp (plD l x).op).jump) (by rw [v2.len]; exact f1) (by omega)
      exact ⟨meet_pi v2 _ _ (.jmp hr h4) f1 (by omega) (fun D hD => by rw [(hD.all x hr).jmp h4, r1b D hD]), ⟨fun a b => hm.2.1 _ (k2 a b), fun h => absurd h h2, fun _ => hm.1⟩, fun he => by rw [hm.2.2]; exact k3 he⟩
    · rename_i h4
      exact ⟨v2, ⟨k2, fun h => absurd h h2, fun h => absurd h h4⟩, k3⟩
structure PG (l : List Pl) (i : Nat) (s : Wk) : Prop where
  inv : GoInv l i s
  pi : PI l s
  led : ∀ j, j < i → ∀ x, s.come[j]? = some x → Led l s.dep x ∧ (endsP l x → s.ended = true)
theorem PG.step {l : List Pl} (hl : PlOk l) {i : Nat} {s : Wk} (h : PG l i s) (hi : i < s.come.length) : PG l (i + 1) (leaveP l s (s.come.getD i 0)) ∧ Mt s (leaveP l s (s.come.getD i 0)) := by
  have hm : s.come.getD i 0 ∈ s.come := by rw [List.getD_eq_getElem?_getD, List.getElem?_eq_getElem hi]; exact List.getElem_mem hi
  have hs := h.inv.step hl hi
  have hp := leave_pi hl h.inv.ok h.pi _ hm
  refine ⟨⟨hs.1, hp.1, fun j hj x hx => ?_⟩, hs.2⟩
  obtain ⟨t, ht⟩ := hs.2.pre
  rw [ht, List.getElem?_append_left (by omega)] at hx
  by_cases hji : j = i
  · subst hji
    have : s.come.getD j 0 = x := by rw [List.getD_eq_getElem?_getD, hx]; rfl
    rw [this] at hp ⊢
    exact hp.2
  · have := h.led j (by omega) x hx
    exact ⟨this.1.keep (fun y hy => by rw [hs.2.same y hy]; exact hy), fun he => hs.2.ended (this.2 he)⟩
theorem goP_pg {l : List Pl} (hl : PlOk l) : ∀ (f i : Nat) (s : Wk), PG l i s → l.length < i + f → i ≤ s.come.length → PG l (goP l f i s).come.length (goP l f i s) ∧ Mt s (goP l f i s) := by
  intro f
  induction f with
  | zero =>
    intro i s h h1 h2
    have := nodup_len l.length h.inv.ok.nodup (fun x hx => (h.inv.ok.lt x hx).1)
    omega
  | succ f ih =>
    intro i s h h1 h2
    unfold goP
    split
    · rename_i hi
      have hs := h.step hl hi
      have hlen : s.come.length ≤ (leaveP l s (s.come.getD i 0)).come.length := by obtain ⟨t, ht⟩ := hs.2.pre; rw [ht]; simp
      have := ih (i + 1) _ hs.1 (by omega) (by omega)
      exact ⟨this.1, hs.2.trans this.2⟩
    · rename_i hi
      have e : i = s.come.length := by omega
      exact ⟨by rw [← e]; exact h, Mt.refl _⟩
theorem start_pi (l : List Pl) (h0 : 0 < l.length) : PI l (startP l.length) := by
  refine meet_pi ⟨fun x hx => by simp at hx, fun x => by simp [depD_rep], fun e => (by cases e), fun D hD => ⟨rfl, fun x hx => by simp at hx⟩, by simp⟩ 0 0 .zero h0 (by omega) (fun D hD => hD.zero)
/-- what the program's walk comes to -/
structure Fin (l : List Pl) (s : Wk) : Prop where
  len : s.dep.length = l.length
  zero : depD s.dep 0 = 0
  set : ∀ x, depD s.dep x ≠ -1 ↔ Rch l x
  pos : ∀ x, depD s.dep x ≠ -1 → 0 ≤ depD s.dep x
  endd : s.ended = true ↔ ∃ x, Rch l x ∧ endsP l x
  con : ∀ D, Con l D → s.uneven = false ∧ ∀ x, Rch l x → depD s.dep x = D x
  shut : s.ended = false → s.uneven = false → ∀ x, Rch l x → Con1 l (depD s.dep) x
theorem go_fin {l : List Pl} (hl : PlOk l) (h0 : 0 < l.length) (hb : (plD l 0).body ≠ 0) : Fin l (goP l (l.length + 1) 0 (startP l.length)) := by
  obtain ⟨s1, s2, s3⟩ := startP_ok l h0 hb
  obtain ⟨g1, g2⟩ := goP_pg hl (l.length + 1) 0 (startP l.length) ⟨s1, start_pi l h0, fun j hj => by omega⟩ (by omega) (Nat.zero_le _)
  generalize goP l (l.length + 1) 0 (startP l.length) = s at *
  have hz : depD s.dep 0 = 0 := by rw [g2.same 0 (by omega)]; exact s2
  have hall : ∀ x, depD s.dep x ≠ -1 → Led l s.dep x ∧ (endsP l x → s.ended = true) := fun x hx => by
    obtain ⟨j, hj, hjx⟩ := List.getElem_of_mem ((g1.pi.mem x).2 hx)
    exact g1.led j hj x (by rw [List.getElem?_eq_getElem hj, hjx])
  have hset : ∀ x, depD s.dep x ≠ -1 ↔ Rch l x := fun x => ⟨fun hx => g1.pi.rch x ((g1.pi.mem x).2 hx), rch_all (by omega) (fun y hy => (hall y hy).1) x⟩
  refine ⟨g1.pi.len, hz, hset, fun x hx => (g1.inv.ok.lt x ((g1.pi.mem x).2 hx)).2.2.1, ⟨g1.pi.endd, fun ⟨x, hx, he⟩ => (hall x ((hset x).2 hx)).2 he⟩, fun D hD => ⟨(g1.pi.con D hD).1, fun x hx => (g1.pi.con D hD).2 x ((g1.pi.mem x).2 ((hset x).2 hx))⟩, fun e1 e2 x hx => ?_⟩
  obtain ⟨j, hj, hjx⟩ := List.getElem_of_mem ((g1.pi.mem x).2 ((hset x).2 hx))
  have hs := g1.inv.shut e1 e2 j hj x (by rw [List.getElem?_eq_getElem hj, hjx])
  exact ⟨hs.rest, fun hk _ => (hs.on hk).2.2, hs.blk, hs.jmp⟩
/-- the document's walk, under way: dep by the word -/
structure RV where
  dep : List Int
  most : Int
  clash : Bool
structure RI (l : List Pl) (v : RV) : Prop where
  len : v.dep.length = l.length
  zero : depD v.dep 0 = 0
  rch : ∀ x, depD v.dep x ≠ -1 → Rch l x
  pos : ∀ x, depD v.dep x ≠ -1 → 0 ≤ depD v.dep x
  con : ∀ D, Con l D → v.clash = false ∧ ∀ x, depD v.dep x ≠ -1 → depD v.dep x = D x
  mst : 0 ≤ v.most ∧ ∀ x, depD v.dep x ≤ v.most
  up : ∀ D, Con l D → ∀ B, 0 ≤ B → (∀ x, Rch l x → D x ≤ B) → v.most ≤ B
/-- when it has come to its end: nothing is new -/
structure RDone (l : List Pl) (v : RV) : Prop where
  inv : RI l v
  led : ∀ x, depD v.dep x ≠ -1 → Led l v.dep x ∧ ¬ endsP l x
  shut : v.clash = false → ∀ x, depD v.dep x ≠ -1 → Con1 l (depD v.dep) x
theorem max_at (l : List Int) (m : Int) (h1 : ∀ x ∈ l, x ≤ m) (h2 : -1 ≤ m) : l.foldl max (-1) ≤ m := by
  have : ∀ (l : List Int) (a : Int), a ≤ m → (∀ x ∈ l, x ≤ m) → l.foldl max a ≤ m := by
    intro l
    induction l with
    | nil => intro a h _; exact h
    | cons y l ih => intro a ha hy; exact ih (max a y) (by have := hy y (by simp); omega) (fun x hx => hy x (by simp [hx]))
  exact this l (-1) h2 h1
theorem ways_end {l : List Pl} (hl : PlOk l) (h0 : 0 < l.length) (hb : (plD l 0).body ≠ 0) (stack : Int) (x : Nat) (hx : Rch l x) (he : endsP l x) : followP l stack = (114, []) := by
  have F := go_fin hl h0 hb
  unfold followP
  rw [if_neg (by omega), if_pos (F.endd.2 ⟨x, hx, he⟩)]
theorem ways_done {l : List Pl} (hl : PlOk l) (h0 : 0 < l.length) (hb : (plD l 0).body ≠ 0) (stack : Int) {v : RV} (h : RDone l v) :
    followP l stack = if v.clash = true ∨ v.most ≠ stack then (113, []) else (0, v.dep) := by
  have F := go_fin hl h0 hb
  unfold followP
  rw [if_neg (by omega)]
  generalize goP l (l.length + 1) 0 (startP l.length) = s at *
  have hset : ∀ x, depD v.dep x ≠ -1 ↔ Rch l x := fun x => ⟨h.inv.rch x, rch_all (by rw [h.inv.zero]; decide) (fun y hy => (h.led y hy).1) x⟩
  have hne : s.ended = false := by
    cases hh : s.ended
    · rfl
    · obtain ⟨x, hx, he⟩ := F.endd.1 hh
      exact absurd he (h.led x ((hset x).2 hx)).2
  rw [if_neg (by rw [hne]; decide)]
  have hcl : s.uneven = v.clash := by
    cases hu : s.uneven
    · have hc : Con l (depD s.dep) := ⟨F.zero, F.shut hne hu⟩
      exact ((h.inv.con _ hc).1).symm
    · cases hv : v.clash
      · have hc : Con l (depD v.dep) := ⟨h.inv.zero, fun x hx => h.shut hv x ((hset x).2 hx)⟩
        rw [(F.con _ hc).1] at hu
        cases hu
      · rfl
  cases hv : v.clash
  · have hu : s.uneven = false := by rw [hcl, hv]
    have hc : Con l (depD s.dep) := ⟨F.zero, F.shut hne hu⟩
    have hd : ∀ x, depD v.dep x = depD s.dep x := fun x => by
      by_cases hx : Rch l x
      · exact (h.inv.con _ hc).2 x ((hset x).2 hx)
      · have e1 : depD v.dep x = -1 := by
          by_cases hh : depD v.dep x = -1
          · exact hh
          · exact absurd ((hset x).1 hh) hx
        have e2 : depD s.dep x = -1 := by
          by_cases hh : depD s.dep x = -1
          · exact hh
          · exact absurd ((F.set x).1 hh) hx
        rw [e1, e2]
    have hde : v.dep = s.dep := by
      refine List.ext_getElem (by rw [h.inv.len, F.len]) fun i h1 h2 => ?_
      have := hd i
      unfold depD at this
      rw [List.getD_eq_getElem?_getD, List.getD_eq_getElem?_getD, List.getElem?_eq_getElem h1, List.getElem?_eq_getElem h2] at this
      simpa using this
    have hmem : ∀ y ∈ s.dep, ∃ x, depD s.dep x = y := fun y hy => by
      obtain ⟨j, hj, hjy⟩ := List.getElem_of_mem hy
      exact ⟨j, by unfold depD; rw [List.getD_eq_getElem?_getD, List.getElem?_eq_getElem hj, hjy]; rfl⟩
    have hmx : s.dep.foldl max (-1) = v.most := by
      apply Int.le_antisymm
      · refine max_at _ _ (fun y hy => ?_) (by have := h.inv.mst.1; omega)
        obtain ⟨x, hx⟩ := hmem y hy
        have := h.inv.mst.2 x
        rw [hd x, hx] at this
        exact this
      · have hin : ∀ x, x < s.dep.length → depD s.dep x ≤ s.dep.foldl max (-1) := fun x hx => by
          refine (foldl_max_le s.dep (-1)).2 _ ?_
          unfold depD
          rw [List.getD_eq_getElem?_getD, List.getElem?_eq_getElem hx]
          exact List.getElem_mem hx
        refine h.inv.up _ hc _ ?_ (fun x hx => ?_)
        · have := hin 0 (by rw [F.len]; exact h0)
          rw [F.zero] at this
          exact this
        · by_cases hlt : x < s.dep.length
          · exact hin x hlt
          · have e : depD s.dep x = -1 := by unfold depD; rw [List.getD_eq_getElem?_getD, List.getElem?_eq_none (by omega)]; rfl
            exact absurd e ((F.set x).2 hx)
    simp [hu, hmx, hde]
  · simp [hcl, hv]
end Go.Proofs.YtdflpoldlokijaaDoor
namespace Go.Proofs.YtdflpoldlokijaaDoor
open Go.RowKit
set_option linter.unusedVariables false
set_option linter.unusedSimpArgs false
attribute [local go_sem ↓] Go.wp_at_zero Go.wp_at_succ
set_option maxHeartbeats 1000000 in
theorem rwithin_ok (n m : Int) (w : World) : Calls Tryd.prog 54 #[.int .i64 n, .int .i64 m] w fun e w' => e = .returned (.bool (bel n m)) ∧ w' = w := by
  by_cases h1 : 0 ≤ n
  · by_cases h2 : n < m
    · have e : bel n m = true := by simp [bel, h1, h2]
      rw [e]
      go_enter Tryd.func54, Tryd.ntmps54
      go_wp2_with fail
      go_ret
      exact ⟨rfl, rfl⟩
    · have e : bel n m = false := by simp [bel, h2]
      have h3 : decide (n < m) = false := decide_eq_false h2
      rw [e]
      go_enter Tryd.func54, Tryd.ntmps54
      go_wp2_with fail
      go_ret
      exact ⟨rfl, rfl⟩
  · have e : bel n m = false := by simp [bel, h1]
    have h3 : decide (0 ≤ n) = false := decide_eq_false h1
    rw [e]
    go_enter Tryd.func54, Tryd.ntmps54
    go_wp2_with fail
    go_ret
    exact ⟨rfl, rfl⟩
set_option maxHeartbeats 4000000 in
theorem stays_ok (op : Nat) (h1 : 1 ≤ op) (h2 : op ≤ 28) (w : World) : Calls Tryd.prog 71 #[.int .i64 (op : Int)] w fun e w' => e = .returned (.bool (decide ((shp op).kind = 3 ∨ (shp op).kind = 4 ∨ (shp op).kind = 6))) ∧ w' = w := by
  rcases (show op = 1 ∨ op = 2 ∨ op = 3 ∨ op = 4 ∨ op = 5 ∨ op = 6 ∨ op = 7 ∨ op = 8 ∨ op = 9 ∨ op = 10 ∨ op = 11 ∨ op = 12 ∨ op = 13 ∨ op = 14 ∨ op = 15 ∨ op = 16 ∨ op = 17 ∨ op = 18 ∨ op = 19 ∨ op = 20 ∨ op = 21 ∨ op = 22 ∨ op = 23 ∨ op = 24 ∨ op = 25 ∨ op = 26 ∨ op = 27 ∨ op = 28 by omega) with rfl | rfl | rfl | rfl | rfl | rfl | rfl | rfl | rfl | rfl | rfl | rfl | rfl | rfl | rfl | rfl | rfl | rfl | rfl | rfl | rfl | rfl | rfl | rfl | rfl | rfl | rfl | rfl
  all_goals clear h1 h2
  all_goals go_enter Tryd.func71, Tryd.ntmps71
  all_goals go_wp2_with fail
  all_goals go_ret
  all_goals exact ⟨rfl, rfl⟩
set_option maxHeartbeats 8000000 in
theorem takes_ok (op ar : Nat) (h1 : 1 ≤ op) (h2 : op ≤ 28) (at_ sz bo nx to_ a b c : Int) (hs : op = 17 ∨ op = 18 → b = (ar : Int) ∧ ar ≤ 8) (hn : ¬(op = 17 ∨ op = 18) → ar = 0) (w : World) : Calls Tryd.prog 69 #[.agg #[.int .i64 at_, .int .i64 sz, .int .i64 (op : Int), .int .i64 bo, .int .i64 nx, .int .i64 to_, .int .i64 a, .int .i64 b, .int .i64 c]] w fun e w' => e = .returned (.int .i64 ((shp op).takes + ar)) ∧ Fr [] w w' := by
  by_cases hsd : op = 17 ∨ op = 18
  · obtain ⟨rfl, h8⟩ := hs hsd
    have h9 : (ar : Int) ≤ 8 := by omega
    have h10 : (0 : Int) ≤ (ar : Int) := by omega
    rcases hsd with rfl | rfl
    all_goals clear h1 h2 hs hn
    all_goals go_enter Tryd.func69, Tryd.ntmps69
    all_goals go_wp2_with fail
    all_goals go_ret
    all_goals refine ⟨?_, Fr.alloc [] w _⟩
    all_goals show Ending.returned (Value.int .i64 ((ar : Int) + 1)) = .returned (.int .i64 (1 + (ar : Int)))
    all_goals rw [Int.add_comm]
  · have h0 := hn hsd
    subst h0
    rcases (show op = 1 ∨ op = 2 ∨ op = 3 ∨ op = 4 ∨ op = 5 ∨ op = 6 ∨ op = 7 ∨ op = 8 ∨ op = 9 ∨ op = 10 ∨ op = 11 ∨ op = 12 ∨ op = 13 ∨ op = 14 ∨ op = 15 ∨ op = 16 ∨ op = 19 ∨ op = 20 ∨ op = 21 ∨ op = 22 ∨ op = 23 ∨ op = 24 ∨ op = 25 ∨ op = 26 ∨ op = 27 ∨ op = 28 by omega) with rfl | rfl | rfl | rfl | rfl | rfl | rfl | rfl | rfl | rfl | rfl | rfl | rfl | rfl | rfl | rfl | rfl | rfl | rfl | rfl | rfl | rfl | rfl | rfl | rfl | rfl
    all_goals clear h1 h2 hs hn hsd
    all_goals go_enter Tryd.func69, Tryd.ntmps69
    all_goals go_wp2_with fail
    all_goals go_ret
    all_goals exact ⟨rfl, Fr.alloc [] w _⟩
set_option maxHeartbeats 8000000 in
theorem leaves_ok (op : Nat) (h1 : 1 ≤ op) (h2 : op ≤ 28) (at_ sz bo nx to_ a b c : Int) (w : World) : Calls Tryd.prog 70 #[.agg #[.int .i64 at_, .int .i64 sz, .int .i64 (op : Int), .int .i64 bo, .int .i64 nx, .int .i64 to_, .int .i64 a, .int .i64 b, .int .i64 c]] w fun e w' => e = .returned (.tuple #[.int .i64 ((shp op).on : Int), .int .i64 ((shp op).jump : Int)]) ∧ Fr [] w w' := by
  rcases (show op = 1 ∨ op = 2 ∨ op = 3 ∨ op = 4 ∨ op = 5 ∨ op = 6 ∨ op = 7 ∨ op = 8 ∨ op = 9 ∨ op = 10 ∨ op = 11 ∨ op = 12 ∨ op = 13 ∨ op = 14 ∨ op = 15 ∨ op = 16 ∨ op = 17 ∨ op = 18 ∨ op = 19 ∨ op = 20 ∨ op = 21 ∨ op = 22 ∨ op = 23 ∨ op = 24 ∨ op = 25 ∨ op = 26 ∨ op = 27 ∨ op = 28 by omega) with rfl | rfl | rfl | rfl | rfl | rfl | rfl | rfl | rfl | rfl | rfl | rfl | rfl | rfl | rfl | rfl | rfl | rfl | rfl | rfl | rfl | rfl | rfl | rfl | rfl | rfl | rfl | rfl
  all_goals clear h1 h2
  all_goals go_enter Tryd.func70, Tryd.ntmps70
  all_goals go_wp2_with fail
  all_goals go_ret2
  all_goals exact ⟨rfl, Fr.alloc [] w _⟩
/-- by how many words a jump goes on -/
def lenR (op : Nat) (a b : Int) : Int := if op = 23 ∨ op = 24 ∨ op = 25 then a else if op = 27 then b else if op = 26 then wrap64 (-a) else if op = 28 then wrap64 (-b) else 0
set_option maxHeartbeats 8000000 in
theorem length_ok (op : Nat) (h1 : 1 ≤ op) (h2 : op ≤ 28) (at_ sz bo nx to_ a b c : Int) (w : World) : Calls Tryd.prog 57 #[.agg #[.int .i64 at_, .int .i64 sz, .int .i64 (op : Int), .int .i64 bo, .int .i64 nx, .int .i64 to_, .int .i64 a, .int .i64 b, .int .i64 c]] w fun e w' => e = .returned (.tuple #[.int .i64 (lenR op a b), .bool (decide (4 ≤ (shp op).kind))]) ∧ Fr [] w w' := by
  rcases (show op = 1 ∨ op = 2 ∨ op = 3 ∨ op = 4 ∨ op = 5 ∨ op = 6 ∨ op = 7 ∨ op = 8 ∨ op = 9 ∨ op = 10 ∨ op = 11 ∨ op = 12 ∨ op = 13 ∨ op = 14 ∨ op = 15 ∨ op = 16 ∨ op = 17 ∨ op = 18 ∨ op = 19 ∨ op = 20 ∨ op = 21 ∨ op = 22 ∨ op = 23 ∨ op = 24 ∨ op = 25 ∨ op = 26 ∨ op = 27 ∨ op = 28 by omega) with rfl | rfl | rfl | rfl | rfl | rfl | rfl | rfl | rfl | rfl | rfl | rfl | rfl | rfl | rfl | rfl | rfl | rfl | rfl | rfl | rfl | rfl | rfl | rfl | rfl | rfl | rfl | rfl
  all_goals clear h1 h2
  all_goals go_enter Tryd.func57, Tryd.ntmps57
  all_goals go_wp2_with fail
  all_goals go_ret2
  all_goals exact ⟨rfl, Fr.alloc [] w _⟩
end Go.Proofs.YtdflpoldlokijaaDoor

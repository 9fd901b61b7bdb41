import Derived.Test.YtclkoffnjiiioaaGreatDoorG04JEle
import Derived.Test.YtclkoffnjiiioaaGreatDoorG03JRd3
import Derived.Test.YtclkoffnjiiioaaGreatDoorG00CSy5
namespace Go.Proofs.YtclkoffnjiiioaaGreatDoor
open Go.RowKit
set_option linter.unusedVariables false
set_option linter.unusedSimpArgs false
/-- no byte ends a line -/
def Nl (l : Bs) : Prop := ∀ b ∈ l, b ≠ 10
theorem ix_app : ∀ (l b : Bs), Nl l → Lib.indexByte (l ++ 10 :: b) 10 = (l.length : Int)
  | [], b, _ => by simp [Lib.indexByte]
  | c :: l, b, h => by
    have hc : c ≠ 10 := h c (by simp)
    have ih := ix_app l b (fun x hx => h x (by simp [hx]))
    rw [List.cons_append, Lib.indexByte, if_neg (by simpa using hc), ih, if_neg (by simp)]
    simp
theorem cut_app (l b : Bs) (h : Nl l) : cutP (l ++ 10 :: b) = some (l, b) := by
  unfold cutP
  rw [ix_app l b h, if_neg (by omega)]
  simp
theorem ix_some : ∀ (t : Bs), ¬ Lib.indexByte t 10 < 0 → t = t.take (Lib.indexByte t 10).toNat ++ 10 :: t.drop ((Lib.indexByte t 10).toNat + 1) ∧ Nl (t.take (Lib.indexByte t 10).toNat)
  | [], h => by simp [Lib.indexByte] at h
  | c :: t, h => by
    by_cases hc : c = 10
    · subst hc
      simp [Lib.indexByte, Nl]
    · have hcb : (c == 10) = false := by simpa using hc
      have e : Lib.indexByte (c :: t) 10 = if Lib.indexByte t 10 == -1 then -1 else Lib.indexByte t 10 + 1 := by rw [Lib.indexByte, hcb]; rfl
      by_cases hm : Lib.indexByte t 10 = -1
      · rw [e, hm] at h; simp at h
      · rw [if_neg (by simpa using hm)] at e
        rw [e] at h ⊢
        have hnn : ¬ Lib.indexByte t 10 < 0 := by
          intro hlt
          have hge : ∀ l : Bs, -1 ≤ Lib.indexByte l 10 := fun l => by
            induction l with
            | nil => simp [Lib.indexByte]
            | cons d l ih =>
              rw [Lib.indexByte]
              split
              · omega
              · split <;> omega
          have := hge t
          omega
        obtain ⟨e1, e2⟩ := ix_some t hnn
        have hn : (Lib.indexByte t 10 + 1).toNat = (Lib.indexByte t 10).toNat + 1 := by omega
        rw [hn, List.take_succ_cons, List.drop_succ_cons]
        refine ⟨by rw [List.cons_append, ← e1], fun b hb => ?_⟩
        rcases List.mem_cons.1 hb with rfl | hb
        · exact hc
        · exact e2 b hb
theorem cut_some {t l b : Bs} (h : cutP t = some (l, b)) : t = l ++ 10 :: b ∧ Nl l := by
  unfold cutP at h
  split at h
  · cases h
  · next hn =>
    simp only [Option.some.injEq, Prod.mk.injEq] at h
    obtain ⟨rfl, rfl⟩ := h
    exact ix_some t hn
theorem cut_nil : cutP [] = none := rfl
theorem nm_tab : ∀ i : Fin 29, (∀ b ∈ (nmB i.val).data.toList, b ≠ 10 ∧ b ≠ 32) ∧ (1 ≤ i.val → opN (nmB i.val).data.toList = i.val) := by decide +kernel
theorem nm_is (i : Nat) (h : i < 29) : (∀ b ∈ (nmB i).data.toList, b ≠ 10 ∧ b ≠ 32) ∧ (1 ≤ i → opN (nmB i).data.toList = i) := nm_tab ⟨i, h⟩
theorem opN_some {b : Bs} (h : opN b ≠ 0) : 1 ≤ opN b ∧ opN b ≤ 28 ∧ (nmB (opN b)).data.toList = b := by
  unfold opN at h ⊢
  cases hf : (List.range 28).find? fun i => (nmB (i + 1)).data.toList == b with
  | none => rw [hf] at h; exact absurd rfl h
  | some i =>
    have h1 := List.find?_some hf
    have h2 := List.mem_range.1 (List.mem_of_find?_eq_some hf)
    simp only [Option.elim_some]
    exact ⟨by omega, by omega, by simpa using h1⟩
theorem nums_cons (n : Int) (ns : List Int) : numsW (n :: ns) = 32 :: (Lib.itoa n ++ numsW ns) := by simp [numsW]
theorem nn_nums (ns : List Int) (r : Bs) (h : NoN r) : NoN (numsW ns ++ r) := by
  cases ns with
  | nil => exact h
  | cons n ns => rw [nums_cons]; exact nn_cons (by decide)
theorem nums_W : ∀ (ns : List Int) (r : Bs), (∀ n ∈ ns, r64 n) → NoN r → numsP ns.length (numsW ns ++ r) = some (ns, r)
  | [], r, _, _ => by rw [List.length_nil, numsP]; rfl
  | n :: ns, r, h, hr => by
    rw [List.length_cons, numsP, nums_cons, List.cons_append, List.append_assoc, show (32 :: (Lib.itoa n ++ (numsW ns ++ r)) : Bs) = [32] ++ (Lib.itoa n ++ (numsW ns ++ r)) from rfl, tok_app]
    simp only
    rw [numP_itoa n (h n (by simp)) _ (nn_nums ns r hr)]
    simp only
    rw [nums_W ns r (fun m hm => h m (by simp [hm])) hr]
theorem nums_some : ∀ (k : Nat) (r : Bs) (ns : List Int) (r' : Bs), numsP k r = some (ns, r') → r = numsW ns ++ r' ∧ ns.length = k ∧ ∀ n ∈ ns, r64 n
  | 0, r, ns, r', h => by
    rw [numsP] at h
    simp only [Option.some.injEq, Prod.mk.injEq] at h
    obtain ⟨rfl, rfl⟩ := h
    exact ⟨rfl, rfl, fun n hn => by cases hn⟩
  | k + 1, r, ns, r', h => by
    rw [numsP] at h
    split at h
    · cases h
    · next r1 h1 =>
      split at h
      · cases h
      · next n r2 h2 =>
        split at h
        · cases h
        · next l r3 h3 =>
          simp only [Option.some.injEq, Prod.mk.injEq] at h
          obtain ⟨rfl, rfl⟩ := h
          obtain ⟨a1, a2, a3⟩ := nums_some k r2 l r3 h3
          obtain ⟨b1, b2, -⟩ := numP_some h2
          refine ⟨?_, by simp [a2], fun m hm => ?_⟩
          · rw [nums_cons, tok_some h1, b1, a1]
            simp
          · rcases List.mem_cons.1 hm with rfl | hm
            · exact b2
            · exact a3 m hm
theorem nn_nil : NoN [] := fun b hb => by cases hb
theorem head_W (a b d : Int) (ha : r64 a) (hb : r64 b) (hd : r64 d) : headP ([99, 111, 100, 101] ++ numsW [a, b, d]) = some [a, b, d] := by
  unfold headP
  rw [tok_app]
  have := nums_W [a, b, d] [] (fun n hn => by simp at hn; rcases hn with rfl | rfl | rfl; exact ha; exact hb; exact hd) nn_nil
  rw [List.append_nil] at this
  simp only
  rw [show (3 : Nat) = [a, b, d].length from rfl, this]
theorem head_some {l : Bs} {ns : List Int} (h : headP l = some ns) : ∃ a b d, ns = [a, b, d] ∧ l = [99, 111, 100, 101] ++ numsW [a, b, d] ∧ r64 a ∧ r64 b ∧ r64 d := by
  unfold headP at h
  split at h
  · cases h
  · next r h1 =>
    split at h
    · next ms h2 =>
      injection h with h
      subst h
      obtain ⟨a1, a2, a3⟩ := nums_some 3 r ms [] h2
      match ms, a2 with
      | [a, b, d], _ => exact ⟨a, b, d, rfl, by rw [tok_some h1, a1, List.append_nil], a3 a (by simp), a3 b (by simp), a3 d (by simp)⟩
    · cases h
theorem top_is {t : LitT} (h : topB t = true) : (t.kind = 2 ∨ t.kind = 4) ∧ mayB t = true := by
  unfold topB at h
  simpa using h
/-- a literal's line, without its end -/
def litL (t : LitT) : Bs := (if t.kind = 2 then [116, 101, 120, 116, 32] else [97, 114, 114, 97, 121, 32]) ++ wrT t
theorem litW_L (t : LitT) : litW t = litL t ++ [10] := rfl
theorem arrT_W (t : LitT) (n : Nat) (h1 : t.kind = 4) (hm : mayB t = true) (hN : NmT t) (hg : (gaT t n).1 = 0) (hn : n ≤ 4096) : arrT (wrT t) n = some (stT t, [], (gaT t n).2) ∧ (gaT t n).2 ≤ 4096 := by
  have hw := wrT_at t
  rcases may_is hm with ⟨h | h, -⟩ | ⟨h, -⟩ | ⟨h, h2, h3, h4⟩ | ⟨h | h | h, -⟩
  all_goals try omega
  rw [if_neg (by omega), if_neg (by omega), if_neg (by omega), if_neg (by omega), if_neg (by omega), if_neg (by omega)] at hw
  rw [gaT_at, if_pos h1] at hg ⊢
  have := (read_all (2 * (wrL t.kids true ++ [41]).length + 2)).2 t.kids [] n [] hN.kids hg hn (by simpa using h2) (by simp)
  simp only [List.length_nil, decide_true, List.nil_append] at this
  unfold arrT
  rw [hw, show (40 :: (wrL t.kids true ++ [41]) : Bs) = [40] ++ (wrL t.kids true ++ [41]) from rfl, tok_app]
  simp only
  rw [this.1]
  exact ⟨by rw [stT_mk, h1, h3, h4], this.2⟩
theorem lit_W (t : LitT) (k n : Nat) (ht : topB t = true) (hN : NmT t) (hg : (gaT t n).1 = 0) (hn : n ≤ 4096) (hk : k ≠ 64) : litP (litL t) k n = some (stT t, (gaT t n).2) ∧ (gaT t n).2 ≤ 4096 := by
  obtain ⟨h1 | h1, hm⟩ := top_is ht
  · unfold litP litL
    rw [if_neg hk, if_pos h1, tok_app]
    simp only
    have hw := wrT_at t
    rw [if_neg (by omega), if_pos h1] at hw
    rcases may_is hm with ⟨h | h, -⟩ | ⟨h, h2, h3, h4⟩ | ⟨h, -⟩ | ⟨h | h | h, -⟩
    all_goals try omega
    have := txt_W t.text h2 []
    rw [List.append_nil] at this
    rw [hw, this, ga_kids (by omega)]
    exact ⟨by rw [st_at t 2 t.text 0 h1 rfl h3 h4], hn⟩
  · unfold litP litL
    rw [if_neg hk, if_neg (by omega), show tokP [116, 101, 120, 116, 32] ([97, 114, 114, 97, 121, 32] ++ wrT t) = none from tok_ne (by decide), tok_app]
    simp only
    obtain ⟨e1, e2⟩ := arrT_W t n h1 hm hN hg hn
    rw [e1]
    exact ⟨rfl, e2⟩
theorem arrT_some {r r2 : Bs} {x : LitS} {n n2 : Nat} (h : arrT r n = some (x, r2, n2)) (hn : n ≤ 4096) : ∃ l, x = .mk 4 noTx 0 l ∧ r = wrT (unS x) ++ r2 ∧ mayB (unS x) = true ∧ gaT (unS x) n = (0, n2) ∧ NmT (unS x) ∧ n2 ≤ 4096 := by
  unfold arrT at h
  split at h
  · cases h
  · next r1 h1 =>
    split at h
    · cases h
    · next l r3 n3 h3 =>
      simp only [Option.some.injEq, Prod.mk.injEq] at h
      obtain ⟨rfl, rfl, rfl⟩ := h
      obtain ⟨xs, b1, b2, b3, b4, b5, b6⟩ := (back_all _).2 r1 n [] l r3 n3 h3 hn (by simp)
      simp only [List.nil_append] at b1
      subst b1
      simp only [List.length_nil, decide_true] at b3
      refine ⟨l, rfl, ?_⟩
      rw [unS_mk]
      refine ⟨?_, may_arr1 _ (by rw [unL_len]; exact b2), ?_, .mk _ r64_0 b5, b6⟩
      · rw [wrT, if_neg (by decide), if_neg (by decide), if_neg (by decide), if_neg (by decide), if_neg (by decide), if_neg (by decide), tok_some h1, b3]
        simp
      · rw [gaT, if_pos rfl, b4]
theorem lit_some {l : Bs} {k n n2 : Nat} {x : LitS} (h : litP l k n = some (x, n2)) (hn : n ≤ 4096) : l = litL (unS x) ∧ topB (unS x) = true ∧ gaT (unS x) n = (0, n2) ∧ NmT (unS x) ∧ n2 ≤ 4096 ∧ k ≠ 64 := by
  unfold litP at h
  split at h
  · cases h
  · next hk =>
    split at h
    · next r h1 =>
      split at h
      · next y h2 =>
        simp only [Option.some.injEq, Prod.mk.injEq] at h
        obtain ⟨rfl, rfl⟩ := h
        obtain ⟨s, rfl, hs, e⟩ := txt_some h2
        rw [unS_mk, unL_nil]
        refine ⟨?_, ?_, ga_kids (by show (2 : Int) ≠ 4; decide) n, nm_flat _ _ _ r64_0, hn, hk⟩
        · unfold litL
          rw [wrT, if_pos (show LitT.kind (.mk 2 s 0 none 0 []) = 2 from rfl), if_neg (by decide), if_pos rfl, tok_some h1, e, List.append_nil]
        · unfold topB
          rw [may_txt s hs]
          rfl
      · cases h
    · split at h
      · next r h1 =>
        split at h
        · next y m h2 =>
          simp only [Option.some.injEq, Prod.mk.injEq] at h
          obtain ⟨rfl, rfl⟩ := h
          obtain ⟨q, rfl, e, a2, a3, a4, a5⟩ := arrT_some h2 hn
          refine ⟨?_, ?_, a3, a4, a5, hk⟩
          · unfold litL
            rw [if_neg (by rw [unS_mk]; show ¬ (4 : Int) = 2; decide), tok_some h1, e, List.append_nil]
          · unfold topB
            rw [a2, unS_mk]
            rfl
        · cases h
      · cases h
/-- an instruction's line, without its end -/
def insL (at_ o : Nat) (ns : List Int) : Bs := Lib.itoa (at_ : Int) ++ [32] ++ (nmB o).data.toList ++ numsW ns
theorem insW_L (at_ o : Nat) (ns : List Int) : insW at_ o ns = insL at_ o ns ++ [10] := rfl
theorem ins_W (k o : Nat) (ns : List Int) (h1 : 1 ≤ o) (h2 : o ≤ 28) (hl : ns.length = opd o) (hr : ∀ n ∈ ns, r64 n) (hk : k + 1 + opd o ≤ 4096) : insP (insL k o ns) k = some ((o : Int) :: ns) := by
  unfold insP insL
  rw [List.append_assoc, List.append_assoc, numP_itoa (k : Int) (by unfold r64; omega) _ (show NoN ([32] ++ ((nmB o).data.toList ++ numsW ns)) from nn_cons (by decide))]
  simp only
  rw [if_neg (by simp), tok_app]
  simp only
  obtain ⟨e1, e2⟩ := take_app (p := (· != 32)) (nmB o).data.toList (numsW ns) (fun b hb => by simpa using ((nm_is o (by omega)).1 b hb).2) (fun b hb => by
    cases ns with
    | nil => simp [numsW] at hb
    | cons n ns => rw [nums_cons] at hb; have : 32 = b := by simpa using hb
                   rw [← this]; rfl)
  rw [e1, e2, (nm_is o (by omega)).2 h1, if_neg (by omega)]
  have := nums_W ns [] hr nn_nil
  rw [List.append_nil, hl] at this
  rw [this]
theorem ins_some {l : Bs} {k : Nat} {vs : List Int} (h : insP l k = some vs) : ∃ (o : Nat) (ns : List Int), vs = (o : Int) :: ns ∧ 1 ≤ o ∧ o ≤ 28 ∧ ns.length = opd o ∧ (∀ n ∈ ns, r64 n) ∧ k + 1 + opd o ≤ 4096 ∧ l = insL k o ns := by
  unfold insP at h
  split at h
  · cases h
  · next pl r h1 =>
    split at h
    · cases h
    · next hpl =>
      split at h
      · cases h
      · next r1 h2 =>
        split at h
        · cases h
        · next ho =>
          split at h
          · next ns h3 =>
            injection h with h
            subst h
            obtain ⟨a1, a2, a3⟩ := nums_some _ _ _ _ h3
            obtain ⟨b1, b2, -⟩ := numP_some h1
            obtain ⟨c1, c2, c3⟩ := opN_some (b := r1.takeWhile (· != 32)) (fun e => ho (.inl e))
            have hpk : pl = (k : Int) := by simpa using hpl
            refine ⟨opN (r1.takeWhile (· != 32)), ns, rfl, c1, c2, a2, a3, by omega, ?_⟩
            rw [List.append_nil] at a1
            unfold insL
            rw [c3, ← a1, List.append_assoc, List.takeWhile_append_dropWhile, ← hpk, List.append_assoc, b1, tok_some h2]
          · cases h
/-- no literal begins here -/
def NoL (r : Bs) : Prop := ∀ b, r.head? = some b → b ≠ 116 ∧ b ≠ 97
theorem lits_some : ∀ (f : Nat) (t : Bs) (n : Nat) (ls : List LitS) (k : Nat), n ≤ 4096 → ls.length ≤ 64 → ∃ xs m, (litsP f t n ls k).2.1 = ls ++ xs ∧ t = (unL xs).flatMap litW ++ (litsP f t n ls k).1 ∧ gaU (unL xs) n = (0, m) ∧ (∀ u ∈ unL xs, NmT u) ∧ ls.length + xs.length ≤ 64 ∧ (litsP f t n ls k).2.2 = k + xs.length
  | 0, t, n, ls, k, hn, hl => ⟨[], n, by simp [litsP], by rw [unL_nil]; rfl, by rw [unL_nil]; rfl, fun u hu => (by rw [unL_nil] at hu; cases hu), by simpa using hl, rfl⟩
  | f + 1, t, n, ls, k, hn, hl => by
    have h0 : ∃ xs m, ls = ls ++ xs ∧ t = (unL xs).flatMap litW ++ t ∧ gaU (unL xs) n = (0, m) ∧ (∀ u ∈ unL xs, NmT u) ∧ ls.length + xs.length ≤ 64 ∧ k = k + xs.length := ⟨[], n, by simp, by rw [unL_nil]; rfl, by rw [unL_nil]; rfl, fun u hu => (by rw [unL_nil] at hu; cases hu), by simpa using hl, rfl⟩
    rw [litsP]
    split
    · exact h0
    · next l b hc =>
      split
      · exact h0
      · next x n2 hx =>
        obtain ⟨a1, a2, a3, a4, a5, a6⟩ := lit_some hx hn
        obtain ⟨xs, m, b1, b2, b3, b4, b5, b6⟩ := lits_some f b n2 (ls ++ [x]) (k + 1) a5 (by simp; omega)
        refine ⟨x :: xs, m, by rw [b1]; simp, ?_, ?_, ?_, by simp at b5; simp; omega, by rw [b6, List.length_cons]; omega⟩
        · rw [unL_cons, List.flatMap_cons, litW_L, (cut_some hc).1, a1, List.append_assoc, List.append_assoc, List.singleton_append, ← b2]
        · rw [unL_cons]
          show (if topB (unS x) = false then (120, n) else if (gaT (unS x) n).1 ≠ 0 then gaT (unS x) n else gaU (unL xs) (gaT (unS x) n).2) = _
          rw [a2, a3]
          simp [b3]
        · rw [unL_cons]
          intro u hu
          rcases List.mem_cons.1 hu with rfl | hu
          · exact a4
          · exact b4 u hu
theorem num_none {l : Bs} (h : NoN l) : numP l = none := by
  have e : l.takeWhile isNB = [] := by
    cases l with
    | nil => rfl
    | cons c l =>
      have := h c rfl
      simp [this]
  unfold numP
  rw [e]
  rfl
theorem ins_none {l : Bs} {k : Nat} (h : NoN l) : insP l k = none := by
  unfold insP
  rw [num_none h]
/-- so many instructions -/
def cntI (ws : List Int) : Nat → Nat → Nat
  | 0, _ => 0
  | f + 1, a => if a < ws.length then cntI ws f (a + 1 + opd (ws.getD a 0).toNat) + 1 else 0
theorem inss_some : ∀ (f : Nat) (t : Bs) (ws : List Int) (k : Nat), ws.length ≤ 4096 → ∃ vs o, (inssP f t ws k).2.1 = ws ++ vs ∧ t = o ++ (inssP f t ws k).1 ∧ (ws ++ vs).length ≤ 4096 ∧ (∀ v ∈ vs, r64 v) ∧ (∀ F, vs.length < F → lnW (ws ++ vs) F ws.length = some o) ∧ k ≤ (inssP f t ws k).2.2
  | 0, t, ws, k, hw => ⟨[], [], by simp [inssP], rfl, by simpa using hw, fun v hv => (by cases hv), fun F hF => by
      cases F with
      | zero => simp at hF
      | succ F => rw [List.append_nil, lnW, if_neg (by omega)], Nat.le_refl _⟩
  | f + 1, t, ws, k, hw => by
    have h0 : ∃ vs o, ws = ws ++ vs ∧ t = o ++ t ∧ (ws ++ vs).length ≤ 4096 ∧ (∀ v ∈ vs, r64 v) ∧ (∀ F, vs.length < F → lnW (ws ++ vs) F ws.length = some o) ∧ k ≤ k := ⟨[], [], by simp, rfl, by simpa using hw, fun v hv => (by cases hv), fun F hF => by
      cases F with
      | zero => simp at hF
      | succ F => rw [List.append_nil, lnW, if_neg (by omega)], Nat.le_refl _⟩
    rw [inssP]
    split
    · exact h0
    · next l b hc =>
      split
      · exact h0
      · next us hu =>
        obtain ⟨o, ns, rfl, i1, i2, i3, i4, i5, rfl⟩ := ins_some hu
        obtain ⟨vs, o2, b1, b2, b3, b4, b5, b6⟩ := inss_some f b (ws ++ (o : Int) :: ns) (k + 1) (by simp; omega)
        have e : ws ++ ((o : Int) :: ns ++ vs) = ws ++ (o : Int) :: ns ++ vs := by simp
        refine ⟨(o : Int) :: ns ++ vs, insW ws.length o ns ++ o2, by rw [b1, e], ?_, by rw [e]; exact b3, fun v hv => ?_, fun F hF => ?_, by omega⟩
        · rw [(cut_some hc).1, insW_L, List.append_assoc, List.append_assoc, List.singleton_append, ← b2]
        · rcases List.mem_append.1 hv with hv | hv
          · rcases List.mem_cons.1 hv with rfl | hv
            · unfold r64; omega
            · exact i4 v hv
          · exact b4 v hv
        · cases F with
          | zero => omega
          | succ F =>
            rw [e]
            have hlen : (ws ++ (o : Int) :: ns ++ vs).length = ws.length + 1 + ns.length + vs.length := by simp; omega
            have hg : (ws ++ (o : Int) :: ns ++ vs).getD ws.length 0 = (o : Int) := by
              rw [List.getD_eq_getElem?_getD, List.append_assoc, List.getElem?_append_right (Nat.le_refl _)]
              simp
            have hd : ((ws ++ (o : Int) :: ns ++ vs).drop (ws.length + 1)).take ns.length = ns := by
              rw [show ws ++ (o : Int) :: ns ++ vs = (ws ++ [(o : Int)]) ++ (ns ++ vs) by simp, List.drop_append_of_le_length (by simp), List.drop_of_length_le (by simp)]
              simp
            rw [lnW, if_pos (by rw [hlen]; omega), hg, Int.toNat_natCast, if_pos ⟨by unfold isOp; rw [decide_eq_true (by omega), decide_eq_true (by omega)]; rfl, by rw [hlen, i3]; omega⟩, ← i3, hd]
            have := b5 F (by simp at hF; omega)
            rw [show (ws ++ (o : Int) :: ns).length = ws.length + 1 + ns.length by simp; omega] at this
            rw [this]
            rfl
/-- a code's lines -/
def cntK (K : Co) : Nat := 1 + K.ts.length + cntI K.ws (K.ws.length + 1) 0
/-- what is read was written so -/
theorem pr_par (T : Bs) (c : CoS) (h : parP T = .inl c) : ∃ a b d, c.hd = [a, b, d] ∧ r64 a ∧ r64 b ∧ r64 d ∧ prP ⟨a, b, d, unL c.ls, c.ws⟩ = (0, T) ∧ (∀ t ∈ unL c.ls, NmT t) ∧ (∀ v ∈ c.ws, r64 v) := by
  unfold parP at h
  split at h
  · cases h
  · next l b hc =>
    split at h
    · cases h
    · next ns hh =>
      simp only at h
      split at h
      · next he =>
        injection h with h
        subst h
        obtain ⟨a1, b1, d1, e1, e2, r1, r2, r3⟩ := head_some hh
        obtain ⟨xs, m, f1, f2, f3, f4, f5, f6⟩ := lits_some (b.length + 1) b 0 [] 1 (by omega) (by simp)
        obtain ⟨vs, o, g1, g2, g3, g4, g5, g6⟩ := inss_some ((litsP (b.length + 1) b 0 [] 1).1.length + 1) (litsP (b.length + 1) b 0 [] 1).1 [] (litsP (b.length + 1) b 0 [] 1).2.2 (by simp)
        rw [he, List.append_nil] at g2
        simp only [List.nil_append, List.length_nil] at f1 f5 g1 g3 g5
        refine ⟨a1, b1, d1, e1, r1, r2, r3, ?_, ?_, ?_⟩
        · simp only [f1, g1]
          unfold prP
          simp only
          rw [if_neg (by rw [unL_len]; omega), f3]
          simp only [ne_eq, not_true_eq_false, if_false]
          rw [g5 (vs.length + 1) (by omega)]
          simp only
          congr 1
          unfold headW
          rw [(cut_some hc).1, e2, f2, g2]
          simp
        · simp only [f1]; exact f4
        · simp only [g1]; exact g4
      · cases h
end Go.Proofs.YtclkoffnjiiioaaGreatDoor
namespace Go.Proofs.YtclkoffnjiiioaaGreatDoor
open Go.RowKit
set_option linter.unusedVariables false
set_option linter.unusedSimpArgs false
attribute [local go_sem ↓] Go.wp_at_zero Go.wp_at_succ
/-- a Lit that is a result by name -/
theorem ret49 {f : Func} {V : World} {B p q : Nat} {tm : Array Value} {a0 a1 a2 a3 b : Value} {R : Ending → World → Prop} (hres : f.results = #[.cell p 49, .tmp q]) (hVb : V.heap[B]? = some (.cells #[a0, a1, a2, a3] 49 (0, 0)))
    (h2 : tm.getD p undef = .pointer (some ⟨B, 0, none⟩)) (h3 : tm.getD q undef = b) (hR : R (.returned (.tuple #[.agg #[a0, a1, a2, a3], b])) V) : bodyPost Tryz.prog f R .ret ⟨tm, []⟩ V := by
  have x0 : V.cell? ⟨B, 0, none⟩ = some a0 := by rw [cell_in hVb]; rfl
  have x1 : V.cell? ⟨B, 1, none⟩ = some a1 := by rw [cell_in hVb]; rfl
  have x2 : V.cell? ⟨B, 2, none⟩ = some a2 := by rw [cell_in hVb]; rfl
  have x3 : V.cell? ⟨B, 3, none⟩ = some a3 := by rw [cell_in hVb]; rfl
  have h2' : tm[p]?.getD undef = .pointer (some ⟨B, 0, none⟩) := by simpa using h2
  have h3' : tm[q]?.getD undef = b := by simpa using h3
  refine bodyPost_ret (v := .tuple #[.agg #[a0, a1, a2, a3], b]) (by simp [results, hres, go_sem, h2, h2', h3, h3', x0, x1, x2, x3]) rfl hR
theorem opN_none {b : Bs} (h : ∀ j, 1 ≤ j → j ≤ 28 → (nmB j).data.toList ≠ b) : opN b = 0 := by
  by_cases h0 : opN b = 0
  · exact h0
  · obtain ⟨h1, h2, h3⟩ := opN_some h0
    exact absurd h3 (h _ h1 h2)
set_option maxHeartbeats 2000000 in
theorem numberOf_ok (b : Bs) (W : World) (ht : Tb W) : Calls Tryz.prog 71 #[.string (bA b)] W fun e w' => e = .returned (.int .i64 (opN b : Int)) ∧ w' = W := by
  have HT := mkHid ht
  have HR : Hid (∀ i : Nat, 1 ≤ i → i ≤ 28 → (nmB i).data.toList = b → opN b = i) := fun i h1 h2 e => by rw [← e]; exact (nm_is i (by omega)).2 h1
  have HN : Hid ((∀ j, 1 ≤ j → j ≤ 28 → (nmB j).data.toList ≠ b) → opN b = 0) := opN_none
  clear ht
  go_enter Tryz.func71, Tryz.ntmps71
  go_wp2_with fail
  go_loopw [3] (fun q wr => wr = W ∧ ∃ i : Nat, 1 ≤ i ∧ i ≤ 29 ∧ q = .int .i64 (i : Int) ∧ Hid (∀ j, 1 ≤ j → j < i → (nmB j).data.toList ≠ b)) (fun q _ => 29 - (intOf q).toNat)
  case atStart => exact ⟨rfl, 1, by omega, by omega, rfl, fun j h1 h2 => by omega⟩
  case round =>
    obtain ⟨rfl, i, h1, h2, rfl, hst⟩ := hrel
    have i0 : (0 : Int) ≤ (i : Int) := by omega
    by_cases hlt : i ≤ 28
    · have i1 : (i : Int) ≤ 28 := by omega
      have i2 : (i : Int) < 29 := by omega
      have c0 := (HT.out i (by omega)).1
      by_cases he : (nmB i).data.toList = b
      · have hb : ((nmB i).toList == (bA b).toList) = true := by rw [Lib.toList_data, bA_tl, he]; simp
        have HE := mkHid (HR.out i h1 hlt he)
        clear he hst
        go_wp2_with fail
        go_ret
        exact ⟨by rw [HE.out]; rfl, rfl⟩
      · have hb : ((nmB i).toList == (bA b).toList) = false := by rw [Lib.toList_data, bA_tl]; simpa using he
        have HE : Hid (∀ j, 1 ≤ j → j < i + 1 → (nmB j).data.toList ≠ b) := fun j q1 q2 => by
          by_cases hj : j = i
          · rw [hj]; exact he
          · exact hst.out j q1 (by omega)
        clear he hst
        go_wp2_with fail
        go_roundw
        case rel => exact ⟨trivial, i + 1, by omega, by omega, by go_num, HE.out⟩
        case measure => simp [intOf]; omega
    · have : i = 29 := by omega
      subst this
      have HE := mkHid (HN.out (fun j q1 q2 => hst.out j q1 (by omega)))
      clear hst
      go_wp2_with fail
      go_ret
      exact ⟨by rw [HE.out]; rfl, rfl⟩
theorem ixB : ∀ (s : Bs) (c : UInt8), (Lib.indexByte s c < 0 ∧ s.takeWhile (· != c) = s ∧ s.dropWhile (· != c) = []) ∨ (Lib.indexByte s c = ((s.takeWhile (· != c)).length : Int) ∧ s.dropWhile (· != c) ≠ [])
  | [], c => .inl ⟨by simp [Lib.indexByte], rfl, rfl⟩
  | b :: s, c => by
    rw [Lib.indexByte]
    by_cases hb : b = c
    · subst hb
      right
      simp
    · have hb2 : (b == c) = false := by simpa using hb
      have hb3 : (b != c) = true := by simpa using hb
      rw [hb2]
      simp only [Bool.false_eq_true, if_false]
      rcases ixB s c with ⟨h1, h2, h3⟩ | ⟨h1, h2⟩
      · left
        have hge : -1 ≤ Lib.indexByte s c := Lib.indexByte_ge s c
        have : Lib.indexByte s c = -1 := by omega
        rw [this]
        simp [hb3, h2, h3]
      · right
        rw [h1, if_neg (by simp)]
        simp [hb3, h2]
theorem cutB_1 (s : Bs) (c : UInt8) : (cutB s c).1 = s.takeWhile (· != c) := by
  unfold cutB
  rcases ixB s c with ⟨h1, h2, h3⟩ | ⟨h1, h2⟩
  · rw [if_pos h1]; exact h2.symm
  · rw [if_neg (by omega), h1]
    simp only [Int.toNat_natCast]
    have h := List.takeWhile_append_dropWhile (p := (· != c)) (l := s)
    have : s.take (s.takeWhile (· != c)).length = (s.takeWhile (· != c) ++ s.dropWhile (· != c)).take (s.takeWhile (· != c)).length := by rw [h]
    rw [this]
    exact List.take_left
theorem tw_drop (s : Bs) (p : UInt8 → Bool) : s.drop (s.takeWhile p).length = s.dropWhile p := by
  have h := List.takeWhile_append_dropWhile (p := p) (l := s)
  have : s.drop (s.takeWhile p).length = (s.takeWhile p ++ s.dropWhile p).drop (s.takeWhile p).length := by rw [h]
  rw [this]
  exact List.drop_left
theorem opN_le (b : Bs) : opN b ≤ 28 := by
  by_cases h0 : opN b = 0
  · omega
  · exact (opN_some h0).2.1
set_option maxRecDepth 100000 in
set_option maxHeartbeats 2000000 in
theorem operation_ok (W : World) (r : Nat) (S : Rv) (h : RB W r S) (ht : Tb W) (hr : 9 ≤ r) : Calls Tryz.prog 58 #[pt r] W fun e w' => e = .returned (.tuple #[.int .i64 (opN (S.rest.takeWhile (· != 32)) : Int), .bool (decide (opN (S.rest.takeWhile (· != 32)) ≠ 0))]) ∧ RB w' r { S with rest := S.rest.dropWhile (· != 32) } ∧ Fr [r] W w' := by
  have HC := mkHid (cut_ok S.rest 32 h.small.2 W)
  rw [cutB_1] at HC
  have hs := h.small.2
  have hl : (S.rest.takeWhile (· != 32)).length + (S.rest.dropWhile (· != 32)).length = S.rest.length := by rw [← List.length_append, List.takeWhile_append_dropWhile]
  have HX : Hid ((bA S.rest).extract (bA (S.rest.takeWhile (· != 32))).size (bA S.rest).size = bA (S.rest.dropWhile (· != 32))) := by
    apply ByteArray.ext
    rw [ByteArray.data_extract]
    apply Array.toList_inj.1
    have := tw_drop S.rest (· != 32)
    simp [bA, ByteArray.size]
    rw [List.take_of_length_le (by rw [List.length_drop]; omega)]
    exact this
  have k1 : ((bA (S.rest.takeWhile (· != 32))).size : Int) ≤ ((bA S.rest).size : Int) := by rw [bA_size, bA_size]; omega
  have k0 : (0 : Int) ≤ ((bA (S.rest.takeWhile (· != 32))).size : Int) := by omega
  have hz : (bA S.rest).size ≤ 281474976710656 := by rw [bA_size]; omega
  have HV : Hid (∀ V, Fr [] W V → V.cell? ⟨r, 7, none⟩ = some (.string (bA S.rest)) ∧ V.frozen? ⟨r, 7, none⟩ = false ∧ (RB (V.setCell ⟨r, 7, none⟩ (.string (bA (S.rest.dropWhile (· != 32))))) r { S with rest := S.rest.dropWhile (· != 32) }) ∧ Fr [r] W (V.setCell ⟨r, 7, none⟩ (.string (bA (S.rest.dropWhile (· != 32))))) ∧ Tb (V.setCell ⟨r, 7, none⟩ (.string (bA (S.rest.dropWhile (· != 32)))))) := fun V hV => by
    have hb := h.fr hV (by simp)
    have hf := (hV.mono (S' := [r]) (by simp)).trans (Fr.setCell (S := [r]) V ⟨r, 7, none⟩ (.string (bA (S.rest.dropWhile (· != 32)))) (by simp)) (by simp)
    exact ⟨hb.cl 7, hb.fz 7, hb.setRest _ (by omega), hf, ht.fr hf (by simp; omega)⟩
  have c7 : W.cell? ⟨r, 7, none⟩ = some (.string (bA S.rest)) := h.cl 7
  have hop : isOp (opN (S.rest.takeWhile (· != 32)) : Int) = decide (opN (S.rest.takeWhile (· != 32)) ≠ 0) := by
    have := opN_le (S.rest.takeWhile (· != 32))
    unfold isOp
    by_cases h0 : opN (S.rest.takeWhile (· != 32)) = 0
    · rw [h0]; rfl
    · rw [decide_eq_true (by omega), decide_eq_true (by omega), decide_eq_true h0]; rfl
  have HI : Hid (∀ w, Calls Tryz.prog 30 #[.int .i64 (opN (S.rest.takeWhile (· != 32)) : Int)] w fun e w' => e = .returned (.bool (decide (opN (S.rest.takeWhile (· != 32)) ≠ 0))) ∧ w' = w) := fun w => by rw [← hop]; exact isOperation_ok _ w
  have HN : Hid (∀ w, Tb w → Calls Tryz.prog 71 #[.string (bA (S.rest.takeWhile (· != 32)))] w fun e w' => e = .returned (.int .i64 (opN (S.rest.takeWhile (· != 32)) : Int)) ∧ w' = w) := fun w hw => numberOf_ok _ w hw
  clear h ht hop
  generalize S.rest.takeWhile (· != 32) = T at *
  generalize S.rest.dropWhile (· != 32) = D at *
  generalize opN T = o at *
  generalize decide (o ≠ 0) = bo at *
  go_enter Tryz.func58, Tryz.ntmps58
  go_wp2_with fail
  refine HC.out.mono ?_
  rintro e w1 ⟨rfl, f1⟩
  obtain ⟨c1, z1, hrb, hfr, htb⟩ := HV.out w1 f1
  have HRb := mkHid hrb
  have HFr := mkHid hfr
  have HTb := mkHid htb
  clear hrb hfr htb f1 c7 HV
  go_wp2_with fail
  rw [HX.out]
  refine (HN.out _ HTb.out).mono ?_
  rintro e w2 ⟨rfl, rfl⟩
  go_wp2_with fail
  refine (HI.out _).mono ?_
  rintro e w2 ⟨rfl, rfl⟩
  go_wp2_with fail
  go_ret2
  exact ⟨rfl, HRb.out, HFr.out⟩
end Go.Proofs.YtclkoffnjiiioaaGreatDoor
namespace Go.Proofs.YtclkoffnjiiioaaGreatDoor
open Go.RowKit
set_option linter.unusedVariables false
set_option linter.unusedSimpArgs false
mutual
/-- all blocks of what is in a literal -/
def ftT : LitT → List Nat
  | .mk _ _ _ p _ ts => blk p ++ ftL ts
def ftL : List LitT → List Nat
  | [] => []
  | t :: ts => ftT t ++ ftL ts
end
theorem ftT_at (t : LitT) : ftT t = blk t.p ++ ftL t.kids := by cases t with | mk k x n p c ts => rw [ftT]; rfl
theorem ftL_nil : ftL [] = [] := by rw [ftL]
theorem ftL_cons (t : LitT) (ts : List LitT) : ftL (t :: ts) = ftT t ++ ftL ts := by rw [ftL]
theorem ftL_app : ∀ (a b : List LitT), ftL (a ++ b) = ftL a ++ ftL b
  | [], b => by rw [ftL_nil]; rfl
  | t :: a, b => by rw [List.cons_append, ftL_cons, ftL_cons, ftL_app a b, List.append_assoc]
theorem ftL_mem {g : Nat} : ∀ {ts : List LitT}, g ∈ ftL ts → ∃ t ∈ ts, g ∈ ftT t
  | [], h => by rw [ftL_nil] at h; cases h
  | t :: ts, h => by
    rw [ftL_cons] at h
    rcases List.mem_append.1 h with h | h
    · exact ⟨t, by simp, h⟩
    · obtain ⟨u, hu, hg⟩ := ftL_mem h
      exact ⟨u, by simp [hu], hg⟩
theorem ftL_of {g : Nat} {t : LitT} : ∀ {ts : List LitT}, t ∈ ts → g ∈ ftT t → g ∈ ftL ts
  | u :: ts, h, hg => by
    rw [ftL_cons]
    rcases List.mem_cons.1 h with rfl | h
    · exact List.mem_append.2 (.inl hg)
    · exact List.mem_append.2 (.inr (ftL_of h hg))
/-- literals each list of which lies in a block of its own -/
inductive LitsX (w : World) (Ok : Nat → Prop) : Option Addr → Nat → List LitT → Prop
  | mk (p : Option Addr) (c : Nat) (ts : List LitT) (own : w.ownsRow 0 49 4 (.slice p ts.length c) ts.length (litCells ts)) (ok : ∀ g ∈ blk p, Ok g) (nd : (blk p ++ ftL ts).Nodup) (short : ts.length ≤ 2513169434916) (txt : ∀ t ∈ ts, t.text.size ≤ 140737488355328)
      (kids : ∀ t ∈ ts, LitsX w Ok t.p t.c t.kids) : LitsX w Ok p c ts
theorem LitsX.feet {w : World} {Ok : Nat → Prop} {p : Option Addr} {c : Nat} {ts : List LitT} (h : LitsX w Ok p c ts) : ∀ g ∈ blk p ++ ftL ts, Ok g ∧ g < w.heap.size := by
  induction h with
  | mk p c ts own ok nd short txt kids ih =>
    intro g hg
    rcases List.mem_append.1 hg with hg | hg
    · exact ⟨ok g hg, (own_lt own g ((blk_own _ _ _ _).2 hg)).2⟩
    · obtain ⟨t, ht, hg⟩ := ftL_mem hg
      rw [ftT_at] at hg
      exact ih t ht g hg
theorem LitsX.top {w : World} {Ok : Nat → Prop} {p : Option Addr} {c : Nat} {ts : List LitT} (h : LitsX w Ok p c ts) : w.ownsRow 0 49 4 (.slice p ts.length c) ts.length (litCells ts) ∧ (blk p ++ ftL ts).Nodup ∧ ts.length ≤ 2513169434916 ∧ (∀ t ∈ ts, t.text.size ≤ 140737488355328) ∧ ∀ t ∈ ts, LitsX w Ok t.p t.c t.kids := by
  cases h with
  | mk _ _ _ own ok nd short txt kids => exact ⟨own, nd, short, txt, kids⟩
theorem LitsX.world {w w' : World} {Ok Ok' : Nat → Prop} {p : Option Addr} {c : Nat} {ts : List LitT} (h : LitsX w Ok p c ts) (hS : ∀ g, g ∈ blk p ++ ftL ts → Ok g → g < w.heap.size → w'.heap[g]? = w.heap[g]? ∧ Ok' g) : LitsX w' Ok' p c ts := by
  induction h with
  | mk p c ts own ok nd short txt kids ih =>
    refine .mk p c ts (own_congr own fun g hg => ?_) (fun g hg => ?_) nd short txt (fun t ht => ih t ht fun g hg => hS g (List.mem_append.2 (.inr (ftL_of ht (by rw [ftT_at]; exact hg)))))
    · have hm := (blk_own _ _ _ _).1 hg
      exact (hS g (List.mem_append.2 (.inl hm)) (ok g hm) (own_lt own g hg).2).1
    · exact (hS g (List.mem_append.2 (.inl hg)) (ok g hg) (own_lt own g ((blk_own _ _ _ _).2 hg)).2).2
theorem LitsX.keep {w w' : World} {Ok Ok' : Nat → Prop} {S : List Nat} {p : Option Addr} {c : Nat} {ts : List LitT} (h : LitsX w Ok p c ts) (hf : Fr S w w') (hS : ∀ g, Ok g → g < w.heap.size → g ∉ S) (hO : ∀ g, Ok g → g < w.heap.size → Ok' g) : LitsX w' Ok' p c ts :=
  h.world fun g _ ho hl => ⟨hf.block g hl (hS g ho hl), hO g ho hl⟩
theorem LitsX.lo {w : World} {Ok : Nat → Prop} {p : Option Addr} {c : Nat} {ts : List LitT} (h : LitsX w Ok p c ts) : LitsO w Ok p c ts := by
  induction h with
  | mk p c ts own ok nd short txt kids ih =>
    by_cases h0 : ts.length = 0
    · have : ts = [] := List.length_eq_zero_iff.1 h0
      subst this
      refine .mk p c [] (fun e => ?_) (fun h => by simp at h) short txt ih
      subst e
      rcases own.2 with ⟨e, -⟩ | ⟨g, cap, cur, e, -⟩
      · injection e
      · cases e
    · exact row_lits (rest := []) (by rw [List.append_nil]; exact own) (by simp) (by omega) ok short txt ih
theorem LitsX.plain {w : World} {Ok : Nat → Prop} {p : Option Addr} {c : Nat} {ts : List LitT} (h : LitsX w Ok p c ts) : LitsR w p c ts := h.lo.plain
theorem LitsX.empty (w : World) (Ok : Nat → Prop) : LitsX w Ok none 0 [] := .mk none 0 [] ⟨rfl, .inl ⟨rfl, rfl⟩⟩ (fun g hg => by cases hg) (by rw [ftL_nil]; simp [blk]) (by simp) (fun t ht => by cases ht) (fun t ht => by cases ht)
end Go.Proofs.YtclkoffnjiiioaaGreatDoor

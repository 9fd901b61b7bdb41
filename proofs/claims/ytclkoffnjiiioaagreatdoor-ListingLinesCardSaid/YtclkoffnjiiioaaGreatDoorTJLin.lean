import Derived.Test.YtclkoffnjiiioaaGreatDoorTJEle
namespace Go.Proofs.YtclkoffnjiiioaaGreatDoor
open Go.RowKit
set_option linter.unusedVariables false
set_option linter.unusedSimpArgs false
/-- no byte ends a line -/
def Nl (l : Bs) : Prop := ∀ b ∈ l, b ≠ 10
theorem ix_app : ∀ (l b : Bs), Nl l → Lib.indexByte (l ++ 10 :: b) 10 = (l.length : Int)
  | [], b, _ => by simp [Lib.indexByte]
  | c :: l, b, h => by
    have hc : c ≠ 10 := h c (by simp)
    have ih := ix_app l b (fun x hx => h x (by simp [hx]))
    rw [List.cons_append, Lib.indexByte, if_neg (by simpa using hc), ih, if_neg (by simp)]
    simp
theorem cut_app (l b : Bs) (h : Nl l) : cutP (l ++ 10 :: b) = some (l, b) := by
  unfold cutP
  rw [ix_app l b h, if_neg (by omega)]
  simp
theorem ix_some : ∀ (t : Bs), ¬ Lib.indexByte t 10 < 0 → t = t.take (Lib.indexByte t 10).toNat ++ 10 :: t.drop ((Lib.indexByte t 10).toNat + 1) ∧ Nl (t.take (Lib.indexByte t 10).toNat)
  | [], h => by simp [Lib.indexByte] at h
  | c :: t, h => by
    by_cases hc : c = 10
    · subst hc
      simp [Lib.indexByte, Nl]
    · have hcb : (c == 10) = false := by simpa using hc
      have e : Lib.indexByte (c :: t) 10 = if Lib.indexByte t 10 == -1 then -1 else Lib.indexByte t 10 + 1 := by rw [Lib.indexByte, hcb]; rfl
      by_cases hm : Lib.indexByte t 10 = -1
      · rw [e, hm] at h; simp at h
      · rw [if_neg (by simpa using hm)] at e
        rw [e] at h ⊢
        have hnn : ¬ Lib.indexByte t 10 < 0 := by
          intro hlt
          have hge : ∀ l : Bs, -1 ≤ Lib.indexByte l 10 := fun l => by
            induction l with
            | nil => simp [Lib.indexByte]
            | cons d l ih =>
              rw [Lib.indexByte]
              split
              · omega
              · split <;> omega
          have := hge t
          omega
        obtain ⟨e1, e2⟩ := ix_some t hnn
        have hn : (Lib.indexByte t 10 + 1).toNat = (Lib.indexByte t 10).toNat + 1 := by omega
        rw [hn, List.take_succ_cons, List.drop_succ_cons]
        refine ⟨by rw [List.cons_append, ← e1], fun b hb => ?_⟩
        rcases List.mem_cons.1 hb with rfl | hb
        · exact hc
        · exact e2 b hb
theorem cut_some {t l b : Bs} (h : cutP t = some (l, b)) : t = l ++ 10 :: b ∧ Nl l := by
  unfold cutP at h
  split at h
  · cases h
  · next hn =>
    simp only [Option.some.injEq, Prod.mk.injEq] at h
    obtain ⟨rfl, rfl⟩ := h
    exact ix_some t hn
theorem cut_nil : cutP [] = none := rfl
theorem nl_app {a b : Bs} (ha : Nl a) (hb : Nl b) : Nl (a ++ b) := fun x hx => by
  rcases List.mem_append.1 hx with h | h
  · exact ha x h
  · exact hb x h
theorem nl_cons {c : UInt8} {a : Bs} (hc : c ≠ 10) (ha : Nl a) : Nl (c :: a) := fun x hx => by
  rcases List.mem_cons.1 hx with h | h
  · rw [h]; exact hc
  · exact ha x h
theorem nl_nil : Nl [] := fun x hx => by cases hx
theorem nl_itoa (v : Int) : Nl (Lib.itoa v) := fun b hb => (nb_ne (itoa_nb v b hb)).2.2.2.2.2.2.2.2
theorem esc_nl : ∀ n : Fin 256, ∀ b ∈ escB (UInt8.ofNat n.val), b ≠ 10 := by decide +kernel
theorem nl_esc (c : UInt8) : Nl (escB c) := fun b hb => by
  have := esc_nl ⟨c.toNat, c.toNat_lt⟩
  simp at this
  exact this b hb
theorem nl_text (s : ByteArray) : Nl (textW s) := by
  unfold textW
  refine nl_cons (by decide) (nl_app (fun b hb => ?_) (nl_cons (by decide) nl_nil))
  obtain ⟨c, hc, hb⟩ := List.mem_flatMap.1 hb
  exact nl_esc c b hb
mutual
theorem nl_wrT : ∀ t : LitT, Nl (wrT t)
  | .mk k tx n p c kids => by
    rw [wrT]
    split
    · exact nl_itoa n
    · split
      · exact nl_text tx
      · split
        · exact nl_cons (by decide) (nl_itoa n)
        · split
          · exact nl_cons (by decide) (nl_cons (by decide) (nl_cons (by decide) nl_nil))
          · split
            · exact nl_cons (by decide) (nl_cons (by decide) (nl_cons (by decide) (nl_cons (by decide) nl_nil)))
            · split
              · exact nl_cons (by decide) (nl_cons (by decide) (nl_cons (by decide) (nl_cons (by decide) (nl_cons (by decide) nl_nil))))
              · exact nl_cons (by decide) (nl_app (nl_wrL kids true) (nl_cons (by decide) nl_nil))
theorem nl_wrL : ∀ (ts : List LitT) (f : Bool), Nl (wrL ts f)
  | [], f => by rw [wrL_nil]; exact nl_nil
  | t :: ts, f => by
    rw [wrL_cons]
    refine nl_app (nl_app ?_ (nl_wrT t)) (nl_wrL ts false)
    split
    · exact nl_nil
    · exact nl_cons (by decide) nl_nil
end
theorem nl_nums (ns : List Int) : Nl (numsW ns) := fun b hb => by
  obtain ⟨n, hn, hb⟩ := List.mem_flatMap.1 hb
  exact nl_cons (by decide) (nl_itoa n) b hb
theorem nm_tab : ∀ i : Fin 29, (∀ b ∈ (nmB i.val).data.toList, b ≠ 10 ∧ b ≠ 32) ∧ (1 ≤ i.val → opN (nmB i.val).data.toList = i.val) := by decide +kernel
theorem nm_is (i : Nat) (h : i < 29) : (∀ b ∈ (nmB i).data.toList, b ≠ 10 ∧ b ≠ 32) ∧ (1 ≤ i → opN (nmB i).data.toList = i) := nm_tab ⟨i, h⟩
theorem opN_some {b : Bs} (h : opN b ≠ 0) : 1 ≤ opN b ∧ opN b ≤ 28 ∧ (nmB (opN b)).data.toList = b := by
  unfold opN at h ⊢
  cases hf : (List.range 28).find? fun i => (nmB (i + 1)).data.toList == b with
  | none => rw [hf] at h; exact absurd rfl h
  | some i =>
    have h1 := List.find?_some hf
    have h2 := List.mem_range.1 (List.mem_of_find?_eq_some hf)
    simp only [Option.elim_some]
    exact ⟨by omega, by omega, by simpa using h1⟩
theorem nums_cons (n : Int) (ns : List Int) : numsW (n :: ns) = 32 :: (Lib.itoa n ++ numsW ns) := by simp [numsW]
theorem nn_nums (ns : List Int) (r : Bs) (h : NoN r) : NoN (numsW ns ++ r) := by
  cases ns with
  | nil => exact h
  | cons n ns => rw [nums_cons]; exact nn_cons (by decide)
theorem nums_W : ∀ (ns : List Int) (r : Bs), (∀ n ∈ ns, r64 n) → NoN r → numsP ns.length (numsW ns ++ r) = some (ns, r)
  | [], r, _, _ => by rw [List.length_nil, numsP]; rfl
  | n :: ns, r, h, hr => by
    rw [List.length_cons, numsP, nums_cons, List.cons_append, List.append_assoc, show (32 :: (Lib.itoa n ++ (numsW ns ++ r)) : Bs) = [32] ++ (Lib.itoa n ++ (numsW ns ++ r)) from rfl, tok_app]
    simp only
    rw [numP_itoa n (h n (by simp)) _ (nn_nums ns r hr)]
    simp only
    rw [nums_W ns r (fun m hm => h m (by simp [hm])) hr]
theorem nums_some : ∀ (k : Nat) (r : Bs) (ns : List Int) (r' : Bs), numsP k r = some (ns, r') → r = numsW ns ++ r' ∧ ns.length = k ∧ ∀ n ∈ ns, r64 n
  | 0, r, ns, r', h => by
    rw [numsP] at h
    simp only [Option.some.injEq, Prod.mk.injEq] at h
    obtain ⟨rfl, rfl⟩ := h
    exact ⟨rfl, rfl, fun n hn => by cases hn⟩
  | k + 1, r, ns, r', h => by
    rw [numsP] at h
    split at h
    · cases h
    · next r1 h1 =>
      split at h
      · cases h
      · next n r2 h2 =>
        split at h
        · cases h
        · next l r3 h3 =>
          simp only [Option.some.injEq, Prod.mk.injEq] at h
          obtain ⟨rfl, rfl⟩ := h
          obtain ⟨a1, a2, a3⟩ := nums_some k r2 l r3 h3
          obtain ⟨b1, b2, -⟩ := numP_some h2
          refine ⟨?_, by simp [a2], fun m hm => ?_⟩
          · rw [nums_cons, tok_some h1, b1, a1]
            simp
          · rcases List.mem_cons.1 hm with rfl | hm
            · exact b2
            · exact a3 m hm
theorem nn_nil : NoN [] := fun b hb => by cases hb
theorem head_W (a b d : Int) (ha : r64 a) (hb : r64 b) (hd : r64 d) : headP ([99, 111, 100, 101] ++ numsW [a, b, d]) = some [a, b, d] := by
  unfold headP
  rw [tok_app]
  have := nums_W [a, b, d] [] (fun n hn => by simp at hn; rcases hn with rfl | rfl | rfl; exact ha; exact hb; exact hd) nn_nil
  rw [List.append_nil] at this
  simp only
  rw [show (3 : Nat) = [a, b, d].length from rfl, this]
theorem head_some {l : Bs} {ns : List Int} (h : headP l = some ns) : ∃ a b d, ns = [a, b, d] ∧ l = [99, 111, 100, 101] ++ numsW [a, b, d] ∧ r64 a ∧ r64 b ∧ r64 d := by
  unfold headP at h
  split at h
  · cases h
  · next r h1 =>
    split at h
    · next ms h2 =>
      injection h with h
      subst h
      obtain ⟨a1, a2, a3⟩ := nums_some 3 r ms [] h2
      match ms, a2 with
      | [a, b, d], _ => exact ⟨a, b, d, rfl, by rw [tok_some h1, a1, List.append_nil], a3 a (by simp), a3 b (by simp), a3 d (by simp)⟩
    · cases h
theorem top_is {t : LitT} (h : topB t = true) : (t.kind = 2 ∨ t.kind = 4) ∧ mayB t = true := by
  unfold topB at h
  simpa using h
/-- a literal's line, without its end -/
def litL (t : LitT) : Bs := (if t.kind = 2 then [116, 101, 120, 116, 32] else [97, 114, 114, 97, 121, 32]) ++ wrT t
theorem litW_L (t : LitT) : litW t = litL t ++ [10] := rfl
theorem nl_lit (t : LitT) : Nl (litL t) := by
  unfold litL
  refine nl_app ?_ (nl_wrT t)
  split <;> (intro b hb; simp at hb; rcases hb with rfl | rfl | rfl | rfl | rfl | rfl <;> decide)
theorem arrT_W (t : LitT) (n : Nat) (h1 : t.kind = 4) (hm : mayB t = true) (hN : NmT t) (hg : (gaT t n).1 = 0) (hn : n ≤ 4096) : arrT (wrT t) n = some (stT t, [], (gaT t n).2) ∧ (gaT t n).2 ≤ 4096 := by
  have hw := wrT_at t
  rcases may_is hm with ⟨h | h, -⟩ | ⟨h, -⟩ | ⟨h, h2, h3, h4⟩ | ⟨h | h | h, -⟩
  all_goals try omega
  rw [if_neg (by omega), if_neg (by omega), if_neg (by omega), if_neg (by omega), if_neg (by omega), if_neg (by omega)] at hw
  rw [gaT_at, if_pos h1] at hg ⊢
  have := (read_all (2 * (wrL t.kids true ++ [41]).length + 2)).2 t.kids [] n [] hN.kids hg hn (by simpa using h2) (by simp)
  simp only [List.length_nil, decide_true, List.nil_append] at this
  unfold arrT
  rw [hw, show (40 :: (wrL t.kids true ++ [41]) : Bs) = [40] ++ (wrL t.kids true ++ [41]) from rfl, tok_app]
  simp only
  rw [this.1]
  exact ⟨by rw [stT_mk, h1, h3, h4], this.2⟩
theorem lit_W (t : LitT) (k n : Nat) (ht : topB t = true) (hN : NmT t) (hg : (gaT t n).1 = 0) (hn : n ≤ 4096) (hk : k ≠ 64) : litP (litL t) k n = some (stT t, (gaT t n).2) ∧ (gaT t n).2 ≤ 4096 := by
  obtain ⟨h1 | h1, hm⟩ := top_is ht
  · unfold litP litL
    rw [if_neg hk, if_pos h1, tok_app]
    simp only
    have hw := wrT_at t
    rw [if_neg (by omega), if_pos h1] at hw
    rcases may_is hm with ⟨h | h, -⟩ | ⟨h, h2, h3, h4⟩ | ⟨h, -⟩ | ⟨h | h | h, -⟩
    all_goals try omega
    have := txt_W t.text h2 []
    rw [List.append_nil] at this
    rw [hw, this, ga_kids (by omega)]
    exact ⟨by rw [st_at t 2 t.text 0 h1 rfl h3 h4], hn⟩
  · unfold litP litL
    rw [if_neg hk, if_neg (by omega), show tokP [116, 101, 120, 116, 32] ([97, 114, 114, 97, 121, 32] ++ wrT t) = none from tok_ne (by decide), tok_app]
    simp only
    obtain ⟨e1, e2⟩ := arrT_W t n h1 hm hN hg hn
    rw [e1]
    exact ⟨rfl, e2⟩
theorem arrT_some {r r2 : Bs} {x : LitS} {n n2 : Nat} (h : arrT r n = some (x, r2, n2)) (hn : n ≤ 4096) : ∃ l, x = .mk 4 noTx 0 l ∧ r = wrT (unS x) ++ r2 ∧ mayB (unS x) = true ∧ gaT (unS x) n = (0, n2) ∧ NmT (unS x) ∧ n2 ≤ 4096 := by
  unfold arrT at h
  split at h
  · cases h
  · next r1 h1 =>
    split at h
    · cases h
    · next l r3 n3 h3 =>
      simp only [Option.some.injEq, Prod.mk.injEq] at h
      obtain ⟨rfl, rfl, rfl⟩ := h
      obtain ⟨xs, b1, b2, b3, b4, b5, b6⟩ := (back_all _).2 r1 n [] l r3 n3 h3 hn (by simp)
      simp only [List.nil_append] at b1
      subst b1
      simp only [List.length_nil, decide_true] at b3
      refine ⟨l, rfl, ?_⟩
      rw [unS_mk]
      refine ⟨?_, may_arr1 _ (by rw [unL_len]; exact b2), ?_, .mk _ r64_0 b5, b6⟩
      · rw [wrT, if_neg (by decide), if_neg (by decide), if_neg (by decide), if_neg (by decide), if_neg (by decide), if_neg (by decide), tok_some h1, b3]
        simp
      · rw [gaT, if_pos rfl, b4]
theorem lit_some {l : Bs} {k n n2 : Nat} {x : LitS} (h : litP l k n = some (x, n2)) (hn : n ≤ 4096) : l = litL (unS x) ∧ topB (unS x) = true ∧ gaT (unS x) n = (0, n2) ∧ NmT (unS x) ∧ n2 ≤ 4096 ∧ k ≠ 64 := by
  unfold litP at h
  split at h
  · cases h
  · next hk =>
    split at h
    · next r h1 =>
      split at h
      · next y h2 =>
        simp only [Option.some.injEq, Prod.mk.injEq] at h
        obtain ⟨rfl, rfl⟩ := h
        obtain ⟨s, rfl, hs, e⟩ := txt_some h2
        rw [unS_mk, unL_nil]
        refine ⟨?_, ?_, ga_kids (by show (2 : Int) ≠ 4; decide) n, nm_flat _ _ _ r64_0, hn, hk⟩
        · unfold litL
          rw [wrT, if_pos (show LitT.kind (.mk 2 s 0 none 0 []) = 2 from rfl), if_neg (by decide), if_pos rfl, tok_some h1, e, List.append_nil]
        · unfold topB
          rw [may_txt s hs]
          rfl
      · cases h
    · split at h
      · next r h1 =>
        split at h
        · next y m h2 =>
          simp only [Option.some.injEq, Prod.mk.injEq] at h
          obtain ⟨rfl, rfl⟩ := h
          obtain ⟨q, rfl, e, a2, a3, a4, a5⟩ := arrT_some h2 hn
          refine ⟨?_, ?_, a3, a4, a5, hk⟩
          · unfold litL
            rw [if_neg (by rw [unS_mk]; show ¬ (4 : Int) = 2; decide), tok_some h1, e, List.append_nil]
          · unfold topB
            rw [a2, unS_mk]
            rfl
        · cases h
      · cases h
/-- an instruction's line, without its end -/
def insL (at_ o : Nat) (ns : List Int) : Bs := Lib.itoa (at_ : Int) ++ [32] ++ (nmB o).data.toList ++ numsW ns
theorem insW_L (at_ o : Nat) (ns : List Int) : insW at_ o ns = insL at_ o ns ++ [10] := rfl
theorem nl_ins (a o : Nat) (ns : List Int) (ho : o < 29) : Nl (insL a o ns) := nl_app (nl_app (nl_app (nl_itoa _) (nl_cons (by decide) nl_nil)) (fun b hb => ((nm_is o ho).1 b hb).1)) (nl_nums ns)
theorem ins_W (k o : Nat) (ns : List Int) (h1 : 1 ≤ o) (h2 : o ≤ 28) (hl : ns.length = opd o) (hr : ∀ n ∈ ns, r64 n) (hk : k + 1 + opd o ≤ 4096) : insP (insL k o ns) k = some ((o : Int) :: ns) := by
  unfold insP insL
  rw [List.append_assoc, List.append_assoc, numP_itoa (k : Int) (by unfold r64; omega) _ (show NoN ([32] ++ ((nmB o).data.toList ++ numsW ns)) from nn_cons (by decide))]
  simp only
  rw [if_neg (by simp), tok_app]
  simp only
  obtain ⟨e1, e2⟩ := take_app (p := (· != 32)) (nmB o).data.toList (numsW ns) (fun b hb => by simpa using ((nm_is o (by omega)).1 b hb).2) (fun b hb => by
    cases ns with
    | nil => simp [numsW] at hb
    | cons n ns => rw [nums_cons] at hb; have : 32 = b := by simpa using hb
                   rw [← this]; rfl)
  rw [e1, e2, (nm_is o (by omega)).2 h1, if_neg (by omega)]
  have := nums_W ns [] hr nn_nil
  rw [List.append_nil, hl] at this
  rw [this]
theorem ins_some {l : Bs} {k : Nat} {vs : List Int} (h : insP l k = some vs) : ∃ (o : Nat) (ns : List Int), vs = (o : Int) :: ns ∧ 1 ≤ o ∧ o ≤ 28 ∧ ns.length = opd o ∧ (∀ n ∈ ns, r64 n) ∧ k + 1 + opd o ≤ 4096 ∧ l = insL k o ns := by
  unfold insP at h
  split at h
  · cases h
  · next pl r h1 =>
    split at h
    · cases h
    · next hpl =>
      split at h
      · cases h
      · next r1 h2 =>
        split at h
        · cases h
        · next ho =>
          split at h
          · next ns h3 =>
            injection h with h
            subst h
            obtain ⟨a1, a2, a3⟩ := nums_some _ _ _ _ h3
            obtain ⟨b1, b2, -⟩ := numP_some h1
            obtain ⟨c1, c2, c3⟩ := opN_some (b := r1.takeWhile (· != 32)) (fun e => ho (.inl e))
            have hpk : pl = (k : Int) := by simpa using hpl
            refine ⟨opN (r1.takeWhile (· != 32)), ns, rfl, c1, c2, a2, a3, by omega, ?_⟩
            rw [List.append_nil] at a1
            unfold insL
            rw [c3, ← a1, List.append_assoc, List.takeWhile_append_dropWhile, ← hpk, List.append_assoc, b1, tok_some h2]
          · cases h
/-- no literal begins here -/
def NoL (r : Bs) : Prop := ∀ b, r.head? = some b → b ≠ 116 ∧ b ≠ 97
theorem lit_none {l : Bs} {k n : Nat} (h : ∀ b, l.head? = some b → b ≠ 116 ∧ b ≠ 97) : litP l k n = none := by
  cases hp : litP l k n with
  | none => rfl
  | some p =>
    exfalso
    unfold litP at hp
    split at hp
    · cases hp
    · split at hp
      · next r h1 => exact (h 116 (tok_head h1)).1 rfl
      · split at hp
        · next r h1 => exact (h 97 (tok_head h1)).2 rfl
        · cases hp
theorem cut_head {t l b : Bs} (h : cutP t = some (l, b)) (c : UInt8) (hc : l.head? = some c) : t.head? = some c := by
  rw [(cut_some h).1]
  cases l with
  | nil => cases hc
  | cons d l => exact hc
theorem lits_stop (f : Nat) (t : Bs) (n : Nat) (ls : List LitS) (k : Nat) (h : NoL t) : litsP f t n ls k = (t, ls, k) := by
  cases f with
  | zero => rfl
  | succ f =>
    rw [litsP]
    split
    · rfl
    · next l b hc =>
      rw [lit_none fun c hcc => h c (cut_head hc c hcc)]
theorem lits_W : ∀ (ts : List LitT) (f : Nat) (r : Bs) (n : Nat) (ls : List LitS) (k : Nat), (∀ t ∈ ts, NmT t) → (gaU ts n).1 = 0 → n ≤ 4096 → ls.length + ts.length ≤ 64 → NoL r → ts.length < f → litsP f (ts.flatMap litW ++ r) n ls k = (r, ls ++ stL ts, k + ts.length)
  | [], f, r, n, ls, k, _, _, _, _, hr, _ => by
    rw [List.flatMap_nil, List.nil_append, lits_stop f r n ls k hr, stL_nil]
    simp
  | t :: ts, 0, r, n, ls, k, _, _, _, _, _, hf => by omega
  | t :: ts, f + 1, r, n, ls, k, hN, hg, hn, hl, hr, hf => by
    rw [show gaU (t :: ts) n = (if topB t = false then (120, n) else if (gaT t n).1 ≠ 0 then gaT t n else gaU ts (gaT t n).2) from rfl] at hg
    by_cases h1 : topB t = false
    · rw [if_pos h1] at hg; cases hg
    rw [if_neg h1] at hg
    by_cases h2 : (gaT t n).1 ≠ 0
    · rw [if_pos h2] at hg; exact absurd hg h2
    rw [if_neg h2] at hg
    rw [List.length_cons] at hl hf
    obtain ⟨e1, e2⟩ := lit_W t ls.length n (by simpa using h1) (hN t (by simp)) (by simpa using h2) hn (by omega)
    rw [List.flatMap_cons, litW_L, List.append_assoc, List.append_assoc, List.singleton_append, litsP, cut_app _ _ (nl_lit t)]
    simp only
    rw [e1]
    simp only
    rw [lits_W ts f r _ (ls ++ [stT t]) (k + 1) (fun u hu => hN u (by simp [hu])) hg e2 (by simp; omega) hr (by omega), stL_cons, List.length_cons]
    simp
    omega
theorem lits_some : ∀ (f : Nat) (t : Bs) (n : Nat) (ls : List LitS) (k : Nat), n ≤ 4096 → ls.length ≤ 64 → ∃ xs m, (litsP f t n ls k).2.1 = ls ++ xs ∧ t = (unL xs).flatMap litW ++ (litsP f t n ls k).1 ∧ gaU (unL xs) n = (0, m) ∧ (∀ u ∈ unL xs, NmT u) ∧ ls.length + xs.length ≤ 64 ∧ (litsP f t n ls k).2.2 = k + xs.length
  | 0, t, n, ls, k, hn, hl => ⟨[], n, by simp [litsP], by rw [unL_nil]; rfl, by rw [unL_nil]; rfl, fun u hu => (by rw [unL_nil] at hu; cases hu), by simpa using hl, rfl⟩
  | f + 1, t, n, ls, k, hn, hl => by
    have h0 : ∃ xs m, ls = ls ++ xs ∧ t = (unL xs).flatMap litW ++ t ∧ gaU (unL xs) n = (0, m) ∧ (∀ u ∈ unL xs, NmT u) ∧ ls.length + xs.length ≤ 64 ∧ k = k + xs.length := ⟨[], n, by simp, by rw [unL_nil]; rfl, by rw [unL_nil]; rfl, fun u hu => (by rw [unL_nil] at hu; cases hu), by simpa using hl, rfl⟩
    rw [litsP]
    split
    · exact h0
    · next l b hc =>
      split
      · exact h0
      · next x n2 hx =>
        obtain ⟨a1, a2, a3, a4, a5, a6⟩ := lit_some hx hn
        obtain ⟨xs, m, b1, b2, b3, b4, b5, b6⟩ := lits_some f b n2 (ls ++ [x]) (k + 1) a5 (by simp; omega)
        refine ⟨x :: xs, m, by rw [b1]; simp, ?_, ?_, ?_, by simp at b5; simp; omega, by rw [b6, List.length_cons]; omega⟩
        · rw [unL_cons, List.flatMap_cons, litW_L, (cut_some hc).1, a1, List.append_assoc, List.append_assoc, List.singleton_append, ← b2]
        · rw [unL_cons]
          show (if topB (unS x) = false then (120, n) else if (gaT (unS x) n).1 ≠ 0 then gaT (unS x) n else gaU (unL xs) (gaT (unS x) n).2) = _
          rw [a2, a3]
          simp [b3]
        · rw [unL_cons]
          intro u hu
          rcases List.mem_cons.1 hu with rfl | hu
          · exact a4
          · exact b4 u hu
theorem num_none {l : Bs} (h : NoN l) : numP l = none := by
  have e : l.takeWhile isNB = [] := by
    cases l with
    | nil => rfl
    | cons c l =>
      have := h c rfl
      simp [this]
  unfold numP
  rw [e]
  rfl
theorem ins_none {l : Bs} {k : Nat} (h : NoN l) : insP l k = none := by
  unfold insP
  rw [num_none h]
theorem inss_stop (f : Nat) (t : Bs) (ws : List Int) (k : Nat) (h : NoN t) : inssP f t ws k = (t, ws, k) := by
  cases f with
  | zero => rfl
  | succ f =>
    rw [inssP]
    split
    · rfl
    · next l b hc =>
      rw [ins_none fun c hcc => h c (cut_head hc c hcc)]
/-- so many instructions -/
def cntI (ws : List Int) : Nat → Nat → Nat
  | 0, _ => 0
  | f + 1, a => if a < ws.length then cntI ws f (a + 1 + opd (ws.getD a 0).toNat) + 1 else 0
theorem isOp_is {o : Int} (h : isOp o = true) : 1 ≤ o.toNat ∧ o.toNat ≤ 28 ∧ ((o.toNat : Nat) : Int) = o := by
  unfold isOp at h
  rw [Bool.and_eq_true] at h
  have h1 := of_decide_eq_true h.1
  have h2 := of_decide_eq_true h.2
  omega
theorem inss_W : ∀ (F : Nat) (ws : List Int) (a : Nat) (o : Bs) (f : Nat) (r : Bs) (k : Nat), lnW ws F a = some o → a ≤ ws.length → ws.length ≤ 4096 → (∀ i, r64 (ws.getD i 0)) → NoN r → cntI ws F a < f → inssP f (o ++ r) (ws.take a) k = (r, ws, k + cntI ws F a)
  | 0, ws, a, o, f, r, k, h, _, _, _, _, _ => by rw [lnW] at h; cases h
  | F + 1, ws, a, o, f, r, k, h, ha, hw, hr, hnr, hf => by
    rw [lnW] at h
    rw [cntI] at hf ⊢
    by_cases hlt : a < ws.length
    · rw [if_pos hlt] at h hf ⊢
      split at h
      · next hop =>
        obtain ⟨o2, ho2, rfl⟩ := Option.map_eq_some_iff.1 h
        obtain ⟨i1, i2, i3⟩ := isOp_is hop.1
        cases f with
        | zero => omega
        | succ f =>
          have htl : (ws.take a).length = a := by simp; omega
          have hnl : ((ws.drop (a + 1)).take (opd (ws.getD a 0).toNat)).length = opd (ws.getD a 0).toNat := by rw [List.length_take, List.length_drop]; omega
          have hins := ins_W a (ws.getD a 0).toNat ((ws.drop (a + 1)).take (opd (ws.getD a 0).toNat)) i1 i2 hnl (fun n hn => by
            obtain ⟨j, hj⟩ := List.mem_iff_getElem?.1 (List.mem_of_mem_take hn)
            rw [List.getElem?_drop] at hj
            have := hr (a + 1 + j)
            rw [List.getD_eq_getElem?_getD, hj] at this
            exact this) (by omega)
          rw [insW_L, List.append_assoc, List.append_assoc, List.singleton_append, inssP, cut_app _ _ (nl_ins a _ _ (by omega))]
          simp only
          rw [htl, hins]
          simp only
          have hnext : ws.take a ++ (((ws.getD a 0).toNat : Int) :: (ws.drop (a + 1)).take (opd (ws.getD a 0).toNat)) = ws.take (a + 1 + opd (ws.getD a 0).toNat) := by
            rw [i3, List.take_add, List.take_add_one, List.getElem?_eq_getElem hlt]
            have hgd : ws.getD a 0 = ws[a] := by rw [List.getD_eq_getElem?_getD, List.getElem?_eq_getElem hlt]; rfl
            rw [hgd]
            simp only [Option.toList_some, List.append_assoc, List.singleton_append]
          rw [hnext, inss_W F ws _ o2 f r (k + 1) ho2 hop.2 hw hr hnr (by omega)]
          simp
          omega
      · cases h
    · rw [if_neg hlt] at h ⊢
      injection h with h
      subst h
      have : a = ws.length := by omega
      subst this
      rw [List.nil_append, inss_stop f r _ k hnr, List.take_length]
      rfl
theorem inss_some : ∀ (f : Nat) (t : Bs) (ws : List Int) (k : Nat), ws.length ≤ 4096 → ∃ vs o, (inssP f t ws k).2.1 = ws ++ vs ∧ t = o ++ (inssP f t ws k).1 ∧ (ws ++ vs).length ≤ 4096 ∧ (∀ v ∈ vs, r64 v) ∧ (∀ F, vs.length < F → lnW (ws ++ vs) F ws.length = some o) ∧ k ≤ (inssP f t ws k).2.2
  | 0, t, ws, k, hw => ⟨[], [], by simp [inssP], rfl, by simpa using hw, fun v hv => (by cases hv), fun F hF => by
      cases F with
      | zero => simp at hF
      | succ F => rw [List.append_nil, lnW, if_neg (by omega)], Nat.le_refl _⟩
  | f + 1, t, ws, k, hw => by
    have h0 : ∃ vs o, ws = ws ++ vs ∧ t = o ++ t ∧ (ws ++ vs).length ≤ 4096 ∧ (∀ v ∈ vs, r64 v) ∧ (∀ F, vs.length < F → lnW (ws ++ vs) F ws.length = some o) ∧ k ≤ k := ⟨[], [], by simp, rfl, by simpa using hw, fun v hv => (by cases hv), fun F hF => by
      cases F with
      | zero => simp at hF
      | succ F => rw [List.append_nil, lnW, if_neg (by omega)], Nat.le_refl _⟩
    rw [inssP]
    split
    · exact h0
    · next l b hc =>
      split
      · exact h0
      · next us hu =>
        obtain ⟨o, ns, rfl, i1, i2, i3, i4, i5, rfl⟩ := ins_some hu
        obtain ⟨vs, o2, b1, b2, b3, b4, b5, b6⟩ := inss_some f b (ws ++ (o : Int) :: ns) (k + 1) (by simp; omega)
        have e : ws ++ ((o : Int) :: ns ++ vs) = ws ++ (o : Int) :: ns ++ vs := by simp
        refine ⟨(o : Int) :: ns ++ vs, insW ws.length o ns ++ o2, by rw [b1, e], ?_, by rw [e]; exact b3, fun v hv => ?_, fun F hF => ?_, by omega⟩
        · rw [(cut_some hc).1, insW_L, List.append_assoc, List.append_assoc, List.singleton_append, ← b2]
        · rcases List.mem_append.1 hv with hv | hv
          · rcases List.mem_cons.1 hv with rfl | hv
            · unfold r64; omega
            · exact i4 v hv
          · exact b4 v hv
        · cases F with
          | zero => omega
          | succ F =>
            rw [e]
            have hlen : (ws ++ (o : Int) :: ns ++ vs).length = ws.length + 1 + ns.length + vs.length := by simp; omega
            have hg : (ws ++ (o : Int) :: ns ++ vs).getD ws.length 0 = (o : Int) := by
              rw [List.getD_eq_getElem?_getD, List.append_assoc, List.getElem?_append_right (Nat.le_refl _)]
              simp
            have hd : ((ws ++ (o : Int) :: ns ++ vs).drop (ws.length + 1)).take ns.length = ns := by
              rw [show ws ++ (o : Int) :: ns ++ vs = (ws ++ [(o : Int)]) ++ (ns ++ vs) by simp, List.drop_append_of_le_length (by simp), List.drop_of_length_le (by simp)]
              simp
            rw [lnW, if_pos (by rw [hlen]; omega), hg, Int.toNat_natCast, if_pos ⟨by unfold isOp; rw [decide_eq_true (by omega), decide_eq_true (by omega)]; rfl, by rw [hlen, i3]; omega⟩, ← i3, hd]
            have := b5 F (by simp at hF; omega)
            rw [show (ws ++ (o : Int) :: ns).length = ws.length + 1 + ns.length by simp; omega] at this
            rw [this]
            rfl
/-- a code's lines -/
def cntK (K : Co) : Nat := 1 + K.ts.length + cntI K.ws (K.ws.length + 1) 0
theorem lits_le (ts : List LitT) : ts.length ≤ (ts.flatMap litW).length := by
  induction ts with
  | nil => simp
  | cons t ts ih =>
    rw [List.flatMap_cons, List.length_append, List.length_cons, litW_L, List.length_append, List.length_singleton]
    omega
theorem ln_le : ∀ (F : Nat) (ws : List Int) (a : Nat) (o : Bs), lnW ws F a = some o → cntI ws F a ≤ o.length
  | 0, ws, a, o, h => by rw [lnW] at h; cases h
  | F + 1, ws, a, o, h => by
    rw [lnW] at h
    rw [cntI]
    by_cases hlt : a < ws.length
    · rw [if_pos hlt] at h ⊢
      split at h
      · obtain ⟨o2, ho2, rfl⟩ := Option.map_eq_some_iff.1 h
        have := ln_le F ws _ o2 ho2
        rw [insW_L, List.length_append, List.length_append, List.length_singleton]
        omega
      · cases h
    · rw [if_neg hlt]
      omega
theorem ln_head : ∀ (F : Nat) (ws : List Int) (a : Nat) (o : Bs), lnW ws F a = some o → o = [] ∨ ∃ d s, o = d :: s ∧ isNB d = true
  | 0, ws, a, o, h => by rw [lnW] at h; cases h
  | F + 1, ws, a, o, h => by
    rw [lnW] at h
    split at h
    · split at h
      · obtain ⟨o2, ho2, rfl⟩ := Option.map_eq_some_iff.1 h
        obtain ⟨d, s, e, hd⟩ := itoa_head (a : Int)
        right
        exact ⟨d, _, by unfold insW; rw [e]; rfl, hd⟩
      · cases h
    · injection h with h
      exact .inl h.symm
/-- what is written is read -/
theorem par_pr (K : Co) (T : Bs) (h : prP K = (0, T)) (hN : ∀ t ∈ K.ts, NmT t) (hr : ∀ i, r64 (K.ws.getD i 0)) (hd : r64 K.args ∧ r64 K.temps ∧ r64 K.stack) (r : Bs) (h1 : NoL r) (h2 : NoN r) :
    parP (T ++ r) = if r = [] then .inl ⟨[K.args, K.temps, K.stack], stL K.ts, K.ws⟩ else .inr (cntK K + 1) := by
  unfold prP at h
  split at h
  · cases h
  · next hb =>
    split at h
    · next hg => injection h with h3 h4; exact absurd h3 hg
    · next hg =>
      split at h
      · cases h
      · next o ho =>
        injection h with _ h
        subst h
        have hnl : Nl ([99, 111, 100, 101] ++ numsW [K.args, K.temps, K.stack]) := nl_app (fun b hb => by simp at hb; rcases hb with rfl | rfl | rfl | rfl <;> decide) (nl_nums _)
        unfold parP headW
        rw [show [99, 111, 100, 101] ++ numsW [K.args, K.temps, K.stack] ++ [10] ++ List.flatMap litW K.ts ++ o ++ r = [99, 111, 100, 101] ++ numsW [K.args, K.temps, K.stack] ++ 10 :: (List.flatMap litW K.ts ++ (o ++ r)) by simp, cut_app _ _ hnl]
        simp only
        rw [head_W _ _ _ hd.1 hd.2.1 hd.2.2]
        simp only
        have hno : NoL (o ++ r) := by
          rcases ln_head _ _ _ _ ho with rfl | ⟨d, s, rfl, hnb⟩
          · exact h1
          · intro b hb
            have : d = b := by simpa using hb
            subst this
            exact ⟨(nb_ne hnb).2.2.2.2.1, by rintro rfl; exact absurd hnb (by decide)⟩
        have hle := lits_le K.ts
        have e1 := lits_W K.ts ((List.flatMap litW K.ts ++ (o ++ r)).length + 1) (o ++ r) 0 [] 1 hN (by simpa using hg) (by omega) (by simp; omega) hno (by rw [List.length_append]; omega)
        rw [e1]
        simp only [List.nil_append]
        have hlo := ln_le _ _ _ _ ho
        have e2 := inss_W (K.ws.length + 1) K.ws 0 o ((o ++ r).length + 1) r (1 + K.ts.length) ho (by omega) (by omega) hr h2 (by rw [List.length_append]; omega)
        rw [List.take_zero] at e2
        rw [e2]
        simp only
        by_cases hrn : r = []
        · rw [if_pos hrn, if_pos hrn]
        · rw [if_neg hrn, if_neg hrn]
          rfl
/-- what is read was written so -/
theorem pr_par (T : Bs) (c : CoS) (h : parP T = .inl c) : ∃ a b d, c.hd = [a, b, d] ∧ r64 a ∧ r64 b ∧ r64 d ∧ prP ⟨a, b, d, unL c.ls, c.ws⟩ = (0, T) ∧ (∀ t ∈ unL c.ls, NmT t) ∧ (∀ v ∈ c.ws, r64 v) := by
  unfold parP at h
  split at h
  · cases h
  · next l b hc =>
    split at h
    · cases h
    · next ns hh =>
      simp only at h
      split at h
      · next he =>
        injection h with h
        subst h
        obtain ⟨a1, b1, d1, e1, e2, r1, r2, r3⟩ := head_some hh
        obtain ⟨xs, m, f1, f2, f3, f4, f5, f6⟩ := lits_some (b.length + 1) b 0 [] 1 (by omega) (by simp)
        obtain ⟨vs, o, g1, g2, g3, g4, g5, g6⟩ := inss_some ((litsP (b.length + 1) b 0 [] 1).1.length + 1) (litsP (b.length + 1) b 0 [] 1).1 [] (litsP (b.length + 1) b 0 [] 1).2.2 (by simp)
        rw [he, List.append_nil] at g2
        simp only [List.nil_append, List.length_nil] at f1 f5 g1 g3 g5
        refine ⟨a1, b1, d1, e1, r1, r2, r3, ?_, ?_, ?_⟩
        · simp only [f1, g1]
          unfold prP
          simp only
          rw [if_neg (by rw [unL_len]; omega), f3]
          simp only [ne_eq, not_true_eq_false, if_false]
          rw [g5 (vs.length + 1) (by omega)]
          simp only
          congr 1
          unfold headW
          rw [(cut_some hc).1, e2, f2, g2]
          simp
        · simp only [f1]; exact f4
        · simp only [g1]; exact g4
      · cases h
end Go.Proofs.YtclkoffnjiiioaaGreatDoor

import Derived.Test.YtjbacibicnfaeaaDoorLSp
import Derived.Lib.ItoaNum
namespace Go.Proofs.YtjbacibicnfaeaaDoor
open Go.RowKit Go.Maps
set_option linter.unusedVariables false
set_option linter.unusedSimpArgs false
/-! what Print writes, and that it is cut into the same tokens -/
def qt (l : Bs) : Bs := l.flatMap fun c => if c.toNat = 39 then [c, c] else [c]
theorem qt_cons (c : UInt8) (l : Bs) : qt (c :: l) = (if c.toNat = 39 then [c, c] else [c]) ++ qt l := by simp [qt]
theorem txt_qt : ∀ t : Bs, txt (qt t ++ [39]) = some (t, (qt t).length + 1) := by
  intro t
  induction t with
  | nil => rfl
  | cons c r ih =>
    rw [qt_cons]
    by_cases hc : c.toNat = 39
    · rw [if_pos hc]
      show txt (c :: c :: (qt r ++ [39])) = _
      unfold txt
      rw [if_pos hc, if_pos hc, ih]
      simp
    · rw [if_neg hc]
      show txt (c :: (qt r ++ [39])) = _
      obtain ⟨d, r', e⟩ : ∃ d r', qt r ++ [39] = d :: r' := by
        cases h : qt r with
        | nil => exact ⟨39, [], rfl⟩
        | cons a b => exact ⟨a, b ++ [39], rfl⟩
      rw [e]
      unfold txt
      rw [if_neg hc, ← e, ih]
      simp
def markT (k : Nat) : Bs := if k = 7 then [35, 40] else if k = 14 then [58, 61] else if k = 8 then [40] else if k = 9 then [41] else if k = 10 then [91] else if k = 11 then [93] else if k = 12 then [124] else if k = 13 then [58] else if k = 15 then [94] else if k = 16 then [46] else if k = 17 then [59] else []
def wr (t : Tok) : Bs :=
  if t.kind = 1 ∨ t.kind = 3 then t.text else if t.kind = 2 then t.text ++ [58] else if t.kind = 4 then Lib.decDigits t.num else if t.kind = 5 then 35 :: t.text else if t.kind = 6 then 39 :: (qt t.text ++ [39]) else markT t.kind
def canB (t : Tok) : Prop := (t.kind ≠ 4 → t.num = 0) ∧ ((t.kind = 1 ∨ t.kind = 2) ∧ nameB t.text = true ∨ t.kind = 3 ∧ opB t.text = true ∨ t.kind = 4 ∧ t.text = [] ∧ t.num ≤ 1073741824 ∨ t.kind = 5 ∧ symB t.text = true ∨ t.kind = 6 ∨ 7 ≤ t.kind ∧ t.kind ≤ 17 ∧ t.text = [])
theorem ofDig {k : Nat} (h : k < 10) : (UInt8.ofNat (48 + k)).toNat = 48 + k := by
  rw [UInt8.toNat_ofNat']
  omega
theorem dec_dig (n : Nat) : ∀ c ∈ Lib.decDigits n, dN c = true := by
  induction n using Nat.strongRecOn with
  | _ n ih =>
    intro c hc
    rw [Lib.decDigits] at hc
    have key : ∀ k, k < 10 → dN (UInt8.ofNat (48 + k)) = true := fun k hk => by
      unfold dN
      rw [ofDig hk, isD_iff]
      omega
    split at hc
    · rename_i h
      rw [List.mem_singleton.1 hc]
      exact key n h
    · rename_i h
      rcases List.mem_append.1 hc with h1 | h1
      · exact ih (n / 10) (by omega) c h1
      · rw [List.mem_singleton.1 h1]
        exact key _ (Nat.mod_lt _ (by omega))
theorem numOf_app (l : Bs) (c : UInt8) : numOf (l ++ [c]) = 10 * numOf l + (c.toNat - 48) := by
  unfold numOf
  rw [List.foldl_append]
  rfl
theorem dec_num (n : Nat) : numOf (Lib.decDigits n) = n := by
  induction n using Nat.strongRecOn with
  | _ n ih =>
    rw [Lib.decDigits]
    split
    · rename_i h
      show 10 * 0 + ((UInt8.ofNat (48 + n)).toNat - 48) = n
      rw [ofDig h]
      omega
    · rename_i h
      rw [numOf_app, ih (n / 10) (by omega), ofDig (Nat.mod_lt _ (by omega))]
      omega
theorem tw_all (p : UInt8 → Bool) : ∀ l : Bs, (∀ c ∈ l, p c = true) → l.takeWhile p = l := by
  intro l
  induction l with
  | nil => intro _; rfl
  | cons c r ih =>
    intro h
    rw [List.takeWhile_cons, if_pos (h c (by simp)), ih (fun x hx => h x (by simp [hx]))]
theorem dec_pos (n : Nat) : Lib.decDigits n ≠ [] := by
  rw [Lib.decDigits]
  split <;> simp
theorem hd_mem {l : Bs} (h : l ≠ []) : ∃ c ∈ l, hd l = c.toNat := by
  cases l with
  | nil => exact absurd rfl h
  | cons c r => exact ⟨c, by simp, rfl⟩
/-- a token's own text is cut into it -/
theorem wr_cut {t : Tok} (h : canB t) : cut (wr t) = some (some t, (wr t).length) := by
  obtain ⟨k, x, m⟩ := t
  obtain ⟨h0, h⟩ := h
  simp only at h0 h
  rcases h with ⟨h1 | h1, h2⟩ | ⟨h1, h2⟩ | ⟨h1, h2, h3⟩ | ⟨h1, h2⟩ | h1 | ⟨h1, h2, h3⟩
  · subst h1
    obtain rfl := h0 (by omega)
    show cut x = some (some ⟨1, x, 0⟩, x.length)
    obtain ⟨e1, e2⟩ := of_decide_eq_true h2
    have e0 : x.length ≠ 0 := fun e => e1 (List.length_eq_zero_iff.1 e)
    have hL : isL (hd x) = true := by
      unfold nameLen at e2
      split at e2
      · assumption
      · omega
    exact cut_of_Q e0 (by simp) (by rw [cutQ_word hL, if_pos (kwLen_name e2), e2, List.take_length])
  · subst h1
    obtain rfl := h0 (by omega)
    show cut (x ++ [58]) = some (some ⟨2, x, 0⟩, (x ++ [58]).length)
    obtain ⟨e1, e2⟩ := of_decide_eq_true h2
    have e0 : x.length ≠ 0 := fun e => e1 (List.length_eq_zero_iff.1 e)
    have hL : isL (hd x) = true := by
      unfold nameLen at e2
      split at e2
      · assumption
      · omega
    have hL2 : isL (hd (x ++ [58])) = true := by rw [hd_app _ e1]; exact hL
    have hn : nameLen (x ++ [58]) = x.length := by
      unfold nameLen at e2 ⊢
      rw [if_pos hL] at e2
      rw [if_pos hL2]
      have e3 : x.takeWhile wN = x := (List.takeWhile_prefix wN).eq_of_length e2
      refine tw_eq wN _ x.length (by simp) (fun j hj hjk => ?_) (fun h => ?_)
      · rw [List.getElem_append_left hjk]
        obtain ⟨c, ec, hc⟩ := tw_hd wN x j (by rw [e3]; exact hjk)
        rw [hd_drop hjk] at ec
        rw [UInt8.toNat_inj.1 ec]
        exact hc
      · rw [List.getElem_append_right (Nat.le_refl _)]
        simp
        rfl
    have hk : kwLen (x ++ [58]) = x.length + 1 := by
      unfold kwLen
      rw [hn, if_pos ⟨e0, by simp [colonAt, hd]⟩]
    refine cut_of_Q (by simp) (by simp) ?_
    rw [cutQ_word hL2, if_neg (by omega), hn, hk]
    simp
  · subst h1
    obtain rfl := h0 (by omega)
    show cut x = some (some ⟨3, x, 0⟩, x.length)
    obtain ⟨e1, e2⟩ := of_decide_eq_true h2
    have e0 : x.length ≠ 0 := fun e => e1 (List.length_eq_zero_iff.1 e)
    have hO : isO (hd x) = true := by
      unfold opLen at e2
      split at e2
      · assumption
      · omega
    exact cut_of_Q e0 (by simp) (by rw [cutQ_op hO, e2, List.take_length])
  · subst h1 h2
    show cut (Lib.decDigits m) = some (some ⟨4, [], m⟩, (Lib.decDigits m).length)
    obtain ⟨c, hc, e⟩ := hd_mem (dec_pos m)
    have hD : isD (hd (Lib.decDigits m)) = true := by rw [e]; exact dec_dig m c hc
    have e0 : (Lib.decDigits m).length ≠ 0 := fun e => dec_pos m (List.length_eq_zero_iff.1 e)
    have hl : digLen (Lib.decDigits m) = (Lib.decDigits m).length := by unfold digLen; rw [tw_all dN _ (dec_dig m)]
    refine cut_of_Q e0 (by simp) ?_
    rw [cutQ_int hD, hl, List.take_length, dec_num, if_pos h3]
  · subst h1
    obtain rfl := h0 (by omega)
    show cut (35 :: x) = some (some ⟨5, x, 0⟩, (35 :: x).length)
    obtain ⟨e1, e2⟩ := of_decide_eq_true h2
    have e0 : x.length ≠ 0 := fun e => e1 (List.length_eq_zero_iff.1 e)
    refine cut_of_Q (by simp) (by simp) ?_
    rw [cutQ_hash rfl]
    have e : (35 :: x : Bs).drop 1 = x := rfl
    rw [e, if_neg (by omega), e2, List.take_length, List.length_cons]
  · subst h1
    obtain rfl := h0 (by omega)
    show cut (39 :: (qt x ++ [39])) = some (some ⟨6, x, 0⟩, (39 :: (qt x ++ [39])).length)
    refine cut_of_Q (by simp) (by simp) ?_
    rw [cutQ_text rfl]
    have e : (39 :: (qt x ++ [39]) : Bs).drop 1 = qt x ++ [39] := rfl
    rw [e, txt_qt]
    simp
  · subst h3
    obtain rfl := h0 (by omega)
    have : k = 7 ∨ k = 8 ∨ k = 9 ∨ k = 10 ∨ k = 11 ∨ k = 12 ∨ k = 13 ∨ k = 14 ∨ k = 15 ∨ k = 16 ∨ k = 17 := by omega
    rcases this with rfl | rfl | rfl | rfl | rfl | rfl | rfl | rfl | rfl | rfl | rfl <;> rfl
theorem nameLen_take (l : Bs) : nameLen (l.take (nameLen l)) = nameLen l := by
  by_cases hz : nameLen l = 0
  · rw [hz]
    rfl
  · have hle := nameLen_le l
    have hL : isL (hd l) = true := by
      by_cases h : isL (hd l) = true
      · exact h
      · unfold nameLen at hz; rw [if_neg h] at hz; exact absurd rfl hz
    have hlen : (l.take (nameLen l)).length = nameLen l := by rw [List.length_take]; omega
    have hh : hd (l.take (nameLen l)) = hd l := by
      cases l with
      | nil => simp at hle; omega
      | cons c r =>
        obtain ⟨m, hm⟩ : ∃ m, nameLen (c :: r) = m + 1 := ⟨nameLen (c :: r) - 1, by omega⟩
        rw [hm]
        rfl
    have hU : ∀ m : Bs, isL (hd m) = true → nameLen m = (m.takeWhile wN).length := fun m hm => by unfold nameLen; rw [if_pos hm]
    rw [hU (l.take (nameLen l)) (by rw [hh]; exact hL)]
    refine tw_eq wN _ _ (by omega) (fun j hj hjk => ?_) (fun h => by omega)
    rw [List.getElem_take]
    have hj2 : j < l.length := by omega
    obtain ⟨c, ec, hc⟩ := tw_hd wN l j (by unfold nameLen at hjk; rw [if_pos hL] at hjk; exact hjk)
    rw [hd_drop hj2] at ec
    rw [UInt8.toNat_inj.1 ec]
    exact hc
/-- the text of tokens (the stop is not among them) -/
def pr : List Tok → Bs
  | [] => []
  | [t] => wr t
  | t :: u :: r => wr t ++ 32 :: pr (u :: r)
theorem wr_lx {t : Tok} (h : canB t) (p : Nat) : Lx p (wr t) [(t, p)] none := by
  refine .tok p _ t _ [] none (wr_cut h) ?_
  rw [List.drop_length]
  exact .stop _
theorem pr_lx : ∀ (ts : List Tok) (p : Nat), (∀ t ∈ ts, canB t) → ∃ us, Lx p (pr ts) us none ∧ us.map (·.1) = ts := by
  intro ts
  induction ts with
  | nil => intro p _; exact ⟨[], .stop p, rfl⟩
  | cons t r ih =>
    intro p h
    cases r with
    | nil => exact ⟨[(t, p)], wr_lx (h t (by simp)) p, rfl⟩
    | cons u r =>
      obtain ⟨us, h1, h2⟩ := ih (p + (wr t).length + 1) (fun x hx => h x (by simp at hx ⊢; exact Or.inr hx))
      exact ⟨(t, p) :: us, Lx.join (Or.inr (Or.inl rfl)) (wr_lx (h t (by simp)) p) rfl (Lx.blank h1), by simp [h2]⟩
/-- what is cut can be -/
theorem cut_can {l : Bs} {t : Tok} {n : Nat} (h : cut l = some (some t, n)) : canB t := by
  have hn := cut_n h
  obtain ⟨A, hA, hl⟩ : ∃ A : Bs, cut A = some (some t, n) ∧ A.length = n := by
    refine ⟨l.take n, ?_, by simp; omega⟩
    have := cut_ext (A := l.take n) (B := l.drop n) (R := []) (Or.inl rfl) (nn_of hn.1 hn.2 (cut_nn h)) (by rw [List.take_append_drop]; exact h) (by simp; omega)
    rw [List.append_nil] at this
    exact this
  clear h hn
  subst hl
  unfold cut at hA
  split at hA
  · cases hA
  · rename_i c r
    split at hA
    · simp at hA
    split at hA
    · obtain ⟨y, hy, e⟩ := Option.map_eq_some_iff.1 hA
      simp at e
    split at hA
    · split at hA
      · have e := Option.some.inj hA
        have e1 := Option.some.inj (congrArg Prod.fst e)
        have e2 := congrArg Prod.snd e
        simp only at e1 e2
        subst e1
        refine ⟨fun _ => rfl, Or.inl ⟨Or.inr rfl, ?_⟩⟩
        have e4 : ((c :: r).take (nameLen (c :: r))).length = nameLen (c :: r) := by rw [List.length_take]; have := nameLen_le (c :: r); omega
        rename_i hl _
        have hp := nameLen_pos (l := c :: r) hl
        have e5 : ∀ X : Bs, X.length = nameLen (c :: r) → X ≠ [] := fun X h1 h2 => by rw [h2] at h1; simp at h1; omega
        exact decide_eq_true ⟨e5 _ e4, by rw [e4, nameLen_take]⟩
      · have e := Option.some.inj hA
        have e1 := Option.some.inj (congrArg Prod.fst e)
        have e2 := congrArg Prod.snd e
        simp only at e1 e2
        subst e1
        refine ⟨fun _ => rfl, Or.inl ⟨Or.inl rfl, ?_⟩⟩
        rw [e2, List.take_length]
        exact decide_eq_true ⟨by simp, e2⟩
    split at hA
    · split at hA
      · rename_i hm
        have e := Option.some.inj hA
        have e1 := Option.some.inj (congrArg Prod.fst e)
        subst e1
        exact ⟨fun h => absurd rfl h, Or.inr (Or.inr (Or.inl ⟨rfl, rfl, hm⟩))⟩
      · cases hA
    split at hA
    · split at hA
      · split at hA
        · have e := Option.some.inj hA
          have e1 : some (⟨7, [], 0⟩ : Tok) = some t := congrArg Prod.fst e
          rw [← Option.some.inj e1]
          exact ⟨fun _ => rfl, Or.inr (Or.inr (Or.inr (Or.inr (Or.inr ⟨by simp, by simp, rfl⟩))))⟩
        · cases hA
      · rename_i hs
        have e := Option.some.inj hA
        have e1 := Option.some.inj (congrArg Prod.fst e)
        have e2 := congrArg Prod.snd e
        simp only [List.length_cons] at e1 e2
        have e3 : symLen r = r.length := by omega
        subst e1
        rw [e3, List.take_length]
        refine ⟨fun _ => rfl, Or.inr (Or.inr (Or.inr (Or.inl ⟨rfl, decide_eq_true ⟨fun h => ?_, e3⟩⟩)))⟩
        have h' : r = [] := h
        rw [h'] at hs e3
        exact hs e3
    split at hA
    · have e := Option.some.inj hA
      have e1 := Option.some.inj (congrArg Prod.fst e)
      have e2 := congrArg Prod.snd e
      simp only at e1 e2
      subst e1
      rw [e2, List.take_length]
      exact ⟨fun _ => rfl, Or.inr (Or.inl ⟨rfl, decide_eq_true ⟨by simp, e2⟩⟩)⟩
    split at hA
    · obtain ⟨y, hy, e⟩ := Option.map_eq_some_iff.1 hA
      have e1 := Option.some.inj (congrArg Prod.fst e)
      subst e1
      exact ⟨fun _ => rfl, Or.inr (Or.inr (Or.inr (Or.inr (Or.inl rfl))))⟩
    split at hA
    · have e := Option.some.inj hA
      have e1 : some (⟨14, [], 0⟩ : Tok) = some t := congrArg Prod.fst e
      rw [← Option.some.inj e1]
      exact ⟨fun _ => rfl, Or.inr (Or.inr (Or.inr (Or.inr (Or.inr ⟨by simp, by simp, rfl⟩))))⟩
    split at hA
    · cases hA
    · rename_i hm
      have e := Option.some.inj hA
      have e1 : some (⟨markK c.toNat, [], 0⟩ : Tok) = some t := congrArg Prod.fst e
      rw [← Option.some.inj e1]
      have : markK c.toNat = 0 ∨ 7 ≤ markK c.toNat ∧ markK c.toNat ≤ 17 := by
        unfold markK
        repeat' split
        all_goals omega
      exact ⟨fun _ => rfl, Or.inr (Or.inr (Or.inr (Or.inr (Or.inr ⟨by simp; omega, by simp; omega, rfl⟩))))⟩
theorem Lx.can {p : Nat} {l : Bs} {ts : List (Tok × Nat)} {e : Option Nat} (h : Lx p l ts e) : ∀ x ∈ ts, canB x.1 := by
  induction h with
  | stop p => intro x hx; simp at hx
  | bad p l h1 h2 => intro x hx; simp at hx
  | pass p l n ts e h1 h2 ih => exact ih
  | tok p l t n ts e h1 h2 ih =>
    intro x hx
    rcases List.mem_cons.1 hx with rfl | hx
    · exact cut_can h1
    · exact ih x hx
end Go.Proofs.YtjbacibicnfaeaaDoor

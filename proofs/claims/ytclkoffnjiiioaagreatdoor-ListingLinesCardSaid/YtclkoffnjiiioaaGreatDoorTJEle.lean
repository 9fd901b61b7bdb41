import Derived.Test.YtclkoffnjiiioaaGreatDoorTJTxt
namespace Go.Proofs.YtclkoffnjiiioaaGreatDoor
open Go.RowKit
set_option linter.unusedVariables false
set_option linter.unusedSimpArgs false
theorem ga_kids {t : LitT} (h4 : t.kind ≠ 4) (n : Nat) : gaT t n = (0, n) := by rw [gaT_at, if_neg h4]
/-- of a literal that is written, its reading: elements -/
def EleA (f : Nat) : Prop := ∀ (t : LitT) (r : Bs) (n : Nat), mayB t = true → NmT t → (gaT t n).1 = 0 → n ≤ 4096 → NoN r → 2 * (wrT t ++ r).length + 1 ≤ f → eleP f (wrT t ++ r) n = some (stT t, r, (gaT t n).2) ∧ (gaT t n).2 ≤ 4096
def ArrA (f : Nat) : Prop := ∀ (ts : List LitT) (r : Bs) (n : Nat) (acc : List LitS), (∀ t ∈ ts, NmT t) → (gaL ts n).1 = 0 → n ≤ 4096 → acc.length + ts.length ≤ 32 → 2 * (wrL ts (decide (acc.length = 0)) ++ 41 :: r).length + 2 ≤ f → arrP f (wrL ts (decide (acc.length = 0)) ++ 41 :: r) n acc = some (acc ++ stL ts, r, (gaL ts n).2) ∧ (gaL ts n).2 ≤ 4096
theorem arrA {f : Nat} (ihE : ∀ g, g < f → EleA g) (ihA : ∀ g, g < f → ArrA g) : ArrA f := by
  intro ts r n acc hN hg hn hl hf
  cases f with
  | zero => omega
  | succ f =>
    cases ts with
    | nil =>
      rw [arrP, wrL_nil, List.nil_append, show (41 :: r : Bs) = [41] ++ r from rfl, tok_app, gaL_nil, stL_nil]
      simp [hn]
    | cons t ts =>
      rw [gaL_cons] at hg ⊢
      by_cases hm : mayB t = false
      · rw [if_pos hm] at hg; cases hg
      rw [if_neg hm] at hg ⊢
      by_cases h3 : 4096 < n + 1
      · rw [if_pos h3] at hg; cases hg
      rw [if_neg h3] at hg ⊢
      by_cases h4 : (gaT t (n + 1)).1 ≠ 0
      · rw [if_pos h4] at hg; exact absurd hg h4
      rw [if_neg h4] at hg ⊢
      have h5 : (gaT t (n + 1)).1 = 0 := by simpa using h4
      have hmt : mayB t = true := by simpa using hm
      obtain ⟨d, s, ew, hd⟩ := wr_head t hmt
      rw [List.length_cons] at hl
      have hnx : NoN (wrL ts false ++ 41 :: r) := by
        cases ts with
        | nil => rw [wrL_nil]; exact nn_cons (by decide)
        | cons u us => rw [wrL_cons, List.append_assoc, List.append_assoc]; exact nn_cons (by decide)
      have hlen : 1 ≤ (wrT t).length := by rw [ew]; simp
      rw [wrL_cons] at hf ⊢
      by_cases ha : acc.length = 0
      · have hd1 : decide (acc.length = 0) = true := decide_eq_true ha
        rw [hd1] at hf ⊢
        rw [if_pos rfl, List.nil_append, List.append_assoc] at hf ⊢
        obtain ⟨e1, e2⟩ := ihE f (by omega) t (wrL ts false ++ 41 :: r) (n + 1) hmt (hN t (by simp)) h5 (by omega) hnx (by omega)
        rw [arrP]
        have ht : tokP [41] (wrT t ++ (wrL ts false ++ 41 :: r)) = none := by rw [ew]; exact tok_ne (fun e => hd e.symm)
        rw [ht]
        simp only
        rw [if_pos ha]
        simp only
        rw [if_neg (by omega), e1]
        simp only
        have hl2 : (acc ++ [stT t]).length = acc.length + 1 := by simp
        have hd2 : decide ((acc ++ [stT t]).length = 0) = false := by rw [hl2]; simp
        rw [List.length_append] at hf
        have := ihA f (by omega) ts r (gaT t (n + 1)).2 (acc ++ [stT t]) (fun u hu => hN u (by simp [hu])) hg e2 (by rw [hl2]; omega) (by rw [hd2]; omega)
        rw [hd2] at this
        rw [this.1, stL_cons]
        exact ⟨by simp, this.2⟩
      · have hd1 : decide (acc.length = 0) = false := decide_eq_false ha
        rw [hd1] at hf ⊢
        rw [if_neg Bool.false_ne_true, List.append_assoc, List.append_assoc] at hf ⊢
        rw [List.length_append] at hf
        obtain ⟨e1, e2⟩ := ihE f (by omega) t (wrL ts false ++ 41 :: r) (n + 1) hmt (hN t (by simp)) h5 (by omega) hnx (by omega)
        rw [arrP]
        have ht : tokP [41] ([32] ++ (wrT t ++ (wrL ts false ++ 41 :: r))) = none := tok_ne (by decide)
        rw [ht]
        simp only
        rw [if_neg ha, tok_app]
        simp only
        rw [if_neg (by omega), e1]
        simp only
        have hl2 : (acc ++ [stT t]).length = acc.length + 1 := by simp
        have hd2 : decide ((acc ++ [stT t]).length = 0) = false := by rw [hl2]; simp
        rw [List.length_append] at hf
        have := ihA f (by omega) ts r (gaT t (n + 1)).2 (acc ++ [stT t]) (fun u hu => hN u (by simp [hu])) hg e2 (by rw [hl2]; omega) (by rw [hd2]; omega)
        rw [hd2] at this
        rw [this.1, stL_cons]
        exact ⟨by simp, this.2⟩
theorem st_at (t : LitT) (k : Int) (a : ByteArray) (n : Int) (h1 : t.kind = k) (h2 : t.text = a) (h3 : t.num = n) (h4 : t.kids = []) : stT t = .mk k a n [] := by
  rw [stT_mk, h1, h2, h3, h4, stL_nil]
theorem eleA {f : Nat} (ihA : ∀ g, g < f → ArrA g) : EleA f := by
  intro t r n hm hN hg hn hr hf
  cases f with
  | zero => omega
  | succ f =>
    have hw := wrT_at t
    rcases may_is hm with ⟨h1 | h1, h2, h3⟩ | ⟨h1, h2, h3, h4⟩ | ⟨h1, h2, h3, h4⟩ | ⟨h1 | h1 | h1, h2, h3, h4⟩
    · rw [if_pos h1] at hw
      obtain ⟨d, s, e, hd⟩ := itoa_head t.num
      have hne := nb_ne hd
      rw [ga_kids (by omega), hw, eleP]
      have hfst : fstB (Lib.itoa t.num ++ r) = d := by rw [e]; rfl
      rw [hfst, if_neg hne.2.1, if_neg hne.1, if_neg hne.2.2.1, if_neg (by rintro (h | h | h); exact hne.2.2.2.1 h; exact hne.2.2.2.2.1 h; exact hne.2.2.2.2.2.1 h)]
      unfold intP
      rw [numP_itoa t.num hN.num r hr]
      simp only
      exact ⟨by rw [st_at t 1 noTx t.num h1 h2 rfl h3], hn⟩
    · rw [if_neg (by omega), if_neg (by omega), if_pos h1] at hw
      rw [ga_kids (by omega), hw, eleP, List.cons_append]
      rw [fst_cons, if_neg (by decide), if_neg (by decide), if_pos rfl]
      unfold symP
      rw [show (35 :: (Lib.itoa t.num ++ r) : Bs) = [35] ++ (Lib.itoa t.num ++ r) from rfl, tok_app]
      simp only
      rw [numP_itoa t.num hN.num r hr]
      simp only
      exact ⟨by rw [st_at t 3 noTx t.num h1 h2 rfl h3], hn⟩
    · rw [if_neg (by omega), if_pos h1] at hw
      rw [ga_kids (by omega), hw, eleP]
      have hfst : fstB (textW t.text ++ r) = 39 := rfl
      rw [hfst, if_neg (by decide), if_pos rfl, txt_W t.text h2 r]
      simp only
      exact ⟨by rw [st_at t 2 t.text 0 h1 rfl h3 h4], hn⟩
    · rw [if_neg (by omega), if_neg (by omega), if_neg (by omega), if_neg (by omega), if_neg (by omega), if_neg (by omega)] at hw
      rw [gaT_at, if_pos h1] at hg ⊢
      rw [hw] at hf ⊢
      rw [eleP, List.cons_append, fst_cons, if_pos rfl, List.append_assoc, List.singleton_append, show (40 :: (wrL t.kids true ++ 41 :: r) : Bs) = [40] ++ (wrL t.kids true ++ 41 :: r) from rfl, tok_app]
      simp only
      rw [List.cons_append, List.length_cons, List.append_assoc, List.singleton_append] at hf
      have := ihA f (by omega) t.kids r n [] hN.kids hg hn (by simpa using h2) (by simp only [List.length_nil, decide_true]; omega)
      simp only [List.length_nil, decide_true, List.nil_append] at this
      rw [this.1]
      simp only
      refine ⟨?_, this.2⟩
      rw [stT_mk, h1, h3, h4]
    · rw [if_neg (by omega), if_neg (by omega), if_neg (by omega), if_pos h1] at hw
      rw [ga_kids (by omega), hw, eleP]
      have hfst : fstB ([110, 105, 108] ++ r) = 110 := rfl
      rw [hfst, if_neg (by decide), if_neg (by decide), if_neg (by decide), if_pos (.inl rfl)]
      unfold conP
      rw [tok_app]
      simp only
      exact ⟨by rw [st_at t 5 noTx 0 h1 h3 h2 h4], hn⟩
    · rw [if_neg (by omega), if_neg (by omega), if_neg (by omega), if_neg (by omega), if_pos h1] at hw
      rw [ga_kids (by omega), hw, eleP]
      have hfst : fstB ([116, 114, 117, 101] ++ r) = 116 := rfl
      rw [hfst, if_neg (by decide), if_neg (by decide), if_neg (by decide), if_pos (.inr (.inl rfl))]
      unfold conP
      rw [show tokP [110, 105, 108] ([116, 114, 117, 101] ++ r) = none from tok_ne (by decide), tok_app]
      simp only
      exact ⟨by rw [st_at t 6 noTx 0 h1 h3 h2 h4], hn⟩
    · rw [if_neg (by omega), if_neg (by omega), if_neg (by omega), if_neg (by omega), if_neg (by omega), if_pos h1] at hw
      rw [ga_kids (by omega), hw, eleP]
      have hfst : fstB ([102, 97, 108, 115, 101] ++ r) = 102 := rfl
      rw [hfst, if_neg (by decide), if_neg (by decide), if_neg (by decide), if_pos (.inr (.inr rfl))]
      unfold conP
      rw [show tokP [110, 105, 108] ([102, 97, 108, 115, 101] ++ r) = none from tok_ne (by decide), show tokP [116, 114, 117, 101] ([102, 97, 108, 115, 101] ++ r) = none from tok_ne (by decide), tok_app]
      simp only
      exact ⟨by rw [st_at t 7 noTx 0 h1 h3 h2 h4], hn⟩
theorem read_all : ∀ f, EleA f ∧ ArrA f := by
  intro f
  induction f using Nat.strongRecOn with
  | _ f ih => exact ⟨eleA fun g hg => (ih g hg).2, arrA (fun g hg => (ih g hg).1) (fun g hg => (ih g hg).2)⟩
def EleB (f : Nat) : Prop := ∀ (r : Bs) (n : Nat) (x : LitS) (r2 : Bs) (n2 : Nat), eleP f r n = some (x, r2, n2) → n ≤ 4096 → r = wrT (unS x) ++ r2 ∧ mayB (unS x) = true ∧ gaT (unS x) n = (0, n2) ∧ NmT (unS x) ∧ n2 ≤ 4096
def ArrB (f : Nat) : Prop := ∀ (r : Bs) (n : Nat) (acc l : List LitS) (r2 : Bs) (n2 : Nat), arrP f r n acc = some (l, r2, n2) → n ≤ 4096 → acc.length ≤ 32 → ∃ xs, l = acc ++ xs ∧ l.length ≤ 32 ∧ r = wrL (unL xs) (decide (acc.length = 0)) ++ 41 :: r2 ∧ gaL (unL xs) n = (0, n2) ∧ (∀ t ∈ unL xs, NmT t) ∧ n2 ≤ 4096
theorem arrB {f : Nat} (ihE : ∀ g, g < f → EleB g) (ihA : ∀ g, g < f → ArrB g) : ArrB f := by
  intro r n acc l r2 n2 h hn hl
  cases f with
  | zero => rw [arrP] at h; cases h
  | succ f =>
    rw [arrP] at h
    split at h
    · next r1 h1 =>
      simp only [Option.some.injEq, Prod.mk.injEq] at h
      obtain ⟨rfl, rfl, rfl⟩ := h
      refine ⟨[], by simp, hl, ?_, ?_, ?_, hn⟩
      · rw [unL_nil, wrL_nil, tok_some h1]; rfl
      · rw [unL_nil, gaL_nil]
      · rw [unL_nil]; intro t ht; cases ht
    · split at h
      · cases h
      · next r1 h1 =>
        split at h
        · cases h
        · next hb =>
          split at h
          · cases h
          · next x r3 n3 h3 =>
            obtain ⟨a1, a2, a3, a4, a5⟩ := ihE f (by omega) r1 (n + 1) x r3 n3 h3 (by omega)
            obtain ⟨xs, b1, b2, b3, b4, b5, b6⟩ := ihA f (by omega) r3 n3 (acc ++ [x]) l r2 n2 h a5 (by simp; omega)
            have hd2 : decide ((acc ++ [x]).length = 0) = false := by simp
            rw [hd2] at b3
            refine ⟨x :: xs, by rw [b1]; simp, b2, ?_, ?_, ?_, b6⟩
            · rw [unL_cons, wrL_cons]
              by_cases ha : acc.length = 0
              · rw [if_pos ha] at h1
                injection h1 with h1
                rw [decide_eq_true ha, if_pos rfl, h1, a1, b3]
                simp
              · rw [if_neg ha] at h1
                rw [decide_eq_false ha, if_neg Bool.false_ne_true, tok_some h1, a1, b3]
                simp
            · rw [unL_cons, gaL_cons, if_neg (by rw [a2]; simp), if_neg (by omega), a3]
              simp [b4]
            · rw [unL_cons]
              intro t ht
              rcases List.mem_cons.1 ht with rfl | ht
              · exact a4
              · exact b5 t ht
theorem noTx_e : noTx.toList.isEmpty = true := by rw [Lib.toList_data]; rfl
theorem may_mk (k : Int) (a : ByteArray) (n : Int) (l : List LitT) : mayB (.mk k a n none 0 l) = (if k = 1 ∨ k = 3 then a.toList.isEmpty && ((l.length : Int) == 0)
  else if k = 2 then decide ((a.size : Int) ≤ 256) && (n == 0) && ((l.length : Int) == 0)
  else if k = 4 then decide ((l.length : Int) ≤ 32) && (n == 0) && a.toList.isEmpty
  else if k = 5 ∨ k = 6 ∨ k = 7 then (n == 0) && a.toList.isEmpty && ((l.length : Int) == 0)
  else false) := rfl
theorem may_int (k : Int) (h : k = 1 ∨ k = 3) (n : Int) : mayB (.mk k noTx n none 0 []) = true := by
  rw [may_mk, if_pos h, noTx_e]
  rfl
theorem may_con (k : Int) (h : k = 5 ∨ k = 6 ∨ k = 7) : mayB (.mk k noTx 0 none 0 []) = true := by
  rw [may_mk, if_neg (by omega), if_neg (by omega), if_neg (by omega), if_pos h, noTx_e]
  rfl
theorem may_txt (s : ByteArray) (h : s.size ≤ 256) : mayB (.mk 2 s 0 none 0 []) = true := by
  rw [may_mk, if_neg (by decide), if_pos rfl, decide_eq_true (by omega)]
  rfl
theorem may_arr1 (l : List LitT) (h : l.length ≤ 32) : mayB (.mk 4 noTx 0 none 0 l) = true := by
  rw [may_mk, if_neg (by decide), if_neg (by decide), if_pos rfl, decide_eq_true (by omega), noTx_e]
  rfl
theorem nm_flat (k : Int) (a : ByteArray) (n : Int) (h : r64 n) : NmT (.mk k a n none 0 []) := .mk _ h (fun u hu => by cases hu)
theorem r64_0 : r64 0 := by unfold r64; omega
theorem eleB {f : Nat} (ihA : ∀ g, g < f → ArrB g) : EleB f := by
  intro r n x r2 n2 h hn
  cases f with
  | zero => rw [eleP] at h; cases h
  | succ f =>
    rw [eleP] at h
    split at h
    · split at h
      · cases h
      · next r1 h1 =>
        split at h
        · cases h
        · next l r3 n3 h3 =>
          simp only [Option.some.injEq, Prod.mk.injEq] at h
          obtain ⟨rfl, rfl, rfl⟩ := h
          obtain ⟨xs, b1, b2, b3, b4, b5, b6⟩ := ihA f (by omega) r1 n [] l r3 n3 h3 hn (by simp)
          simp only [List.nil_append] at b1
          subst b1
          simp only [List.length_nil, decide_true] at b3
          rw [unS_mk]
          refine ⟨?_, may_arr1 _ (by rw [unL_len]; exact b2), ?_, .mk _ r64_0 b5, b6⟩
          · rw [wrT, if_neg (by decide), if_neg (by decide), if_neg (by decide), if_neg (by decide), if_neg (by decide), if_neg (by decide), tok_some h1, b3]
            simp
          · rw [gaT, if_pos rfl, b4]
    · split at h
      · cases h
      · next y r3 h3 =>
        simp only [Option.some.injEq, Prod.mk.injEq] at h
        obtain ⟨rfl, rfl, rfl⟩ := h
        split at h3
        · obtain ⟨s, rfl, hs, e⟩ := txt_some h3
          rw [unS_mk, unL_nil]
          exact ⟨by rw [wrT, if_neg (by decide), if_pos rfl, e], may_txt s hs, ga_kids (by show (2 : Int) ≠ 4; decide) n, nm_flat _ _ _ r64_0, hn⟩
        · split at h3
          · unfold symP at h3
            split at h3
            · cases h3
            · next r4 h4 =>
              split at h3
              · cases h3
              · next v r5 h5 =>
                simp only [Option.some.injEq, Prod.mk.injEq] at h3
                obtain ⟨rfl, rfl⟩ := h3
                obtain ⟨e, hv, -⟩ := numP_some h5
                rw [unS_mk, unL_nil]
                exact ⟨by rw [wrT, if_neg (by decide), if_neg (by decide), if_pos rfl, tok_some h4, e]; simp, may_int 3 (.inr rfl) v, ga_kids (by show (3 : Int) ≠ 4; decide) n, nm_flat _ _ _ hv, hn⟩
          · split at h3
            · unfold conP at h3
              split at h3
              · next r4 h4 =>
                simp only [Option.some.injEq, Prod.mk.injEq] at h3
                obtain ⟨rfl, rfl⟩ := h3
                rw [unS_mk, unL_nil]
                exact ⟨by rw [wrT, if_neg (by decide), if_neg (by decide), if_neg (by decide), if_pos rfl, tok_some h4], may_con 5 (by decide), ga_kids (by show (5 : Int) ≠ 4; decide) n, nm_flat _ _ _ r64_0, hn⟩
              · split at h3
                · next r4 h4 =>
                  simp only [Option.some.injEq, Prod.mk.injEq] at h3
                  obtain ⟨rfl, rfl⟩ := h3
                  rw [unS_mk, unL_nil]
                  exact ⟨by rw [wrT, if_neg (by decide), if_neg (by decide), if_neg (by decide), if_neg (by decide), if_pos rfl, tok_some h4], may_con 6 (by decide), ga_kids (by show (6 : Int) ≠ 4; decide) n, nm_flat _ _ _ r64_0, hn⟩
                · split at h3
                  · next r4 h4 =>
                    simp only [Option.some.injEq, Prod.mk.injEq] at h3
                    obtain ⟨rfl, rfl⟩ := h3
                    rw [unS_mk, unL_nil]
                    exact ⟨by rw [wrT, if_neg (by decide), if_neg (by decide), if_neg (by decide), if_neg (by decide), if_neg (by decide), if_pos rfl, tok_some h4], may_con 7 (by decide), ga_kids (by show (7 : Int) ≠ 4; decide) n, nm_flat _ _ _ r64_0, hn⟩
                  · cases h3
            · unfold intP at h3
              split at h3
              · cases h3
              · next v r5 h5 =>
                simp only [Option.some.injEq, Prod.mk.injEq] at h3
                obtain ⟨rfl, rfl⟩ := h3
                obtain ⟨e, hv, -⟩ := numP_some h5
                rw [unS_mk, unL_nil]
                exact ⟨by rw [wrT, if_pos rfl, e], may_int 1 (.inl rfl) v, ga_kids (by show (1 : Int) ≠ 4; decide) n, nm_flat _ _ _ hv, hn⟩
theorem back_all : ∀ f, EleB f ∧ ArrB f := by
  intro f
  induction f using Nat.strongRecOn with
  | _ f ih => exact ⟨eleB fun g hg => (ih g hg).2, arrB (fun g hg => (ih g hg).1) (fun g hg => (ih g hg).2)⟩
end Go.Proofs.YtclkoffnjiiioaaGreatDoor

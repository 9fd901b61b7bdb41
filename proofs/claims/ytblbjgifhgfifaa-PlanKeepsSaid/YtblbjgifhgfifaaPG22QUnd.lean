import Derived.Test.YtblbjgifhgfifaaPG21QFnd3
import Derived.Test.YtblbjgifhgfifaaPG03NRMake
import Derived.Laws.MakeOwn
import Derived.Deep.RegionLaw
import Derived.Test.YtblbjgifhgfifaaPG01NFds
namespace Go.Proofs.Ytblbjgifhgfifaa
set_option linter.unusedVariables false
set_option linter.unusedSimpArgs false
/-! families: sizes and places, without a world -/
def sm (f : Nat → Nat) : Nat → Nat
  | 0 => 0
  | m + 1 => sm f m + f m
theorem sm_le (f : Nat → Nat) {a b : Nat} (h : a ≤ b) : sm f a ≤ sm f b := by
  induction b with
  | zero => have : a = 0 := by omega
            subst this; exact Nat.le_refl _
  | succ b ih =>
    by_cases e : a = b + 1
    · subst e; exact Nat.le_refl _
    · exact Nat.le_trans (ih (by omega)) (Nat.le_add_right _ _)
theorem sm_one (f : Nat → Nat) {a b : Nat} (h : a < b) : sm f a + f a ≤ sm f b := sm_le f (a := a + 1) (b := b) h
theorem sm_congr {f g : Nat → Nat} {m : Nat} (h : ∀ c, c < m → f c = g c) : sm f m = sm g m := by
  induction m with
  | zero => rfl
  | succ m ih => show sm f m + f m = sm g m + g m; rw [ih (fun c hc => h c (by omega)), h m (by omega)]
theorem sm_upd (f : Nat → Nat) (u v m : Nat) (h : u < m) : sm (fun c => if u = c then f c + v else f c) m = sm f m + v := by
  induction m with
  | zero => omega
  | succ m ih =>
    show sm _ m + (if u = m then f m + v else f m) = sm f m + f m + v
    by_cases e : u = m
    · rw [if_pos e, sm_congr (g := f) (fun c hc => by rw [if_neg (by omega)])]; omega
    · rw [if_neg e, ih (by omega)]; omega
def hs (f : Nat → Nat) : Nat → Nat → Nat
  | _, 0 => 0
  | m, k + 1 => f m + hs f (m + 1) k
theorem hs_congr {f g : Nat → Nat} {k m : Nat} (h : ∀ c, m ≤ c → f c = g c) : hs f m k = hs g m k := by
  induction k generalizing m with
  | zero => rfl
  | succ k ih => show f m + _ = g m + _; rw [h m (Nat.le_refl _), ih (fun c hc => h c (by omega))]
theorem hs_sm (f : Nat → Nat) (k m : Nat) : sm f m + hs f m k = sm f (m + k) := by
  induction k generalizing m with
  | zero => rfl
  | succ k ih =>
    have := ih (m + 1)
    rw [show m + (k + 1) = m + 1 + k by omega, ← this]
    show sm f m + (f m + hs f (m + 1) k) = sm f m + f m + hs f (m + 1) k
    omega
def kid (up : Nat → Option Nat) (g : Nat → Nat) (u : Option Nat) (d : Nat) : Nat := if up d = u then g d else 0
/-- the backward loop at a place -/
def szS (up : Nat → Option Nat) (m : Nat) (f : Nat → Nat) (c : Nat) : Nat := if c = m then f m + 1 else if up m = some c then f c + (f m + 1) else f c
def szT (up : Nat → Option Nat) (n : Nat) : Nat → Nat → Nat
  | 0 => fun _ => 0
  | k + 1 => szS up (n - 1 - k) (szT up n k)
def szN (up : Nat → Option Nat) (n : Nat) : Nat → Nat := szT up n n
def nxS (up : Nat → Option Nat) (sz : Nat → Nat) (j : Nat) (N : Option Nat → Nat) (u : Option Nat) : Nat := if u = up j then N (up j) + sz j else if u = some j then N (up j) + 1 else N u
def nxT (up : Nat → Option Nat) (sz : Nat → Nat) : Nat → Option Nat → Nat
  | 0 => fun _ => 0
  | j + 1 => nxS up sz j (nxT up sz j)
def pN (up : Nat → Option Nat) (sz : Nat → Nat) (j : Nat) : Nat := nxT up sz j (up j)
/-- c is d, or above it -/
inductive Un (up : Nat → Option Nat) (c : Nat) : Nat → Prop
  | refl : Un up c c
  | step {d e : Nat} : up d = some e → Un up c e → Un up c d
section
variable {up : Nat → Option Nat} {n : Nat} (hup : ∀ c d, up c = some d → d < c)
include hup
theorem szT_ok (k : Nat) (hk : k ≤ n) :
    (∀ c, c < n - k → szT up n k c = hs (kid up (szT up n k) (some c)) (n - k) k) ∧
    (∀ c, n - k ≤ c → c < n → szT up n k c = 1 + hs (kid up (szT up n k) (some c)) (n - k) k) ∧
    sm (szT up n k) (n - k) + hs (kid up (szT up n k) none) (n - k) k = k := by
  induction k with
  | zero => exact ⟨fun c hc => rfl, fun c h1 h2 => by omega, by
      show sm (fun _ => 0) _ + 0 = 0
      have : ∀ m, sm (fun _ => 0) m = 0 := fun m => by induction m with
        | zero => rfl
        | succ m ih => show sm _ m + 0 = 0; rw [ih]
      rw [this]⟩
  | succ k ih =>
    obtain ⟨h1, h2, h3⟩ := ih (by omega)
    obtain ⟨m, hm⟩ : ∃ m, n - (k + 1) = m := ⟨_, rfl⟩
    have hm1 : n - 1 - k = m := by omega
    have hm2 : n - k = m + 1 := by omega
    rw [hm]
    rw [hm2] at h1 h2 h3
    show (∀ c, c < m → szS up (n - 1 - k) (szT up n k) c = hs (kid up (szS up (n - 1 - k) (szT up n k)) (some c)) m (k + 1)) ∧ (∀ c, m ≤ c → c < n → szS up (n - 1 - k) (szT up n k) c = 1 + hs (kid up (szS up (n - 1 - k) (szT up n k)) (some c)) m (k + 1)) ∧ sm (szS up (n - 1 - k) (szT up n k)) m + hs (kid up (szS up (n - 1 - k) (szT up n k)) none) m (k + 1) = k + 1
    rw [hm1]
    generalize szT up n k = g at *
    have hg : ∀ d, m + 1 ≤ d → szS up m g d = g d := fun d hd => by
      unfold szS
      rw [if_neg (by omega), if_neg (fun e => by have := hup m d e; omega)]
    have hgm : szS up m g m = g m + 1 := by unfold szS; rw [if_pos rfl]
    have hh : ∀ u, hs (kid up (szS up m g) u) m (k + 1) = kid up (szS up m g) u m + hs (kid up g u) (m + 1) k := fun u => by
      show kid up (szS up m g) u m + hs (kid up (szS up m g) u) (m + 1) k = _
      rw [hs_congr (g := kid up g u) (fun c hc => by unfold kid; rw [hg c hc])]
    refine ⟨fun c hc => ?_, fun c hc hn => ?_, ?_⟩
    · rw [hh]
      unfold kid at *
      rw [hgm, ← h1 c (by omega)]
      unfold szS
      rw [if_neg (by omega)]
      split <;> omega
    · rw [hh]
      have hk0 : kid up (szS up m g) (some c) m = 0 := by unfold kid; rw [if_neg (fun e => by have := hup m c e; omega)]
      rw [hk0]
      by_cases e : c = m
      · subst e; rw [hgm, h1 c (by omega)]; omega
      · rw [hg c (by omega), h2 c (by omega) hn]; omega
    · rw [hh]
      have h3' : sm g m + g m + hs (kid up g none) (m + 1) k = k := h3
      cases hu : up m with
      | none =>
        have e1 : sm (szS up m g) m = sm g m := sm_congr (fun c hc => by unfold szS; rw [if_neg (by omega), if_neg (by rw [hu]; simp)])
        have e2 : kid up (szS up m g) none m = g m + 1 := by unfold kid; rw [if_pos hu, hgm]
        rw [e1, e2]; omega
      | some u =>
        have hlt := hup m u hu
        have e1 : sm (szS up m g) m = sm g m + (g m + 1) := by
          rw [← sm_upd g u (g m + 1) m hlt]
          refine sm_congr (fun c hc => ?_)
          unfold szS
          rw [if_neg (by omega), hu]
          by_cases e : u = c
          · rw [if_pos (by rw [e]), if_pos e]
          · rw [if_neg (by simpa using e), if_neg e]
        have e2 : kid up (szS up m g) none m = 0 := by unfold kid; rw [if_neg (by rw [hu]; simp)]
        rw [e1, e2]; omega
theorem szN_ok (c : Nat) (hc : c < n) : szN up n c = 1 + sm (kid up (szN up n) (some c)) n := by
  have := (szT_ok hup n (Nat.le_refl n)).2.1 c (by omega) hc
  have h2 := hs_sm (kid up (szT up n n) (some c)) n 0
  unfold szN
  rw [this, Nat.sub_self]
  rw [Nat.zero_add] at h2
  rw [← h2]
  show _ = 1 + (0 + _)
  rw [Nat.zero_add]
theorem szN_all : sm (kid up (szN up n) none) n = n := by
  have := (szT_ok hup n (Nat.le_refl n)).2.2
  have h2 := hs_sm (kid up (szT up n n) none) n 0
  rw [Nat.sub_self] at this
  rw [Nat.zero_add] at h2
  unfold szN
  rw [← h2]
  exact this
theorem szN_pos (c : Nat) (hc : c < n) : 1 ≤ szN up n c := by rw [szN_ok hup c hc]; omega
omit hup in
theorem szT_keep (hup : ∀ c d, up c = some d → d < c) (k : Nat) (hk : k ≤ n) (j : Nat) (hj : j ≤ k) (c : Nat) (hc : n - j ≤ c) : szT up n k c = szT up n j c := by
  induction k with
  | zero => have : j = 0 := by omega
            subst this; rfl
  | succ k ih =>
    by_cases e : j = k + 1
    · subst e; rfl
    · rw [← ih (by omega) (by omega)]
      show szS up (n - 1 - k) (szT up n k) c = _
      unfold szS
      rw [if_neg (by omega), if_neg (fun e => by have := hup _ _ e; omega)]
theorem nxT_ok (sz : Nat → Nat) (j : Nat) : nxT up sz j none = sm (kid up sz none) j ∧ (∀ c, c < j → nxT up sz j (some c) = pN up sz c + 1 + sm (kid up sz (some c)) j) ∧ (∀ c, j ≤ c → nxT up sz j (some c) = 0) := by
  induction j with
  | zero => exact ⟨rfl, fun c hc => by omega, fun c _ => rfl⟩
  | succ j ih =>
    obtain ⟨h1, h2, h3⟩ := ih
    have hp : nxT up sz j (up j) = pN up sz j := rfl
    have hS : ∀ u, sm (kid up sz u) (j + 1) = sm (kid up sz u) j + kid up sz u j := fun u => rfl
    have hN : ∀ u, nxT up sz (j + 1) u = if u = up j then pN up sz j + sz j else if u = some j then pN up sz j + 1 else nxT up sz j u := fun u => rfl
    have hz : sm (kid up sz (some j)) (j + 1) = 0 := by
      rw [sm_congr (g := fun _ => 0) (fun c hc => by unfold kid; rw [if_neg (fun e => by have := hup c j e; omega)])]
      have : ∀ m, sm (fun _ => 0) m = 0 := fun m => by induction m with
        | zero => rfl
        | succ m ih => show sm _ m + 0 = 0; rw [ih]
      exact this _
    refine ⟨?_, fun c hc => ?_, fun c hc => ?_⟩
    · rw [hN, hS]
      unfold kid at *
      by_cases e : none = up j
      · rw [if_pos e, if_pos e.symm, ← h1]
        unfold pN; rw [← e]
      · rw [if_neg e, if_neg (by simp), if_neg (fun x => e x.symm), h1]; rfl
    · rw [hN]
      by_cases e : c = j
      · subst e
        rw [if_neg (fun x => by have := hup c c x.symm; omega), if_pos rfl, hz]
      · rw [hS]
        unfold kid at *
        by_cases e2 : some c = up j
        · rw [if_pos e2, if_pos e2.symm]
          have := h2 c (by omega)
          rw [e2] at this
          rw [hp] at this
          rw [← e2] at this
          omega
        · rw [if_neg e2, if_neg (by simpa using e), if_neg (fun x => e2 x.symm), h2 c (by omega)]; omega
    · rw [hN, if_neg (fun x => by have := hup j c x.symm; omega), if_neg (by simp; omega), h3 c (by omega)]
theorem pN_root (sz : Nat → Nat) {j : Nat} (h : up j = none) : pN up sz j = sm (kid up sz none) j := by
  unfold pN; rw [h]; exact (nxT_ok hup sz j).1
theorem pN_up (sz : Nat → Nat) {j c : Nat} (h : up j = some c) : pN up sz j = pN up sz c + 1 + sm (kid up sz (some c)) j := by
  have := (nxT_ok hup sz j).2.1 c (hup j c h)
  rw [← h] at this ⊢
  exact this
omit hup in
theorem sib {sz : Nat → Nat} {d e : Nat} (h : d < e) : sm (kid up sz (up d)) d + sz d ≤ sm (kid up sz (up d)) e := by
  have := sm_one (kid up sz (up d)) h
  unfold kid at this
  rw [if_pos rfl] at this
  exact this
theorem in_up {c d : Nat} (h : up d = some c) (hd : d < n) : pN up (szN up n) c + 1 ≤ pN up (szN up n) d ∧ pN up (szN up n) d + szN up n d ≤ pN up (szN up n) c + szN up n c := by
  have h1 := pN_up hup (szN up n) h
  have h2 := szN_ok hup c (by have := hup d c h; omega : c < n)
  have h3 := sib (up := up) (sz := szN up n) hd
  rw [h] at h3
  omega
theorem in_root {d : Nat} (h : up d = none) (hd : d < n) : pN up (szN up n) d + szN up n d ≤ n := by
  have h1 := pN_root hup (szN up n) h
  have h2 := szN_all hup (n := n)
  have h3 := sib (up := up) (sz := szN up n) hd
  rw [h] at h3
  omega
theorem Un.le {c d : Nat} (h : Un up c d) : c ≤ d := by
  induction h with
  | refl => exact Nat.le_refl _
  | step h _ ih => have := hup _ _ h; omega
omit hup in
theorem Un.trans {a b c : Nat} (h : Un up a b) (k : Un up b c) : Un up a c := by
  induction k with
  | refl => exact h
  | step e _ ih => exact .step e ih
theorem Un.inside {c d : Nat} (h : Un up c d) (hd : d < n) : pN up (szN up n) c ≤ pN up (szN up n) d ∧ pN up (szN up n) d + szN up n d ≤ pN up (szN up n) c + szN up n c ∧ (c ≠ d → pN up (szN up n) c < pN up (szN up n) d) := by
  induction h with
  | refl => exact ⟨Nat.le_refl _, Nat.le_refl _, fun h => absurd rfl h⟩
  | step e k ih =>
    have h1 := in_up hup e hd
    have h2 := ih (by have := hup _ _ e; omega)
    omega
omit hup in
theorem Un.kid {c : Nat} : ∀ d, Un up c d → c ≠ d → ∃ k, up k = some c ∧ Un up k d := by
  intro d h
  induction h with
  | refl => intro h; exact absurd rfl h
  | @step d e h k ih =>
    intro _
    by_cases x : c = e
    · subst x; exact ⟨d, h, .refl⟩
    · obtain ⟨q, h1, h2⟩ := ih x
      exact ⟨q, h1, .step h h2⟩
theorem Un.root : ∀ d, ∃ k, up k = none ∧ Un up k d := by
  intro d
  induction d using Nat.strongRecOn with
  | ind d ih =>
    cases h : up d with
    | none => exact ⟨d, h, .refl⟩
    | some e => obtain ⟨k, h1, h2⟩ := ih e (hup d e h); exact ⟨k, h1, .step h h2⟩
theorem in_all {d : Nat} (hd : d < n) : pN up (szN up n) d + szN up n d ≤ n := by
  obtain ⟨k, h1, h2⟩ := Un.root hup d
  have := h2.inside hup hd
  have := in_root hup h1 (by have := h2.le hup; omega : k < n)
  omega
/-- siblings' families are apart -/
theorem sib_apart {k d : Nat} (hu : up k = up d) (h : k < d) : pN up (szN up n) k + szN up n k ≤ pN up (szN up n) d := by
  have h3 := sib (up := up) (sz := szN up n) h
  cases hk : up k with
  | none =>
    rw [hk] at h3 hu
    have h1 := pN_root hup (szN up n) hk
    have h2 := pN_root hup (szN up n) hu.symm
    omega
  | some c =>
    rw [hk] at h3 hu
    have h1 := pN_up hup (szN up n) hk
    have h2 := pN_up hup (szN up n) hu.symm
    omega
theorem apart : ∀ d, d < n → ∀ c, c < d → Un up c d ∨ pN up (szN up n) c + szN up n c ≤ pN up (szN up n) d ∨ pN up (szN up n) d + szN up n d ≤ pN up (szN up n) c := by
  intro d
  induction d using Nat.strongRecOn with
  | ind d ih =>
    intro hd c hc
    cases hu : up d with
    | none =>
      obtain ⟨k, h1, h2⟩ := Un.root hup c
      have := sib_apart hup (n := n) (h1.trans hu.symm) (by have := h2.le hup; omega)
      have := h2.inside hup (by omega : c < n)
      omega
    | some e =>
      have he := hup d e hu
      have hin := in_up hup hu hd
      by_cases x : e = c
      · subst x; exact .inl (.step hu .refl)
      by_cases y : c < e
      · rcases ih e he (by omega) c y with h | h | h
        · exact .inl (.step hu h)
        · omega
        · omega
      · rcases ih c hc (by omega) e (by omega) with h | h | h
        · obtain ⟨k, h1, h2⟩ := Un.kid c h (by omega)
          have := sib_apart hup (n := n) (h1.trans hu.symm) (by have := h2.le hup; omega)
          have := h2.inside hup (by omega : c < n)
          omega
        · omega
        · omega
theorem in_family {c d : Nat} (hc : c < n) (hd : d < n) (h1 : pN up (szN up n) c ≤ pN up (szN up n) d) (h2 : pN up (szN up n) d < pN up (szN up n) c + szN up n c) : Un up c d := by
  by_cases e : c = d
  · subst e; exact .refl
  have p1 := szN_pos hup d hd
  by_cases h : c < d
  · rcases apart hup d hd c h with h | h | h
    · exact h
    · omega
    · omega
  · rcases apart hup c hc d (by omega) with h | h | h
    · have := (h.inside hup hc).2.2 (by omega); omega
    · omega
    · omega
theorem pN_inj {c d : Nat} (hc : c < n) (hd : d < n) (h : pN up (szN up n) c = pN up (szN up n) d) : c = d := by
  have p1 := szN_pos hup c hc
  have p2 := szN_pos hup d hd
  have h1 := in_family hup hc hd (by omega) (by omega)
  have h2 := in_family hup hd hc (by omega) (by omega)
  have := h1.le hup
  have := h2.le hup
  omega
omit hup in
theorem find_kid (sz : Nat → Nat) (u : Option Nat) (i : Nat) : ∀ m, i < sm (kid up sz u) m → ∃ d, d < m ∧ up d = u ∧ sm (kid up sz u) d ≤ i ∧ i < sm (kid up sz u) d + sz d := by
  intro m
  induction m with
  | zero => intro h; exact absurd h (Nat.not_lt_zero _)
  | succ m ih =>
    intro h
    by_cases e : i < sm (kid up sz u) m
    · obtain ⟨d, h1, h2⟩ := ih e; exact ⟨d, by omega, h2⟩
    · have h' : i < sm (kid up sz u) m + kid up sz u m := h
      unfold kid at h' e
      by_cases x : up m = u
      · rw [if_pos x] at h'
        exact ⟨m, by omega, x, by unfold kid; omega, by unfold kid; omega⟩
      · rw [if_neg x] at h'; omega
theorem pN_in : ∀ k c, n - c ≤ k → c < n → ∀ i, pN up (szN up n) c ≤ i → i < pN up (szN up n) c + szN up n c → ∃ d, d < n ∧ pN up (szN up n) d = i := by
  intro k
  induction k with
  | zero => intro c h hc; omega
  | succ k ih =>
    intro c h hc i h1 h2
    by_cases e : pN up (szN up n) c = i
    · exact ⟨c, hc, e⟩
    · have h3 := szN_ok hup c hc
      obtain ⟨d, d1, d2, d3, d4⟩ := find_kid (up := up) (szN up n) (some c) (i - (pN up (szN up n) c + 1)) n (by omega)
      have h4 := pN_up hup (szN up n) d2
      have := hup d c d2
      exact ih d (by omega) d1 i (by omega) (by omega)
theorem pN_sur (i : Nat) (hi : i < n) : ∃ d, d < n ∧ pN up (szN up n) d = i := by
  have h3 := szN_all hup (n := n)
  obtain ⟨d, d1, d2, d3, d4⟩ := find_kid (up := up) (szN up n) none i n (by omega)
  have h4 := pN_root hup (szN up n) d2
  exact pN_in hup n d (by omega) d1 i (by omega) (by omega)
end
end Go.Proofs.Ytblbjgifhgfifaa
namespace Go.Proofs.Ytblbjgifhgfifaa
open Go.RowKit
set_option linter.unusedVariables false
set_option linter.unusedSimpArgs false
/-! rows of numbers at a block of their own -/
def rowF (f : Nat → Int) (n : Nat) : List Value := (List.range n).map (fun i => .int .i64 (f i))
theorem rowF_len (f : Nat → Int) (n : Nat) : (rowF f n).length = n := by simp [rowF]
theorem rowF_at (f : Nat → Int) {n i : Nat} (h : i < n) : (rowF f n)[i]? = some (.int .i64 (f i)) := by
  unfold rowF; rw [List.getElem?_map, List.getElem?_range h]; rfl
theorem rowF_set (f : Nat → Int) (n i : Nat) (v : Int) : (rowF f n).set i (.int .i64 v) = rowF (fun j => if j = i then v else f j) n := by
  apply List.ext_getElem?
  intro j
  by_cases hj : j < n
  · rw [rowF_at _ hj, List.getElem?_set]
    by_cases e : i = j
    · subst e; rw [if_pos rfl, if_pos (by rw [rowF_len]; exact hj), if_pos rfl]
    · rw [if_neg e, rowF_at _ hj, if_neg (fun x => e x.symm)]
  · rw [List.getElem?_eq_none (by simp [rowF]; omega), List.getElem?_eq_none (by rw [rowF_len]; omega)]
def Row (w : World) (g n : Nat) (f : Nat → Int) : Prop := w.heap[g]? = some (.cells (rowF f n).toArray 3 (0, 0))
theorem Row.lt {w : World} {g n : Nat} {f : Nat → Int} (h : Row w g n f) : g < w.heap.size := lt_of_heap h
theorem Row.cell {w : World} {g n : Nat} {f : Nat → Int} (h : Row w g n f) {i : Nat} (hi : i < n) : w.cell? ⟨g, i, none⟩ = some (.int .i64 (f i)) := by
  rw [cell_in h, List.getElem?_toArray, rowF_at f hi]
theorem Row.frozen {w : World} {g n : Nat} {f : Nat → Int} (h : Row w g n f) (i : Nat) : w.frozen? ⟨g, i, none⟩ = false := frozen_in h i
theorem Row.keep {w w' : World} {g n : Nat} {f : Nat → Int} {S : List Nat} (h : Row w g n f) (hf : Fr S w w') (hg : g ∉ S) : Row w' g n f := (hf.block g h.lt hg).trans h
theorem Row.eqf {w : World} {g n : Nat} {f f' : Nat → Int} (h : Row w g n f) (e : ∀ i, i < n → f i = f' i) : Row w g n f' := by
  unfold Row at *
  rw [h, show rowF f n = rowF f' n from List.map_congr_left (fun i hi => by rw [e i (List.mem_range.1 hi)])]
theorem Row.set {w : World} {g n : Nat} {f : Nat → Int} (h : Row w g n f) (i : Nat) (v : Int) : Row (w.setCell ⟨g, i, none⟩ (.int .i64 v)) g n (fun j => if j = i then v else f j) := by
  unfold Row
  rw [set_in h, List.setIfInBounds_toArray, rowF_set]
theorem Row.rd {w : World} {g n c : Nat} {f : Nat → Int} (h : Row w g n f) (hn : n ≤ 8796093022208) : RdI w (.slice (some ⟨g, 0, none⟩) n c) ((List.range n).map f) := by
  refine ⟨⟨some ⟨g, 0, none⟩, c, by simp, fun hp => ⟨g, 0, rfl, h.lt, fun i hi => ?_⟩⟩, by simpa using hn⟩
  have hi' : i < n := by simpa using hi
  rw [Nat.zero_add, h.cell hi', List.getD_eq_getElem?_getD, List.getElem?_map, List.getElem?_range hi']
  rfl
def zerosI (n : Nat) : List Value := rowF (fun _ => 0) n
theorem make_ints (n : Nat) (h2 : n ≤ 2097152) (W : World) :
    (Instr.makeSlice 34 (.int .i64 (n : Int)) (.int .i64 (n : Int))).run Try.prog W = .ok (.slice (some ⟨W.heap.size, 0, none⟩) n n) (W.alloc (.cells (zerosI n).toArray 3)) := by
  obtain ⟨i0, hi, hz0, hz1, hz2⟩ := info_parts info3
  have h := run_make (P := Try.prog) W 34 3 i0 (.int .i64 0) Try.underlying34 hi hz0 .i64 .i64 n n (by omega) (by omega) (by rw [hz2]; omega) (by omega)
  have e : madeCells (Value.int .i64 0).cells n = (zerosI n).toArray := by
    apply Array.toList_inj.1
    show (madeCells #[.int .i64 0] n).toList = _
    rw [toList_madeCells_one]
    apply List.ext_getElem?
    intro j
    by_cases hj : j < n
    · rw [List.getElem?_replicate, if_pos hj]
      exact (rowF_at (fun _ => 0) hj).symm
    · rw [List.getElem?_replicate, if_neg hj]
      exact (List.getElem?_eq_none (by rw [zerosI, rowF_len]; omega)).symm
  rw [h, hz1, Nat.mul_one, Int.toNat_natCast, e]
theorem row_new (w : World) (n : Nat) : Row (w.alloc (.cells (zerosI n).toArray 3)) w.heap.size n (fun _ => 0) := heap_alloc_new w _
theorem RdI.cells {w : World} {p : Option Addr} {n c : Nat} {zs : List Int} (h : RdI w (.slice p n c) zs) {i : Nat} (hi : i < zs.length) : ∃ g off, p = some ⟨g, off, none⟩ ∧ g < w.heap.size ∧ w.cell? ⟨g, off + i, none⟩ = some (.int .i64 (zs.getD i 0)) := by
  obtain ⟨p', c', e, h1⟩ := h.at_
  injection e with e1 e2 e3
  subst e1
  obtain ⟨g, off, e, q1, q2⟩ := h1 (by omega)
  exact ⟨g, off, e, q1, q2 i hi⟩
/-- where the superclasses are -/
def ups (up : Nat → Option Nat) (n : Nat) : List Int := (List.range n).map (fun c => zO (up c))
theorem ups_len (up : Nat → Option Nat) (n : Nat) : (ups up n).length = n := by simp [ups]
theorem ups_at (up : Nat → Option Nat) {n i : Nat} (h : i < n) : (ups up n).getD i 0 = zO (up i) := by
  unfold ups; rw [List.getD_eq_getElem?_getD, List.getElem?_map, List.getElem?_range h]; rfl
/-- a place in the list of what is next -/
def oi (i : Nat) : Option Nat := if i = 0 then none else some (i - 1)
def io (u : Option Nat) : Nat := match u with | none => 0 | some c => c + 1
theorem oi_io (u : Option Nat) : oi (io u) = u := by cases u <;> simp [oi, io]
theorem oi_eq {i : Nat} {u : Option Nat} : oi i = u ↔ i = io u := by
  cases u with
  | none => unfold oi io; split <;> simp_all
  | some c => unfold oi io; split <;> simp <;> omega
theorem zO_io (u : Option Nat) : zO u = (io u : Int) - 1 := by cases u <;> simp [zO, io]
section
variable {up : Nat → Option Nat} {n : Nat}
theorem szT_le (hup : ∀ c d, up c = some d → d < c) (k : Nat) (hk : k ≤ n) (c : Nat) (hc : c < n - k) : szT up n k c ≤ k := by
  have h3 := (szT_ok hup k hk).2.2
  have := sm_one (szT up n k) hc
  omega
end
end Go.Proofs.Ytblbjgifhgfifaa
namespace Go.Proofs.Ytblbjgifhgfifaa
open Go.RowKit
set_option linter.unusedVariables false
set_option linter.unusedSimpArgs false
/-! a row of bools -/
def rowB (f : Nat → Bool) (n : Nat) : List Value := (List.range n).map (fun i => .bool (f i))
theorem rowB_len (f : Nat → Bool) (n : Nat) : (rowB f n).length = n := by simp [rowB]
theorem rowB_at (f : Nat → Bool) {n i : Nat} (h : i < n) : (rowB f n)[i]? = some (.bool (f i)) := by
  unfold rowB; rw [List.getElem?_map, List.getElem?_range h]; rfl
theorem rowB_set (f : Nat → Bool) (n i : Nat) (v : Bool) : (rowB f n).set i (.bool v) = rowB (fun j => if j = i then v else f j) n := by
  apply List.ext_getElem?
  intro j
  by_cases hj : j < n
  · rw [rowB_at _ hj, List.getElem?_set]
    by_cases e : i = j
    · subst e; rw [if_pos rfl, if_pos (by rw [rowB_len]; exact hj), if_pos rfl]
    · rw [if_neg e, rowB_at _ hj, if_neg (fun x => e x.symm)]
  · rw [List.getElem?_eq_none (by simp [rowB]; omega), List.getElem?_eq_none (by rw [rowB_len]; omega)]
def RowB (w : World) (g n : Nat) (f : Nat → Bool) : Prop := w.heap[g]? = some (.cells (rowB f n).toArray 4 (0, 0))
theorem RowB.lt {w : World} {g n : Nat} {f : Nat → Bool} (h : RowB w g n f) : g < w.heap.size := lt_of_heap h
theorem RowB.cell {w : World} {g n : Nat} {f : Nat → Bool} (h : RowB w g n f) {i : Nat} (hi : i < n) : w.cell? ⟨g, i, none⟩ = some (.bool (f i)) := by
  rw [cell_in h, List.getElem?_toArray, rowB_at f hi]
theorem RowB.frozen {w : World} {g n : Nat} {f : Nat → Bool} (h : RowB w g n f) (i : Nat) : w.frozen? ⟨g, i, none⟩ = false := frozen_in h i
theorem RowB.keep {w w' : World} {g n : Nat} {f : Nat → Bool} {S : List Nat} (h : RowB w g n f) (hf : Fr S w w') (hg : g ∉ S) : RowB w' g n f := (hf.block g h.lt hg).trans h
theorem RowB.eqf {w : World} {g n : Nat} {f f' : Nat → Bool} (h : RowB w g n f) (e : ∀ i, i < n → f i = f' i) : RowB w g n f' := by
  unfold RowB at *
  rw [h, show rowB f n = rowB f' n from List.map_congr_left (fun i hi => by rw [e i (List.mem_range.1 hi)])]
theorem RowB.set {w : World} {g n : Nat} {f : Nat → Bool} (h : RowB w g n f) (i : Nat) (v : Bool) : RowB (w.setCell ⟨g, i, none⟩ (.bool v)) g n (fun j => if j = i then v else f j) := by
  unfold RowB
  rw [set_in h, List.setIfInBounds_toArray, rowB_set]
def falses (n : Nat) : List Value := rowB (fun _ => false) n
theorem info4 : (Try.prog.info? 4).map (fun i => (i.zero, i.size, i.bytes)) = some (some (.bool false), 1, 1) := by kernel_rfl
theorem make_bools (n : Nat) (h2 : n ≤ 2097152) (W : World) :
    (Instr.makeSlice 89 (.int .i64 (n : Int)) (.int .i64 (n : Int))).run Try.prog W = .ok (.slice (some ⟨W.heap.size, 0, none⟩) n n) (W.alloc (.cells (falses n).toArray 4)) := by
  obtain ⟨i0, hi, hz0, hz1, hz2⟩ := info_parts info4
  have h := run_make (P := Try.prog) W 89 4 i0 (.bool false) Try.underlying89 hi hz0 .i64 .i64 n n (by omega) (by omega) (by rw [hz2]; omega) (by omega)
  have e : madeCells (Value.bool false).cells n = (falses n).toArray := by
    apply Array.toList_inj.1
    show (madeCells #[.bool false] n).toList = _
    rw [toList_madeCells_one]
    apply List.ext_getElem?
    intro j
    by_cases hj : j < n
    · rw [List.getElem?_replicate, if_pos hj]
      exact (rowB_at (fun _ => false) hj).symm
    · rw [List.getElem?_replicate, if_neg hj]
      exact (List.getElem?_eq_none (by rw [falses, rowB_len]; omega)).symm
  rw [h, hz1, Nat.mul_one, Int.toNat_natCast, e]
theorem rowB_new (w : World) (n : Nat) : RowB (w.alloc (.cells (falses n).toArray 4)) w.heap.size n (fun _ => false) := heap_alloc_new w _
/-- the family, up to a place -/
def famZ (l : List Cl) (top n : Nat) : List Int := (affected l top n).map (fun (c : Nat) => (c : Int))
theorem aff_start (l : List Cl) (top : Nat) : affected l top (top + 1) = [top] := by
  unfold affected
  rw [show top + 1 - top = 1 by omega]
  have : under l top top = true := by rw [under_eq]; simp
  simp [this]
theorem aff_step (l : List Cl) (top n : Nat) (h : top < n) : affected l top (n + 1) = affected l top n ++ (if under l n top then [n] else []) := by
  unfold affected
  rw [show n + 1 - top = (n - top) + 1 by omega, List.range'_1_concat, List.filter_append, show top + (n - top) = n by omega]
  congr 1
  by_cases hu : under l n top = true
  · simp [hu]
  · simp [hu]
theorem aff_len (l : List Cl) (top n : Nat) : (affected l top n).length ≤ n - top := by
  unfold affected
  exact Nat.le_trans (List.length_filter_le _ _) (by simp)
theorem fam_step (l : List Cl) (top n : Nat) (h : top < n) : famZ l top (n + 1) = famZ l top n ++ (if under l n top then [(n : Int)] else []) := by
  unfold famZ
  rw [aff_step l top n h, List.map_append]
  split <;> rfl
theorem under_step (l : List Cl) (top c : Nat) (h : top < c) : under l c top = (match upN l c with | some d => under l d top | none => false) := by
  rw [under_eq, if_pos h]; cases upN l c <;> rfl
theorem under_below (l : List Cl) (top c : Nat) (h : c < top) : under l c top = false := by
  rw [under_eq, if_neg (by omega)]; simp; omega
set_option maxRecDepth 20000 in
set_option maxHeartbeats 4000000 in
theorem under_ok (l : List Cl) (top : Nat) (ht : top < l.length) (hn : l.length ≤ 1048576) (p : Option Addr) (c : Nat) (pa : Option Addr) (ca : Nat) (bf : Addr) (w : World) (ha : RdI w (.slice pa l.length ca) (ups (upN l) l.length)) :
    Calls Try.prog 53 #[.agg #[.slice p l.length c, .slice pa l.length ca, .func (.func 58) #[] #[.pointer (some bf)]], .int .i64 top] w fun e w' => ∃ q d, e = .returned (.slice q (famZ l top l.length).length d) ∧ w'.ownsRow w.heap.size 3 1 (.slice q (famZ l top l.length).length d) (famZ l top l.length).length (ints (famZ l top l.length)) ∧ Fr [] w w' := by
  have HA := mkHid ha
  have hmk := make_bools l.length (by omega)
  have t0 : (0 : Int) ≤ (top : Int) := by omega
  have t1 : (top : Int) < (l.length : Int) := by omega
  obtain ⟨W0, hW0⟩ : ∃ W, w.alloc (.cells #[.slice p l.length c, .slice pa l.length ca, .func (.func 58) #[] #[.pointer (some bf)]] 64) = W := ⟨_, rfl⟩
  have hs0 : W0.heap.size = w.heap.size + 1 := by rw [← hW0]; simp
  have hb0 : W0.heap[w.heap.size]? = some (.cells #[.slice p l.length c, .slice pa l.length ca, .func (.func 58) #[] #[.pointer (some bf)]] 64 (0, 0)) := hW0 ▸ heap_alloc_new w _
  have f0 : Fr [] w W0 := hW0 ▸ Fr.alloc [] w _
  obtain ⟨W1, hW1⟩ : ∃ W, W0.alloc (.cells (falses l.length).toArray 4) = W := ⟨_, rfl⟩
  have r1 : RowB W1 (w.heap.size + 1) l.length (fun _ => false) := by have := rowB_new W0 l.length; rw [hs0, hW1] at this; exact this
  have f1 : Fr [] W0 W1 := hW1 ▸ Fr.alloc [] _ _
  have hs1 : W1.heap.size = w.heap.size + 2 := by rw [← hW1]; simp [hs0]
  obtain ⟨W2, hW2⟩ : ∃ W, W1.setCell ⟨w.heap.size + 1, top, none⟩ (.bool true) = W := ⟨_, rfl⟩
  have r2 : RowB W2 (w.heap.size + 1) l.length (fun j => if j = top then true else false) := hW2 ▸ r1.set top true
  have f2 : Fr [w.heap.size + 1] W1 W2 := hW2 ▸ Fr.setCell W1 ⟨w.heap.size + 1, _, none⟩ _ (by simp)
  have hs2 : W2.heap.size = w.heap.size + 2 := by rw [← hW2]; simp [hs1]
  obtain ⟨W3, hW3⟩ : ∃ W, W2.alloc (.cells #[.int .i64 (top : Int)] 3) = W := ⟨_, rfl⟩
  have f3 : Fr [] W2 W3 := hW3 ▸ Fr.alloc [] _ _
  have g1 := r1.cell (i := top) ht
  have g2 := r1.frozen top
  have c0 : W0.cell? ⟨w.heap.size, 0, none⟩ = some (.slice p l.length c) := by rw [cell_in hb0]; rfl
  have HB : Hid (W3.heap[w.heap.size]? = some (.cells #[.slice p l.length c, .slice pa l.length ca, .func (.func 58) #[] #[.pointer (some bf)]] 64 (0, 0))) := mkHid (by
    rw [f3.block _ (by omega) (by simp), f2.block _ (by omega) (by simp), f1.block _ (by omega) (by simp)]; exact hb0)
  have HF : Hid (Fr [] w W3) := mkHid (((f0.trans f1 (by simp)).trans f2 (by simp)).trans f3 (by simp))
  have HR : Hid (RowB W3 (w.heap.size + 1) l.length (fun j => decide (j < top + 1) && under l j top)) := mkHid ((r2.keep f3 (by simp)).eqf (fun j hj => by
    by_cases e : j = top
    · subst e
      have : under l j j = true := by rw [under_eq]; simp
      simp [this]
    · rw [if_neg e]
      by_cases e2 : j < top + 1
      · rw [under_below l top j (by omega)]; simp
      · rw [decide_eq_false e2]; rfl))
  have HO : Hid (W3.ownsRow (w.heap.size + 2) 3 1 (.slice (some ⟨w.heap.size + 2, 0, none⟩) (famZ l top (top + 1)).length 1) (famZ l top (top + 1)).length (ints (famZ l top (top + 1)))) := mkHid (by
    have e : famZ l top (top + 1) = [(top : Int)] := by unfold famZ; rw [aff_start]; rfl
    rw [e]
    refine ⟨rfl, Or.inr ⟨w.heap.size + 2, 1, #[.int .i64 (top : Int)], rfl, Nat.le_refl _, ?_, by simp, by unfold maxLen; omega, by simp, by simp [ints]⟩⟩
    rw [← hW3, ← hs2]; exact heap_alloc_new _ _)
  have e0 : (famZ l top (top + 1)).length = 1 := by unfold famZ; rw [aff_start]; rfl
  rw [e0] at HO
  have HE0 := mkHid e0
  clear ha r1 r2 f0 f1 f2 f3 hb0 e0 hs1
  go_enter Try.func53, Try.ntmps53
  go_wp2_with fail
  clear hmk hW0 hW1 hW2 hs2 hs0 hW3 g1 g2 c0
  go_loopw [6, 7] (fun u q wr => ∃ (k : Nat) (pl : Option Addr) (cl nl : Nat), top < k ∧ k ≤ l.length ∧ q = .int .i64 k ∧ u = .slice pl nl cl ∧ Hid (nl = (famZ l top k).length) ∧ Hid (wr.ownsRow w.heap.size 3 1 (.slice pl (famZ l top k).length cl) (famZ l top k).length (ints (famZ l top k))) ∧ Hid (RowB wr (w.heap.size + 1) l.length (fun j => decide (j < k) && under l j top)) ∧ Hid (wr.heap[w.heap.size]? = some (.cells #[.slice p l.length c, .slice pa l.length ca, .func (.func 58) #[] #[.pointer (some bf)]] 64 (0, 0))) ∧ Hid (Fr [] w wr)) (fun _ q _ => l.length - (intOf q).toNat)
  case atStart => exact ⟨top + 1, some ⟨w.heap.size + 2, 0, none⟩, 1, 1, by omega, by omega, by go_num, rfl, mkHid HE0.out.symm, mkHid (by rw [HE0.out] at *; exact own_down HO.out (by omega)), HR, HB, HF⟩
  case round =>
    obtain ⟨k, pl, cl, nl, hk1, hk2, rfl, rfl, hnl, hrow, hrb, hbx, hfr⟩ := hrel
    clear HO HR HB HF HE0
    have k0 : (0 : Int) ≤ (k : Int) := by omega
    have c0 : wr.cell? ⟨w.heap.size, 0, none⟩ = some (.slice p l.length c) := by rw [cell_in hbx.out]; rfl
    by_cases hlt : k < l.length
    · have k3 : (k : Int) < (l.length : Int) := by omega
      have c1 : wr.cell? ⟨w.heap.size, 1, none⟩ = some (.slice pa l.length ca) := by rw [cell_in hbx.out]; rfl
      obtain ⟨ga, oa, rfl, x1, x2⟩ := HA.out.cells (i := k) (by rw [ups_len]; exact hlt)
      rw [ups_at _ hlt] at x2
      have x3 := (hfr.out.cell (p := ⟨ga, oa + k, none⟩) x1 (by simp)).trans x2
      have hst := under_step l top k hk1
      have hfs := fam_step l top k hk1
      have hal := aff_len l top k
      have hfl : (famZ l top k).length = (affected l top k).length := by simp [famZ]
      have HNo : Hid (under l k top = false → famZ l top (k + 1) = famZ l top k ∧ RowB wr (w.heap.size + 1) l.length (fun j => decide (j < k + 1) && under l j top)) := mkHid (fun hf => by
        refine ⟨by rw [hfs, hf]; simp, hrb.out.eqf (fun j hj => ?_)⟩
        by_cases e : j = k
        · subst e; rw [hf]; simp
        · rw [show decide (j < k) = decide (j < k + 1) from decide_eq_decide.2 (by omega)])
      cases hu : upN l k with
      | none =>
        rw [hu] at x3 hst
        rw [show zO none = -1 from rfl] at x3
        obtain ⟨N1, N2⟩ := HNo.out hst
        have HN2 := mkHid N2
        have hnl2 : Hid (nl = (famZ l top (k + 1)).length) := mkHid (by rw [N1]; exact hnl.out)
        have HRW : Hid (wr.ownsRow w.heap.size 3 1 (.slice pl (famZ l top (k + 1)).length cl) (famZ l top (k + 1)).length (ints (famZ l top (k + 1)))) := mkHid (by rw [N1]; exact hrow.out)
        clear x1 x2 hst hfs hal hfl HNo hu N1 N2 hnl hrow hrb HA
        go_wp2_with fail
        go_roundw
        case rel => exact ⟨k + 1, pl, cl, nl, by omega, by omega, by go_num, rfl, hnl2, HRW, HN2, hbx, hfr⟩
        case measure => simp [intOf]; omega
      | some d =>
        rw [hu] at x3 hst
        rw [show zO (some d) = (d : Int) from rfl] at x3
        have hd := upN_lt hu
        have d0 : (0 : Int) ≤ (d : Int) := by omega
        have d1 : (d : Int) < (l.length : Int) := by omega
        have b1 := hrb.out.cell (i := d) (by omega)
        rw [decide_eq_true hd, Bool.true_and] at b1
        simp only at hst
        cases hud : under l d top with
        | false =>
          rw [hud] at b1 hst
          obtain ⟨N1, N2⟩ := HNo.out hst
          have HN2 := mkHid N2
          have hnl2 : Hid (nl = (famZ l top (k + 1)).length) := mkHid (by rw [N1]; exact hnl.out)
          have HRW : Hid (wr.ownsRow w.heap.size 3 1 (.slice pl (famZ l top (k + 1)).length cl) (famZ l top (k + 1)).length (ints (famZ l top (k + 1)))) := mkHid (by rw [N1]; exact hrow.out)
          clear x1 x2 hst hfs hal hfl HNo hu N1 N2 hnl hrow hrb HA hud hd
          go_wp2_with fail
          go_roundw
          case rel => exact ⟨k + 1, pl, cl, nl, by omega, by omega, by go_num, rfl, hnl2, HRW, HN2, hbx, hfr⟩
          case measure => simp [intOf]; omega
        | true =>
          rw [hud] at b1 hst
          have b2 := hrb.out.cell (i := k) hlt
          have b3 := hrb.out.frozen k
          obtain ⟨V1, hV1⟩ : ∃ W, wr.setCell ⟨w.heap.size + 1, k, none⟩ (.bool true) = W := ⟨_, rfl⟩
          have f1 : Fr [w.heap.size + 1] wr V1 := hV1 ▸ Fr.setCell wr ⟨w.heap.size + 1, _, none⟩ _ (by simp)
          have rb1 : RowB V1 (w.heap.size + 1) l.length (fun j => if j = k then true else (decide (j < k) && under l j top)) := hV1 ▸ hrb.out.set k true
          have hne : w.heap.size + 1 ∉ blk pl := fun hm => by
            obtain ⟨cur, hc⟩ := own_blk hrow.out _ hm
            have := hrb.out
            unfold RowB at this
            rw [hc] at this
            simp at this
          have row1 : V1.ownsRow w.heap.size 3 1 (.slice pl (famZ l top k).length cl) (famZ l top k).length (ints (famZ l top k)) := own_congr hrow.out (fun g hg => f1.block g (own_lt hrow.out g hg).2 (by simp; intro e; exact hne (e ▸ (blk_own _ _ _ _).1 hg)))
          have F1 : Fr [] w V1 := hfr.out.trans f1 (by simp)
          obtain ⟨p5, c5, w5, q1, q2, q3⟩ := push_int V1 w.heap.size pl cl (famZ l top k) (k : Int) row1 (by omega) F1.size
          have f5 : Fr (blk pl) V1 w5 := by
            rcases q3 with ⟨_, _, f⟩ | ⟨f, _⟩
            · exact f
            · exact f.mono (by simp)
          have HR5 := mkHid q1
          have hfa : famZ l top (k + 1) = famZ l top k ++ [(k : Int)] := by rw [hfs, hst]; rfl
          have HRW : Hid (w5.ownsRow w.heap.size 3 1 (.slice p5 (famZ l top (k + 1)).length c5) (famZ l top (k + 1)).length (ints (famZ l top (k + 1)))) := mkHid (by rw [hfa]; exact q2)
          have hnl2 : Hid (nl + 1 = (famZ l top (k + 1)).length) := mkHid (by rw [hfa, hnl.out]; simp)
          have HN2 : Hid (RowB w5 (w.heap.size + 1) l.length (fun j => decide (j < k + 1) && under l j top)) := mkHid ((rb1.keep f5 hne).eqf (fun j hj => by
            by_cases e : j = k
            · subst e; rw [if_pos rfl, hst]; simp
            · rw [if_neg e, show decide (j < k) = decide (j < k + 1) from decide_eq_decide.2 (by omega)]))
          have HF5 : Hid (Fr [] w w5) := mkHid (F1.trans f5 (fun g hg => Or.inr (own_lt row1 g ((blk_own _ _ _ _).2 hg)).1))
          have hbV := (f1.block _ (lt_of_heap hbx.out) (by simp)).trans hbx.out
          have hne2 : w.heap.size ∉ blk pl := fun hm => by
            obtain ⟨cur, hc⟩ := own_blk row1 _ hm
            rw [hc] at hbV
            simp at hbV
          have HB5 := mkHid ((f5.block _ (lt_of_heap hbV) hne2).trans hbV)
          rw [← hnl.out] at HR5
          clear x1 x2 hst hfs hal hfl HNo hu hnl hrow hrb HA hud hd f1 rb1 hne row1 F1 q1 q2 q3 f5 hfa hbV hne2
          go_wp2_with (at_builtin; refine Lib.wpList_append_run _ rfl (.tmp 43) (.tmp 45) 34 34 rfl _ _ rfl rfl _ _ HR5.out ?_)
          go_roundw
          case rel => exact ⟨k + 1, p5, c5, nl + 1, by omega, by omega, by go_num, rfl, hnl2, HRW, HN2, HB5, HF5⟩
          case measure => simp [intOf]; omega
    · have hke : k = l.length := by omega
      subst hke
      rw [hnl.out] at *
      clear HA
      go_wp2_with fail
      go_ret
      exact ⟨pl, cl, rfl, hrow.out, hfr.out⟩
end Go.Proofs.Ytblbjgifhgfifaa

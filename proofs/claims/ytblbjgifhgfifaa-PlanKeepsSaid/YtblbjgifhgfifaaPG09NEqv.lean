import Derived.Test.YtblbjgifhgfifaaPNSameC
namespace Go.Proofs.Ytblbjgifhgfifaa
open Go.RowKit
set_option linter.unusedVariables false
set_option linter.unusedSimpArgs false
/-- texts as long as texts may be -/
structure Txs (l : List Cl) (name : ByteArray) (own : List ByteArray) : Prop where
  cl : ∀ k, (clAt l k).name.size ≤ maxLen ∧ (clAt l k).sup.size ≤ maxLen ∧ ∀ s ∈ (clAt l k).own, s.size ≤ maxLen
  own : ∀ s ∈ own, s.size ≤ maxLen
  name : name.size ≤ maxLen
/-- what the program's Make is: what the chapter says, all of it new -/
def ProgMake : Prop := ∀ (l : List Cl) (kernel : Int) (name : ByteArray) (own : List ByteArray) (v ov : Value) (w : World), RdC w v l → RdS w ov own → Ask l own → Txs l name own →
  Calls Try.prog 13 #[v, .int .i64 kernel, .string name, ov] w fun e w' => ∃ vr, e = .returned (.tuple #[vr, .int .i64 (makeP l kernel name own).2]) ∧ MkOut w w' vr (makeP l kernel name own).1
def bx : ByteArray := ⟨#[120]⟩
def by_ : ByteArray := ⟨#[121]⟩
def bz : ByteArray := ⟨#[122]⟩
def bw : ByteArray := ⟨#[119]⟩
def bA : ByteArray := ⟨#[65]⟩
def bB : ByteArray := ⟨#[66]⟩
def bObj : ByteArray := ⟨#[79, 98, 106, 101, 99, 116]⟩
def fixL (v0 v1 v2 : Value) : List Cl := [⟨bObj, ⟨#[]⟩, [], 0, v0⟩, ⟨bA, bObj, [bx, by_], 0, v1⟩, ⟨bB, bA, [bz], 0, v2⟩]
def fixC : List Ch := [⟨2, [bx, by_], [by_, bx, bw], [1, 0, -1]⟩, ⟨3, [bx, by_, bz], [by_, bx, bw, bz], [1, 0, -1, 2]⟩]
theorem fix_make : makeP (fixL (.slice none 0 0) (.slice none 0 0) (.slice none 0 0)) 1 bA [by_, bx, bw] = (fixC, 0) := by decide +kernel
end Go.Proofs.Ytblbjgifhgfifaa
namespace Go.Proofs.Ytblbjgifhgfifaa
open Go.RowKit
set_option linter.unusedVariables false
set_option linter.unusedSimpArgs false
/-- two lists of classes that say the same, wherever their own names lie -/
structure EqC (l l' : List Cl) : Prop where
  len : l'.length = l.length
  at_ : ∀ i, (clAt l' i).name = (clAt l i).name ∧ (clAt l' i).sup = (clAt l i).sup ∧ (clAt l' i).own = (clAt l i).own ∧ (clAt l' i).lay = (clAt l i).lay
namespace EqC
variable {l l' : List Cl}
theorem names (h : EqC l l') : Ytblbjgifhgfifaa.names l' = Ytblbjgifhgfifaa.names l := by
  apply List.ext_getElem?
  intro i
  by_cases hi : i < l.length
  · rw [names_at hi, names_at (by rw [h.len]; exact hi), (h.at_ i).1]
  · have h1 : l[i]? = none := List.getElem?_eq_none (by omega)
    have h2 : l'[i]? = none := List.getElem?_eq_none (by rw [h.len]; omega)
    unfold Ytblbjgifhgfifaa.names
    rw [List.getElem?_map, List.getElem?_map, h1, h2]
theorem atN (h : EqC l l') (n : Nat) (s : ByteArray) : Ytblbjgifhgfifaa.atN l' n s = Ytblbjgifhgfifaa.atN l n s := by unfold Ytblbjgifhgfifaa.atN; rw [h.names]
theorem upN (h : EqC l l') (c : Nat) : Ytblbjgifhgfifaa.upN l' c = Ytblbjgifhgfifaa.upN l c := by unfold Ytblbjgifhgfifaa.upN; rw [h.atN, (h.at_ c).2.1]
theorem chainF (h : EqC l l') : ∀ f c, Ytblbjgifhgfifaa.chainF l' f c = Ytblbjgifhgfifaa.chainF l f c := by
  intro f
  induction f with
  | zero => intro c; rfl
  | succ f ih =>
    intro c
    unfold Ytblbjgifhgfifaa.chainF
    rw [h.upN]
    cases Ytblbjgifhgfifaa.upN l c with
    | none => rfl
    | some d => simp only; rw [ih]
theorem ownOf (h : EqC l l') (t : Option Nat) (own : List ByteArray) : Ytblbjgifhgfifaa.ownOf l' t own = Ytblbjgifhgfifaa.ownOf l t own := by
  funext c; unfold Ytblbjgifhgfifaa.ownOf; rw [(h.at_ c).2.2.1]
theorem fields (h : EqC l l') (t : Option Nat) (own : List ByteArray) (c : Nat) : Ytblbjgifhgfifaa.fields l' t own c = Ytblbjgifhgfifaa.fields l t own c := by
  unfold Ytblbjgifhgfifaa.fields chain; rw [h.chainF, h.ownOf]
theorem underF (h : EqC l l') (top : Nat) : ∀ f c, Ytblbjgifhgfifaa.underF l' top f c = Ytblbjgifhgfifaa.underF l top f c := by
  intro f
  induction f with
  | zero => intro c; rfl
  | succ f ih =>
    intro c
    unfold Ytblbjgifhgfifaa.underF
    rw [h.upN]
    cases Ytblbjgifhgfifaa.upN l c with
    | none => rfl
    | some d => simp only; rw [ih]
theorem under (h : EqC l l') (c top : Nat) : Ytblbjgifhgfifaa.under l' c top = Ytblbjgifhgfifaa.under l c top := by unfold Ytblbjgifhgfifaa.under; exact h.underF _ _ _
theorem made (h : EqC l l') : madeB l' = madeB l := by
  unfold madeB
  rw [h.len]
  have e1 : named1 l' = named1 l := by
    funext i; unfold named1; rw [h.atN, h.upN, (h.at_ i).1, (h.at_ i).2.1]
  have e2 : (fun i => decide (Ytblbjgifhgfifaa.fields l' none [] i).Nodup) = fun i => decide (Ytblbjgifhgfifaa.fields l none [] i).Nodup := by
    funext i; rw [h.fields]
  rw [e1, e2]
theorem inherited (h : EqC l l') (top : Nat) : Ytblbjgifhgfifaa.inherited l' top = Ytblbjgifhgfifaa.inherited l top := by
  unfold Ytblbjgifhgfifaa.inherited fieldsO
  rw [h.upN]
  cases Ytblbjgifhgfifaa.upN l top with
  | none => rfl
  | some d => exact h.fields _ _ _
theorem below (h : EqC l l') (top : Nat) (own : List ByteArray) : belowZ l' top own = belowZ l top own := by
  have e1 : below1 l' top own = below1 l top own := by funext c; unfold below1; rw [h.under, (h.at_ c).2.2.1]
  have e2 : below2 l' top own = below2 l top own := by funext c; unfold below2; rw [h.under, h.fields]
  unfold belowZ
  rw [e1, e2, h.len]
theorem affected (h : EqC l l') (top n : Nat) : Ytblbjgifhgfifaa.affected l' top n = Ytblbjgifhgfifaa.affected l top n := by
  have e : (fun c => Ytblbjgifhgfifaa.under l' c top) = fun c => Ytblbjgifhgfifaa.under l c top := by funext c; exact h.under c top
  unfold Ytblbjgifhgfifaa.affected
  rw [e]
theorem changes (h : EqC l l') (top : Nat) (own : List ByteArray) : Ytblbjgifhgfifaa.changes l' top own = Ytblbjgifhgfifaa.changes l top own := by
  have e : change l' top own = change l top own := by funext c; unfold change; rw [h.fields, h.fields]
  unfold Ytblbjgifhgfifaa.changes
  rw [h.affected, h.len, e]
theorem make (h : EqC l l') (kernel : Int) (name : ByteArray) (own : List ByteArray) : makeP l' kernel name own = makeP l kernel name own := by
  have e : full l' = full l := by funext c; unfold full; rw [(h.at_ c).2.2.2]
  unfold makeP
  rw [h.made, h.len, h.atN]
  cases Ytblbjgifhgfifaa.atN l l.length name with
  | none => rfl
  | some top => simp only; rw [h.inherited, h.below, h.affected, h.changes, (h.at_ top).2.2.1, e]
theorem small (h : EqC l l') (hs : Small l) : Small l' := fun c hc => by rw [h.fields]; exact hs c (by rw [← h.len]; exact hc)
theorem ask (h : EqC l l') {own : List ByteArray} (ha : Ask l own) : Ask l' own :=
  ⟨by rw [h.len]; exact ha.few, h.small ha.small, fun top c hc => by rw [h.fields]; exact ha.small2 top c (by rw [← h.len]; exact hc), fun k => by rw [(h.at_ k).2.2.1]; exact ha.len k⟩
end EqC
theorem fix_eqv (v0 v1 v2 : Value) : EqC (fixL (.slice none 0 0) (.slice none 0 0) (.slice none 0 0)) (fixL v0 v1 v2) := ⟨rfl, fun i => by
  match i with
  | 0 => exact ⟨rfl, rfl, rfl, rfl⟩
  | 1 => exact ⟨rfl, rfl, rfl, rfl⟩
  | 2 => exact ⟨rfl, rfl, rfl, rfl⟩
  | n + 3 => exact ⟨rfl, rfl, rfl, rfl⟩⟩
/-- lists that are together small have few fields -/
theorem fields_le (l : List Cl) (t : Option Nat) (own : List ByteArray) : ∀ c, c < l.length → (fields l t own c).length ≤ (chain l c).length * (own.length + sumOwn l) := by
  have hown : ∀ c, c < l.length → (ownOf l t own c).length ≤ own.length + sumOwn l := fun c hc => by
    unfold ownOf
    split
    · omega
    · have : (clAt l c).own.length ≤ sumOwn l := by
        have h1 := sumOwn_take hc
        have h2 : sumOwn (l.take (c + 1)) ≤ sumOwn l := by
          have e : sumOwn l = sumOwn (l.take (c + 1)) + sumOwn (l.drop (c + 1)) := by
            unfold sumOwn; rw [← List.sum_append, ← List.map_append, List.take_append_drop]
          omega
        omega
      omega
  intro c
  induction c using Nat.strongRecOn with
  | ind c ih =>
    intro hc
    rw [fields_eq, List.length_append, chain_eq]
    have h1 := hown c hc
    cases h : upN l c with
    | none => simp [fieldsO, chO]; omega
    | some d =>
      have h2 := ih d (upN_lt h) (upN_len h)
      show (fields l t own d).length + _ ≤ (chain l d).length.succ * _
      rw [Nat.succ_mul]
      omega
theorem own_sum (l : List Cl) (c : Nat) : (clAt l c).own.length ≤ sumOwn l := by
  by_cases hc : c < l.length
  · have h1 := sumOwn_take hc
    have e : sumOwn l = sumOwn (l.take (c + 1)) + sumOwn (l.drop (c + 1)) := by
      unfold sumOwn; rw [← List.sum_append, ← List.map_append, List.take_append_drop]
    omega
  · have : clAt l c = cl0 := by unfold clAt; rw [List.getD_eq_getElem?_getD, List.getElem?_eq_none (by omega)]; rfl
    rw [this]; exact Nat.zero_le _
theorem ask_of {l : List Cl} {own : List ByteArray} (h : l.length + own.length + sumOwn l ≤ 1048576) : Ask l own := by
  have key : ∀ t o c, o.length ≤ own.length → c < l.length → (fields l t o c).length ≤ 8796093022208 := fun t o c ho hc => by
    have h1 := fields_le l t o c hc
    have h2 := chain_len l c
    have h3 : (chain l c).length * (o.length + sumOwn l) ≤ 1048576 * 1048576 := Nat.mul_le_mul (by omega) (by omega)
    omega
  exact ⟨by omega, fun c hc => key none [] c (by simp) hc, fun top c hc => key (some top) own c (Nat.le_refl _) hc, fun k => by have := own_sum l k; omega⟩
end Go.Proofs.Ytblbjgifhgfifaa

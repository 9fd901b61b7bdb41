import Derived.Test.YtheolmnjedbjmaaGreatDoorSM3
import Derived.Test.YtheolmnjedbjmaaGreatDoorGD
namespace Go.Proofs.YtheolmnjedbjmaaGreatDoor
open Go.RowKit
set_option linter.unusedVariables false
set_option linter.unusedSimpArgs false
def numF (st : Bool × Bs) (n : Int) : Bool × Bs := (st.1, st.2 ++ 32 :: Lib.itoa n)
def txA (st : Bool × Bs) (s : ByteArray) : Bool × Bs := txF st.1 st.2 s.data.toList
/-- the program's line and the document's -/
def Rl (st : Bool × Bs) (L : Bs) : Prop := (st.1 = false ∧ st.2 = L) ∨ (isL st.1 st.2 = true ∧ 262144 < L.length)
theorem Rl.long {st : Bool × Bs} {L : Bs} (h : Rl st L) : isL st.1 st.2 = decide (262144 < L.length) := by
  rcases h with ⟨h1, h2⟩ | ⟨h1, h2⟩
  · unfold isL
    rw [h1, h2]
    simp
  · rw [h1, decide_eq_true h2]
theorem word_ge (s : Bs) : s.length + 1 ≤ (wordB s).length := by
  have := esc_ge s
  unfold wordB
  simp
  omega
theorem Rl.text {st : Bool × Bs} {L : Bs} (h : Rl st L) (s : ByteArray) : Rl (txA st s) (L ++ 32 :: wordB s.data.toList) := by
  have hw := word_ge s.data.toList
  unfold txA txF
  rcases h with ⟨h1, h2⟩ | ⟨h1, h2⟩
  · subst h2
    split
    · rename_i hc
      refine Or.inr ⟨rfl, ?_⟩
      unfold isL at hc
      rw [h1] at hc
      simp only [Bool.false_or, Bool.or_eq_true, decide_eq_true_eq] at hc
      simp only [List.length_append, List.length_cons]
      omega
    · exact Or.inl ⟨rfl, rfl⟩
  · rw [if_pos (by rw [h1]; rfl)]
    exact Or.inr ⟨rfl, by simp only [List.length_append, List.length_cons]; omega⟩
theorem Rl.num {st : Bool × Bs} {L : Bs} (h : Rl st L) (n : Int) : Rl (numF st n) (L ++ 32 :: Lib.itoa n) := by
  unfold numF
  rcases h with ⟨h1, h2⟩ | ⟨h1, h2⟩
  · subst h2
    exact Or.inl ⟨h1, rfl⟩
  · refine Or.inr ⟨?_, by simp only [List.length_append, List.length_cons]; omega⟩
    unfold isL at h1 ⊢
    simp at h1 ⊢
    rcases h1 with h1 | h1
    · exact Or.inl h1
    · right; omega
def starF (L : Bs) (l : List ByteArray) : Bs := l.foldl (fun L s => if L.length ≤ 262144 then L ++ 32 :: wordB s.data.toList else L) L
theorem starF_take (L : Bs) (l : List ByteArray) (j : Nat) (hj : j < l.length) (hL : (starF L (l.take j)).length ≤ 262144) : starF L (l.take (j + 1)) = starF L (l.take j) ++ 32 :: wordB l[j].data.toList := by
  unfold starF at hL ⊢
  rw [List.take_succ_eq_append_getElem hj, List.foldl_append]
  simp only [List.foldl_cons, List.foldl_nil]
  rw [if_pos hL]
theorem starF_over (l : List ByteArray) : ∀ L : Bs, 262144 < L.length → starF L l = L := by
  induction l with
  | nil => intro L _; rfl
  | cons s l ih =>
    intro L hL
    unfold starF at ih ⊢
    rw [List.foldl_cons, if_neg (by omega)]
    exact ih L hL
theorem starF_split (L : Bs) (l : List ByteArray) (j : Nat) (h : 262144 < (starF L (l.take j)).length) : starF L l = starF L (l.take j) := by
  have e : starF L l = starF (starF L (l.take j)) (l.drop j) := by
    unfold starF
    rw [← List.foldl_append, List.take_append_drop]
  rw [e, starF_over _ _ h]
theorem Rl.texts (l : List ByteArray) : ∀ {st : Bool × Bs} {L : Bs}, Rl st L → Rl (txsF st l) (starF L l) := by
  induction l with
  | nil => intro st L h; exact h
  | cons s l ih =>
    intro st L h
    unfold txsF starF
    rw [List.foldl_cons, List.foldl_cons]
    refine ih ?_
    by_cases hL : L.length ≤ 262144
    · rw [if_pos hL]
      exact h.text s
    · rw [if_neg hL]
      have := h.long
      rw [decide_eq_true (by omega)] at this
      refine Or.inr ⟨?_, by omega⟩
      unfold txF
      rw [if_pos (by rw [this]; rfl)]
      rfl
/-- the words of the acts -/
def wdK : Nat → Bs | 1 => [99, 108, 97, 115, 115] | 2 => [109, 101, 116, 104, 111, 100] | 3 => [114, 101, 109, 111, 118, 101] | 4 => [103, 108, 111, 98, 97, 108] | 5 => [115, 112, 97, 119, 110] | 6 => [114, 117, 110] | 7 => [114, 101, 115, 104, 97, 112, 101] | 8 => [99, 111, 108, 108, 101, 99, 116] | 9 => [105, 110, 115, 112, 101, 99, 116] | 10 => [109, 97, 114, 107] | 11 => [115, 97, 118, 101] | 12 => [108, 111, 97, 100] | _ => []
/-- the shapes -/
def shK : Nat → Bs | 1 => [110, 111, 42] | 2 => [110, 116] | 3 => [110, 111] | 4 => [110] | 5 => [116] | 6 => [35, 102] | 7 => [110, 42] | 8 => [] | 9 => [] | 10 => [35] | 11 => [] | 12 => [116] | _ => []
/-- what the program writes -/
def stK (a : AK) : Bool × Bs := match a.kind.toNat with
  | 1 => txsF (txA (txA ((false, wdK 1)) a.name) a.other) a.names
  | 2 => txA (txA ((false, wdK 2)) a.name) a.text
  | 3 => txA (txA ((false, wdK 3)) a.name) a.other
  | 4 => txA ((false, wdK 4)) a.name
  | 5 => txA ((false, wdK 5)) a.text
  | 6 => numF (numF ((false, wdK 6)) a.num) a.fuel
  | 7 => txsF (txA ((false, wdK 7)) a.name) a.names
  | 8 => (false, wdK 8)
  | 9 => (false, wdK 9)
  | 10 => numF ((false, wdK 10)) a.num
  | 11 => (false, wdK 11)
  | 12 => txA ((false, wdK 12)) a.text
  | _ => (false, [])
/-- what it leaves -/
def restK (a : AK) : AK := match a.kind.toNat with
  | 1 => ⟨a.kind, ⟨#[]⟩, ⟨#[]⟩, [], a.text, a.num, a.fuel⟩
  | 2 => ⟨a.kind, ⟨#[]⟩, a.other, a.names, ⟨#[]⟩, a.num, a.fuel⟩
  | 3 => ⟨a.kind, ⟨#[]⟩, ⟨#[]⟩, a.names, a.text, a.num, a.fuel⟩
  | 4 => ⟨a.kind, ⟨#[]⟩, a.other, a.names, a.text, a.num, a.fuel⟩
  | 5 => ⟨a.kind, a.name, a.other, a.names, ⟨#[]⟩, a.num, a.fuel⟩
  | 6 => ⟨a.kind, a.name, a.other, a.names, a.text, 0, 0⟩
  | 7 => ⟨a.kind, ⟨#[]⟩, a.other, [], a.text, a.num, a.fuel⟩
  | 8 => ⟨a.kind, a.name, a.other, a.names, a.text, a.num, a.fuel⟩
  | 9 => ⟨a.kind, a.name, a.other, a.names, a.text, a.num, a.fuel⟩
  | 10 => ⟨a.kind, a.name, a.other, a.names, a.text, 0, a.fuel⟩
  | 11 => ⟨a.kind, a.name, a.other, a.names, a.text, a.num, a.fuel⟩
  | 12 => ⟨a.kind, a.name, a.other, a.names, ⟨#[]⟩, a.num, a.fuel⟩
  | _ => a
/-- a letter of a shape -/
def stepL (a : AK) (x : Bs × AK) (c : UInt8) : Bs × AK :=
  if c = 110 then (x.1 ++ 32 :: wordB a.name.data.toList, {x.2 with name := a.name})
  else if c = 111 then (x.1 ++ 32 :: wordB a.other.data.toList, {x.2 with other := a.other})
  else if c = 116 then (x.1 ++ 32 :: wordB a.text.data.toList, {x.2 with text := a.text})
  else if c = 35 then (x.1 ++ 32 :: Lib.itoa a.num, {x.2 with num := a.num})
  else if c = 102 then (x.1 ++ 32 :: Lib.itoa a.fuel, {x.2 with fuel := a.fuel})
  else if c = 42 then (starF x.1 a.names, {x.2 with names := a.names})
  else x
/-- the document's line -/
def lineK (a : AK) : Bs × AK := (shK a.kind.toNat).foldl (stepL a) (wdK a.kind.toNat, ⟨a.kind, ⟨#[]⟩, ⟨#[]⟩, [], ⟨#[]⟩, 0, 0⟩)
theorem kinds {k : Int} (h : 1 ≤ k ∧ k ≤ 12) : k = 1 ∨ k = 2 ∨ k = 3 ∨ k = 4 ∨ k = 5 ∨ k = 6 ∨ k = 7 ∨ k = 8 ∨ k = 9 ∨ k = 10 ∨ k = 11 ∨ k = 12 := by omega
theorem line_rel (a : AK) (h : 1 ≤ a.kind ∧ a.kind ≤ 12) : Rl (stK a) (lineK a).1 := by
  have base : ∀ k, Rl (false, wdK k) (wdK k) := fun k => Or.inl ⟨rfl, rfl⟩
  obtain ⟨k, n, o, l, t, x, y⟩ := a
  rcases kinds h with rfl | rfl | rfl | rfl | rfl | rfl | rfl | rfl | rfl | rfl | rfl | rfl
  · exact ((((((base 1).text _)).text _)).texts l)
  · exact ((((base 2).text _)).text _)
  · exact ((((base 3).text _)).text _)
  · exact ((base 4).text _)
  · exact ((base 5).text _)
  · exact ((((base 6).num _)).num _)
  · exact ((((base 7).text _)).texts l)
  · exact base 8
  · exact base 9
  · exact ((base 10).num _)
  · exact base 11
  · exact ((base 12).text _)
theorem line_bare (a : AK) (h : 1 ≤ a.kind ∧ a.kind ≤ 12) : decide (a = (lineK a).2) = (restK a).bare := by
  obtain ⟨k, n, o, l, t, x, y⟩ := a
  rcases kinds h with rfl | rfl | rfl | rfl | rfl | rfl | rfl | rfl | rfl | rfl | rfl | rfl
  · show decide ((⟨1, n, o, l, t, x, y⟩ : AK) = ⟨1, n, o, l, ⟨#[]⟩, 0, 0⟩) = AK.bare ⟨1, ⟨#[]⟩, ⟨#[]⟩, [], t, x, y⟩
    unfold AK.bare
    simp
    try ac_rfl
  · show decide ((⟨2, n, o, l, t, x, y⟩ : AK) = ⟨2, n, ⟨#[]⟩, [], t, 0, 0⟩) = AK.bare ⟨2, ⟨#[]⟩, o, l, ⟨#[]⟩, x, y⟩
    unfold AK.bare
    simp
    try ac_rfl
  · show decide ((⟨3, n, o, l, t, x, y⟩ : AK) = ⟨3, n, o, [], ⟨#[]⟩, 0, 0⟩) = AK.bare ⟨3, ⟨#[]⟩, ⟨#[]⟩, l, t, x, y⟩
    unfold AK.bare
    simp
    try ac_rfl
  · show decide ((⟨4, n, o, l, t, x, y⟩ : AK) = ⟨4, n, ⟨#[]⟩, [], ⟨#[]⟩, 0, 0⟩) = AK.bare ⟨4, ⟨#[]⟩, o, l, t, x, y⟩
    unfold AK.bare
    simp
    try ac_rfl
  · show decide ((⟨5, n, o, l, t, x, y⟩ : AK) = ⟨5, ⟨#[]⟩, ⟨#[]⟩, [], t, 0, 0⟩) = AK.bare ⟨5, n, o, l, ⟨#[]⟩, x, y⟩
    unfold AK.bare
    simp
    try ac_rfl
  · show decide ((⟨6, n, o, l, t, x, y⟩ : AK) = ⟨6, ⟨#[]⟩, ⟨#[]⟩, [], ⟨#[]⟩, x, y⟩) = AK.bare ⟨6, n, o, l, t, 0, 0⟩
    unfold AK.bare
    simp
    try ac_rfl
  · show decide ((⟨7, n, o, l, t, x, y⟩ : AK) = ⟨7, n, ⟨#[]⟩, l, ⟨#[]⟩, 0, 0⟩) = AK.bare ⟨7, ⟨#[]⟩, o, [], t, x, y⟩
    unfold AK.bare
    simp
    try ac_rfl
  · show decide ((⟨8, n, o, l, t, x, y⟩ : AK) = ⟨8, ⟨#[]⟩, ⟨#[]⟩, [], ⟨#[]⟩, 0, 0⟩) = AK.bare ⟨8, n, o, l, t, x, y⟩
    unfold AK.bare
    simp
    try ac_rfl
  · show decide ((⟨9, n, o, l, t, x, y⟩ : AK) = ⟨9, ⟨#[]⟩, ⟨#[]⟩, [], ⟨#[]⟩, 0, 0⟩) = AK.bare ⟨9, n, o, l, t, x, y⟩
    unfold AK.bare
    simp
    try ac_rfl
  · show decide ((⟨10, n, o, l, t, x, y⟩ : AK) = ⟨10, ⟨#[]⟩, ⟨#[]⟩, [], ⟨#[]⟩, x, 0⟩) = AK.bare ⟨10, n, o, l, t, 0, y⟩
    unfold AK.bare
    simp
    try ac_rfl
  · show decide ((⟨11, n, o, l, t, x, y⟩ : AK) = ⟨11, ⟨#[]⟩, ⟨#[]⟩, [], ⟨#[]⟩, 0, 0⟩) = AK.bare ⟨11, n, o, l, t, x, y⟩
    unfold AK.bare
    simp
    try ac_rfl
  · show decide ((⟨12, n, o, l, t, x, y⟩ : AK) = ⟨12, ⟨#[]⟩, ⟨#[]⟩, [], t, 0, 0⟩) = AK.bare ⟨12, n, o, l, ⟨#[]⟩, x, y⟩
    unfold AK.bare
    simp
    try ac_rfl
/-- what PrintAct answers -/
def paP (a : AK) : ByteArray × Int :=
  if a.kind < 1 ∨ 12 < a.kind then (⟨#[]⟩, 242)
  else if (restK a).bare = false then (⟨#[]⟩, 245)
  else if isL (stK a).1 (stK a).2 = true then (⟨#[]⟩, 241)
  else (ba (stK a).2, 0)
def rpaP (a : AK) : ByteArray × Int :=
  if a.kind < 1 ∨ 12 < a.kind then (⟨#[]⟩, 242)
  else if decide (a = (lineK a).2) = false then (⟨#[]⟩, 245)
  else if 262144 < (lineK a).1.length then (⟨#[]⟩, 241)
  else (ba (lineK a).1, 0)
theorem pa_eq (a : AK) : rpaP a = paP a := by
  unfold rpaP paP
  by_cases h : a.kind < 1 ∨ 12 < a.kind
  · rw [if_pos h, if_pos h]
  · rw [if_neg h, if_neg h]
    have hk : 1 ≤ a.kind ∧ a.kind ≤ 12 := by omega
    have hr := line_rel a hk
    rw [line_bare a hk, hr.long]
    congr 1
    by_cases hl : 262144 < (lineK a).1.length
    · rw [if_pos hl, if_pos (decide_eq_true hl)]
    · rw [if_neg hl, if_neg (by simpa using hl)]
      rcases hr with ⟨h1, h2⟩ | ⟨h1, h2⟩
      · rw [h2]
      · exact absurd h2 hl
end Go.Proofs.YtheolmnjedbjmaaGreatDoor


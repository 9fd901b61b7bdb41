import Derived.Test.YtblbjgifhgfifaaPNRMk3
namespace Go.Proofs.Ytblbjgifhgfifaa
open Go.RowKit
set_option linter.unusedVariables false
set_option linter.unusedSimpArgs false
/-- how the document's Make is asked: small lists -/
structure Ask (l : List Cl) (own : List ByteArray) : Prop where
  few : l.length ≤ 1048576
  small : Small l
  small2 : ∀ top, Small2 l top own
  len : ∀ k, (clAt l k).own.length ≤ 4194304
/-- the document's Make -/
theorem rMake_ok (l : List Cl) (kernel : Int) (name : ByteArray) (own : List ByteArray) (v ov : Value) (w : World) (h : RdC w v l) (ho : RdS w ov own) (ha : Ask l own) :
    Calls Try.prog 12 #[v, .int .i64 kernel, .string name, ov] w fun e w' => ∃ vr, e = .returned (.tuple #[vr, .int .i64 (makeP l kernel name own).2]) ∧ MkOut w w' vr (makeP l kernel name own).1 := by
  have hcap := ho.cap
  have hs := ha.small
  have hN : l.length ≤ 1099511627776 := by have := ha.few; omega
  cases hm : madeB l with
  | false => exact rMake_bad l kernel name own v ov w h hs hm
  | true =>
    by_cases hk : kernel < 0
    · exact rMake_neg l kernel name own v ov w h hs hm hk
    by_cases hk2 : (l.length : Int) < kernel
    · exact rMake_great l kernel name own v ov w h hs hm hk hk2
    cases hat : atN l l.length name with
    | none => exact rMake_none l kernel name own v ov w h hs hm hk hk2 hat
    | some top =>
      have hs2 := ha.small2 top
      by_cases hk3 : (top : Int) < kernel
      · exact rMake_kern l kernel name own v ov w h hs hm hk hk2 top hat hk3
      by_cases hl : listedZ (inherited l top) [] own = 0
      rotate_left
      · exact rMake_listed l kernel name own v ov w h ho hcap hs top hs2 hN hm hk hk2 hat hk3 hl
      by_cases hb : belowZ l top own = 0
      rotate_left
      · exact rMake_below l kernel name own v ov w h ho hcap hs top hs2 hN hm hk hk2 hat hk3 hl hb
      by_cases hsm : own = (clAt l top).own
      · exact rMake_same l kernel name own v ov w h ho hcap hs top hs2 hN hm hk hk2 hat hk3 hl hb hsm
      · exact rMake_changes l kernel name own v ov w h ho hcap hs top hs2 hN hm hk hk2 hat hk3 hl hb hsm
end Go.Proofs.Ytblbjgifhgfifaa
namespace Go.Proofs.Ytblbjgifhgfifaa
open Go.RowKit
set_option linter.unusedVariables false
set_option linter.unusedSimpArgs false
theorem lNum_ok (n : Int) (w : World) : Calls Try.prog 17 #[.int .i64 n] w fun e w' => e = .returned (.int .i64 n) ∧ w' = w := by
  go_enter Try.func17, Try.ntmps17
  go_wp2
  go_ret
  exact ⟨rfl, rfl⟩
def sumOwn (l : List Cl) : Nat := (l.map (fun c => c.own.length)).sum
theorem sumOwn_take {l : List Cl} {i : Nat} (h : i < l.length) : sumOwn (l.take (i + 1)) = sumOwn (l.take i) + (clAt l i).own.length := by
  unfold sumOwn
  rw [List.take_succ_eq_append_getElem h, List.map_append, List.sum_append]
  unfold clAt
  rw [List.getD_eq_getElem?_getD, List.getElem?_eq_getElem h]
  simp
set_option maxRecDepth 20000 in
set_option maxHeartbeats 1000000 in
/-- more than enough? -/
theorem lBeyond_ok (l : List Cl) (own : List ByteArray) (v ov : Value) (w : World) (h : RdC w v l) (ho : RdS w ov own) :
    Calls Try.prog 11 #[v, ov] w fun e w' => (e = .returned (.bool false) ∧ w' = w ∧ l.length + own.length + sumOwn l ≤ 1048576) ∨ (e = .returned (.bool true) ∧ w' = w) := by
  have HO : Hid (∀ c, c < l.length → ∃ px cx, (clAt l c).v = .slice px (clAt l c).own.length cx ∧ (clAt l c).own.length ≤ 8796093022208) := mkHid (fun c hc => by
    obtain ⟨px, cx, e, _⟩ := (h.own c hc).at_
    exact ⟨px, cx, e, (h.own c hc).short⟩)
  obtain ⟨po, co, rfl, _⟩ := ho.at_
  obtain ⟨p, c0, rfl, h1⟩ := h.at_
  have s1 := h.short
  have s2 := ho.short
  have H1 := mkHid h1
  clear h h1 ho
  go_enter Try.func11, Try.ntmps11
  go_wp2_with fail
  go_loopw [5, 6] (fun u q wr => ∃ (i n : Nat), i ≤ l.length ∧ q = .int .i64 i ∧ u = .int .i64 n ∧ Hid (n = l.length + own.length + sumOwn (l.take i)) ∧ n ≤ 35184372088832 ∧ wr = w) (fun _ q _ => l.length - (intOf q).toNat)
  case atStart => exact ⟨0, l.length + own.length, Nat.zero_le _, rfl, by go_num, mkHid (by simp [sumOwn]), by omega, rfl⟩
  case round =>
    obtain ⟨i, n, hi, rfl, rfl, hn, hb, rfl⟩ := hrel
    have i1 : (0 : Int) ≤ (i : Int) := by omega
    by_cases hlt : i < l.length
    · have i2 : (i : Int) < (l.length : Int) := by omega
      by_cases hm : n ≤ 1048576
      · have hmi : (n : Int) ≤ 1048576 := by omega
        obtain ⟨g, off, rfl, x1, x2⟩ := H1.out (by omega)
        obtain ⟨px, cx, ex, sx⟩ := HO.out i hlt
        have k1 := (x2 i hlt).2.2.1
        rw [ex] at k1
        have HN2 : Hid (n + (clAt l i).own.length = l.length + own.length + sumOwn (l.take (i + 1))) := mkHid (by rw [sumOwn_take hlt, hn.out]; omega)
        clear x1 x2 ex hn
        generalize (clAt l i).own.length = k at *
        go_wp2_with fail
        go_roundw
        case rel => exact ⟨i + 1, n + k, by omega, by go_num, by go_num, HN2, by omega, by simp⟩
        case measure => simp [intOf]; omega
      · have hmi : ¬ (n : Int) ≤ 1048576 := by omega
        have hmi2 : (1048576 : Int) < (n : Int) := by omega
        clear H1 HO
        go_wp2_with fail
        go_ret
        exact .inr ⟨rfl, rfl⟩
    · have hie : i = l.length := by omega
      subst hie
      have hn2 := hn.out
      rw [List.take_length] at hn2
      have HN2 := mkHid hn2
      clear hn2 hn H1 HO
      by_cases hm : n ≤ 1048576
      · have hmi : ¬ (1048576 : Int) < (n : Int) := by omega
        go_wp2_with fail
        go_ret
        exact .inl ⟨rfl, rfl, by have := HN2.out; omega⟩
      · have hmi : (1048576 : Int) < (n : Int) := by omega
        go_wp2_with fail
        go_ret
        exact .inr ⟨rfl, rfl⟩
def sMark : ByteArray := ⟨#[109, 97, 114, 107]⟩
def marks (l : List ByteArray) (n : Nat) : List ByteArray := l ++ List.replicate n sMark
theorem marks_snoc (l : List ByteArray) (n : Nat) : marks l n ++ [sMark] = marks l (n + 1) := by
  unfold marks; rw [List.append_assoc, ← List.replicate_succ']
theorem marks_len (l : List ByteArray) (n : Nat) : (marks l n).length = l.length + n := by simp [marks]
set_option maxRecDepth 20000 in
set_option maxHeartbeats 1000000 in
theorem lMarked_ok (ts : List ByteArray) (v : Value) (w : World) (h : RdS w v ts) (hs : ts.length ≤ 4398046511104) :
    Calls Try.prog 23 #[v] w fun e w' => ∃ p c, e = .returned (.slice p (ts.length + 8) c) ∧ Mine w w' p c (marks ts 8) := by
  obtain ⟨q, d, rfl, h1⟩ := h.at_
  have H1 := mkHid h1
  clear h h1
  go_enter Try.func23, Try.ntmps23
  go_wp2_with fail
  go_loopw [3, 4] (fun u q wr => ∃ (i : Nat) (p' : Option Addr) (c' : Nat), i ≤ ts.length ∧ q = .int .i64 i ∧ u = .slice p' i c' ∧ Hid (Mine w wr p' c' (ts.take i))) (fun _ q _ => ts.length - (intOf q).toNat)
  case atStart => exact ⟨0, none, 0, Nat.zero_le _, rfl, rfl, mine_nil w⟩
  case round =>
    obtain ⟨i, p', c', hi, rfl, rfl, hst⟩ := hrel
    have i1 : (0 : Int) ≤ (i : Int) := by omega
    by_cases hlt : i < ts.length
    · have i2 : (i : Int) < (ts.length : Int) := by omega
      obtain ⟨g, off, rfl, x1, x2⟩ := H1.out (by omega)
      have k1 := (hst.out.fr.cell (p := ⟨g, off + i, none⟩) x1 (by simp)).trans (x2 i hlt)
      have hti : (ts.take i).length = i := by simp; omega
      obtain ⟨p5, c5, w5, r5, h5⟩ := mine_push hst.out (ts.getD i ⟨#[]⟩) (by omega)
      rw [← getD_snoc hlt] at h5
      rw [hti] at r5
      have HR5 := mkHid r5
      have HS5 := mkHid h5
      clear x1 x2 r5 h5 hst H1 hti
      generalize ts.getD i ⟨#[]⟩ = x at *
      go_wp2_with (at_builtin; refine Lib.wpList_append_run _ rfl (.tmp 12) (.tmp 17) 24 24 rfl _ _ rfl rfl _ _ HR5.out ?_)
      go_roundw
      case rel => exact ⟨i + 1, p5, c5, by omega, by go_num, rfl, HS5⟩
      case measure => simp [intOf]; omega
    · have hie : i = ts.length := by omega
      subst hie
      have hr := hst.out
      rw [List.take_length] at hr
      have HR : Hid (Mine w wr p' c' (marks ts 0)) := mkHid (by unfold marks; simpa using hr)
      clear hr H1 hst
      go_wp2_with fail
      go_loopw [3, 5] (fun u q wq => ∃ (i : Nat) (p' : Option Addr) (c' : Nat), i ≤ 8 ∧ q = .int .i64 i ∧ u = .slice p' (ts.length + i) c' ∧ Hid (Mine w wq p' c' (marks ts i))) (fun _ q _ => 8 - (intOf q).toNat)
      case atStart => exact ⟨0, p', c', Nat.zero_le _, rfl, rfl, HR⟩
      case round =>
        obtain ⟨i, p', c', hi, rfl, rfl, hst⟩ := hrel
        have i1 : (0 : Int) ≤ (i : Int) := by omega
        by_cases hlt : i < 8
        · have i2 : (i : Int) < 8 := by omega
          have hml := marks_len ts i
          obtain ⟨p5, c5, w5, r5, h5⟩ := mine_push hst.out sMark (by omega)
          rw [marks_snoc] at h5
          rw [hml] at r5
          have HR5 := mkHid r5
          have HS5 := mkHid h5
          clear r5 h5 hst HR hml
          unfold sMark at HR5
          go_wp2_with (at_builtin; refine Lib.wpList_append_run _ rfl (.tmp 23) (.tmp 24) 24 24 rfl _ _ rfl rfl _ _ HR5.out ?_)
          go_roundw
          case rel => exact ⟨i + 1, p5, c5, by omega, by go_num, rfl, HS5⟩
          case measure => simp [intOf]; omega
        · have hie : i = 8 := by omega
          subst hie
          clear HR
          go_wp2_with fail
          go_ret
          exact ⟨p', c', rfl, hst.out⟩
set_option maxRecDepth 20000 in
set_option maxHeartbeats 1000000 in
/-- is a list with its marks as it was? -/
theorem lLeft_ok (fs ts : List ByteArray) (u v : Value) (w : World) (hu : RdS w u fs) (h : RdS w v ts) (hs : ts.length ≤ 4398046511104) :
    Calls Try.prog 25 #[u, v] w fun e w' => e = .returned (.bool (decide (fs = marks ts 8))) ∧ Fr [] w w' := by
  have HM := mkHid (lMarked_ok ts v w h hs)
  have HS : Hid (∀ W p c, Mine w W p c (marks ts 8) → Calls Try.prog 21 #[u, .slice p (ts.length + 8) c] W fun e w' => e = .returned (.bool (decide (fs = marks ts 8))) ∧ ∃ m, w' = W.drewN m) := mkHid (fun W p c hm => by
    have := mine_rd hm (by rw [marks_len]; omega)
    rw [marks_len] at this
    exact lSame_ok fs (marks ts 8) u _ W (hu.idle hm.fr) this)
  clear hu h
  go_enter Try.func25, Try.ntmps25
  go_wp2_with (first
    | (go_at_call 23; refine HM.out.mono ?_; rintro e w1 ⟨p1, c1, rfl, m1⟩)
    | (go_at_call 21; refine (HS.out _ _ _ m1).mono ?_; rintro e w2 ⟨rfl, n2, rfl⟩))
  go_ret
  exact ⟨rfl, m1.fr.trans (Fr.drewN [] _ _) (by simp)⟩
end Go.Proofs.Ytblbjgifhgfifaa

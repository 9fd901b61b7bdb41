import Derived.Test.YtjeeibokdnepgaaSPair
namespace Go.Proofs.Ytjeeibokdnepgaa
open Go.RowKit Go.Maps Go.WideMaps
set_option linter.unusedVariables false
set_option linter.unusedSimpArgs false
theorem pair_add_x {w0 w : World} {a b : Nat} {us : List ByteArray} (h : Pair w0 w a b [] us) :
    Calls Try.prog 10 #[.pointer (some ⟨a, 0, none⟩), .string ⟨#[120]⟩] w fun e w' => e = .returned (.tuple #[.int .i64 0, .int .i64 0]) ∧ Pair w0 w' a b [⟨#[120]⟩] us := by
  refine (pair_add h ⟨#[120]⟩ (by decide)).mono ?_
  rintro e w' ⟨rfl, r⟩
  exact ⟨rfl, r⟩
theorem rd_one (w : World) (s : ByteArray) : RdS (w.alloc (.cells #[.string s] 9)) (.slice (some ⟨w.heap.size, 0, none⟩) 1 1) [s] := by
  refine ⟨⟨_, _, rfl, fun _ => ⟨w.heap.size, 0, rfl, by simp, fun i hi => ?_⟩⟩, fun c hc => (by injection hc with e; cases e), by simp⟩
  have : i = 0 := by simp at hi; omega
  subst this
  rw [cell_in (heap_alloc_new w _)]
  rfl
set_option maxRecDepth 20000 in
set_option maxHeartbeats 4000000 in
theorem back_any (ls : List ByteArray) (vl : Value) (os : List ByteArray) (vo : Value) (ms : List ByteArray) (vm : Value) (w : World) (hl : ArgS w vl ls) (ho : ArgS w vo os) (hm : ArgS w vm ms) :
    Calls Try.prog 3 #[vl, vo, vm] w fun e w' => e = .returned (.bool true) ∧ Fr [] w w' := by
  have HC1 := mkHid (full_ok ls vl w hl)
  have HC2 : Hid (∀ w1, Fr [] w w1 → _) := mkHid (fun w1 f1 => full_ok ls vl w1 (hl.idle f1))
  obtain ⟨pl, cl, rfl, -⟩ := hl.rd.at_
  obtain ⟨po, co, rfl, ho1⟩ := ho.rd.at_
  obtain ⟨pm, cm, rfl, hm1⟩ := hm.rd.at_
  have HO1 := mkHid ho1
  have HM1 := mkHid hm1
  have HO := mkHid ho
  have HM := mkHid hm
  have s2 := ho.rd.short
  have s3 := hm.rd.short
  clear hl ho hm ho1 hm1
  go_enter Try.func3, Try.ntmps3
  go_wp2_with (first
    | (go_at_call 8; first
      | (refine HC1.out.mono ?_; rintro e w1 ⟨a, l1, rfl, R1, F1, G1⟩; have HR1 := mkHid R1; have HF1 := mkHid F1; have HG1 := mkHid G1; clear R1 F1 G1)
      | (refine (HC2.out w1 HF1.out).mono ?_; rintro e w2 ⟨b, l2, rfl, R2, F2, G2⟩; have HP0 := mkHid (pair_of_full HR1.out HF1.out HG1.out R2 F2 G2); clear R2 F2 G2 HR1 HF1 HG1 HC1 HC2))
    | (go_at_call 9; refine (pair_count HP0.out).mono ?_; rintro e w3 ⟨rfl, rfl⟩))
  have hT0 := HP0.out.len
  generalize adds 4096 [] ls = T0 at *
  go_loopw [10] (fun q wr => ∃ i : Nat, i ≤ os.length ∧ q = .int .i64 i ∧ Hid (Pair w wr a b (adds 4096 T0 (os.take i)) T0)) (fun q _ => os.length - (intOf q).toNat)
  case atStart => exact ⟨0, Nat.zero_le _, rfl, HP0⟩
  case round =>
    obtain ⟨i, hi, rfl, hst⟩ := hrel
    have i1 : (0 : Int) ≤ (i : Int) := by omega
    by_cases hlt : i < os.length
    · have i2 : (i : Int) < (os.length : Int) := by omega
      obtain ⟨g, off, rfl, x1, x2⟩ := HO1.out (by omega)
      have k1 := (hst.out.fr.cell (p := ⟨g, off + i, none⟩) x1 (by simp)).trans (x2 i hlt)
      have HC := mkHid (pair_add hst.out (os.getD i ⟨#[]⟩) (HO.out.get hlt))
      have HE := mkHid (adds_step 4096 T0 os i hlt)
      generalize os.getD i ⟨#[]⟩ = x at *
      clear x1 x2 hst HO HO1 HM HM1 HP0
      go_wp2_with (go_at_call 10; refine HC.out.mono ?_; rintro e w4 ⟨rfl, r3⟩; have HT := mkHid r3; clear r3)
      go_roundw
      case rel => exact ⟨i + 1, by omega, by go_num, mkHid (by rw [HE.out]; exact HT.out)⟩
      case measure => simp [intOf]; omega
    · have hie : i = os.length := by omega
      subst hie
      rw [List.take_length] at hst
      obtain ⟨x, hx⟩ := adds_grows 4096 os T0
      rw [hx] at hst
      have HB := mkHid (pair_back hst.out T0.length (by simp))
      rw [List.take_left' rfl] at HB
      clear hst HP0 hx
      have n1 := neq_self_i (T0.length : Int)
      go_wp2_with (first
        | (go_at_call 11; refine HB.out.mono ?_; rintro e w4 ⟨rfl, r4⟩; have HP4 := mkHid r4; clear r4)
        | (go_at_call 12; refine (num_any _ _ (by omega) (by omega)).mono ?_; rintro e w5 ⟨rfl, rfl⟩)
        | (go_at_call 9; refine (pair_count HP4.out).mono ?_; rintro e w6 ⟨rfl, rfl⟩)
        | (go_at_call 14; first | (refine (pair_all HP7.out.swap).mono ?_; rintro e w8 ⟨p8, c8, rfl, rd8, f8, h8⟩; have HD8 := mkHid rd8; have HP8 := mkHid h8.swap; have HD7' := mkHid (HD7.out.idle f8); clear rd8 f8 h8) | (refine (pair_all HP4.out).mono ?_; rintro e w7 ⟨p7, c7, rfl, rd7, f7, h7⟩; have HD7 := mkHid rd7; have HP7 := mkHid h7; clear rd7 f7 h7))
        | (go_at_call 13; (refine (sameTexts_yes _ _ _ _ HD7'.out HD8.out).mono ?_; rintro e w9 ⟨rfl, f9⟩; have HP9 := mkHid (HP8.out.idle f9); clear f9)))
      clear HP4 HP7 HP8 HD7 HD8 HD7' HB
      go_loopw [12] (fun q wr => ∃ i : Nat, i ≤ os.length ∧ q = .int .i64 i ∧ wr = w9) (fun q _ => os.length - (intOf q).toNat)
      case atStart => exact ⟨0, Nat.zero_le _, rfl, rfl⟩
      case round =>
        obtain ⟨i, hi, rfl, rfl⟩ := hrel
        have i1 : (0 : Int) ≤ (i : Int) := by omega
        by_cases hlt : i < os.length
        · have i2 : (i : Int) < (os.length : Int) := by omega
          obtain ⟨g, off, rfl, x1, x2⟩ := HO1.out (by omega)
          have k1 := (HP9.out.fr.cell (p := ⟨g, off + i, none⟩) x1 (by simp)).trans (x2 i hlt)
          have HCa := mkHid (pair_find HP9.out (os.getD i ⟨#[]⟩) (HO.out.get hlt))
          have HCb := mkHid (pair_find HP9.out.swap (os.getD i ⟨#[]⟩) (HO.out.get hlt))
          generalize os.getD i ⟨#[]⟩ = x at *
          have n2 := neq_self_i (lookN (pos T0 x))
          have n3 := neq_self_b (pos T0 x).isSome
          generalize lookN (pos T0 x) = y at *
          generalize (pos T0 x).isSome = z at *
          clear x1 x2 HO HO1 HM HM1
          go_wp2_with (go_at_call 15; first | (have hh := K15; refine HCb.out.mono ?_; rintro e w11 ⟨rfl, rfl⟩) | (refine HCa.out.mono ?_; rintro e w10 ⟨rfl, rfl⟩; have K15 := trivial))
          go_roundw
          case rel => exact ⟨i + 1, by omega, by go_num, trivial⟩
          case measure => simp [intOf]; omega
        · have hie : i = os.length := by omega
          subst hie
          clear HO HO1
          go_wp2_with fail
          go_loopw [17] (fun q wq => ∃ i : Nat, i ≤ ms.length ∧ q = .int .i64 i ∧ Hid (Pair w wq a b (adds 4096 T0 (ms.take i)) (adds 4096 T0 (ms.take i)))) (fun q _ => ms.length - (intOf q).toNat)
          case atStart => exact ⟨0, Nat.zero_le _, rfl, HP9⟩
          case round =>
            clear HP9
            obtain ⟨i, hi, rfl, hst⟩ := hrel
            have i1 : (0 : Int) ≤ (i : Int) := by omega
            by_cases hlt : i < ms.length
            · have i2 : (i : Int) < (ms.length : Int) := by omega
              obtain ⟨g, off, rfl, x1, x2⟩ := HM1.out (by omega)
              have HK : Hid (∀ W, Pair w W a b (addT 4096 (adds 4096 T0 (ms.take i)) (ms.getD i ⟨#[]⟩)) (adds 4096 T0 (ms.take i)) → W.cell? ⟨g, off + i, none⟩ = some (.string (ms.getD i ⟨#[]⟩))) := fun W hW => (hW.fr.cell (p := ⟨g, off + i, none⟩) x1 (by simp)).trans (x2 i hlt)
              have k1 := (hst.out.fr.cell (p := ⟨g, off + i, none⟩) x1 (by simp)).trans (x2 i hlt)
              have hsz := HM.out.get hlt
              have HE := mkHid (adds_step 4096 T0 ms i hlt)
              generalize ms.getD i ⟨#[]⟩ = x at *
              generalize adds 4096 T0 (ms.take i) = T1 at *
              have HCa := mkHid (pair_add hst.out x hsz)
              have HCb : Hid (∀ W, Pair w W a b (addT 4096 T1 x) T1 → _) := mkHid (fun W hW => pair_addB hW x hsz)
              have n2 := neq_self_i (addN 4096 T1 x)
              have n3 := neq_self_i (addE 4096 T1 x)
              have n4 := neq_self_i ((addT 4096 T1 x).length : Int)
              obtain ⟨r1, r2⟩ := addE_range 4096 T1 x
              generalize addN 4096 T1 x = y at *
              generalize addE 4096 T1 x = z at *
              generalize addT 4096 T1 x = T2 at *
              clear x1 x2 HM HM1 hst
              go_wp2_with (first
                | (go_at_call 10; first | (refine (HCb.out w10 HP10.out).mono ?_; rintro e w11 ⟨rfl, h11⟩; have HP11 := mkHid h11; clear h11) | (refine HCa.out.mono ?_; rintro e w10 ⟨rfl, h10⟩; have HP10 := mkHid h10; have k2 := HK.out w10 h10; clear h10))
                | (go_at_call 12; refine (num_any _ _ (by omega) (by omega)).mono ?_; rintro e w12 ⟨rfl, rfl⟩)
                | (go_at_call 9; first | (have hh := K9; refine (pair_count HP11.out.swap).mono ?_; rintro e w14 ⟨rfl, rfl⟩) | (refine (pair_count HP11.out).mono ?_; rintro e w13 ⟨rfl, rfl⟩; have K9 := trivial)))
              go_roundw
              case rel => exact ⟨i + 1, by omega, by go_num, mkHid (by rw [HE.out]; exact HP11.out)⟩
              case measure => simp [intOf]; omega
            · have hie : i = ms.length := by omega
              subst hie
              rw [List.take_length] at hst
              generalize adds 4096 T0 ms = T1 at *
              clear HM HM1
              have hT1 := hst.out.len
              have HB1 := mkHid (pair_back_no hst.out ((T1.length : Int) + 1) (by omega))
              have HB2 := mkHid (pair_back hst.out 0 (Nat.zero_le _))
              go_wp2_with (first
                | (go_at_call 9; first | (refine (pair_count HP20.out).mono ?_; rintro e w21 ⟨rfl, rfl⟩) | (refine (pair_count hst.out).mono ?_; rintro e w22 ⟨rfl, rfl⟩))
                | (go_at_call 11; first | (have hh := K11; refine HB2.out.mono ?_; rintro e w20 ⟨rfl, h20⟩; have HP20 : Hid (Pair w w20 a b [] T1) := mkHid h20; clear h20) | (refine HB1.out.mono ?_; rintro e w19 ⟨rfl, rfl⟩; have K11 := trivial))
                | (go_at_call 12; refine (num_any _ _ (by omega) (by omega)).mono ?_; rintro e w12 ⟨rfl, rfl⟩)
                | (go_at_call 10; refine (pair_add_x HP20.out).mono ?_; rintro e w23 ⟨rfl, h23⟩; have HP23 := mkHid h23; clear h23)
                | (go_at_call 14; refine (pair_all HP23.out).mono ?_; rintro e w24 ⟨p24, c24, rfl, rd24, f24, h24⟩; have HD24 := mkHid (rd24.idle (Fr.alloc [] w24 (.cells #[.string ⟨#[120]⟩] 9))); have HX := mkHid (rd_one w24 ⟨#[120]⟩); have HF24 := mkHid (h24.fr.trans (Fr.alloc [] w24 (.cells #[.string ⟨#[120]⟩] 9)) (by simp)); clear rd24 f24 h24)
                | (go_at_call 13; refine (sameTexts_yes _ _ _ _ HD24.out HX.out).mono ?_; rintro e w25 ⟨rfl, f25⟩; have HF25 := mkHid (HF24.out.trans f25 (by simp)); clear f25))
              go_ret
              exact ⟨rfl, HF25.out⟩
end Go.Proofs.Ytjeeibokdnepgaa

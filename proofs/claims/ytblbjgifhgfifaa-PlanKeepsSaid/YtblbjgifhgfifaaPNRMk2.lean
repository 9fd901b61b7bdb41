import Derived.Test.YtblbjgifhgfifaaPG03NRMake
namespace Go.Proofs.Ytblbjgifhgfifaa
open Go.RowKit
set_option linter.unusedVariables false
set_option linter.unusedSimpArgs false
theorem makeP_go {l : List Cl} {kernel : Int} {name : ByteArray} {own : List ByteArray} {top : Nat} (hm : madeB l = true) (hk : ¬ kernel < 0) (hk2 : ¬ (l.length : Int) < kernel) (ha : atN l l.length name = some top) (hk3 : ¬ (top : Int) < kernel) :
    makeP l kernel name own = if listedZ (inherited l top) [] own ≠ 0 then ([], listedZ (inherited l top) [] own)
      else if belowZ l top own ≠ 0 then ([], belowZ l top own)
      else if own = (clAt l top).own then ([], 0)
      else if (affected l top l.length).any (full l) then ([], 138)
      else (changes l top own, 0) := by
  unfold makeP
  rw [if_neg (by rw [hm]; simp [hk, hk2]), ha]
  show (if (top : Int) < kernel then _ else _) = _
  rw [if_neg hk3]
theorem affected_mem {l : List Cl} {top c n : Nat} : c ∈ affected l top n ↔ (top ≤ c ∧ c < top + (n - top)) ∧ under l c top = true := by
  unfold affected
  rw [List.mem_filter, List.mem_range'_1]

set_option maxRecDepth 20000 in
set_option maxHeartbeats 4000000 in
theorem rMake_listed (l : List Cl) (kernel : Int) (name : ByteArray) (own : List ByteArray) (v ov : Value) (w : World) (h : RdC w v l) (ho : RdS w ov own) (hcap : ∀ p n c, ov = .slice p n c → n ≤ c ∧ c ≤ 9223372036854775807) (hs : Small l) (top : Nat) (hs2 : Small2 l top own) (hN : l.length ≤ 1099511627776)
    (hm : madeB l = true) (hk : ¬ kernel < 0) (hk2 : ¬ (l.length : Int) < kernel) (ha : atN l l.length name = some top) (hk3 : ¬ (top : Int) < kernel) (hl : listedZ (inherited l top) [] own ≠ 0) :
    Calls Try.prog 12 #[v, .int .i64 kernel, .string name, ov] w fun e w' => ∃ vr, e = .returned (.tuple #[vr, .int .i64 (makeP l kernel name own).2]) ∧ MkOut w w' vr (makeP l kernel name own).1 := by
  have hP := makeP_go (own := own) hm hk hk2 ha hk3
  rw [if_pos hl] at hP
  have HP := mkHid hP
  clear hP
  obtain ⟨_, htl, _⟩ := atN_lt ha
  have HMd := mkHid (rMade_ok l v w h hs)
  rw [hm] at HMd
  have HAt : Hid (∀ (W : World), Fr [] w W → ∀ (n : Nat) (s : ByteArray), n ≤ l.length → Calls Try.prog 30 #[v, .int .i64 n, .string s] W fun e w' => e = .returned (.int .i64 (atZ l n s)) ∧ w' = W) := mkHid (fun W hW n s hn => rAt_ok l n s v W (h.idle hW) hn)
  have HFo : Hid (∀ (W : World), Fr [] w W → ∀ (i : Nat), i < l.length → Calls Try.prog 31 #[v, .int .i64 i, .int .i64 (-1), .slice none 0 0] W fun e w' => ∃ p d, e = .returned (.slice p (fields l none [] i).length d) ∧ Mine W w' p d (fields l none [] i)) := mkHid (fun W hW i hi => rFields_ok l i none [] v _ W (h.idle hW) (rd_nil W) hi (hs i hi))
  have HFn : Hid (∀ (W : World), Fr [] w W → ∀ c, c < l.length → Calls Try.prog 31 #[v, .int .i64 c, .int .i64 top, ov] W fun e w' => ∃ p d, e = .returned (.slice p (fields l (some top) own c).length d) ∧ Mine W w' p d (fields l (some top) own c)) := mkHid (fun W hW c hc => rFields_ok l c (some top) own v ov W (h.idle hW) (ho.idle hW) hc (hs2 c hc))
  have HLi : Hid (∀ (W : World), Fr [] w W → ∀ vi, RdS W vi (inherited l top) → Calls Try.prog 32 #[vi, ov] W fun e w' => e = .returned (.int .i64 (listedZ (inherited l top) [] own)) ∧ Fr [] W w') := mkHid (fun W hW vi hvi => rListed_ok _ own vi ov W hvi (ho.idle hW) hcap)
  have HBe : Hid (∀ (W : World), Fr [] w W → Calls Try.prog 33 #[v, .int .i64 top, ov] W fun e w' => e = .returned (.int .i64 (belowZ l top own)) ∧ Fr [] W w') := mkHid (fun W hW => rBelow_ok l top own v ov W (h.idle hW) (ho.idle hW) htl hs2)
  have HSa : Hid (∀ (W : World), Fr [] w W → Calls Try.prog 34 #[ov, (clAt l top).v] W fun e w' => e = .returned (.bool (decide (own = (clAt l top).own))) ∧ ∃ m, w' = W.drewN m) := mkHid (fun W hW => rSame_ok own (clAt l top).own ov (clAt l top).v W (ho.idle hW) ((h.own top htl).idle hW))
  have HUn : Hid (∀ (W : World), Fr [] w W → ∀ c, c < l.length → Calls Try.prog 35 #[v, .int .i64 c, .int .i64 top] W fun e w' => e = .returned (.bool (under l c top)) ∧ w' = W) := mkHid (fun W hW c hc => rUnder_ok l c top v W (h.idle hW) hc htl)
  obtain ⟨po, no, co, rfl⟩ : ∃ po no co, ov = .slice po no co := by obtain ⟨pv, cv, e, _⟩ := ho.at_; exact ⟨pv, _, cv, e⟩
  obtain ⟨pt, nt, ct, et⟩ : ∃ pt nt ct, (clAt l top).v = .slice pt nt ct := by obtain ⟨pv, cv, e, _⟩ := (h.own top htl).at_; exact ⟨pv, _, cv, e⟩
  obtain ⟨p, c0, rfl, h1⟩ := h.at_
  have s1 := h.short
  obtain ⟨g, off, rfl, x1, x2⟩ := h1 (by omega)
  have HCell : Hid (∀ W, Fr [] w W → ∀ c, c < l.length → W.cell? ⟨g, off + c * 4 + 1, none⟩ = some (.string (clAt l c).sup) ∧ W.cell? ⟨g, off + c * 4 + 2, none⟩ = some (clAt l c).v ∧ W.cell? ⟨g, off + c * 4 + 3, none⟩ = some (.int .i64 (clAt l c).lay)) := mkHid (fun W hW c hc => ⟨(hW.cell (p := ⟨g, off + c * 4 + 1, none⟩) x1 (by simp)).trans (x2 c hc).2.1, (hW.cell (p := ⟨g, off + c * 4 + 2, none⟩) x1 (by simp)).trans (x2 c hc).2.2.1, (hW.cell (p := ⟨g, off + c * 4 + 3, none⟩) x1 (by simp)).trans (x2 c hc).2.2.2⟩)
  have HSm := mkHid hs
  have HSm2 := mkHid hs2
  have hA1 : atZ l l.length name = (top : Int) := by unfold atZ; rw [ha]; rfl
  have hA2 : atZ l top (clAt l top).sup = zO (upN l top) := rfl
  have t0 : ¬ (top : Int) < 0 := by omega
  have t1 : (0 : Int) ≤ (top : Int) := by omega
  have t2 : (top : Int) < (l.length : Int) := by omega
  have hInh : Hid (inherited l top = fieldsO l none [] (upN l top)) := mkHid rfl
  have HUp : Hid (∀ d, upN l top = some d → d < l.length) := mkHid (fun d hd => upN_len hd)
  rw [et] at HSa
  clear h ho hs hs2 h1 x1 x2 hcap hm ha
  clear HFn HBe HSa HUn
  generalize hup : upN l top = u at *
  clear hup
  cases u with
  | none =>
    rw [show zO none = -1 from rfl] at hA2
    rw [show fieldsO l none [] none = [] from rfl] at hInh
    go_enter Try.func12, Try.ntmps12
    go_wp2_with (first | (go_at_call 29; refine HMd.out.mono ?_; rintro e w1 ⟨rfl, f1⟩; obtain ⟨k1, k2, k3⟩ := HCell.out w1 f1 top htl) | (go_at_call 30; refine (HAt.out _ f1 _ _ (by omega)).mono ?_; rintro e wx ⟨rfl, rfl⟩) | (go_at_call 32; refine (HLi.out _ f1 _ (by rw [hInh.out]; exact rd_nil _)).mono ?_; rintro e w3 ⟨rfl, g3⟩; have f3 := Fr.trans f1 g3 (by simp); clear g3))
    refine bodyPost_ret (results_tmp2 rfl _ _ _) rfl ?_
    exact ⟨.slice none 0 0, by rw [HP.out]; rfl, by rw [HP.out]; exact mkOut_nil f3⟩

  | some d =>
    rw [show zO (some d) = (d : Int) from rfl] at hA2
    rw [show fieldsO l none [] (some d) = fields l none [] d from rfl] at hInh
    have hd := HUp.out d rfl
    have d0 : (0 : Int) ≤ (d : Int) := by omega
    have hdz := HSm.out d hd
    go_enter Try.func12, Try.ntmps12
    go_wp2_with (first | (go_at_call 29; refine HMd.out.mono ?_; rintro e w1 ⟨rfl, f1⟩; obtain ⟨k1, k2, k3⟩ := HCell.out w1 f1 top htl) | (go_at_call 30; refine (HAt.out _ f1 _ _ (by omega)).mono ?_; rintro e wx ⟨rfl, rfl⟩) | (go_at_call 31; refine (HFo.out _ f1 d hd).mono ?_; rintro e w2 ⟨p2, c2, rfl, m2⟩; have f2 := Fr.trans f1 m2.fr (by simp); have r2 := mine_rd m2 hdz; rw [← hInh.out] at r2; rw [← hInh.out]; clear m2) | (go_at_call 32; refine (HLi.out _ f2 _ r2).mono ?_; rintro e w3 ⟨rfl, g3⟩; have f3 := Fr.trans f2 g3 (by simp); clear g3))
    refine bodyPost_ret (results_tmp2 rfl _ _ _) rfl ?_
    exact ⟨.slice none 0 0, by rw [HP.out]; rfl, by rw [HP.out]; exact mkOut_nil f3⟩


set_option maxRecDepth 20000 in
set_option maxHeartbeats 4000000 in
theorem rMake_below (l : List Cl) (kernel : Int) (name : ByteArray) (own : List ByteArray) (v ov : Value) (w : World) (h : RdC w v l) (ho : RdS w ov own) (hcap : ∀ p n c, ov = .slice p n c → n ≤ c ∧ c ≤ 9223372036854775807) (hs : Small l) (top : Nat) (hs2 : Small2 l top own) (hN : l.length ≤ 1099511627776)
    (hm : madeB l = true) (hk : ¬ kernel < 0) (hk2 : ¬ (l.length : Int) < kernel) (ha : atN l l.length name = some top) (hk3 : ¬ (top : Int) < kernel) (hl : listedZ (inherited l top) [] own = 0) (hb : belowZ l top own ≠ 0) :
    Calls Try.prog 12 #[v, .int .i64 kernel, .string name, ov] w fun e w' => ∃ vr, e = .returned (.tuple #[vr, .int .i64 (makeP l kernel name own).2]) ∧ MkOut w w' vr (makeP l kernel name own).1 := by
  have hP := makeP_go (own := own) hm hk hk2 ha hk3
  rw [if_neg (by rw [hl]; simp), if_pos hb] at hP
  have HP := mkHid hP
  clear hP
  obtain ⟨_, htl, _⟩ := atN_lt ha
  have HMd := mkHid (rMade_ok l v w h hs)
  rw [hm] at HMd
  have HAt : Hid (∀ (W : World), Fr [] w W → ∀ (n : Nat) (s : ByteArray), n ≤ l.length → Calls Try.prog 30 #[v, .int .i64 n, .string s] W fun e w' => e = .returned (.int .i64 (atZ l n s)) ∧ w' = W) := mkHid (fun W hW n s hn => rAt_ok l n s v W (h.idle hW) hn)
  have HFo : Hid (∀ (W : World), Fr [] w W → ∀ (i : Nat), i < l.length → Calls Try.prog 31 #[v, .int .i64 i, .int .i64 (-1), .slice none 0 0] W fun e w' => ∃ p d, e = .returned (.slice p (fields l none [] i).length d) ∧ Mine W w' p d (fields l none [] i)) := mkHid (fun W hW i hi => rFields_ok l i none [] v _ W (h.idle hW) (rd_nil W) hi (hs i hi))
  have HFn : Hid (∀ (W : World), Fr [] w W → ∀ c, c < l.length → Calls Try.prog 31 #[v, .int .i64 c, .int .i64 top, ov] W fun e w' => ∃ p d, e = .returned (.slice p (fields l (some top) own c).length d) ∧ Mine W w' p d (fields l (some top) own c)) := mkHid (fun W hW c hc => rFields_ok l c (some top) own v ov W (h.idle hW) (ho.idle hW) hc (hs2 c hc))
  have HLi : Hid (∀ (W : World), Fr [] w W → ∀ vi, RdS W vi (inherited l top) → Calls Try.prog 32 #[vi, ov] W fun e w' => e = .returned (.int .i64 (listedZ (inherited l top) [] own)) ∧ Fr [] W w') := mkHid (fun W hW vi hvi => rListed_ok _ own vi ov W hvi (ho.idle hW) hcap)
  have HBe : Hid (∀ (W : World), Fr [] w W → Calls Try.prog 33 #[v, .int .i64 top, ov] W fun e w' => e = .returned (.int .i64 (belowZ l top own)) ∧ Fr [] W w') := mkHid (fun W hW => rBelow_ok l top own v ov W (h.idle hW) (ho.idle hW) htl hs2)
  have HSa : Hid (∀ (W : World), Fr [] w W → Calls Try.prog 34 #[ov, (clAt l top).v] W fun e w' => e = .returned (.bool (decide (own = (clAt l top).own))) ∧ ∃ m, w' = W.drewN m) := mkHid (fun W hW => rSame_ok own (clAt l top).own ov (clAt l top).v W (ho.idle hW) ((h.own top htl).idle hW))
  have HUn : Hid (∀ (W : World), Fr [] w W → ∀ c, c < l.length → Calls Try.prog 35 #[v, .int .i64 c, .int .i64 top] W fun e w' => e = .returned (.bool (under l c top)) ∧ w' = W) := mkHid (fun W hW c hc => rUnder_ok l c top v W (h.idle hW) hc htl)
  obtain ⟨po, no, co, rfl⟩ : ∃ po no co, ov = .slice po no co := by obtain ⟨pv, cv, e, _⟩ := ho.at_; exact ⟨pv, _, cv, e⟩
  obtain ⟨pt, nt, ct, et⟩ : ∃ pt nt ct, (clAt l top).v = .slice pt nt ct := by obtain ⟨pv, cv, e, _⟩ := (h.own top htl).at_; exact ⟨pv, _, cv, e⟩
  obtain ⟨p, c0, rfl, h1⟩ := h.at_
  have s1 := h.short
  obtain ⟨g, off, rfl, x1, x2⟩ := h1 (by omega)
  have HCell : Hid (∀ W, Fr [] w W → ∀ c, c < l.length → W.cell? ⟨g, off + c * 4 + 1, none⟩ = some (.string (clAt l c).sup) ∧ W.cell? ⟨g, off + c * 4 + 2, none⟩ = some (clAt l c).v ∧ W.cell? ⟨g, off + c * 4 + 3, none⟩ = some (.int .i64 (clAt l c).lay)) := mkHid (fun W hW c hc => ⟨(hW.cell (p := ⟨g, off + c * 4 + 1, none⟩) x1 (by simp)).trans (x2 c hc).2.1, (hW.cell (p := ⟨g, off + c * 4 + 2, none⟩) x1 (by simp)).trans (x2 c hc).2.2.1, (hW.cell (p := ⟨g, off + c * 4 + 3, none⟩) x1 (by simp)).trans (x2 c hc).2.2.2⟩)
  have HSm := mkHid hs
  have HSm2 := mkHid hs2
  have hA1 : atZ l l.length name = (top : Int) := by unfold atZ; rw [ha]; rfl
  have hA2 : atZ l top (clAt l top).sup = zO (upN l top) := rfl
  have t0 : ¬ (top : Int) < 0 := by omega
  have t1 : (0 : Int) ≤ (top : Int) := by omega
  have t2 : (top : Int) < (l.length : Int) := by omega
  have hInh : Hid (inherited l top = fieldsO l none [] (upN l top)) := mkHid rfl
  have HUp : Hid (∀ d, upN l top = some d → d < l.length) := mkHid (fun d hd => upN_len hd)
  rw [et] at HSa
  clear h ho hs hs2 h1 x1 x2 hcap hm ha
  clear HFn HSa HUn
  generalize hup : upN l top = u at *
  clear hup
  cases u with
  | none =>
    rw [show zO none = -1 from rfl] at hA2
    rw [show fieldsO l none [] none = [] from rfl] at hInh
    go_enter Try.func12, Try.ntmps12
    go_wp2_with (first | (go_at_call 29; refine HMd.out.mono ?_; rintro e w1 ⟨rfl, f1⟩; obtain ⟨k1, k2, k3⟩ := HCell.out w1 f1 top htl) | (go_at_call 30; refine (HAt.out _ f1 _ _ (by omega)).mono ?_; rintro e wx ⟨rfl, rfl⟩) | (go_at_call 32; refine (HLi.out _ f1 _ (by rw [hInh.out]; exact rd_nil _)).mono ?_; rintro e w3 ⟨rfl, g3⟩; have f3 := Fr.trans f1 g3 (by simp); clear g3) | (go_at_call 33; refine (HBe.out _ f3).mono ?_; rintro e w4 ⟨rfl, g4⟩; have f4 := Fr.trans f3 g4 (by simp); clear g4; obtain ⟨j1, j2, j3⟩ := HCell.out w4 f4 top htl; rw [et] at j2))
    refine bodyPost_ret (results_tmp2 rfl _ _ _) rfl ?_
    exact ⟨.slice none 0 0, by rw [HP.out]; rfl, by rw [HP.out]; exact mkOut_nil f4⟩

  | some d =>
    rw [show zO (some d) = (d : Int) from rfl] at hA2
    rw [show fieldsO l none [] (some d) = fields l none [] d from rfl] at hInh
    have hd := HUp.out d rfl
    have d0 : (0 : Int) ≤ (d : Int) := by omega
    have hdz := HSm.out d hd
    go_enter Try.func12, Try.ntmps12
    go_wp2_with (first | (go_at_call 29; refine HMd.out.mono ?_; rintro e w1 ⟨rfl, f1⟩; obtain ⟨k1, k2, k3⟩ := HCell.out w1 f1 top htl) | (go_at_call 30; refine (HAt.out _ f1 _ _ (by omega)).mono ?_; rintro e wx ⟨rfl, rfl⟩) | (go_at_call 31; refine (HFo.out _ f1 d hd).mono ?_; rintro e w2 ⟨p2, c2, rfl, m2⟩; have f2 := Fr.trans f1 m2.fr (by simp); have r2 := mine_rd m2 hdz; rw [← hInh.out] at r2; rw [← hInh.out]; clear m2) | (go_at_call 32; refine (HLi.out _ f2 _ r2).mono ?_; rintro e w3 ⟨rfl, g3⟩; have f3 := Fr.trans f2 g3 (by simp); clear g3) | (go_at_call 33; refine (HBe.out _ f3).mono ?_; rintro e w4 ⟨rfl, g4⟩; have f4 := Fr.trans f3 g4 (by simp); clear g4; obtain ⟨j1, j2, j3⟩ := HCell.out w4 f4 top htl; rw [et] at j2))
    refine bodyPost_ret (results_tmp2 rfl _ _ _) rfl ?_
    exact ⟨.slice none 0 0, by rw [HP.out]; rfl, by rw [HP.out]; exact mkOut_nil f4⟩


set_option maxRecDepth 20000 in
set_option maxHeartbeats 4000000 in
theorem rMake_same (l : List Cl) (kernel : Int) (name : ByteArray) (own : List ByteArray) (v ov : Value) (w : World) (h : RdC w v l) (ho : RdS w ov own) (hcap : ∀ p n c, ov = .slice p n c → n ≤ c ∧ c ≤ 9223372036854775807) (hs : Small l) (top : Nat) (hs2 : Small2 l top own) (hN : l.length ≤ 1099511627776)
    (hm : madeB l = true) (hk : ¬ kernel < 0) (hk2 : ¬ (l.length : Int) < kernel) (ha : atN l l.length name = some top) (hk3 : ¬ (top : Int) < kernel) (hl : listedZ (inherited l top) [] own = 0) (hb : belowZ l top own = 0) (hsm : own = (clAt l top).own) :
    Calls Try.prog 12 #[v, .int .i64 kernel, .string name, ov] w fun e w' => ∃ vr, e = .returned (.tuple #[vr, .int .i64 (makeP l kernel name own).2]) ∧ MkOut w w' vr (makeP l kernel name own).1 := by
  have hP := makeP_go (own := own) hm hk hk2 ha hk3
  rw [if_neg (by rw [hl]; simp), if_neg (by rw [hb]; simp), if_pos hsm] at hP
  have HP := mkHid hP
  clear hP
  obtain ⟨_, htl, _⟩ := atN_lt ha
  have HMd := mkHid (rMade_ok l v w h hs)
  rw [hm] at HMd
  have HAt : Hid (∀ (W : World), Fr [] w W → ∀ (n : Nat) (s : ByteArray), n ≤ l.length → Calls Try.prog 30 #[v, .int .i64 n, .string s] W fun e w' => e = .returned (.int .i64 (atZ l n s)) ∧ w' = W) := mkHid (fun W hW n s hn => rAt_ok l n s v W (h.idle hW) hn)
  have HFo : Hid (∀ (W : World), Fr [] w W → ∀ (i : Nat), i < l.length → Calls Try.prog 31 #[v, .int .i64 i, .int .i64 (-1), .slice none 0 0] W fun e w' => ∃ p d, e = .returned (.slice p (fields l none [] i).length d) ∧ Mine W w' p d (fields l none [] i)) := mkHid (fun W hW i hi => rFields_ok l i none [] v _ W (h.idle hW) (rd_nil W) hi (hs i hi))
  have HFn : Hid (∀ (W : World), Fr [] w W → ∀ c, c < l.length → Calls Try.prog 31 #[v, .int .i64 c, .int .i64 top, ov] W fun e w' => ∃ p d, e = .returned (.slice p (fields l (some top) own c).length d) ∧ Mine W w' p d (fields l (some top) own c)) := mkHid (fun W hW c hc => rFields_ok l c (some top) own v ov W (h.idle hW) (ho.idle hW) hc (hs2 c hc))
  have HLi : Hid (∀ (W : World), Fr [] w W → ∀ vi, RdS W vi (inherited l top) → Calls Try.prog 32 #[vi, ov] W fun e w' => e = .returned (.int .i64 (listedZ (inherited l top) [] own)) ∧ Fr [] W w') := mkHid (fun W hW vi hvi => rListed_ok _ own vi ov W hvi (ho.idle hW) hcap)
  have HBe : Hid (∀ (W : World), Fr [] w W → Calls Try.prog 33 #[v, .int .i64 top, ov] W fun e w' => e = .returned (.int .i64 (belowZ l top own)) ∧ Fr [] W w') := mkHid (fun W hW => rBelow_ok l top own v ov W (h.idle hW) (ho.idle hW) htl hs2)
  have HSa : Hid (∀ (W : World), Fr [] w W → Calls Try.prog 34 #[ov, (clAt l top).v] W fun e w' => e = .returned (.bool (decide (own = (clAt l top).own))) ∧ ∃ m, w' = W.drewN m) := mkHid (fun W hW => rSame_ok own (clAt l top).own ov (clAt l top).v W (ho.idle hW) ((h.own top htl).idle hW))
  have HUn : Hid (∀ (W : World), Fr [] w W → ∀ c, c < l.length → Calls Try.prog 35 #[v, .int .i64 c, .int .i64 top] W fun e w' => e = .returned (.bool (under l c top)) ∧ w' = W) := mkHid (fun W hW c hc => rUnder_ok l c top v W (h.idle hW) hc htl)
  obtain ⟨po, no, co, rfl⟩ : ∃ po no co, ov = .slice po no co := by obtain ⟨pv, cv, e, _⟩ := ho.at_; exact ⟨pv, _, cv, e⟩
  obtain ⟨pt, nt, ct, et⟩ : ∃ pt nt ct, (clAt l top).v = .slice pt nt ct := by obtain ⟨pv, cv, e, _⟩ := (h.own top htl).at_; exact ⟨pv, _, cv, e⟩
  obtain ⟨p, c0, rfl, h1⟩ := h.at_
  have s1 := h.short
  obtain ⟨g, off, rfl, x1, x2⟩ := h1 (by omega)
  have HCell : Hid (∀ W, Fr [] w W → ∀ c, c < l.length → W.cell? ⟨g, off + c * 4 + 1, none⟩ = some (.string (clAt l c).sup) ∧ W.cell? ⟨g, off + c * 4 + 2, none⟩ = some (clAt l c).v ∧ W.cell? ⟨g, off + c * 4 + 3, none⟩ = some (.int .i64 (clAt l c).lay)) := mkHid (fun W hW c hc => ⟨(hW.cell (p := ⟨g, off + c * 4 + 1, none⟩) x1 (by simp)).trans (x2 c hc).2.1, (hW.cell (p := ⟨g, off + c * 4 + 2, none⟩) x1 (by simp)).trans (x2 c hc).2.2.1, (hW.cell (p := ⟨g, off + c * 4 + 3, none⟩) x1 (by simp)).trans (x2 c hc).2.2.2⟩)
  have HSm := mkHid hs
  have HSm2 := mkHid hs2
  have hA1 : atZ l l.length name = (top : Int) := by unfold atZ; rw [ha]; rfl
  have hA2 : atZ l top (clAt l top).sup = zO (upN l top) := rfl
  have t0 : ¬ (top : Int) < 0 := by omega
  have t1 : (0 : Int) ≤ (top : Int) := by omega
  have t2 : (top : Int) < (l.length : Int) := by omega
  have hInh : Hid (inherited l top = fieldsO l none [] (upN l top)) := mkHid rfl
  have HUp : Hid (∀ d, upN l top = some d → d < l.length) := mkHid (fun d hd => upN_len hd)
  rw [et] at HSa
  clear h ho hs hs2 h1 x1 x2 hcap hm ha
  rw [decide_eq_true hsm] at HSa
  clear HFn HUn hsm
  generalize hup : upN l top = u at *
  clear hup
  cases u with
  | none =>
    rw [show zO none = -1 from rfl] at hA2
    rw [show fieldsO l none [] none = [] from rfl] at hInh
    go_enter Try.func12, Try.ntmps12
    go_wp2_with (first | (go_at_call 29; refine HMd.out.mono ?_; rintro e w1 ⟨rfl, f1⟩; obtain ⟨k1, k2, k3⟩ := HCell.out w1 f1 top htl) | (go_at_call 30; refine (HAt.out _ f1 _ _ (by omega)).mono ?_; rintro e wx ⟨rfl, rfl⟩) | (go_at_call 32; refine (HLi.out _ f1 _ (by rw [hInh.out]; exact rd_nil _)).mono ?_; rintro e w3 ⟨rfl, g3⟩; have f3 := Fr.trans f1 g3 (by simp); clear g3) | (go_at_call 33; refine (HBe.out _ f3).mono ?_; rintro e w4 ⟨rfl, g4⟩; have f4 := Fr.trans f3 g4 (by simp); clear g4; obtain ⟨j1, j2, j3⟩ := HCell.out w4 f4 top htl; rw [et] at j2) | (go_at_call 34; refine (HSa.out _ f4).mono ?_; rintro e w5 ⟨rfl, n5, rfl⟩))
    refine bodyPost_ret (results_tmp2 rfl _ _ _) rfl ?_
    exact ⟨.slice none 0 0, by rw [HP.out]; rfl, by rw [HP.out]; exact mkOut_nil (Fr.trans f4 (Fr.drewN [] _ _) (by simp))⟩

  | some d =>
    rw [show zO (some d) = (d : Int) from rfl] at hA2
    rw [show fieldsO l none [] (some d) = fields l none [] d from rfl] at hInh
    have hd := HUp.out d rfl
    have d0 : (0 : Int) ≤ (d : Int) := by omega
    have hdz := HSm.out d hd
    go_enter Try.func12, Try.ntmps12
    go_wp2_with (first | (go_at_call 29; refine HMd.out.mono ?_; rintro e w1 ⟨rfl, f1⟩; obtain ⟨k1, k2, k3⟩ := HCell.out w1 f1 top htl) | (go_at_call 30; refine (HAt.out _ f1 _ _ (by omega)).mono ?_; rintro e wx ⟨rfl, rfl⟩) | (go_at_call 31; refine (HFo.out _ f1 d hd).mono ?_; rintro e w2 ⟨p2, c2, rfl, m2⟩; have f2 := Fr.trans f1 m2.fr (by simp); have r2 := mine_rd m2 hdz; rw [← hInh.out] at r2; rw [← hInh.out]; clear m2) | (go_at_call 32; refine (HLi.out _ f2 _ r2).mono ?_; rintro e w3 ⟨rfl, g3⟩; have f3 := Fr.trans f2 g3 (by simp); clear g3) | (go_at_call 33; refine (HBe.out _ f3).mono ?_; rintro e w4 ⟨rfl, g4⟩; have f4 := Fr.trans f3 g4 (by simp); clear g4; obtain ⟨j1, j2, j3⟩ := HCell.out w4 f4 top htl; rw [et] at j2) | (go_at_call 34; refine (HSa.out _ f4).mono ?_; rintro e w5 ⟨rfl, n5, rfl⟩))
    refine bodyPost_ret (results_tmp2 rfl _ _ _) rfl ?_
    exact ⟨.slice none 0 0, by rw [HP.out]; rfl, by rw [HP.out]; exact mkOut_nil (Fr.trans f4 (Fr.drewN [] _ _) (by simp))⟩


end Go.Proofs.Ytblbjgifhgfifaa

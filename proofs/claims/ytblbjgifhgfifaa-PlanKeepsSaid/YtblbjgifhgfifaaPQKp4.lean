import Derived.Test.YtblbjgifhgfifaaPQKp5
namespace Go.Proofs.Ytblbjgifhgfifaa
open Go.RowKit Go.Maps Go.WideMaps
set_option linter.unusedVariables false
set_option linter.unusedSimpArgs false
theorem hi_keep {w3 wr wr' : World} {S : List Nat} {e : TypeId} {v : Value} {n : Nat} {ys : List Value} (h : wr.ownsRow w3.heap.size e 1 v n ys) (hf : Fr S wr wr') (hS : ∀ g ∈ S, g < w3.heap.size ∨ wr.heap.size ≤ g) : wr'.ownsRow w3.heap.size e 1 v n ys :=
  own_congr h (fun g hg => hf.block g (own_lt h g hg).2 (fun hm => by
    have := own_lt h g hg
    rcases hS g hm with h1 | h1 <;> omega))
theorem u8w (z : Int) : IntKind.u8.wrap z = z % 256 := by simp [IntKind.wrap, IntKind.signed, IntKind.bits]
theorem conv_mk2 {V : World} {g : Nat} {c : Int} {k : Nat} (h : V.heap[g]? = some (.cells #[.int .u8 c, .int .u8 ((k : Int) / 256 % 256), .int .u8 ((k : Int) % 256)] 5 (0, 0))) : (convert 38 9 (.slice (some ⟨g, 0, none⟩) 3 3)).run Try.prog V = .ok (.string (mkS c k)) V := conv_mk (by rw [u8w, u8w]; exact h)
theorem tv_even (xs : List Cg) (i : Nat) : tv xs (2 * i) = (cgAt xs i).vo := by
  unfold tv; rw [if_pos (by omega), show 2 * i / 2 = i by omega]
theorem tv_odd (xs : List Cg) (i : Nat) : tv xs (2 * i + 1) = (cgAt xs i).vn := by
  unfold tv; rw [if_neg (by omega), show (2 * i + 1) / 2 = i by omega]
def tvs (xs : List Cg) (m : Nat) : List Value := (List.range m).map (tv xs)
theorem tvs_len (xs : List Cg) (m : Nat) : (tvs xs m).length = m := by simp [tvs]
theorem tvs_succ (xs : List Cg) (m : Nat) : tvs xs m ++ [tv xs m] = tvs xs (m + 1) := by
  unfold tvs; rw [List.range_succ, List.map_append]; rfl
/-- numbers, the first so many lists written full -/
def cIf (xs : List Cg) (i : Nat) (k : Nat) : List Value := if k < i then List.replicate (fln xs k) (.int .i64 (1000 + (k : Int))) else ints (cgAt xs k).c.frm
def cIj (xs : List Cg) (i j : Nat) (k : Nat) : List Value := if k = i then List.replicate j (.int .i64 (1000 + (i : Int))) ++ (ints (cgAt xs i).c.frm).drop j else cIf xs i k
theorem cIj_zero (xs : List Cg) (i k : Nat) : cIf xs i k = cIj xs i 0 k := by
  unfold cIj
  by_cases e : k = i
  · subst e; rw [if_pos rfl]; unfold cIf; rw [if_neg (Nat.lt_irrefl _)]; simp
  · rw [if_neg e]
theorem cIj_end (xs : List Cg) (i k : Nat) : cIj xs i (fln xs i) k = cIf xs (i + 1) k := by
  unfold cIj
  by_cases e : k = i
  · subst e
    rw [if_pos rfl]; unfold cIf; rw [if_pos (Nat.lt_succ_self _), List.drop_eq_nil_of_le (by rw [ints_len]; exact Nat.le_refl _), List.append_nil]
  · rw [if_neg e]; unfold cIf
    by_cases h : k < i
    · rw [if_pos h, if_pos (by omega)]
    · rw [if_neg h, if_neg (by omega)]
theorem cIj_step (xs : List Cg) (i j : Nat) (hj : j < fln xs i) : ∀ k, (if k = i then (cIj xs i j i).set j (.int .i64 (1000 + (i : Int))) else cIj xs i j k) = cIj xs i (j + 1) k := fun k => by
  unfold cIj
  by_cases e : k = i
  · rw [if_pos e, if_pos rfl, if_pos e, fill_set (by rw [ints_len]; exact hj)]
  · rw [if_neg e, if_neg e, if_neg e]
/-- texts likewise -/
def cTf (xs : List Cg) (i : Nat) (k : Nat) : List Value := if k < i then List.replicate (tln xs k) (.string (mkS 97 k)) else (tt xs k).map Value.string
def cTj (xs : List Cg) (i j : Nat) (k : Nat) : List Value := if k = i then List.replicate j (.string (mkS 97 i)) ++ ((tt xs i).map Value.string).drop j else cTf xs i k
theorem cTj_zero (xs : List Cg) (i k : Nat) : cTf xs i k = cTj xs i 0 k := by
  unfold cTj
  by_cases e : k = i
  · subst e; rw [if_pos rfl]; unfold cTf; rw [if_neg (Nat.lt_irrefl _)]; simp
  · rw [if_neg e]
theorem cTj_end (xs : List Cg) (i k : Nat) : cTj xs i (tln xs i) k = cTf xs (i + 1) k := by
  unfold cTj
  by_cases e : k = i
  · subst e
    rw [if_pos rfl]; unfold cTf; rw [if_pos (Nat.lt_succ_self _), List.drop_eq_nil_of_le (by rw [List.length_map]; exact Nat.le_refl _), List.append_nil]
  · rw [if_neg e]; unfold cTf
    by_cases h : k < i
    · rw [if_pos h, if_pos (by omega)]
    · rw [if_neg h, if_neg (by omega)]
theorem cTj_step (xs : List Cg) (i j : Nat) (hj : j < tln xs i) : ∀ k, (if k = i then (cTj xs i j i).set j (.string (mkS 97 i)) else cTj xs i j k) = cTj xs i (j + 1) k := fun k => by
  unfold cTj
  by_cases e : k = i
  · rw [if_pos e, if_pos rfl, if_pos e, fill_set (by rw [List.length_map]; exact hj)]
  · rw [if_neg e, if_neg e, if_neg e]
/-- one more list behind the lists -/
theorem push_hi {w1 w3 wr : World} {xs : List Cg} {vc : Value} {CT CI : Nat → List Value} (h : Kp w1 w3 wr xs vc CT CI) (hv3 : ∀ g, vc.ownBlock = some g → g < w3.heap.size) {p : Option Addr} {c m : Nat} {ys : List Value} {x : Value} (hr : wr.ownsRow w3.heap.size 24 1 (.slice p m c) m ys) (hx : x.oneCell' = true) (hm : m + 1 ≤ 8796093022208) :
    ∃ p' c' w', (Builtin.append_ #[33, 33] 33 #[.slice p m c, .slice (some ⟨wr.heap.size, 0, none⟩) 1 1]).run Try.prog (wr.alloc (.cells #[x] 24)) = .ok (.slice p' (m + 1) c') w' ∧ w'.ownsRow w3.heap.size 24 1 (.slice p' (m + 1) c') (m + 1) (ys ++ [x]) ∧ Kp w1 w3 w' xs vc CT CI ∧ Fr (blk p) wr w' := by
  have hl : ys.length = m := by have := hr.1; rw [Nat.mul_one] at this; exact this
  obtain ⟨p', c', w', r1, r2, r3⟩ := push_list wr w3.heap.size p c ys x (by rw [hl]; exact hr) hx (by omega) h.fr.size
  rw [hl] at r1
  rw [List.length_append, hl] at r2
  have f : Fr (blk p) wr w' := by
    rcases r3 with ⟨_, _, f⟩ | ⟨f, _⟩
    · exact f
    · exact f.mono (by simp)
  refine ⟨p', c', w', r1, r2, h.new f (fun g hg => ?_), f⟩
  have h1 := own_lt hr g ((blk_own _ _ _ _).2 hg)
  exact ⟨h1.1, fun e => by have := hv3 g e; omega⟩
theorem rep_at {v u : Value} {n m j : Nat} (h : j < n + m) : (List.replicate n v ++ List.replicate m u)[j]? = some (if j < n then v else u) := by
  by_cases e : j < n
  · rw [List.getElem?_append_left (by simpa using e), List.getElem?_replicate, if_pos e, if_pos e]
  · rw [List.getElem?_append_right (by simp; omega), List.length_replicate, List.getElem?_replicate, if_pos (by omega), if_neg e]
theorem getD_at {ms : List Value} {j : Nat} (h : j < ms.length) : ms[j]? = some (ms.getD j undef) := by
  rw [List.getD_eq_getElem?_getD, List.getElem?_eq_getElem h]; rfl
theorem wr_all {w1 w3 wr : World} {xs : List Cg} {p : Option Addr} {d i a : Nat} {pt : Option Addr} {ct wL : Nat} {pm : Option Addr} {cm : Nat} {pi : Option Addr} {ci : Nat} {ms is : List Value} (hk : Kp w1 w3 wr xs (.slice p i d) (cTf xs a) (cIf xs i)) (hx : xs.length = i) (hm : a = 2 * i) (htr : wr.ownsRow w3.heap.size 24 1 (.slice pt a ct) a (tvs xs a)) (hmr : wr.ownsRow wL 24 1 (.slice pm a cm) a ms) (hmo : Mor w1 w3 wr xs (cTf xs a) (fun a => .string (mkS 98 a)) ms)
    (hir : wr.ownsRow w3.heap.size 34 1 (.slice pi i ci) i is) (hio : Moi w1 w3 wr xs (cIf xs i) (fun a => .int .i64 (5000 + (a : Int))) is) (hml : ms.length = a) (hil : is.length = i) (hl1 : ∀ k, k < 2 * i → tln xs k ≤ 8796093022208) (hl2 : ∀ k, k < i → fln xs k ≤ 8796093022208) (hn : i ≤ 1048576) :
    WrS wr i (.slice p i d) (.slice pt a ct) (.slice pm a cm) (.slice pi i ci) (tln xs) (fln xs) (tv xs) (fun k => ms.getD k undef) (fv xs) (fun k => is.getD k undef) := by
  refine ⟨⟨p, d, rfl, fun hp => ?_⟩, ?_, ?_, own_rdF hir (fun j hj => getD_at (by omega)), fun k hk2 => ?_, fun k hk2 => ?_, fun k hk2 => ?_, fun k hk2 => ?_, hl1, hl2, hn⟩
  · obtain ⟨g, e, _, _, _, hgl⟩ := hk.cells (i := 0) (by omega)
    refine ⟨g, 0, e, hgl, fun j hj => ?_⟩
    obtain ⟨g', e', _, _, h3, _⟩ := hk.cells (i := j) (by omega)
    rw [e] at e'
    injection e' with e'
    injection e' with e'
    subst e'
    rw [Nat.zero_add]
    exact h3
  · rw [← hm]
    exact own_rdF htr (fun j hj => by unfold tvs; rw [List.getElem?_map, List.getElem?_range hj]; rfl)
  · rw [← hm]
    exact own_rdF hmr (fun j hj => getD_at (by omega))
  · have := hk.txt.row k (by omega)
    refine own_rdF this (fun j hj => ?_)
    unfold cTf
    rw [if_pos (by omega), List.getElem?_replicate, if_pos hj]
  · obtain ⟨_, h2⟩ := hmo.row k _ (getD_at (by omega))
    refine own_rdF h2 (fun j hj => ?_)
    unfold cTf
    rw [if_pos (by omega), rep_at hj]
    split <;> rfl
  · have := hk.int.row k (by omega)
    refine own_rdF this (fun j hj => ?_)
    unfold cIf
    rw [if_pos hk2, List.getElem?_replicate, if_pos hj]
  · obtain ⟨_, h2⟩ := hio.row k _ (getD_at (by omega))
    refine own_rdF h2 (fun j hj => ?_)
    unfold cIf
    rw [if_pos hk2, rep_at hj]
    split <;> rfl
set_option maxRecDepth 20000 in
set_option maxHeartbeats 8000000 in
theorem keeps_any (l : List Cl) (kernel : Int) (name : ByteArray) (own : List ByteArray) (v ov : Value) (w : World) (h : RdC w v l) (ho : RdS w ov own) (hx : Txs l name own) :
    Calls Try.prog 4 #[v, .int .i64 kernel, .string name, ov] w fun e w' => e = .returned (.bool true) ∧ Fr [] w w' := by
  have HBy := mkHid (lBeyond_ok l own v ov w h ho)
  have HTX := mkHid hx
  have HC := mkHid h
  have HO := mkHid ho
  clear h ho hx
  go_enter Try.func4, Try.ntmps4
  go_wp2_with fail
  refine Calls.mono HBy.out ?_
  rintro e w0 (⟨rfl, rfl, hb⟩ | ⟨rfl, rfl⟩)
  rotate_left
  · go_wp2_with fail
    go_ret
    exact ⟨rfl, Fr.refl _ _⟩
  have hask : Ask l own := ask_of hb
  have HRf := mkHid (rMake_ok l kernel name own v ov w0 HC.out HO.out hask)
  have HMk1 : Hid (∀ W, Fr [] w0 W → Calls Try.prog 13 #[v, .int .i64 kernel, .string name, ov] W fun e w' => ∃ xs p d z, e = .returned (.tuple #[.slice p xs.length d, .int .i64 z]) ∧ Hid (xs.map Cg.c = (makeP l kernel name own).1 ∧ w'.ownsRow W.heap.size 36 4 (.slice p xs.length d) xs.length (cgs xs) ∧ Cgs W w' xs ∧ Fr [] W w' ∧ xs.length ≤ 1048576 ∧ RdH w' (.slice p xs.length d) xs ∧ ∀ g, cgBlk (.slice p xs.length d) xs g → W.heap.size ≤ g)) := mkHid (fun W hW => by
    refine Calls.mono (pMake_ok l kernel name own v ov W (HC.out.idle hW) (HO.out.idle hW) hask HTX.out) ?_
    rintro e w' ⟨vr, rfl, hp⟩
    obtain ⟨xs, p, d, rfl, q1, q2, q3, q4, q5⟩ := hp
    refine ⟨xs, p, d, _, rfl, mkHid ⟨q1, q2, q3, q4, q5, own_rdH q2 (fun x hx => own_rd (q3.old x hx).2 (q3.len x hx).1) (fun x hx => own_rd (q3.new x hx).2 (q3.len x hx).2.1) (fun x hx => own_rdI (q3.frm x hx).2 (q3.len x hx).2.2) (by omega), fun g hg => ?_⟩⟩
    rcases hg with hg | ⟨x, hx, hg | hg | hg⟩
    · exact (own_lt q2 g hg).1
    · exact (own_lt (q3.old x hx).2 g hg).1
    · exact (own_lt (q3.new x hx).2 g hg).1
    · exact (own_lt (q3.frm x hx).2 g hg).1)
  clear HBy
  go_wp2_with fail
  refine Calls.mono HRf.out ?_
  rintro e w1 ⟨vz, rfl, zs, hz1, hz2, hz3, _⟩
  obtain ⟨pz, cz, ez, _⟩ := id hz1.at_
  subst ez
  have HZ := mkHid (And.intro hz1 (And.intro hz2 hz3))
  have HM2 := mkHid (HMk1.out w1 hz3)
  clear hz1 hz2 hz3 HRf
  go_wp2_with fail
  refine Calls.mono HM2.out ?_
  rintro e w2 ⟨xs, p, d, z2, rfl, hq2⟩
  have HM3 := mkHid (HMk1.out w2 (HZ.out.2.2.trans hq2.out.2.2.2.1 (by simp)))
  clear HM2
  go_wp2_with fail
  refine Calls.mono HM3.out ?_
  rintro e w3 ⟨ys, py, dy, z3, rfl, hq3⟩
  clear HM3 HMk1
  have HK : Hid (Kp w1 w3 w3 xs (.slice p xs.length d) (cTf xs 0) (cIf xs 0)) := mkHid (by
    have := Kp.start hq2.out.2.2.1 hq2.out.2.1 hq2.out.2.2.2.1.size hq3.out.2.2.2.1
    exact (this.eqT (fun k _ => by unfold cTf; rw [if_neg (Nat.not_lt_zero _)])).eqI (fun k _ => by unfold cIf; rw [if_neg (Nat.not_lt_zero _)]))
  have HV3 : Hid (∀ g, (Value.slice p xs.length d).ownBlock = some g → g < w3.heap.size) := mkHid (fun g hg => by
    have := (own_lt hq2.out.2.1 g hg).2; have := hq3.out.2.2.2.1.size; omega)
  have HSC : Hid (∀ W u, Fr [] w3 W → (u = .slice p xs.length d ∨ u = .slice py ys.length dy) → Calls Try.prog 14 #[u, .slice pz zs.length cz] W fun e w' => e = .returned (.bool true) ∧ Hid (Fr [] w3 w')) := mkHid (fun W u hW hu => by
    rcases hu with rfl | rfl
    · refine Calls.mono (lSameC_ok xs zs _ _ W ((hq2.out.2.2.2.2.2.1.idle hq3.out.2.2.2.1).idle hW) (((HZ.out.1.idle hq2.out.2.2.2.1).idle hq3.out.2.2.2.1).idle hW)) ?_
      rintro e w' ⟨rfl, f⟩
      exact ⟨by rw [decide_eq_true (hq2.out.1.trans HZ.out.2.1.symm)], mkHid (hW.trans f (by simp))⟩
    · refine Calls.mono (lSameC_ok ys zs _ _ W (hq3.out.2.2.2.2.2.1.idle hW) (((HZ.out.1.idle hq2.out.2.2.2.1).idle hq3.out.2.2.2.1).idle hW)) ?_
      rintro e w' ⟨rfl, f⟩
      exact ⟨by rw [decide_eq_true (hq3.out.1.trans HZ.out.2.1.symm)], mkHid (hW.trans f (by simp))⟩)
  have hnb := hq2.out.2.2.2.2.1
  /- what is left at the end -/
  have HEnd : Hid (∀ (wr : World), Fr (rb xs) w3 wr → Fr [] w0 wr ∧ (Calls Try.prog 14 #[.slice py ys.length dy, .slice pz zs.length cz] wr fun e w' => e = .returned (.bool true) ∧ Fr [] wr w') ∧ ∀ W, Fr [] wr W → Calls Try.prog 16 #[v, .int .i64 kernel, .string name, ov, .slice pz zs.length cz] W fun e w' => e = .returned (.bool true) ∧ Fr [] W w') := mkHid (fun wr hwr => by
    have f1r : Fr [] w1 wr := ((hq2.out.2.2.2.1.trans hq3.out.2.2.2.1 (by simp)).trans hwr (fun g hg => .inr (HK.out.lt g hg).1))
    have f0r : Fr [] w0 wr := HZ.out.2.2.trans f1r (by simp)
    refine ⟨f0r, ?_, fun W hW => ?_⟩
    · have hy : RdH wr (.slice py ys.length dy) ys := hq3.out.2.2.2.2.2.1.keep hwr (fun g hg hm => by
        have a1 := hq3.out.2.2.2.2.2.2 g hg
        obtain ⟨x, hx, h1⟩ := mem_rb.1 hm
        have a2 : g < w2.heap.size := by
          rcases h1 with h1 | h1 | h1
          · exact (own_lt (hq2.out.2.2.1.old x hx).2 g h1).2
          · exact (own_lt (hq2.out.2.2.1.new x hx).2 g h1).2
          · exact (own_lt (hq2.out.2.2.1.frm x hx).2 g h1).2
        omega)
      refine Calls.mono (lSameC_ok ys zs _ _ wr hy (HZ.out.1.idle f1r)) ?_
      rintro e w' ⟨rfl, f⟩
      exact ⟨by rw [decide_eq_true (hq3.out.1.trans HZ.out.2.1.symm)], f⟩
    · have f0W := f0r.trans hW (by simp)
      exact asked_ok l kernel name own v ov _ zs W (HC.out.idle f0W) (HO.out.idle f0W) hask HTX.out ((HZ.out.1.idle f1r).idle hW) HZ.out.2.1)
  have HLn : Hid ((∀ k, k < 2 * xs.length → tln xs k ≤ 8796093022208) ∧ ∀ k, k < xs.length → fln xs k ≤ 8796093022208) := mkHid ⟨fun k hk => by
      have := hq2.out.2.2.1.len _ (tv_mem hk)
      unfold tln tt
      split
      · exact this.1
      · exact this.2.1, fun k hk => (hq2.out.2.2.1.len _ (List.mem_of_getElem? (cgAt_eq hk))).2.2⟩
  clear hq2 hq3 HZ HTX HC HO hask hb
  have K0 : Hid (Fr [] w3 w3) := mkHid (Fr.refl _ _)
  go_wp2_with (first
    | (go_at_call 14; refine (HSC.out _ _ (by first | exact K5.out | exact K0.out) (by first | exact Or.inl rfl | exact Or.inr rfl)).mono ?_; rintro e w5 ⟨rfl, K5⟩))
  have HK5 := mkHid (HK.out.idle K5.out)
  clear HSC HK K0
  generalize hnn : xs.length = n at *
  have HXN := mkHid hnn
  clear hnn
  go_loopw [15, 17] (fun u q wr => ∃ (i m : Nat) (pt : Option Addr) (ct : Nat), i ≤ n ∧ u = .slice pt m ct ∧ q = .int .i64 i ∧ Hid (m = 2 * i) ∧ Hid (Kp w1 w3 wr xs (.slice p n d) (cTf xs 0) (cIf xs i)) ∧ Hid (wr.ownsRow w3.heap.size 24 1 (.slice pt m ct) m (tvs xs m))) (fun _ q _ => n - (intOf q).toNat)
  case atStart => exact ⟨0, 0, none, 0, Nat.zero_le _, rfl, rfl, mkHid rfl, HK5, mkHid (World.ownsRow_nil _ _ _ _)⟩
  case round =>
    obtain ⟨i, m, pt, ct, hi, rfl, rfl, hm, hk, htr⟩ := hrel
    clear HK5
    have i0 : (0 : Int) ≤ (i : Int) := by omega
    by_cases hlt : i < n
    · have i1 : (i : Int) < (n : Int) := by omega
      have hix : i < xs.length := by rw [HXN.out]; exact hlt
      have hmb : m + 2 ≤ 4194304 := by have := hm.out; omega
      obtain ⟨gc, rfl, a1, a2, a3, agl⟩ := hk.out.cells hix
      obtain ⟨po, co, evo⟩ := hk.out.txt.sh (2 * i) (by omega)
      obtain ⟨pn, cn, evn⟩ := hk.out.txt.sh (2 * i + 1) (by omega)
      obtain ⟨pf, cf, evf⟩ := hk.out.int.sh i hix
      obtain ⟨p5, c5, wA, r5, o5, k5, f5⟩ := push_hi (x := tv xs m) hk.out HV3.out htr.out (by rw [hm.out, evo]; rfl) (by omega)
      obtain ⟨p6, c6, wB, r6, o6, k6, f6⟩ := push_hi (x := tv xs (m + 1)) k5 HV3.out o5 (by rw [hm.out, evn]; rfl) (by omega)
      rw [tvs_succ] at o5
      rw [tvs_succ, tvs_succ] at o6
      have et : tv xs m = .slice po (tln xs (2 * i)) co := by rw [hm.out]; exact evo
      have et2 : tv xs (m + 1) = .slice pn (tln xs (2 * i + 1)) cn := by rw [hm.out]; exact evn
      rw [et] at r5
      rw [et2] at r6
      rw [← tv_even, evo] at a1
      have a2' := (k5.cells hix)
      obtain ⟨gc', egc, _, b2, _, _⟩ := a2'
      injection egc with egc
      injection egc with egc
      subst egc
      rw [← tv_odd, evn] at b2
      have HR5 := mkHid r5
      have HR6 := mkHid r6
      have HKB : Hid (Kp w1 w3 wB xs (.slice (some ⟨gc, 0, none⟩) n d) (cTf xs 0) (cIj xs i 0)) := mkHid (k6.eqI (fun k _ => cIj_zero xs i k))
      have HOB := mkHid o6
      have hfb := HLn.out.2 i hlt
      clear r5 r6 o5 o6 k5 k6 f5 f6 evo evn et et2 a2 a3 agl hk htr
      generalize tln xs (2 * i) = no at *
      generalize tln xs (2 * i + 1) = nn at *
      go_wp2_with (first
        | (at_builtin; refine Lib.wpList_append_run _ rfl (.tmp 71) (.tmp 77) 33 33 rfl _ _ rfl rfl _ _ HR5.out ?_)
        | (at_builtin; refine Lib.wpList_append_run _ rfl (.tmp 79) (.tmp 85) 33 33 rfl _ _ rfl rfl _ _ HR6.out ?_))
      clear HR5 HR6 a1 b2
      go_loopw [18] (fun q wr => ∃ j : Nat, j ≤ fln xs i ∧ q = .int .i64 j ∧ Hid (Kp w1 w3 wr xs (.slice (some ⟨gc, 0, none⟩) n d) (cTf xs 0) (cIj xs i j)) ∧ Hid (wr.ownsRow w3.heap.size 24 1 (.slice p6 (m + 1 + 1) c6) (m + 1 + 1) (tvs xs (m + 1 + 1)))) (fun q _ => fln xs i - (intOf q).toNat)
      case atStart => exact ⟨0, Nat.zero_le _, rfl, HKB, HOB⟩
      case round =>
        obtain ⟨j, hj, rfl, hk, htr⟩ := hrel
        clear HKB HOB
        have j0 : (0 : Int) ≤ (j : Int) := by omega
        obtain ⟨gc', egc, _, _, b3, _⟩ := hk.out.cells hix
        injection egc with egc
        injection egc with egc
        subst egc
        rw [show (cgAt xs i).vf = fv xs i from rfl, evf] at b3
        by_cases hjl : j < fln xs i
        · have j1 : (j : Int) < ((fln xs i : Nat) : Int) := by omega
          have hrow := hk.out.int.row i hix
          rw [evf] at hrow
          obtain ⟨gf, rfl, g1, g2, g3, g4⟩ := own_some hrow (by omega)
          have kc : ∃ y, wr.cell? ⟨gf, j, none⟩ = some y := by
            refine ⟨((cIj xs i j) i)[j]'(by have := hrow.1; omega), ?_⟩
            rw [g3 j hjl, List.getElem?_eq_getElem]
          obtain ⟨y, ky⟩ := kc
          have kfz := g4 j
          obtain ⟨V, hV⟩ : ∃ W, wr.setCell ⟨gf, j, none⟩ (.int .i64 (1000 + (i : Int))) = W := ⟨_, rfl⟩
          have fV : Fr [gf] wr V := hV ▸ Fr.setCell wr ⟨gf, _, none⟩ _ (by simp)
          have rV : V.ownsRow w1.heap.size 3 1 (fv xs i) (fln xs i) ((cIj xs i j i).set j (.int .i64 (1000 + (i : Int)))) := by rw [evf]; exact hV ▸ own_put hrow j _
          have HKV : Hid (Kp w1 w3 V xs (.slice (some ⟨gc, 0, none⟩) n d) (cTf xs 0) (cIj xs i (j + 1))) := mkHid ((hk.out.num hix rV fV (fun g hg => .inl (by
            have : g = gf := by simpa using hg
            rw [this, evf]; rfl))).eqI (fun k _ => cIj_step xs i j hjl k))
          have HTV := mkHid (hi_keep htr.out fV (fun g hg => by
            have : g = gf := by simpa using hg
            have h9 := hk.out.lt gf (fv_rb hix (by rw [evf]; rfl))
            exact .inl (by omega)))
          clear hk htr hrow g1 g2 g3 g4 fV rV
          go_wp2_with fail
          go_roundw
          case rel => exact ⟨j + 1, by omega, by go_num, HKV, HTV⟩
          case measure => simp [intOf]; omega
        · have hje : j = fln xs i := by omega
          have j1 : ¬ (j : Int) < ((fln xs i : Nat) : Int) := by omega
          have HKE : Hid (Kp w1 w3 wr xs (.slice (some ⟨gc, 0, none⟩) n d) (cTf xs 0) (cIf xs (i + 1))) := mkHid (hk.out.eqI (fun k _ => by rw [hje]; exact cIj_end xs i k))
          have HM : Hid (m + 1 + 1 = 2 * (i + 1)) := mkHid (by have := hm.out; omega)
          clear hk
          go_wp2_with fail
          go_roundw
          case rel => exact ⟨i + 1, m + 1 + 1, p6, c6, by omega, rfl, by go_num, HM, HKE, htr⟩
          case measure => simp [intOf]; omega
    · have hie : i = n := by omega
      subst hie
      have HMn := mkHid hm.out
      clear hm
      go_wp2_with fail
      go_loopw [19] (fun q wr => ∃ k : Nat, k ≤ m ∧ q = .int .i64 k ∧ Hid (Kp w1 w3 wr xs (.slice p i d) (cTf xs k) (cIf xs i)) ∧ Hid (wr.ownsRow w3.heap.size 24 1 (.slice pt m ct) m (tvs xs m))) (fun q _ => m - (intOf q).toNat)
      case atStart => exact ⟨0, Nat.zero_le _, rfl, hk, htr⟩
      case round =>
        obtain ⟨k, hk0, rfl, hk, htr⟩ := hrel
        have k0 : (0 : Int) ≤ (k : Int) := by omega
        have hmb : m ≤ 4194304 := by have := HMn.out; omega
        by_cases hkl : k < m
        · have k1 : (k : Int) < (m : Int) := by omega
          have hkx : k < 2 * xs.length := by rw [HXN.out, ← HMn.out]; exact hkl
          obtain ⟨gt, rfl, t1, t2, t3, t4⟩ := own_some htr.out (by omega)
          obtain ⟨pi, ci, evi⟩ := hk.out.txt.sh k hkx
          have kt : wr.cell? ⟨gt, k, none⟩ = some (.slice pi (tln xs k) ci) := by
            rw [t3 k hkl, ← evi]; unfold tvs; rw [List.getElem?_map, List.getElem?_range hkl]; rfl
          have HKZ : Hid (Kp w1 w3 wr xs (.slice p i d) (cTj xs k 0) (cIf xs i)) := mkHid (hk.out.eqT (fun x _ => cTj_zero xs k x))
          have hNb := HLn.out.1 k (by rw [← HMn.out]; exact hkl)
          obtain ⟨N, hN⟩ : ∃ x, tln xs k = x := ⟨_, rfl⟩
          have HNN := mkHid hN
          rw [hN] at kt hNb evi
          clear t1 t2 t3 t4 hN hk
          go_wp2_with fail
          generalize hwz : wr = wz at *
          go_loopw [20] (fun q wr => ∃ j : Nat, j ≤ N ∧ q = .int .i64 j ∧ Hid (Kp w1 w3 wr xs (.slice p i d) (cTj xs k j) (cIf xs i)) ∧ Hid (wr.ownsRow w3.heap.size 24 1 (.slice (some ⟨gt, 0, none⟩) m ct) m (tvs xs m))) (fun q _ => N - (intOf q).toNat)
          case atStart => exact ⟨0, Nat.zero_le _, rfl, HKZ, htr⟩
          case round =>
            obtain ⟨j, hj, rfl, hk, htr2⟩ := hrel
            have j0 : (0 : Int) ≤ (j : Int) := by omega
            have HTc : Hid (∀ V : World, V.ownsRow w3.heap.size 24 1 (.slice (some ⟨gt, 0, none⟩) m ct) m (tvs xs m) → V.cell? ⟨gt, k, none⟩ = some (.slice pi N ci)) := mkHid (fun V hV => by
              obtain ⟨g', e', _, _, t3, _⟩ := own_some hV (by omega)
              injection e' with e'
              injection e' with e'
              subst e'
              rw [t3 k hkl, ← evi]; unfold tvs; rw [List.getElem?_map, List.getElem?_range hkl]; rfl)
            have kt2 := HTc.out wr htr2.out
            by_cases hjl : j < N
            · have j1 : (j : Int) < (N : Int) := by omega
              have hrow := hk.out.txt.row k hkx
              rw [evi, HNN.out] at hrow
              obtain ⟨g1, rfl, y1, y2, y3, y4⟩ := own_some hrow (by omega)
              have hglt := hk.out.lt g1 (tv_rb hkx (by rw [evi]; rfl))
              have hgB : Hid (Fr [] wr ((wr.alloc (.cells #[.int .u8 97, .int .u8 (IntKind.u8.wrap ((k : Int) / 256)), .int .u8 (IntKind.u8.wrap (k : Int))] 5)).drew)) := mkHid ((Fr.alloc [] wr _).trans (Fr.drew [] _) (by simp))
              obtain ⟨y, ky⟩ : ∃ y, wr.cell? ⟨g1, j, none⟩ = some y := ⟨((cTj xs k j) k)[j]'(by have := hrow.1; omega), by rw [y3 j hjl, List.getElem?_eq_getElem]⟩
              have ky2 : ((wr.alloc (.cells #[.int .u8 97, .int .u8 (IntKind.u8.wrap ((k : Int) / 256)), .int .u8 (IntKind.u8.wrap (k : Int))] 5)).drew).cell? ⟨g1, j, none⟩ = some y := (hgB.out.cell (p := ⟨g1, j, none⟩) y2 (by simp)).trans ky
              have kz2 : ((wr.alloc (.cells #[.int .u8 97, .int .u8 (IntKind.u8.wrap ((k : Int) / 256)), .int .u8 (IntKind.u8.wrap (k : Int))] 5)).drew).frozen? ⟨g1, j, none⟩ = false := (hgB.out.frozen (p := ⟨g1, j, none⟩) y2 (by simp)).trans (y4 j)
              have hcv := conv_mk (V := (wr.alloc (.cells #[.int .u8 97, .int .u8 (IntKind.u8.wrap ((k : Int) / 256)), .int .u8 (IntKind.u8.wrap (k : Int))] 5)).drew) (heap_alloc_new wr _)
              obtain ⟨V, hV⟩ : ∃ W, ((wr.alloc (.cells #[.int .u8 97, .int .u8 (IntKind.u8.wrap ((k : Int) / 256)), .int .u8 (IntKind.u8.wrap (k : Int))] 5)).drew).setCell ⟨g1, j, none⟩ (.string (mkS 97 k)) = W := ⟨_, rfl⟩
              have hrowB := own_congr (w' := (wr.alloc (.cells #[.int .u8 97, .int .u8 (IntKind.u8.wrap ((k : Int) / 256)), .int .u8 (IntKind.u8.wrap (k : Int))] 5)).drew) hrow (fun g hg => hgB.out.block g (own_lt hrow g hg).2 (by simp))
              have fV0 : Fr [g1] ((wr.alloc (.cells #[.int .u8 97, .int .u8 (IntKind.u8.wrap ((k : Int) / 256)), .int .u8 (IntKind.u8.wrap (k : Int))] 5)).drew) V := hV ▸ Fr.setCell _ ⟨g1, _, none⟩ _ (by simp)
              have fV : Fr [g1] wr V := (hgB.out.mono (by simp)).trans fV0 (by simp)
              have rV : V.ownsRow w1.heap.size 9 1 (tv xs k) (tln xs k) ((cTj xs k j k).set j (.string (mkS 97 k))) := by rw [evi, HNN.out]; exact hV ▸ own_put hrowB j _
              have HKV : Hid (Kp w1 w3 V xs (.slice p i d) (cTj xs k (j + 1)) (cIf xs i)) := mkHid ((hk.out.text hkx rV fV (fun g hg => .inl (by
                have : g = g1 := by simpa using hg
                rw [this, evi]; rfl))).eqT (fun x _ => cTj_step xs k j (by rw [HNN.out]; exact hjl) x))
              have HTV := mkHid (hi_keep htr2.out fV (fun g hg => by
                have : g = g1 := by simpa using hg
                exact .inl (by omega)))
              have hS9 := HTc.out V HTV.out
              have hR : Hid (Fr [] wr wr) := mkHid (Fr.refl _ _)
              have HS : Hid (∀ V, Hid (Fr [] wr V) → (fun V => V.cell? ⟨gt, k, none⟩ = some (.slice (some ⟨g1, 0, none⟩) N ci)) V) := mkHid (fun V hV => HTc.out V (hi_keep htr2.out hV.out (by simp)))
              clear hk htr2 hrow hrowB y1 y2 y3 y4 fV0 fV rV HTc ky hglt
              generalize mkS 97 k = A at *
              go_wp2_with fail
              refine wp_region_held_drew (S := fun V => V.cell? ⟨gt, k, none⟩ = some (.slice (some ⟨g1, 0, none⟩) N ci)) (by kernel_rfl) (HS.out _ (hidD hR)) (fun hHeld => ?_)
              refine wpAnyH_take (i := 0) (v := ?_) rfl (by kernel_rfl) (by kernel_rfl) (by kernel_rfl) (fun _ _ _ h => h) (Or.inl ⟨by rfl, ?_⟩) (by assumption) ?_
              rotate_left
              · (intro w hSw; (try dsimp only at hSw); first | (go_simp; done) | (go_simp; with_reducible rfl))
              try simp only [Act.put, List.getElem_toArray, List.getElem_cons_zero, List.getElem_cons_succ, List.setIfInBounds_toArray, List.set_cons_zero, List.set_cons_succ]
              refine wpAnyH_take (i := 1) (v := ?_) rfl (by kernel_rfl) (by kernel_rfl) (by kernel_rfl) (fun _ _ _ h => h) (Or.inl ⟨by rfl, ?_⟩) (by assumption) ?_
              rotate_left
              · (intro w hSw; (try dsimp only at hSw); first | (go_simp; done) | (go_simp; with_reducible rfl))
              try simp only [Act.put, List.getElem_toArray, List.getElem_cons_zero, List.getElem_cons_succ, List.setIfInBounds_toArray, List.set_cons_zero, List.set_cons_succ]
              refine wpAnyH_take (i := 2) (v := .pointer (some ⟨gt, k, none⟩)) rfl (by kernel_rfl) (by kernel_rfl) (by kernel_rfl) (fun _ _ _ h => h) (Or.inl ⟨by rfl, ?_⟩) (by assumption) ?_
              · (intro w hSw; (try dsimp only at hSw); go_simp; try first | omega | assumption)
              try simp only [Act.put, List.getElem_toArray, List.getElem_cons_zero, List.getElem_cons_succ, List.setIfInBounds_toArray, List.set_cons_zero, List.set_cons_succ]
              refine wpAnyH_take (i := 3) (v := ?_) rfl (by kernel_rfl) (by kernel_rfl) (by kernel_rfl) (fun _ _ _ h => h) (Or.inl ⟨by rfl, ?_⟩) (by assumption) ?_
              rotate_left
              · (intro w hSw; (try dsimp only at hSw); first | (go_simp; done) | (go_simp; with_reducible rfl))
              try simp only [Act.put, List.getElem_toArray, List.getElem_cons_zero, List.getElem_cons_succ, List.setIfInBounds_toArray, List.set_cons_zero, List.set_cons_succ]
              refine wpAnyH_take (i := 4) (v := ?_) rfl (by kernel_rfl) (by kernel_rfl) (by kernel_rfl) (fun _ _ _ h => h) (Or.inl ⟨by rfl, ?_⟩) (by assumption) ?_
              rotate_left
              · (intro w hSw; (try dsimp only at hSw); first | (go_simp; done) | (go_simp; with_reducible rfl))
              try simp only [Act.put, List.getElem_toArray, List.getElem_cons_zero, List.getElem_cons_succ, List.setIfInBounds_toArray, List.set_cons_zero, List.set_cons_succ]
              refine wpAnyH_take (i := 5) (v := ?_) rfl (by kernel_rfl) (by kernel_rfl) (by kernel_rfl) (fun _ _ _ h => h) (Or.inl ⟨by rfl, ?_⟩) (by assumption) ?_
              rotate_left
              · (intro w hSw; (try dsimp only at hSw); first | (go_simp; done) | (go_simp; with_reducible rfl))
              try simp only [Act.put, List.getElem_toArray, List.getElem_cons_zero, List.getElem_cons_succ, List.setIfInBounds_toArray, List.set_cons_zero, List.set_cons_succ]
              refine wpAnyH_take (i := 6) (v := ?_) rfl (by kernel_rfl) (by kernel_rfl) (by kernel_rfl) (fun _ _ _ h => h) (Or.inl ⟨by rfl, ?_⟩) (by assumption) ?_
              rotate_left
              · (intro w hSw; (try dsimp only at hSw); first | (go_simp; done) | (go_simp; with_reducible rfl))
              try simp only [Act.put, List.getElem_toArray, List.getElem_cons_zero, List.getElem_cons_succ, List.setIfInBounds_toArray, List.set_cons_zero, List.set_cons_succ]
              refine wpAnyH_take (i := 7) (v := ?_) rfl (by kernel_rfl) (by kernel_rfl) (by kernel_rfl) (fun _ _ _ h => h) (Or.inl ⟨by rfl, ?_⟩) (by assumption) ?_
              rotate_left
              · (intro w hSw; (try dsimp only at hSw); first | (go_simp; done) | (go_simp; with_reducible rfl))
              try simp only [Act.put, List.getElem_toArray, List.getElem_cons_zero, List.getElem_cons_succ, List.setIfInBounds_toArray, List.set_cons_zero, List.set_cons_succ]
              refine wpAnyH_take (i := 8) (v := ?_) rfl (by kernel_rfl) (by kernel_rfl) (by kernel_rfl) (fun _ _ _ h => h) (Or.inl ⟨by rfl, ?_⟩) (by assumption) ?_
              rotate_left
              · (intro w hSw; (try dsimp only at hSw); first | (go_simp; done) | (go_simp; with_reducible rfl))
              try simp only [Act.put, List.getElem_toArray, List.getElem_cons_zero, List.getElem_cons_succ, List.setIfInBounds_toArray, List.set_cons_zero, List.set_cons_succ]
              refine wpAnyH_take (i := 9) (v := ?_) rfl (by kernel_rfl) (by kernel_rfl) (by kernel_rfl) (fun _ _ _ h => h) (Or.inl ⟨by rfl, ?_⟩) (by assumption) ?_
              rotate_left
              · (intro w hSw; (try dsimp only at hSw); first | (go_simp; done) | (go_simp; with_reducible rfl))
              try simp only [Act.put, List.getElem_toArray, List.getElem_cons_zero, List.getElem_cons_succ, List.setIfInBounds_toArray, List.set_cons_zero, List.set_cons_succ]
              refine oneH (i := 10) (by kernel_rfl) rfl (fun K hK => ?_)
              rw [if_pos (by rfl)]
              unfold Oper.wp
              go_simp
              refine hK.out _ _ (HS.out _ hgB) (fun hHeld => ?_)
              clear hK K
              try simp only [Act.put, List.getElem_toArray, List.getElem_cons_zero, List.getElem_cons_succ, List.setIfInBounds_toArray, List.set_cons_zero, List.set_cons_succ]
              refine oneH (i := 11) (by kernel_rfl) rfl (fun K hK => ?_)
              rw [if_pos (by rfl)]
              unfold Oper.wp
              go_simp
              refine hK.out _ _ (HS.out _ hgB) (fun hHeld => ?_)
              clear hK K
              try simp only [Act.put, List.getElem_toArray, List.getElem_cons_zero, List.getElem_cons_succ, List.setIfInBounds_toArray, List.set_cons_zero, List.set_cons_succ]
              refine wpAnyH_take (i := 12) (v := .pointer (some ⟨g1, j, none⟩)) rfl (by kernel_rfl) (by kernel_rfl) (by kernel_rfl) (fun _ _ _ h => h) (Or.inl ⟨by rfl, ?_⟩) (by assumption) ?_
              · (intro w hSw; (try dsimp only at hSw); go_simp; try first | omega | assumption)
              try simp only [Act.put, List.getElem_toArray, List.getElem_cons_zero, List.getElem_cons_succ, List.setIfInBounds_toArray, List.set_cons_zero, List.set_cons_succ]
              refine oneH (i := 13) (by kernel_rfl) rfl (fun K hK => ?_)
              rw [if_pos (by rfl)]
              unfold Oper.wp
              go_simp
              refine hK.out _ _ (hS9) (fun hHeld => ?_)
              clear hK K
              try simp only [Act.put, List.getElem_toArray, List.getElem_cons_zero, List.getElem_cons_succ, List.setIfInBounds_toArray, List.set_cons_zero, List.set_cons_succ]
              refine wpAnyH_done (by kernel_rfl) ?_ _
              go_wp2_with fail
              go_roundw
              case rel => exact ⟨j + 1, by omega, by go_num, HKV, HTV⟩
              case measure => simp [intOf]; omega
            · have hje : j = N := by omega
              have j1 : ¬ (j : Int) < (N : Int) := by omega
              have HKE : Hid (Kp w1 w3 wr xs (.slice p i d) (cTf xs (k + 1)) (cIf xs i)) := mkHid (hk.out.eqT (fun x _ => by rw [hje, ← HNN.out]; exact cTj_end xs k x))
              clear hk HTc
              go_wp2_with fail
              go_roundw
              case rel => exact ⟨k + 1, by omega, by go_num, HKE, htr2⟩
              case measure => simp [intOf]; omega
        · have hke : k = m := by omega
          subst hke
          clear hk0
          have HL5 : Hid (∀ g, (Value.slice pt k ct).ownBlock = some g → g < wr.heap.size) := mkHid (fun g hg => (own_lt htr.out g hg).2)
          have HL3 : Hid (w3.heap.size ≤ wr.heap.size) := mkHid hk.out.fr.size
          obtain ⟨wL, hwL⟩ : ∃ x, x = wr.heap.size := ⟨_, rfl⟩
          rw [← hwL] at HL5 HL3
          have HwL : Hid (wL ≤ wr.heap.size) := mkHid (by omega)
          clear hwL
          go_wp2_with fail
          go_loopw [16, 21] (fun u q wr => ∃ (a : Nat) (pm : Option Addr) (cm : Nat) (ms : List Value), a ≤ k ∧ u = .slice pm a cm ∧ q = .int .i64 a ∧ Hid (ms.length = a) ∧ Hid (Kp w1 w3 wr xs (.slice p i d) (cTf xs k) (cIf xs i)) ∧ Hid (wr.ownsRow w3.heap.size 24 1 (.slice pt k ct) k (tvs xs k)) ∧ Hid (wr.ownsRow wL 24 1 (.slice pm a cm) a ms) ∧ Hid (Mor w1 w3 wr xs (cTf xs k) (fun a => .string (mkS 98 a)) ms) ∧ Hid (wL ≤ wr.heap.size)) (fun _ q _ => k - (intOf q).toNat)
          case atStart => exact ⟨0, none, 0, [], Nat.zero_le _, rfl, rfl, mkHid rfl, hk, htr, mkHid (World.ownsRow_nil _ _ _ _), mkHid (Mor.nil _ _ _ _ _ _), HwL⟩
          case round =>
            obtain ⟨a, pm, cm, ms, ha0, rfl, rfl, hml, hk, htr, hmr, hmo, hwl⟩ := hrel
            have a0 : (0 : Int) ≤ (a : Int) := by omega
            by_cases hal : a < k
            · have a1 : (a : Int) < (k : Int) := by omega
              have hax : a < 2 * xs.length := by rw [HXN.out, ← HMn.out]; exact hal
              obtain ⟨gt, rfl, t1, t2, t3, t4⟩ := own_some htr.out (by omega)
              obtain ⟨pa, ca, eva⟩ := hk.out.txt.sh a hax
              have HTc : Hid (∀ V : World, V.ownsRow w3.heap.size 24 1 (.slice (some ⟨gt, 0, none⟩) k ct) k (tvs xs k) → V.cell? ⟨gt, a, none⟩ = some (tv xs a)) := mkHid (fun V hV => by
                obtain ⟨g', e', _, _, t3, _⟩ := own_some hV (by omega)
                injection e' with e'
                injection e' with e'
                subst e'
                rw [t3 a hal]; unfold tvs; rw [List.getElem?_map, List.getElem?_range hal]; rfl)
              rw [eva] at HTc
              have hNb := HLn.out.1 a (by rw [← HMn.out]; exact hal)
              have hgB : Hid (Fr [] wr ((wr.alloc (.cells #[.int .u8 98, .int .u8 (IntKind.u8.wrap ((a : Int) / 256)), .int .u8 (IntKind.u8.wrap (a : Int))] 5)).drew)) := mkHid ((Fr.alloc [] wr _).trans (Fr.drew [] _) (by simp))
              have hgB2 : Hid (Fr [] wr (((wr.alloc (.cells #[.int .u8 98, .int .u8 (IntKind.u8.wrap ((a : Int) / 256)), .int .u8 (IntKind.u8.wrap (a : Int))] 5)).alloc (.cells #[.string (mkS 98 a)] 9)).drew)) := mkHid (((Fr.alloc [] wr _).trans (Fr.alloc [] _ _) (by simp)).trans (Fr.drew [] _) (by simp))
              have hcv := conv_mk (V := (wr.alloc (.cells #[.int .u8 98, .int .u8 (IntKind.u8.wrap ((a : Int) / 256)), .int .u8 (IntKind.u8.wrap (a : Int))] 5)).drew) (heap_alloc_new wr _)
              obtain ⟨p1, c1, wX, r1, g1⟩ := (Gx.start hk.out hax eva).push hax hgB.out HV3.out (.string (mkS 98 a)) rfl (by simp; omega)
              have HFt : Hid (∀ V, Fr (blkV (tv xs a)) wr V → V.ownsRow w3.heap.size 24 1 (.slice (some ⟨gt, 0, none⟩) k ct) k (tvs xs k)) := mkHid (fun V hV => hi_keep htr.out hV (fun g hg => .inl (hk.out.lt g (tv_rb hax (mem_blkV.1 hg))).2))
              have HFm : Hid (∀ V, Fr (blkV (tv xs a)) wr V → V.ownsRow wL 24 1 (.slice pm a cm) a ms) := mkHid (fun V hV => own_congr hmr.out (fun g hg => hV.block g (own_lt hmr.out g hg).2 (fun hm => by
                have h1 := (hk.out.lt g (tv_rb hax (mem_blkV.1 hm))).2
                have h2 := (own_lt hmr.out g hg).1
                have h3 := HL3.out
                omega)))
              have hS9 := HTc.out wX (HFt.out wX g1.fs)
              have hR : Hid (Fr [] wr wr) := mkHid (Fr.refl _ _)
              have HS : Hid (∀ V, Hid (Fr [] wr V) → V.cell? ⟨gt, a, none⟩ = some (.slice pa (tln xs a) ca)) := mkHid (fun V hV => HTc.out V (HFt.out V (hV.out.mono (by simp))))
              have HG1 := mkHid g1
              have ez1 : ((wr.alloc (.cells #[.int .u8 98, .int .u8 (IntKind.u8.wrap ((a : Int) / 256)), .int .u8 (IntKind.u8.wrap (a : Int))] 5)).drew).heap.size = wr.heap.size + 1 := by
                show (wr.alloc (.cells #[.int .u8 98, .int .u8 (IntKind.u8.wrap ((a : Int) / 256)), .int .u8 (IntKind.u8.wrap (a : Int))] 5)).heap.size = _
                simp
              have ez2 : ((wr.alloc (.cells #[.int .u8 98, .int .u8 (IntKind.u8.wrap ((a : Int) / 256)), .int .u8 (IntKind.u8.wrap (a : Int))] 5)).drew).alloc (.cells #[.string (mkS 98 a)] 9) = ((wr.alloc (.cells #[.int .u8 98, .int .u8 (IntKind.u8.wrap ((a : Int) / 256)), .int .u8 (IntKind.u8.wrap (a : Int))] 5)).alloc (.cells #[.string (mkS 98 a)] 9)).drew := rfl
              rw [ez1, ez2] at r1
              have HR1 := mkHid r1
              clear ez1 ez2
              obtain ⟨N, hN⟩ : ∃ x, tln xs a = x := ⟨_, rfl⟩
              rw [hN] at HR1 hS9 HS hNb
              have HNN := mkHid hN
              simp only [List.length_nil, Nat.add_zero] at HR1
              have HKs := mkHid hk.out
              have HMs := mkHid hmo.out
              have HLs := mkHid hwl.out
              have HBs : Hid (∀ k' : Nat, k' = a → mkS 98 k' = mkS 98 a) := mkHid (fun k' e => by rw [e])
              clear t1 t2 t3 t4 hk htr hmr hmo g1 r1 hN HTc hwl HwL
              obtain ⟨ws, hws⟩ : ∃ x, x = wr := ⟨_, rfl⟩
              go_wp2_with fail
              refine wp_region_held_drew (S := fun V => V.cell? ⟨gt, a, none⟩ = some (.slice pa N ca)) (by kernel_rfl) (HS.out _ (hidD hR)) (fun hHeld => ?_)
              refine wpAnyH_take (i := 0) (v := ?_) rfl (by kernel_rfl) (by kernel_rfl) (by kernel_rfl) (fun _ _ _ h => h) (Or.inl ⟨by rfl, ?_⟩) (by assumption) ?_
              rotate_left
              · (intro w hSw; (try dsimp only at hSw); first | (go_simp; done) | (go_simp; with_reducible rfl))
              try simp only [Act.put, List.getElem_toArray, List.getElem_cons_zero, List.getElem_cons_succ, List.setIfInBounds_toArray, List.set_cons_zero, List.set_cons_succ]
              refine wpAnyH_take (i := 1) (v := ?_) rfl (by kernel_rfl) (by kernel_rfl) (by kernel_rfl) (fun _ _ _ h => h) (Or.inl ⟨by rfl, ?_⟩) (by assumption) ?_
              rotate_left
              · (intro w hSw; (try dsimp only at hSw); first | (go_simp; done) | (go_simp; with_reducible rfl))
              try simp only [Act.put, List.getElem_toArray, List.getElem_cons_zero, List.getElem_cons_succ, List.setIfInBounds_toArray, List.set_cons_zero, List.set_cons_succ]
              refine wpAnyH_take (i := 2) (v := .pointer (some ⟨gt, a, none⟩)) rfl (by kernel_rfl) (by kernel_rfl) (by kernel_rfl) (fun _ _ _ h => h) (Or.inl ⟨by rfl, ?_⟩) (by assumption) ?_
              · (intro w hSw; (try dsimp only at hSw); go_simp; try first | omega | assumption)
              try simp only [Act.put, List.getElem_toArray, List.getElem_cons_zero, List.getElem_cons_succ, List.setIfInBounds_toArray, List.set_cons_zero, List.set_cons_succ]
              refine wpAnyH_take (i := 3) (v := ?_) rfl (by kernel_rfl) (by kernel_rfl) (by kernel_rfl) (fun _ _ _ h => h) (Or.inl ⟨by rfl, ?_⟩) (by assumption) ?_
              rotate_left
              · (intro w hSw; (try dsimp only at hSw); first | (go_simp; done) | (go_simp; with_reducible rfl))
              try simp only [Act.put, List.getElem_toArray, List.getElem_cons_zero, List.getElem_cons_succ, List.setIfInBounds_toArray, List.set_cons_zero, List.set_cons_succ]
              refine wpAnyH_take (i := 4) (v := ?_) rfl (by kernel_rfl) (by kernel_rfl) (by kernel_rfl) (fun _ _ _ h => h) (Or.inl ⟨by rfl, ?_⟩) (by assumption) ?_
              rotate_left
              · (intro w hSw; (try dsimp only at hSw); first | (go_simp; done) | (go_simp; with_reducible rfl))
              try simp only [Act.put, List.getElem_toArray, List.getElem_cons_zero, List.getElem_cons_succ, List.setIfInBounds_toArray, List.set_cons_zero, List.set_cons_succ]
              refine wpAnyH_take (i := 5) (v := ?_) rfl (by kernel_rfl) (by kernel_rfl) (by kernel_rfl) (fun _ _ _ h => h) (Or.inl ⟨by rfl, ?_⟩) (by assumption) ?_
              rotate_left
              · (intro w hSw; (try dsimp only at hSw); first | (go_simp; done) | (go_simp; with_reducible rfl))
              try simp only [Act.put, List.getElem_toArray, List.getElem_cons_zero, List.getElem_cons_succ, List.setIfInBounds_toArray, List.set_cons_zero, List.set_cons_succ]
              refine wpAnyH_take (i := 6) (v := ?_) rfl (by kernel_rfl) (by kernel_rfl) (by kernel_rfl) (fun _ _ _ h => h) (Or.inl ⟨by rfl, ?_⟩) (by assumption) ?_
              rotate_left
              · (intro w hSw; (try dsimp only at hSw); first | (go_simp; done) | (go_simp; with_reducible rfl))
              try simp only [Act.put, List.getElem_toArray, List.getElem_cons_zero, List.getElem_cons_succ, List.setIfInBounds_toArray, List.set_cons_zero, List.set_cons_succ]
              refine wpAnyH_take (i := 7) (v := ?_) rfl (by kernel_rfl) (by kernel_rfl) (by kernel_rfl) (fun _ _ _ h => h) (Or.inl ⟨by rfl, ?_⟩) (by assumption) ?_
              rotate_left
              · (intro w hSw; (try dsimp only at hSw); first | (go_simp; done) | (go_simp; with_reducible rfl))
              try simp only [Act.put, List.getElem_toArray, List.getElem_cons_zero, List.getElem_cons_succ, List.setIfInBounds_toArray, List.set_cons_zero, List.set_cons_succ]
              refine wpAnyH_take (i := 8) (v := ?_) rfl (by kernel_rfl) (by kernel_rfl) (by kernel_rfl) (fun _ _ _ h => h) (Or.inl ⟨by rfl, ?_⟩) (by assumption) ?_
              rotate_left
              · (intro w hSw; (try dsimp only at hSw); first | (go_simp; done) | (go_simp; with_reducible rfl))
              try simp only [Act.put, List.getElem_toArray, List.getElem_cons_zero, List.getElem_cons_succ, List.setIfInBounds_toArray, List.set_cons_zero, List.set_cons_succ]
              refine oneH (i := 9) (by kernel_rfl) rfl (fun K hK => ?_)
              rw [if_pos (by rfl)]
              unfold Oper.wp
              go_simp
              refine hK.out _ _ (HS.out _ hgB) (fun hHeld => ?_)
              clear hK K
              try simp only [Act.put, List.getElem_toArray, List.getElem_cons_zero, List.getElem_cons_succ, List.setIfInBounds_toArray, List.set_cons_zero, List.set_cons_succ]
              refine oneH (i := 10) (by kernel_rfl) rfl (fun K hK => ?_)
              rw [if_pos (by rfl)]
              unfold Oper.wp
              go_simp
              refine hK.out _ _ (HS.out _ hgB) (fun hHeld => ?_)
              clear hK K
              try simp only [Act.put, List.getElem_toArray, List.getElem_cons_zero, List.getElem_cons_succ, List.setIfInBounds_toArray, List.set_cons_zero, List.set_cons_succ]
              refine oneH (i := 11) (by kernel_rfl) rfl (fun K hK => ?_)
              rw [if_pos (by rfl)]
              unfold Oper.wp
              go_simp
              refine hK.out _ _ (HS.out _ hgB2) (fun hHeld => ?_)
              clear hK K
              try simp only [Act.put, List.getElem_toArray, List.getElem_cons_zero, List.getElem_cons_succ, List.setIfInBounds_toArray, List.set_cons_zero, List.set_cons_succ]
              refine oneH (i := 12) (by kernel_rfl) rfl (fun K hK => ?_)
              refine step_append_run rfl (.tmp 143) (.tmp 151) 24 24 rfl _ _ rfl rfl _ _ HR1.out ?_
              refine hK.out _ _ (hS9) (fun hHeld => ?_)
              clear hK K
              try simp only [Act.put, List.getElem_toArray, List.getElem_cons_zero, List.getElem_cons_succ, List.setIfInBounds_toArray, List.set_cons_zero, List.set_cons_succ]
              refine wpAnyH_take (i := 13) (v := ?_) rfl (by kernel_rfl) (by kernel_rfl) (by kernel_rfl) (fun _ _ _ h => h) (Or.inl ⟨by rfl, ?_⟩) (by assumption) ?_
              rotate_left
              · (intro w hSw; (try dsimp only at hSw); first | (go_simp; done) | (go_simp; with_reducible rfl))
              try simp only [Act.put, List.getElem_toArray, List.getElem_cons_zero, List.getElem_cons_succ, List.setIfInBounds_toArray, List.set_cons_zero, List.set_cons_succ]
              refine wpAnyH_done (by kernel_rfl) ?_ _
              rw [← hws] at HFt HFm HKs HMs HG1 HLs
              clear hcv hgB hgB2 HS hS9 HR1 hR hws
              simp only [u8w]
              go_wp2_with fail
              go_loopw [22, 23] (fun u q wr => ∃ (j nx : Nat) (px : Option Addr) (cx : Nat), j ≤ 64 ∧ u = .slice px nx cx ∧ q = .int .i64 j ∧ Hid (nx = N + (1 + j)) ∧ Hid (Gx w1 w3 ws wr xs (.slice p i d) (cTf xs k) (cIf xs i) a px cx (List.replicate (1 + j) (.string (mkS 98 a))))) (fun _ q _ => 64 - (intOf q).toNat)
              case atStart => exact ⟨0, N + 1, p1, c1, Nat.zero_le _, rfl, rfl, mkHid rfl, HG1⟩
              case round =>
                obtain ⟨j, nx, px, cx, hj, rfl, rfl, hnx, hg⟩ := hrel
                clear HG1
                have j0 : (0 : Int) ≤ (j : Int) := by omega
                by_cases hjl : j < 64
                · have j1 : (j : Int) < 64 := by omega
                  obtain ⟨p2, c2, wY, r2, g2⟩ := hg.out.push hax (Fr.alloc [] wr (.cells #[.int .u8 98, .int .u8 ((a : Int) / 256 % 256), .int .u8 ((a : Int) % 256)] 5)) HV3.out (.string (mkS 98 a)) rfl (by rw [List.length_replicate, HNN.out]; omega)
                  have en : tln xs a + (List.replicate (1 + j) (Value.string (mkS 98 a))).length = nx := by rw [List.length_replicate, HNN.out]; exact hnx.out.symm
                  have ez : (wr.alloc (.cells #[.int .u8 98, .int .u8 ((a : Int) / 256 % 256), .int .u8 ((a : Int) % 256)] 5)).heap.size = wr.heap.size + 1 := by simp
                  rw [en, ez] at r2
                  have HR2 := mkHid r2
                  have hcv := conv_mk2 (V := wr.alloc (.cells #[.int .u8 98, .int .u8 ((a : Int) / 256 % 256), .int .u8 ((a : Int) % 256)] 5)) (heap_alloc_new wr _)
                  have HG2 : Hid (Gx w1 w3 ws wY xs (.slice p i d) (cTf xs k) (cIf xs i) a p2 c2 (List.replicate (1 + (j + 1)) (.string (mkS 98 a)))) := mkHid (by
                    rw [show 1 + (j + 1) = (1 + j) + 1 from rfl, List.replicate_succ']; exact g2)
                  have HX2 : Hid (nx + 1 = N + (1 + (j + 1))) := mkHid (by have := hnx.out; omega)
                  have hnb2 : nx ≤ 8796093022300 := by have := hnx.out; omega
                  clear r2 g2 en ez hg hnx
                  go_wp2_with (at_builtin; refine Lib.wpList_append_run _ rfl (.tmp 157) (.tmp 165) 24 24 rfl _ _ rfl rfl _ _ HR2.out ?_)
                  go_roundw
                  case rel => exact ⟨j + 1, nx + 1, p2, c2, by omega, rfl, by go_num, HX2, HG2⟩
                  case measure => simp [intOf]; omega
                · have hje : j = 64 := by omega
                  subst hje
                  have hrm := HFm.out wr hg.out.fs
                  have hrt := HFt.out wr hg.out.fs
                  have hlw : wL ≤ wr.heap.size := Nat.le_trans HLs.out hg.out.fs.size
                  obtain ⟨p9, c9, wN, r9, o9, k9, f9⟩ := push_hi2 (x := .slice px nx cx) hg.out.kp HV3.out HL3.out hlw hrm rfl (by omega)
                  have HR9 := mkHid r9
                  have HMo : Hid (Mor w1 w3 wN xs (cTf xs k) (fun a => .string (mkS 98 a)) (ms ++ [.slice px nx cx])) := mkHid (by
                    have hgx := hg.out
                    rw [← hml.out] at hgx
                    have h1 := Mor.push (F := fun a => .string (mkS 98 a)) HMs.out (by rw [hml.out]; exact hax) HKs.out hgx f9 (fun g hg' => by
                      obtain ⟨C, hC⟩ := own_is hrm ((blk_own _ _ _ _).2 hg')
                      exact .inl ⟨C, 24, hC, by decide⟩)
                    rw [hml.out, HNN.out, show N + 65 = nx from hnx.out.symm] at h1
                    exact h1)
                  have HT9 : Hid (wN.ownsRow w3.heap.size 24 1 (.slice (some ⟨gt, 0, none⟩) k ct) k (tvs xs k)) := mkHid (own_congr hrt (fun g hg' => f9.block g (own_lt hrt g hg').2 (fun hm => by
                    have h1 := HL5.out g hg'
                    have h2 := (own_lt hrm g ((blk_own _ _ _ _).2 hm)).1
                    omega)))
                  have HO9 := mkHid o9
                  have HK9 := mkHid k9
                  have HL9 : Hid (wL ≤ wN.heap.size) := mkHid (Nat.le_trans hlw f9.size)
                  have HML : Hid ((ms ++ [Value.slice px nx cx]).length = a + 1) := mkHid (by rw [List.length_append, hml.out]; rfl)
                  clear hrm hrt r9 o9 k9 f9 hg hnx HFt HFm HMs HKs
                  go_wp2_with (at_builtin; refine Lib.wpList_append_run _ rfl (.tmp 167) (.tmp 169) 33 33 rfl _ _ rfl rfl _ _ HR9.out ?_)
                  go_roundw
                  case rel => exact ⟨a + 1, p9, c9, ms ++ [.slice px nx cx], by omega, rfl, by go_num, HML, HK9, HT9, HO9, HMo, HL9⟩
                  case measure => simp [intOf]; omega
            · have hae : a = k := by omega
              subst hae
              clear ha0
              go_wp2_with fail
              go_loopw [24, 25] (fun u q wr => ∃ (b : Nat) (pi : Option Addr) (ci : Nat) (is : List Value), b ≤ i ∧ u = .slice pi b ci ∧ q = .int .i64 b ∧ Hid (is.length = b) ∧ Hid (Kp w1 w3 wr xs (.slice p i d) (cTf xs a) (cIf xs i)) ∧ Hid (wr.ownsRow w3.heap.size 24 1 (.slice pt a ct) a (tvs xs a)) ∧ Hid (wr.ownsRow wL 24 1 (.slice pm a cm) a ms) ∧ Hid (Mor w1 w3 wr xs (cTf xs a) (fun a => .string (mkS 98 a)) ms) ∧ Hid (wr.ownsRow w3.heap.size 34 1 (.slice pi b ci) b is) ∧ Hid (Moi w1 w3 wr xs (cIf xs i) (fun a => .int .i64 (5000 + (a : Int))) is)) (fun _ q _ => i - (intOf q).toNat)
              case atStart => exact ⟨0, none, 0, [], Nat.zero_le _, rfl, rfl, mkHid rfl, hk, htr, hmr, hmo, mkHid (World.ownsRow_nil _ _ _ _), mkHid (Moi.nil _ _ _ _ _ _)⟩
              case round =>
                obtain ⟨b, pi, ci, is, hb0, rfl, rfl, hil, hk, htr, hmr, hmo, hir, hio⟩ := hrel
                have b0 : (0 : Int) ≤ (b : Int) := by omega
                by_cases hbl : b < i
                · have b1 : (b : Int) < (i : Int) := by omega
                  have hbx : b < xs.length := by rw [HXN.out]; exact hbl
                  obtain ⟨gc, rfl, _, _, b3, _⟩ := hk.out.cells hbx
                  obtain ⟨pf, cf, evf⟩ := hk.out.int.sh b hbx
                  rw [show (cgAt xs b).vf = fv xs b from rfl, evf] at b3
                  have hNb := HLn.out.2 b hbl
                  obtain ⟨p1, c1, wX, r1, g1⟩ := (Gi.start hk.out hbx evf).push hbx (Fr.refl [] wr) HV3.out (.int .i64 (5000 + (b : Int))) rfl (by simp; omega)
                  have HG1 := mkHid g1
                  obtain ⟨N, hN⟩ : ∃ x, fln xs b = x := ⟨_, rfl⟩
                  rw [hN] at r1 hNb b3
                  have HNN := mkHid hN
                  simp only [List.length_nil, Nat.add_zero] at r1
                  have HR1 := mkHid r1
                  have HS3 : Hid (∀ g ∈ blkV (fv xs b), ∃ C, wr.heap[g]? = some (.cells C 3 (0, 0))) := mkHid (fun g hg => own_is (hk.out.int.row b hbx) (mem_blkV.1 hg))
                  have HFt : Hid (∀ V, Fr (blkV (fv xs b)) wr V → V.ownsRow w3.heap.size 24 1 (.slice pt a ct) a (tvs xs a)) := mkHid (fun V hV => own_other htr.out hV (fun g hg => by obtain ⟨C, hC⟩ := HS3.out g hg; exact .inl ⟨C, 3, hC, by decide⟩))
                  have HFm : Hid (∀ V, Fr (blkV (fv xs b)) wr V → V.ownsRow wL 24 1 (.slice pm a cm) a ms) := mkHid (fun V hV => own_other hmr.out hV (fun g hg => by obtain ⟨C, hC⟩ := HS3.out g hg; exact .inl ⟨C, 3, hC, by decide⟩))
                  have HFo : Hid (∀ V, Fr (blkV (fv xs b)) wr V → Mor w1 w3 V xs (cTf xs a) (fun a => .string (mkS 98 a)) ms) := mkHid (fun V hV => hmo.out.keep hV (fun g hg => by obtain ⟨C, hC⟩ := HS3.out g hg; exact .inl ⟨C, 3, hC, by decide⟩))
                  have HFi : Hid (∀ V, Fr (blkV (fv xs b)) wr V → V.ownsRow w3.heap.size 34 1 (.slice pi b ci) b is) := mkHid (fun V hV => own_other hir.out hV (fun g hg => by obtain ⟨C, hC⟩ := HS3.out g hg; exact .inl ⟨C, 3, hC, by decide⟩))
                  have HKs := mkHid hk.out
                  have HIs := mkHid hio.out
                  clear hk htr hmr hmo hir hio r1 g1 hN HS3
                  obtain ⟨ws, hws⟩ : ∃ x, x = wr := ⟨_, rfl⟩
                  rw [← hws] at HFt HFm HFo HFi HKs HIs HG1
                  have hws2 := mkHid hws
                  clear hws
                  go_wp2_with (at_builtin; refine Lib.wpList_append_run _ rfl (.tmp 181) (.tmp 184) 34 34 rfl _ _ rfl rfl _ _ HR1.out ?_)
                  clear HR1 hws2
                  go_loopw [26, 27] (fun u q wr => ∃ (j nx : Nat) (px : Option Addr) (cx : Nat), j ≤ 64 ∧ u = .slice px nx cx ∧ q = .int .i64 j ∧ Hid (nx = N + (1 + j)) ∧ Hid (Gi w1 w3 ws wr xs (.slice (some ⟨gc, 0, none⟩) i d) (cTf xs a) (cIf xs i) b px cx (List.replicate (1 + j) (.int .i64 (5000 + (b : Int)))))) (fun _ q _ => 64 - (intOf q).toNat)
                  case atStart => exact ⟨0, N + 1, p1, c1, Nat.zero_le _, rfl, rfl, mkHid rfl, HG1⟩
                  case round =>
                    obtain ⟨j, nx, px, cx, hj, rfl, rfl, hnx, hg⟩ := hrel
                    clear HG1
                    have j0 : (0 : Int) ≤ (j : Int) := by omega
                    by_cases hjl : j < 64
                    · have j1 : (j : Int) < 64 := by omega
                      obtain ⟨p2, c2, wY, r2, g2⟩ := hg.out.push hbx (Fr.refl [] wr) HV3.out (.int .i64 (5000 + (b : Int))) rfl (by rw [List.length_replicate, HNN.out]; omega)
                      have en : fln xs b + (List.replicate (1 + j) (Value.int .i64 (5000 + (b : Int)))).length = nx := by rw [List.length_replicate, HNN.out]; exact hnx.out.symm
                      rw [en] at r2
                      have HR2 := mkHid r2
                      have HG2 : Hid (Gi w1 w3 ws wY xs (.slice (some ⟨gc, 0, none⟩) i d) (cTf xs a) (cIf xs i) b p2 c2 (List.replicate (1 + (j + 1)) (.int .i64 (5000 + (b : Int))))) := mkHid (by
                        rw [show 1 + (j + 1) = (1 + j) + 1 from rfl, List.replicate_succ']; exact g2)
                      have HX2 : Hid (nx + 1 = N + (1 + (j + 1))) := mkHid (by have := hnx.out; omega)
                      have hnb2 : nx ≤ 8796093022300 := by have := hnx.out; omega
                      clear r2 g2 en hg hnx
                      go_wp2_with (at_builtin; refine Lib.wpList_append_run _ rfl (.tmp 190) (.tmp 193) 34 34 rfl _ _ rfl rfl _ _ HR2.out ?_)
                      go_roundw
                      case rel => exact ⟨j + 1, nx + 1, p2, c2, by omega, rfl, by go_num, HX2, HG2⟩
                      case measure => simp [intOf]; omega
                    · have hje : j = 64 := by omega
                      subst hje
                      have hrm := HFm.out wr hg.out.fs
                      have hrt := HFt.out wr hg.out.fs
                      have hro := HFo.out wr hg.out.fs
                      have hri := HFi.out wr hg.out.fs
                      obtain ⟨p9, c9, wN, r9, o9, k9, f9⟩ := push_hiI (x := .slice px nx cx) hg.out.kp HV3.out hri rfl (by omega)
                      have HR9 := mkHid r9
                      have hS9 : ∀ g ∈ blk pi, ∃ C, wr.heap[g]? = some (.cells C 34 (0, 0)) := fun g hg' => own_is hri ((blk_own _ _ _ _).2 hg')
                      have HIo : Hid (Moi w1 w3 wN xs (cIf xs i) (fun a => .int .i64 (5000 + (a : Int))) (is ++ [.slice px nx cx])) := mkHid (by
                        have hgx := hg.out
                        rw [← hil.out] at hgx
                        have h1 := Moi.push (F := fun a => .int .i64 (5000 + (a : Int))) HIs.out (by rw [hil.out]; exact hbx) HKs.out hgx f9 (fun g hg' => by
                          obtain ⟨C, hC⟩ := hS9 g hg'
                          exact .inl ⟨C, 34, hC, by decide⟩)
                        rw [hil.out, HNN.out, show N + 65 = nx from hnx.out.symm] at h1
                        exact h1)
                      have HT9 := mkHid (own_other hrt f9 (fun g hg' => by obtain ⟨C, hC⟩ := hS9 g hg'; exact .inl ⟨C, 34, hC, by decide⟩))
                      have HM9 := mkHid (own_other hrm f9 (fun g hg' => by obtain ⟨C, hC⟩ := hS9 g hg'; exact .inl ⟨C, 34, hC, by decide⟩))
                      have HMo9 := mkHid (hro.keep f9 (fun g hg' => by obtain ⟨C, hC⟩ := hS9 g hg'; exact .inl ⟨C, 34, hC, by decide⟩))
                      have HO9 := mkHid o9
                      have HK9 := mkHid k9
                      have HML : Hid ((is ++ [Value.slice px nx cx]).length = b + 1) := mkHid (by rw [List.length_append, hil.out]; rfl)
                      clear hrm hrt hro hri r9 o9 k9 f9 hg hnx HFt HFm HFo HFi HKs HIs hS9
                      go_wp2_with (at_builtin; refine Lib.wpList_append_run _ rfl (.tmp 195) (.tmp 197) 39 39 rfl _ _ rfl rfl _ _ HR9.out ?_)
                      go_roundw
                      case rel => exact ⟨b + 1, p9, c9, is ++ [.slice px nx cx], by omega, rfl, by go_num, HML, HK9, HT9, HM9, HMo9, HO9, HIo⟩
                      case measure => simp [intOf]; omega
                · have hbe : b = i := by omega
                  subst hbe
                  have HWr : Hid (WrS wr b (.slice p b d) (.slice pt a ct) (.slice pm a cm) (.slice pi b ci) (tln xs) (fln xs) (tv xs) (fun k => ms.getD k undef) (fv xs) (fun k => is.getD k undef)) := mkHid (wr_all hk.out HXN.out HMn.out htr.out hmr.out hmo.out hir.out hio.out hml.out hil.out HLn.out.1 HLn.out.2 hnb)
                  obtain ⟨e1, e2, e3⟩ := HEnd.out wr hk.out.fr
                  have HE1 := mkHid e1
                  have HW15 : Hid (Calls Try.prog 15 #[.slice p b d, .slice pt a ct, .slice pm a cm, .slice pi b ci] wr fun e w' => e = .returned (.bool true) ∧ Hid (Fr [] wr w')) := mkHid (by
                    refine Calls.mono (written_ok _ _ _ _ _ _ _ _ _ _ _ wr HWr.out) ?_
                    rintro e w' ⟨rfl, f⟩
                    exact ⟨rfl, mkHid f⟩)
                  have HE : Hid (∀ W, Fr [] wr W → (Calls Try.prog 14 #[.slice py ys.length dy, .slice pz zs.length cz] W fun e w' => e = .returned (.bool true) ∧ Hid (Fr [] wr w')) ∧ (Calls Try.prog 16 #[v, .int .i64 kernel, .string name, ov, .slice pz zs.length cz] W fun e w' => e = .returned (.bool true) ∧ Hid (Fr [] wr w'))) := mkHid (fun W hW => by
                    obtain ⟨q1, q2, q3⟩ := HEnd.out W (hk.out.fr.trans hW (by simp))
                    refine ⟨Calls.mono q2 ?_, Calls.mono (e3 W hW) ?_⟩
                    · rintro e w' ⟨rfl, f⟩
                      exact ⟨rfl, mkHid (hW.trans f (by simp))⟩
                    · rintro e w' ⟨rfl, f⟩
                      exact ⟨rfl, mkHid (hW.trans f (by simp))⟩)
                  clear hk htr hmr hmo hir hio HWr e1 e2 e3 HEnd HLn
                  go_wp2_with (first
                    | (go_at_call 15; refine HW15.out.mono ?_; rintro e w6 ⟨rfl, hg6⟩)
                    | (go_at_call 14; refine (HE.out _ hg6.out).1.mono ?_; rintro e w7 ⟨rfl, hg7⟩)
                    | (go_at_call 16; refine (HE.out _ hg7.out).2.mono ?_; rintro e w8 ⟨rfl, hg8⟩))
                  go_ret
                  exact ⟨rfl, HE1.out.trans hg8.out (by simp)⟩
end Go.Proofs.Ytblbjgifhgfifaa

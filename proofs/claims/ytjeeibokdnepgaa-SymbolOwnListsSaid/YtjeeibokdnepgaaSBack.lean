import Derived.Test.YtjeeibokdnepgaaSDel
import Derived.Deep.RegionHeld3
import Derived.Deep.DeepCutAuto
namespace Go.Proofs.Ytjeeibokdnepgaa
open Go.RowKit Go.Maps Go.WideMaps
set_option linter.unusedVariables false
set_option linter.unusedSimpArgs false
set_option maxRecDepth 20000 in
set_option maxHeartbeats 1000000 in
theorem Back_no (n : Int) (a : Nat) (l : Lay) (most : Nat) (ts : List ByteArray) (w : World) (h : TRep w a l most ts) (hn : n < 0 ∨ (ts.length : Int) < n) :
    Calls Try.prog 11 #[.pointer (some ⟨a, 0, none⟩), .int .i64 n] w fun e w' => e = .returned (.int .i64 1) ∧ w' = w := by
  have c0 := h.c0
  have c2 := h.c2
  clear h
  by_cases h0 : n < 0
  · clear hn
    go_enter Try.func11, Try.ntmps11
    go_wp2_with (go_at_call 31; refine (made_yes _ _ c0).mono ?_; rintro e w' ⟨rfl, rfl⟩)
    go_ret
    exact ⟨rfl, rfl⟩
  · have h1 : (ts.length : Int) < n := by omega
    have h2 : 0 ≤ n := by omega
    clear hn h0
    go_enter Try.func11, Try.ntmps11
    go_wp2_with (go_at_call 31; refine (made_yes _ _ c0).mono ?_; rintro e w' ⟨rfl, rfl⟩)
    go_ret
    exact ⟨rfl, rfl⟩
/-- what the map has, while Back goes on: those from n to n + i are gone -/
def cutPos (ts : List ByteArray) (n i : Nat) (s : ByteArray) : Option Nat := match pos ts s with | some k => if n ≤ k ∧ k < n + i then none else some k | none => none
theorem cutPos_zero (ts : List ByteArray) (n : Nat) (s : ByteArray) : cutPos ts n 0 s = pos ts s := by
  unfold cutPos
  cases pos ts s with
  | none => rfl
  | some k => show (if n ≤ k ∧ k < n + 0 then none else some k) = some k; rw [if_neg (by omega)]
theorem cutPos_step {ts : List ByteArray} (hd : ts.Nodup) {n i : Nat} (h : n + i < ts.length) (s : ByteArray) : cutPos ts n (i + 1) s = if s = ts.getD (n + i) ⟨#[]⟩ then none else cutPos ts n i s := by
  have hg : ts[n + i]? = some (ts.getD (n + i) ⟨#[]⟩) := by rw [List.getD_eq_getElem?_getD, List.getElem?_eq_getElem h]; rfl
  by_cases e : s = ts.getD (n + i) ⟨#[]⟩
  · rw [if_pos e]
    unfold cutPos
    rw [e, pos_nodup hd hg]
    show (if n ≤ n + i ∧ n + i < n + (i + 1) then none else some (n + i)) = none
    rw [if_pos (by omega)]
  · rw [if_neg e]
    unfold cutPos
    cases hp : pos ts s with
    | none => rfl
    | some k =>
      show (if n ≤ k ∧ k < n + (i + 1) then none else some k) = (if n ≤ k ∧ k < n + i then none else some k)
      have hk : k ≠ n + i := fun e2 => by
        have := (pos_some hp).2
        rw [e2, hg] at this
        exact e (by injection this with this; exact this.symm)
      by_cases c : n ≤ k ∧ k < n + i
      · rw [if_pos c, if_pos (by omega)]
      · rw [if_neg c, if_neg (by omega)]
theorem cutPos_here {ts : List ByteArray} (hd : ts.Nodup) {n i : Nat} (h : n + i < ts.length) : (cutPos ts n i (ts.getD (n + i) ⟨#[]⟩)).isSome = true := by
  have hg : ts[n + i]? = some (ts.getD (n + i) ⟨#[]⟩) := by rw [List.getD_eq_getElem?_getD, List.getElem?_eq_getElem h]; rfl
  unfold cutPos
  rw [pos_nodup hd hg]
  show (if n ≤ n + i ∧ n + i < n + i then none else some (n + i)).isSome = true
  rw [if_neg (by omega)]
  rfl
theorem cutPos_end {ts : List ByteArray} {n : Nat} (h : n ≤ ts.length) (s : ByteArray) : cutPos ts n (ts.length - n) s = pos (ts.take n) s := by
  have e : ts = ts.take n ++ ts.drop n := (List.take_append_drop n ts).symm
  have hl : (ts.take n).length = n := by simp; omega
  unfold cutPos
  cases hp : pos (ts.take n) s with
  | some k =>
    have hk := (pos_some hp).1
    have : pos ts s = some k := by rw [e]; exact pos_left hp
    rw [this]
    show (if n ≤ k ∧ k < n + (ts.length - n) then none else some k) = some k
    rw [if_neg (by omega)]
  | none =>
    cases hq : pos ts s with
    | none => rfl
    | some k =>
      show (if n ≤ k ∧ k < n + (ts.length - n) then none else some k) = none
      have hk := (pos_some hq).1
      rw [if_pos]
      refine ⟨?_, by omega⟩
      rw [e, pos_append, hp] at hq
      obtain ⟨j, _, rfl⟩ := Option.map_eq_some_iff.1 hq
      omega
theorem iwrap (x : Int) : IntKind.i64.wrap x = (x + 9223372036854775808) % 18446744073709551616 - 9223372036854775808 := IntKind.wrap_i64 x
theorem step_delete {ops : Array Oper} {o : Oper} {a : Act} {w : World} {K : Act → World → Prop} {Q : Exit → Act → World → Prop} {E : Prop}
    (hg : o.guard = none) (m x : Operand) (hop : o.op = Op.call { callee := Callee.builtin Builtin.delete, args := #[m, x], argTypes := #[68, 9] })
    (b n : Nat) (D : DataW Unit) (hm : a.eval m = .map (some b)) (hown : w.ownsMap Try.prog 9 (plainElem Try.prog 3) b n D) (s : ByteArray) (hx : a.eval x = .string s) (hkey : keyOf Try.prog 9 (.string s) = some (kS s))
    (hK : ∀ w', w'.ownsMap Try.prog 9 (plainElem Try.prog 3) b n (D.del (kS s)) → w.mapTurned w' b → K (a.put o.dst (.tuple #[])) w') :
    if Region.wanted o (yielded ops a.tmps) = true then Oper.wp Try.prog o a w K Q else E := by
  have hw : Region.wanted o (yielded ops a.tmps) = true := by simp [Region.wanted, hg]
  rw [if_pos hw]
  obtain ⟨w', hrun, r1, r2⟩ := hown.drop mlaw Try.underlying68 hkey o.type
  unfold Oper.wp
  simp [execOp, hop, resolve, invoke, builtin, hm, hx, hrun, Result.andThen]
  exact hK w' r1 r2
theorem TRep.cutBack {w wr w' : World} {a : Nat} {l : Lay} {most : Nat} {ts : List ByteArray} {n : Nat} (h : TRep w a l most ts) (hn : n ≤ ts.length) (hm : MapOf wr l.b (cutPos ts n (ts.length - n)) (ts.length - (ts.length - n))) (hf : Fr [l.b] w wr)
    (ho : w'.ownsRow 0 9 1 (.slice l.p n l.cap) n ((ts.take n).map Value.string)) (hf' : Fr (blk l.p) wr w') :
    TRep (w'.setCell ⟨a, 2, none⟩ (.slice l.p n l.cap)) a l most (ts.take n) ∧ Fr (foot a l) w (w'.setCell ⟨a, 2, none⟩ (.slice l.p n l.cap)) := by
  obtain ⟨x1, x2, x3⟩ := h.apart
  have hl : (ts.take n).length = n := by simp; omega
  have hal := h.lt a (by simp [foot])
  have s1 := hf.size
  have s2 := hf'.size
  refine ⟨⟨?_, ?_, ?_, h.nodup.sublist (List.take_sublist _ _), fun s hs => h.fit s (List.mem_of_mem_take hs), by have := h.len; omega, h.most⟩, ?_⟩
  · have ht : w'.heap[a]? = w.heap[a]? := (hf'.block a (by omega) x2).trans (hf.block a hal (by simp; exact Ne.symm x1))
    rw [set_in (ht.trans h.top) 2, hl]
    simp [tcells]
  · rw [hl]
    refine own_congr ho (fun g hg => ?_)
    have hg' := (blk_own _ _ _ _).1 hg
    exact Below.heap_setCell _ _ _ _ (fun e => x2 (by rw [show g = a from e] at hg'; exact hg'))
  · rw [hl]
    have e : ts.length - (ts.length - n) = n := by omega
    rw [e] at hm
    refine (hm.eqf (cutPos_end hn)).congr ?_
    rw [Below.heap_setCell _ _ _ _ x1]
    exact hf'.block l.b hm.lt x3
  · exact ((hf.mono (S' := foot a l) (fun b hb => by simp at hb; subst hb; exact Or.inl (by simp [foot]))).trans (hf'.mono (S' := foot a l) (fun b hb => Or.inl (by simp [foot, hb]))) (fun b hb => Or.inl hb)).trans (Fr.setCell (S := [a]) _ _ _ (by simp)) (by simp [foot])
set_option maxRecDepth 20000 in
set_option maxHeartbeats 2000000 in
theorem Back_in (n : Nat) (a : Nat) (l : Lay) (most : Nat) (ts : List ByteArray) (w : World) (h : TRep w a l most ts) (hn : n ≤ ts.length) :
    Calls Try.prog 11 #[.pointer (some ⟨a, 0, none⟩), .int .i64 (n : Int)] w fun e w' => e = .returned (.int .i64 0) ∧ TRep w' a l most (ts.take n) ∧ Fr (foot a l) w w' := by
  have c0 := h.c0
  have c2 := h.c2
  have c3 := h.c3
  obtain ⟨x1, x2, x3⟩ := h.apart
  have n1 : (0 : Int) ≤ (n : Int) := by omega
  have n2 : (n : Int) ≤ (ts.length : Int) := by omega
  have hlen : ts.length ≤ 4096 := Nat.le_trans h.len h.most
  have HT := mkHid h
  have HM : Hid (MapOf w l.b (cutPos ts n 0) (ts.length - 0)) := mkHid (h.map.eqf (fun s => (cutPos_zero ts n s).symm))
  have hlt := h.lt a (by simp [foot])
  have hd1 : decide (ts.length < n) = false := decide_eq_false (by omega)
  have hd2 : decide ((n : Int) < 0) = false := decide_eq_false (by omega)
  clear h
  go_enter Try.func11, Try.ntmps11
  go_wp2_with (go_at_call 31; refine (made_yes _ _ c0).mono ?_; rintro e w1 ⟨rfl, rfl⟩)
  go_loopw [25] (fun q wr => ∃ i : Nat, n + i ≤ ts.length ∧ q = .int .i64 i ∧ Hid (MapOf wr l.b (cutPos ts n i) (ts.length - i)) ∧ Hid (Fr [l.b] w1 wr)) (fun q _ => ts.length - (intOf q).toNat)
  case atStart => exact ⟨0, hn, rfl, HM, Fr.refl _ _⟩
  case round =>
    obtain ⟨i, hi, rfl, hmp, hfr⟩ := hrel
    have i1 : (0 : Int) ≤ (i : Int) := by omega
    have k2 := (hfr.out.cell (p := ⟨a, 2, none⟩) hlt (by simp; exact Ne.symm x1)).trans c2
    have k3 := (hfr.out.cell (p := ⟨a, 3, none⟩) hlt (by simp; exact Ne.symm x1)).trans c3
    by_cases hlt2 : n + i < ts.length
    · have i2 : (i : Int) < (ts.length : Int) - (n : Int) := by omega
      obtain ⟨_, g, e, x4, _, x6⟩ := row_cell HT.out.row (by omega)
      have hgb : g ≠ l.b := fun e2 => x3 (by rw [e, e2]; simp [blk])
      rw [e] at k2
      have k4 := (hfr.out.cell (p := ⟨g, n + i, none⟩) x6 (by simp; exact hgb)).trans (x4 (n + i) hlt2)
      have hfit := (HT.out.fit (ts.getD (n + i) ⟨#[]⟩) (by rw [List.getD_eq_getElem?_getD, List.getElem?_eq_getElem hlt2]; exact List.getElem_mem hlt2)).2
      have hkey : keyOf Try.prog 9 (.string (ts.getD (n + i) ⟨#[]⟩)) = some (kS (ts.getD (n + i) ⟨#[]⟩)) := keyOf_string_mk Try.underlying9 (by unfold maxLen; omega)
      obtain ⟨D, hown, hh, ha, hz⟩ := hmp.out.at_
      have HNx : Hid (∀ W, W.ownsMap Try.prog 9 (plainElem (H := Unit) Try.prog 3) l.b (ts.length - i) (D.del (kS (ts.getD (n + i) ⟨#[]⟩))) → MapOf W l.b (cutPos ts n (i + 1)) (ts.length - (i + 1))) := fun W hW => by
        have := map_del (w := wr) _ hown hh ha hz (cutPos_here HT.out.nodup hlt2) hW
        rw [show ts.length - (i + 1) = ts.length - i - 1 from by omega]
        exact this.eqf (fun s => (cutPos_step HT.out.nodup hlt2 s).symm)
      have hownD : wr.drew.ownsMap Try.prog 9 (plainElem (H := Unit) Try.prog 3) l.b (ts.length - i) D := hown
      have HD := mkHid hownD
      have j2 : (n : Int) + (i : Int) < (ts.length : Int) := by omega
      have j3 : (0 : Int) ≤ (n : Int) + (i : Int) := by omega
      have jw : IntKind.i64.wrap ((n : Int) + (i : Int)) = (n : Int) + (i : Int) := by rw [iwrap]; omega
      have jt : ((n : Int) + (i : Int)).toNat = n + i := by omega
      generalize ts.getD (n + i) ⟨#[]⟩ = x at *
      clear hown hh ha hz hownD x4 x6 e hmp
      go_wp2_with fail
      go_region_law (refine step_delete rfl (.tmp 31) (.tmp 40) rfl l.b (ts.length - i) D (by simp [Act.eval, Act.put]) HD.out x (by simp [Act.eval, Act.put]) hkey ?_; intro W hW hT)
      all_goals
        go_wp2_with fail
        go_roundw
        case rel => exact ⟨i + 1, by omega, by go_num, mkHid (HNx.out _ hW), mkHid ((hfr.out.trans (Fr.drew [l.b] _) (by simp)).trans (Fr.grown (S := [l.b]) hT.grown (fun k hk => by injection hk with hk; simp [hk])) (by simp))⟩
        case measure => simp [intOf]; omega
    · have hie : i = ts.length - n := by omega
      subst hie
      have i3 : ((ts.length - n : Nat) : Int) = (ts.length : Int) - (n : Int) := by omega
      obtain ⟨W0, hW0⟩ : ∃ W0 : World, W0 = wr := ⟨_, rfl⟩
      have hrow : wr.ownsRow 0 9 1 (.slice l.p ts.length l.cap) ts.length (ts.map Value.string) := own_congr HT.out.row (fun g hg => hfr.out.block g (own_lt HT.out.row g hg).2 (by simp; exact fun e => x3 (by rw [← e]; exact (blk_own _ _ _ _).1 hg)))
      have HDl := mkHid (Delete_ok n ts.length l.cap l.p ts wr hrow hn hlen)
      have HEnd : Hid (∀ w', w'.ownsRow 0 9 1 (.slice l.p n l.cap) n ((ts.take n).map Value.string) → Fr (blk l.p) wr w' → TRep (w'.setCell ⟨a, 2, none⟩ (.slice l.p n l.cap)) a l most (ts.take n) ∧ Fr (foot a l) w1 (w'.setCell ⟨a, 2, none⟩ (.slice l.p n l.cap))) := fun w' h1 h2 => HT.out.cutBack hn hmp.out hfr.out h1 h2
      have HCe : Hid (∀ w', Fr (blk l.p) wr w' → w'.cell? ⟨a, 2, none⟩ = some (.slice l.p ts.length l.cap) ∧ w'.frozen? ⟨a, 2, none⟩ = false) := fun w' h2 =>
        ⟨(h2.cell (p := ⟨a, 2, none⟩) (Nat.lt_of_lt_of_le hlt hfr.out.size) x2).trans k2, ((h2.frozen (p := ⟨a, 2, none⟩) (Nat.lt_of_lt_of_le hlt hfr.out.size) x2).trans (hfr.out.frozen (p := ⟨a, 2, none⟩) hlt (by simp; exact Ne.symm x1))).trans (HT.out.frozen 2)⟩
      clear hrow hW0 hmp
      go_wp2_with (go_at_call 33; refine HDl.out.mono ?_; rintro e w2 ⟨rfl, ho2, hf2⟩; obtain ⟨m1, m2⟩ := HCe.out w2 hf2)
      go_ret
      exact ⟨rfl, HEnd.out _ ho2 hf2⟩
end Go.Proofs.Ytjeeibokdnepgaa

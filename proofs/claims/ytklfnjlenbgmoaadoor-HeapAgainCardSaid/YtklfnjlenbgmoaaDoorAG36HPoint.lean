import Derived.Test.YtklfnjlenbgmoaaDoorAHNext
import Derived.Test.YtklfnjlenbgmoaaDoorAG12HFree
import Derived.BigQuiet
namespace Go.Proofs.YtklfnjlenbgmoaaDoor
open Go.RowKit
set_option linter.unusedVariables false
theorem getD_bare (S : List Th) (k : Nat) : (S.map bare).getD k noTh = bare (S.getD k noTh) := by
  rw [List.getD_eq_getElem?_getD, List.getD_eq_getElem?_getD, List.getElem?_map]
  cases S[k]? <;> rfl
theorem thereTo_bare (S : List Th) (k : Nat) : thereTo (S.map bare) k = thereTo S k := by
  unfold thereTo
  rw [← List.map_take, List.filter_map, List.length_map]
  rfl
theorem endTo_bare (S : List Th) : ∀ k, endTo (S.map bare) k = endTo S k := by
  intro k
  induction k with
  | zero => rfl
  | succ k ih => rw [endTo_succ, endTo_succ, ih, getD_bare]; rfl
theorem lowTo_bare (S : List Th) : lowTo (S.map bare) = lowTo S := by
  unfold lowTo
  rw [List.takeWhile_map, List.length_map]
  rfl
theorem pickTo_bare (S : List Th) (A : Nat) : ∀ k, pickTo (S.map bare) A k = pickTo S A k := by
  intro k
  induction k with
  | zero => rfl
  | succ k ih =>
    cases h : pickTo S A k with
    | none => rw [pickTo_none _ _ _ h, pickTo_none _ _ _ (ih.trans h), getD_bare]; rfl
    | some b => rw [pickTo_some _ _ _ b h, pickTo_some _ _ _ b (ih.trans h), getD_bare, getD_bare]; rfl
theorem slidN_bare : ∀ (n : Nat) (S : List Th) (A : Nat), slidN (S.map bare) A n = (slidN S A n).map bare := by
  intro n
  induction n with
  | zero => intro S A; rfl
  | succ n ih =>
    intro S A
    cases h : pickTo S A S.length with
    | none => rw [slidN_none S A n h, slidN_none (S.map bare) A n (by rw [List.length_map, pickTo_bare]; exact h)]
    | some k =>
      rw [slidN_some S A n k h, slidN_some (S.map bare) A n k (by rw [List.length_map, pickTo_bare]; exact h), ← ih, getD_bare, List.map_set]
      rfl
theorem stayTo_bare (S : List Th) (ks : List Nat) : ∀ k, stayTo (S.map bare) ks k = (stayTo S ks k).map bare := by
  intro k
  induction k with
  | zero => rfl
  | succ k ih =>
    show (stayTo (S.map bare) ks k).set k _ = ((stayTo S ks k).set k _).map bare
    rw [ih, List.map_set, getD_bare]
    rfl
theorem keptTh_bare (S : List Th) (ks : List Nat) : keptTh (S.map bare) ks = (keptTh S ks).map bare := by
  unfold keptTh
  rw [List.length_map, stayTo_bare, thereTo_bare, slidN_bare]
/-- a model without its lists' places -/
def bareM (M : MS) : MS := { M with things := M.things.map bare, pt := none, ct := 0 }
theorem bare_bare (t : Th) : bare (bare t) = bare t := rfl
theorem map_bare_bare (S : List Th) : (S.map bare).map bare = S.map bare := by
  rw [List.map_map]
  exact List.map_congr_left fun t _ => rfl
theorem lk_bare (M : MS) : Lk M (bareM M) := ⟨rfl, rfl, rfl, (map_bare_bare _).symm⟩
theorem Lk.bares {M N : MS} (h : Lk M N) : bareM M = bareM N := by
  unfold bareM
  rw [h.words, h.oops, h.mark, h.things]
theorem mhas_bare (M : MS) (A : Int) : mhas (bareM M) A = mhas M A := by
  unfold mhas
  show decide (1 ≤ A ∧ A ≤ ((M.things.map bare).length : Nat) ∧ ((M.things.map bare).getD (A.toNat - 1) noTh).there = true) = _
  rw [List.length_map, getD_bare]
  rfl
theorem lk_set {M N : MS} (h : Lk M N) (k : Nat) (t u : Th) (e : bare t = bare u) : Lk { M with things := M.things.set k t } { N with things := N.things.set k u } :=
  ⟨h.words, h.oops, h.mark, by show (M.things.set k t).map bare = (N.things.set k u).map bare; rw [List.map_set, List.map_set, h.things, e]⟩
theorem lk_ite {P Q : Prop} [Decidable P] [Decidable Q] {A B C E : MS} (hpq : P ↔ Q) (h1 : Lk A C) (h2 : Lk B E) : Lk (if P then A else B) (if Q then C else E) := by
  by_cases hp : P
  · rw [if_pos hp, if_pos (hpq.1 hp)]; exact h1
  · rw [if_neg hp, if_neg (fun hq => hp (hpq.2 hq))]; exact h2
theorem things_bare (M : MS) : (bareM M).things = M.things.map bare := rfl
theorem lk_alloc (M : MS) (X A B : Int) : Lk (allocN M X A B) (allocN (bareM M) X A B) := by
  unfold allocN
  refine lk_ite Iff.rfl (lk_bare M) (lk_ite Iff.rfl (lk_bare M) (lk_ite ?_ (lk_bare M) (lk_ite Iff.rfl ⟨rfl, rfl, rfl, (lk_bare M).things⟩ ⟨rfl, rfl, rfl, ?_⟩)))
  · rw [things_bare, List.length_map, thereTo_bare, endTo_bare]; rfl
  · show (putTh M.things _ _).map bare = (putTh (M.things.map bare) (lowTo (M.things.map bare) - 1) ⟨true, X, B.toNat, endTo (M.things.map bare) (M.things.map bare).length, List.replicate A.toNat (newX B.toNat), none, 0⟩).map bare
    rw [putTh_bare, putTh_bare, lowTo_bare, List.length_map, endTo_bare, map_bare_bare]
theorem lk_keep (M : MS) (zs : List Int) : Lk (keepN M zs) (keepN (bareM M) zs) := by
  unfold keepN
  refine lk_ite (by rw [show mhas (bareM M) = mhas M from funext fun A => mhas_bare M A]) ⟨rfl, rfl, rfl, ?_⟩ (lk_bare M)
  show (keptTh M.things _).map bare = (keptTh (M.things.map bare) _).map bare
  rw [keptTh_bare, map_bare_bare]
theorem lk_exch (M : MS) (A B : Int) : Lk (exchN M A B) (exchN (bareM M) A B) := by
  unfold exchN
  refine lk_ite (by rw [mhas_bare, mhas_bare]) ⟨rfl, rfl, rfl, ?_⟩ (lk_bare M)
  show ((M.things.set _ _).set _ _).map bare = (((M.things.map bare).set _ _).set _ _).map bare
  simp only [List.map_set, things_bare, getD_bare, map_bare_bare, bare_bare]
theorem lk_put (M : MS) (A B X : Int) : Lk (putN M A B X) (putN (bareM M) A B X) := by
  unfold putN
  refine lk_ite (by rw [mhas_bare, things_bare, getD_bare]; rfl) (lk_set (lk_bare M) _ _ _ ?_) (lk_bare M)
  rw [things_bare, getD_bare]
  rfl
theorem lk_cls (M : MS) (A X : Int) : Lk (clsN M A X) (clsN (bareM M) A X) := by
  unfold clsN
  refine lk_ite (by rw [mhas_bare]) (lk_set (lk_bare M) _ _ _ ?_) (lk_bare M)
  rw [things_bare, getD_bare]
  rfl
theorem lk_free (M : MS) (A : Int) : Lk (freeN M A) (freeN (bareM M) A) := by
  unfold freeN
  refine lk_ite (by rw [mhas_bare]) (lk_set (lk_bare M) _ _ _ ?_) (lk_bare M)
  rw [things_bare, getD_bare]
  rfl
theorem lk_mark (M : MS) (A : Int) : Lk (markN M A) (markN (bareM M) A) := by
  unfold markN
  exact lk_ite Iff.rfl ⟨rfl, rfl, rfl, (lk_bare M).things⟩ (lk_bare M)
theorem lk_next (M : MS) (K A B X : Int) (zs : List Int) : Lk (nextM M K A B X zs) (nextM (bareM M) K A B X zs) := by
  unfold nextM
  exact lk_ite Iff.rfl (lk_alloc _ _ _ _) (lk_ite Iff.rfl (lk_mark _ _) (lk_ite Iff.rfl (lk_free _ _) (lk_ite Iff.rfl (lk_cls _ _ _) (lk_ite Iff.rfl (lk_put _ _ _ _) (lk_ite Iff.rfl (lk_exch _ _ _) (lk_ite Iff.rfl (lk_keep _ _) (lk_bare M)))))))
/-- models that say the same go on so -/
theorem Lk.next {M N : MS} (h : Lk M N) (K A B X : Int) (zs : List Int) : Lk (nextM M K A B X zs) (nextM N K A B X zs) := by
  have h1 := lk_next M K A B X zs
  rw [h.bares] at h1
  exact h1.trans (lk_next N K A B X zs).symm
theorem Lk.at {M N : MS} (h : Lk M N) (k : Nat) : bare (M.things.getD k noTh) = bare (N.things.getD k noTh) := by
  rw [← getD_bare, ← getD_bare, h.things]
theorem Lk.len {M N : MS} (h : Lk M N) : M.things.length = N.things.length := by
  have := congrArg List.length h.things
  rwa [List.length_map, List.length_map] at this
theorem Lk.fields {M N : MS} (h : Lk M N) (k : Nat) : (M.things.getD k noTh).there = (N.things.getD k noTh).there ∧ (M.things.getD k noTh).cls = (N.things.getD k noTh).cls ∧ (M.things.getD k noTh).fmt = (N.things.getD k noTh).fmt ∧ (M.things.getD k noTh).place = (N.things.getD k noTh).place ∧ (M.things.getD k noTh).slots = (N.things.getD k noTh).slots := by
  have := h.at k
  generalize M.things.getD k noTh = t at *
  generalize N.things.getD k noTh = u at *
  cases t; cases u
  simp only [bare, Th.mk.injEq] at this
  obtain ⟨h1, h2, h3, h4, h5, -⟩ := this
  exact ⟨h1, h2, h3, h4, h5⟩
/-- what every thing that is there is -/
def Fine (t : Th) : Prop := t.there = true → isW t.cls = true ∧ t.fmt ≤ 1 ∧ ∀ x ∈ t.slots, mayB x (t.fmt : Int) = true
def Good (M : MS) : Prop := ∀ i, Fine (M.things.getD i noTh)
theorem fine_no : Fine noTh := fun h => by simp [noTh] at h
theorem Good.lk {M N : MS} (h : Good N) (hl : Lk M N) : Good M := by
  intro i hb
  obtain ⟨h1, h2, h3, h4, h5⟩ := hl.fields i
  rw [h2, h3, h5]
  exact h i (by rw [← h1]; exact hb)
theorem good_set {M : MS} (h : Good M) (k : Nat) (t : Th) (ht : Fine t) : Good { M with things := M.things.set k t } := by
  intro i
  show Fine ((M.things.set k t).getD i noTh)
  by_cases hk : k < M.things.length
  · rw [getD_set _ _ _ _ hk]
    split
    · exact ht
    · exact h i
  · rw [List.set_eq_of_length_le (by omega)]
    exact h i
theorem fine_new (X : Int) (f E n : Nat) (p : Option Addr) (c : Nat) (hX : isW X = true) (hf : f ≤ 1) : Fine ⟨true, X, f, E, List.replicate n (newX f), p, c⟩ := by
  intro _
  refine ⟨hX, hf, fun x hx => ?_⟩
  have hx' := List.eq_of_mem_replicate hx
  rw [hx']
  rcases (show f = 0 ∨ f = 1 from by omega) with rfl | rfl
  · show mayB (newX 0) ((0 : Nat) : Int) = true
    decide
  · show mayB (newX 1) ((1 : Nat) : Int) = true
    decide
theorem good_put {M : MS} (h : Good M) (k : Nat) (t : Th) (ht : Fine t) (mk : Nat) : Good { M with mark := mk, things := putTh M.things k t } := by
  intro i
  show Fine ((putTh M.things k t).getD i noTh)
  unfold putTh
  split
  · exact good_set h k t ht i
  · rw [List.getD_eq_getElem?_getD]
    by_cases e : i < M.things.length
    · rw [List.getElem?_append_left e, ← List.getD_eq_getElem?_getD]; exact h i
    · rw [List.getElem?_append_right (by omega)]
      cases hj : i - M.things.length with
      | zero => exact ht
      | succ j => exact fine_no
theorem fine_placed {t : Th} (h : Fine t) (A : Nat) : Fine (placed t A) := h
theorem good_slid : ∀ (n : Nat) (S : List Th) (A : Nat), (∀ i, Fine (S.getD i noTh)) → ∀ i, Fine ((slidN S A n).getD i noTh) := by
  intro n
  induction n with
  | zero => intro S A h; exact h
  | succ n ih =>
    intro S A h
    cases hp : pickTo S A S.length with
    | none => rw [slidN_none S A n hp]; exact h
    | some k =>
      rw [slidN_some S A n k hp]
      refine ih _ _ (fun i => ?_)
      have := (pickTo_lt S A _ _ hp).1
      rw [getD_set _ _ _ _ this]
      split
      · exact fine_placed (h k) A
      · exact h i
theorem good_kept {S : List Th} (h : ∀ i, Fine (S.getD i noTh)) (ks : List Nat) : ∀ i, Fine ((keptTh S ks).getD i noTh) := by
  unfold keptTh
  refine good_slid _ _ _ (fun i => ?_)
  rw [stayTo_at S ks S.length (Nat.le_refl _) i]
  split
  · intro hb
    refine h i ?_
    have : ((S.getD i noTh).there && decide (i + 1 ∈ ks)) = true := hb
    simp at this
    exact this.1
  · exact h i
theorem Good.next {M : MS} (h : Good M) (K A B X : Int) (zs : List Int) : Good (nextM M K A B X zs) := by
  unfold nextM
  split
  · unfold allocN
    split
    · exact h
    · rename_i hg
      split
      · exact h
      · split
        · exact h
        · split
          · exact h
          · refine good_put h _ _ (fine_new X B.toNat _ _ none 0 ?_ (by omega)) _
            cases hx : isW X with
            | true => rfl
            | false => exact absurd (.inl hx) hg
  · split
    · unfold markN; split <;> exact h
    · split
      · unfold freeN
        split
        · exact good_set h _ _ (fun hb => by simp [gone] at hb)
        · exact h
      · split
        · unfold clsN
          split
          · rename_i hc
            exact good_set h _ _ (fun hb => by
              obtain ⟨a1, a2, a3⟩ := h (A.toNat - 1) hb
              exact ⟨hc.2, a2, a3⟩)
          · exact h
        · split
          · unfold putN
            split
            · rename_i hc
              refine good_set h _ _ (fun hb => ?_)
              obtain ⟨a1, a2, a3⟩ := h (A.toNat - 1) hb
              refine ⟨a1, a2, fun x hx => ?_⟩
              have hx2 : x ∈ (M.things.getD (A.toNat - 1) noTh).slots.set B.toNat X := hx
              rcases List.mem_or_eq_of_mem_set hx2 with h3 | h3
              · exact a3 x h3
              · rw [h3]; exact hc.2.2.2
            · exact h
          · split
            · unfold exchN
              split
              · exact good_set (M := { M with things := M.things.set (A.toNat - 1) (M.things.getD (B.toNat - 1) noTh) }) (good_set h _ _ (h _)) _ _ (h _)
              · exact h
            · split
              · unfold keepN
                split
                · exact good_kept h _
                · exact h
              · exact h
end Go.Proofs.YtklfnjlenbgmoaaDoor
namespace Go.Proofs.YtklfnjlenbgmoaaDoor
open Go.RowKit
set_option linter.unusedVariables false
attribute [local go_sem ↓] Go.wp_at_zero Go.wp_at_succ
set_option maxRecDepth 20000 in
set_option maxHeartbeats 1000000 in
theorem Point_ok (a : Nat) (l : Lay) (H : HS) (w : World) (h : Rep w a l H) :
    Calls Tryd.prog 27 #[.pointer (some ⟨a, 0, none⟩)] w fun e w' => e = .returned (.agg #[.pointer (some ⟨a, 0, none⟩), .int .i64 (H.age : Int), .int .i64 (H.order.length : Int)]) ∧ Fr [] w w' := by
  have hal := h.lt a (by simp [foot])
  have c0 := (World.cell?_alloc_lt w (.cells #[.pointer none, .int .i64 0, .int .i64 0] 62) ⟨a, 0, none⟩ hal).trans h.c0
  have c10 := h.c10
  have c6 := h.c6
  have HM := mkHid (made_any a _ c0)
  clear h c0
  go_enter Tryd.func27, Tryd.ntmps27
  go_wp2_with (go_at_call 44; refine Calls.mono HM.out ?_; rintro e w' ⟨rfl, hw'⟩; rw [hw']; clear hw' w')
  go_region
  all_goals go_wp2_with fail
  refine bodyPost_ret (v := .agg #[.pointer (some ⟨a, 0, none⟩), .int .i64 (H.age : Int), .int .i64 (H.order.length : Int)]) (by simp [results, Tryd.results27, go_sem]) rfl ⟨rfl, (Fr.alloc [] _ _).trans (Fr.drew [] _) (by simp)⟩
/-- those from turn k on go, the first j of them -/
def backTo (H : HS) (T : Nat) : Nat → HS
  | 0 => H
  | j + 1 => vacH (backTo H T j) (H.order.getD (T + j) 0)
theorem backTo_age (H : HS) (T : Nat) : ∀ j, (backTo H T j).age = H.age := by
  intro j
  induction j with
  | zero => rfl
  | succ j ih => exact ih
structure BackOk (H : HS) (T : Nat) : Prop where
  t : T ≤ H.order.length
  vac : ∀ j, T + j < H.order.length → VacOk (backTo H T j) (H.order.getD (T + j) 0) ∧ (backTo H T j).order.getD (T + j) 0 = H.order.getD (T + j) 0 ∧ (backTo H T j).order.length = H.order.length
  r1 : (H.order.length : Int) ≤ 1048576
  a1 : (H.age : Int) ≤ 1000000000
theorem run_neq_ptr_same {tp te : TypeId} {j : TypeInfo} (V : World) (a : Addr) (hp : Tryd.prog.underlying tp = some (.pointer te)) (hte : Tryd.prog.info? te = some j) :
    (binOp .neq tp (.pointer (some a)) (.pointer (some a))).run Tryd.prog V = .ok (.bool false) V := by
  have h : ∀ d : Nat, (Op.equalIn (d + 1) tp (.pointer (some a)) (.pointer (some a))).run Tryd.prog V = .ok true V := fun d => by
    simp [Op.equalIn, run_underlying hp, sizeOf, typeInfo, hte, run_sameAddr_same]
  simp only [binOp]
  simp [Op.equal, Op.maxDepth, h 9999]
set_option maxRecDepth 20000 in
set_option maxHeartbeats 1000000 in
theorem Back_no (ag tn : Int) (a : Nat) (l : Lay) (H : HS) (w : World) (h : Rep w a l H) (hne : (ag != (H.age : Int)) = true) :
    Calls Tryd.prog 31 #[.pointer (some ⟨a, 0, none⟩), .agg #[.pointer (some ⟨a, 0, none⟩), .int .i64 ag, .int .i64 tn]] w fun e w' => e = .returned (.int .i64 25) ∧ Fr [] w w' := by
  have hal := h.lt a (by simp [foot])
  have c0 := (World.cell?_alloc_lt w (.cells #[.pointer (some ⟨a, 0, none⟩), .int .i64 ag, .int .i64 tn] 62) ⟨a, 0, none⟩ hal).trans h.c0
  have c10 := (World.cell?_alloc_lt w (.cells #[.pointer (some ⟨a, 0, none⟩), .int .i64 ag, .int .i64 tn] 62) ⟨a, 10, none⟩ hal).trans h.c10
  have HM := mkHid (made_any a _ c0)
  have HE : Hid (∀ n, Fr [] w ((w.alloc (.cells #[.pointer (some ⟨a, 0, none⟩), .int .i64 ag, .int .i64 tn] 62)).drewN n)) := fun n => (Fr.alloc [] _ _).trans (Fr.drewN [] _ _) (by simp)
  obtain ⟨j, hj⟩ := Option.isSome_iff_exists.1 info95
  have hq := fun V => run_neq_ptr_same V ⟨a, 0, none⟩ Tryd.underlying24 hj
  clear h c0 hj
  go_enter Tryd.func31, Tryd.ntmps31
  go_wp2_with (go_at_call 44; refine Calls.mono HM.out ?_; rintro e w' ⟨rfl, hw'⟩; rw [hw']; clear hw' w')
  go_region
  all_goals go_wp2_with fail
  all_goals
    go_ret
    exact ⟨rfl, HE.out _⟩
set_option maxRecDepth 20000 in
set_option maxHeartbeats 1000000 in
theorem Back_ok (T t e0 : Nat) (a : Nat) (l : Lay) (H : HS) (w : World) (h : Rep w a l H) (hk : BackOk H T) (hd : DrawOk (backTo H T (H.order.length - T)) t e0) :
    Calls Tryd.prog 31 #[.pointer (some ⟨a, 0, none⟩), .agg #[.pointer (some ⟨a, 0, none⟩), .int .i64 (H.age : Int), .int .i64 (T : Int)]] w fun e w' => e = .returned (.int .i64 0) ∧ Rep w' a l { drawH (backTo H T (H.order.length - T)) t e0 with age := H.age + 1 } ∧ Nx a l l w w' := by
  have hal := h.lt a (by simp [foot])
  obtain ⟨o, ho⟩ : ∃ o, o = Obj.cells #[.pointer (some ⟨a, 0, none⟩), .int .i64 (H.age : Int), .int .i64 (T : Int)] 62 := ⟨_, rfl⟩
  have c0 := (World.cell?_alloc_lt w o ⟨a, 0, none⟩ hal).trans h.c0
  have c10 := (World.cell?_alloc_lt w o ⟨a, 10, none⟩ hal).trans h.c10
  have c6 := (World.cell?_alloc_lt w o ⟨a, 6, none⟩ hal).trans h.c6
  have HM := mkHid (made_any a _ c0)
  have hr1 := h.alloc o
  have HR1 := mkHid hr1
  have HX1 : Hid (Nx a l l w (w.alloc o)) := Nx.frw (Fr.alloc _ _ _)
  obtain ⟨j, hj⟩ := Option.isSome_iff_exists.1 info95
  have hq := fun V => run_neq_ptr_same V ⟨a, 0, none⟩ Tryd.underlying24 hj
  have ht := hk.t
  have hrl := hk.r1
  have hage := hk.a1
  have HK := mkHid hk
  have HD := mkHid hd
  have u1 : (0 : Int) ≤ (T : Int) := by omega
  have u2 : (T : Int) ≤ (H.order.length : Int) := by omega
  have hcap : H.order.length ≤ l.co := by
    rcases h.order.2 with ⟨q, q0⟩ | ⟨g, cap, cur, q1, q2, q3, q4, q5, q6, q7⟩
    · injection q with _ _ q3; omega
    · injection q1 with _ _ q1c; omega
  have hpo : (l.po = none → H.order.length = 0 ∧ l.co = 0) ∧ (∀ ad, l.po = some ad → ∃ g, ad = ⟨g, 0, none⟩) := by
    rcases h.order.2 with ⟨q, q0⟩ | ⟨g, cap, cur, q1, q2, q3, q4, q5, q6, q7⟩
    · injection q with q1 _ q3; exact ⟨fun _ => ⟨by omega, by omega⟩, fun ad hd => (by rw [q1] at hd; cases hd)⟩
    · injection q1 with q1 _ q1c; exact ⟨fun hd => (by rw [q1] at hd; cases hd), fun ad hd => (by rw [q1] at hd; injection hd with hd; exact ⟨g, hd.symm⟩)⟩
  clear h c0 hj hk hd hr1
  have b0 : (w.alloc o).cell? ⟨w.heap.size, 0, none⟩ = some (.pointer (some ⟨a, 0, none⟩)) := by rw [ho, cell_in (heap_alloc_new w _)]; rfl
  have b1 : (w.alloc o).cell? ⟨w.heap.size, 1, none⟩ = some (.int .i64 (H.age : Int)) := by rw [ho, cell_in (heap_alloc_new w _)]; rfl
  have b2 : (w.alloc o).cell? ⟨w.heap.size, 2, none⟩ = some (.int .i64 (T : Int)) := by rw [ho, cell_in (heap_alloc_new w _)]; rfl
  have u3 : (T : Int) ≤ (l.co : Int) := by omega
  have HPO := mkHid hpo
  clear hpo
  obtain ⟨W1, hW1⟩ : ∃ W1, W1 = w.alloc o := ⟨_, rfl⟩
  rw [← hW1] at HM HR1 HX1 c10 c6 b0 b1 b2
  rw [ho] at hW1
  clear ho
  rcases hpoE : l.po with _ | ad
  · have hpo0 := hpoE
    clear hpo0
    go_enter Tryd.func31, Tryd.ntmps31
    go_wp2_with fail
    rw [← hW1]
    clear hW1
    refine Calls.mono HM.out ?_
    rintro e w' ⟨rfl, hw'⟩
    rw [hw']
    clear hw' w' HM
    go_wp2_with fail
    go_cut [22] (fun q V => q = .bool false ∧ Hid (Eqw W1 V))
    case first =>
      go_region
      all_goals go_wp2_with fail
      all_goals
        go_meet
        case rel => exact ⟨rfl, eqw_drew _⟩
    case rest =>
    obtain ⟨rfl, hc2⟩ := hcut
    have hR2 := HR1.out.eqw hc2.out
    have HF : Hid (∀ n, Rep (wc.drewN n) a l H ∧ Nx a l l w (wc.drewN n)) := fun n => ⟨hR2.drewN n, (HX1.out.eqw hc2.out).eqw ⟨rfl, rfl, rfl, rfl⟩⟩
    have c6' := hR2.c6
    rw [hpoE] at c6'
    have b2' : wc.cell? ⟨w.heap.size, 2, none⟩ = some (.int .i64 (T : Int)) := (World.cell?_of_block (w := W1) (by rw [hc2.out.2.2.2])).trans b2
    have HPE := mkHid hpoE
    clear b0 b1 b2 c6 c10 HR1 HX1 hR2 hpoE
    go_wp2_with fail
    go_quiet (fail)
    all_goals go_wp2_with fail
    all_goals
      have HF1 := mkHid (HF.out nq)
      clear HF c6' b2'
      generalize wc.drewN nq = W2 at *
      go_loopw [31] (fun q wr => ∃ j : Nat, j ≤ H.order.length - T ∧ q = .int .i64 j ∧ Hid (Rep wr a l (backTo H T j) ∧ Nx a l l w wr)) (fun q _ => (H.order.length - T) - (intOf q).toNat)
      case atStart => exact ⟨0, Nat.zero_le _, rfl, HF1.out⟩
      case round =>
        obtain ⟨j, hjn, rfl, hq2⟩ := hrel
        obtain ⟨hr, hx⟩ := hq2.out
        clear hq2
        by_cases hlt : j < H.order.length - T
        · exfalso; have := (HPO.out.1 HPE.out).1; omega
        · have hje : j = H.order.length - T := by omega
          subst hje
          have HDr := mkHid (drawEnd_ok t e0 a l _ wr hr HD.out)
          have HX := mkHid hx
          have hagl : (backTo H T (H.order.length - T)).age = H.age := backTo_age H T _
          clear hr hx
          go_wp2_with fail
          refine Calls.mono HDr.out ?_
          rintro e w3 ⟨rfl, hr3, hx3⟩
          have c10 := hr3.c10
          have f10 := hr3.frozen 10
          have e1 : (drawH (backTo H T (H.order.length - T)) t e0).age = H.age := hagl
          rw [e1] at c10
          have HE : Hid (Rep (w3.setCell ⟨a, 10, none⟩ (.int .i64 ((H.age : Int) + 1))) a l { drawH (backTo H T (H.order.length - T)) t e0 with age := H.age + 1 } ∧ Nx a l l w (w3.setCell ⟨a, 10, none⟩ (.int .i64 ((H.age : Int) + 1)))) :=
            ⟨hr3.set (H' := { drawH (backTo H T (H.order.length - T)) t e0 with age := H.age + 1 }) 10 _ rfl rfl rfl rfl rfl, (HX.out.trans hx3).trans (Nx.fr (Fr.setCell (S := [a]) _ _ _ (by simp)))⟩
          clear hr3 hx3 e1 hagl
          go_wp2_with fail
          go_ret
          exact ⟨rfl, HE.out⟩
  · obtain ⟨g0, hg0⟩ := HPO.out.2 ad hpoE
    subst hg0
    go_enter Tryd.func31, Tryd.ntmps31
    go_wp2_with fail
    rw [← hW1]
    clear hW1
    refine Calls.mono HM.out ?_
    rintro e w' ⟨rfl, hw'⟩
    rw [hw']
    clear hw' w' HM
    go_wp2_with fail
    go_cut [22] (fun q V => q = .bool false ∧ Hid (Eqw W1 V))
    case first =>
      go_region
      all_goals go_wp2_with fail
      all_goals
        go_meet
        case rel => exact ⟨rfl, eqw_drew _⟩
    case rest =>
    obtain ⟨rfl, hc2⟩ := hcut
    have hR2 := HR1.out.eqw hc2.out
    have HF : Hid (∀ n, Rep (wc.drewN n) a l H ∧ Nx a l l w (wc.drewN n)) := fun n => ⟨hR2.drewN n, (HX1.out.eqw hc2.out).eqw ⟨rfl, rfl, rfl, rfl⟩⟩
    have c6' := hR2.c6
    rw [hpoE] at c6'
    have b2' : wc.cell? ⟨w.heap.size, 2, none⟩ = some (.int .i64 (T : Int)) := (World.cell?_of_block (w := W1) (by rw [hc2.out.2.2.2])).trans b2
    have HPE := mkHid hpoE
    clear b0 b1 b2 c6 c10 HR1 HX1 hR2 hpoE
    go_wp2_with fail
    go_quiet (fail)
    all_goals go_wp2_with fail
    all_goals
      have HF1 := mkHid (HF.out nq)
      clear HF c6' b2'
      generalize wc.drewN nq = W2 at *
      go_loopw [31] (fun q wr => ∃ j : Nat, j ≤ H.order.length - T ∧ q = .int .i64 j ∧ Hid (Rep wr a l (backTo H T j) ∧ Nx a l l w wr)) (fun q _ => (H.order.length - T) - (intOf q).toNat)
      case atStart => exact ⟨0, Nat.zero_le _, rfl, HF1.out⟩
      case round =>
        obtain ⟨j, hjn, rfl, hq2⟩ := hrel
        obtain ⟨hr, hx⟩ := hq2.out
        clear hq2
        by_cases hlt : j < H.order.length - T
        · first
          | (exfalso; omega)
          | (obtain ⟨v1, v2, v3⟩ := HK.out.vac j (by omega)
             obtain ⟨go, hgo, hco, hfo, hgoa, hgol⟩ := hr.orderAt (T + j) (by omega)
             have o1 := hco (T + j) (by omega)
             rw [v2] at o1
             have HV := mkHid (vacate_ok (H.order.getD (T + j) 0) a l _ wr hr v1)
             have k1 : (0 : Int) ≤ (j : Int) := by omega
             have k2 : (j : Int) < ((H.order.length - T : Nat) : Int) := by omega
             have HN : Hid (backTo H T (j + 1) = vacH (backTo H T j) (H.order.getD (T + j) 0)) := rfl
             have HX := mkHid hx
             have hgg : go = g0 := by rw [HPE.out] at hgo; injection hgo with hgo; injection hgo with hgo _ _; exact hgo.symm
             subst hgg
             generalize H.order.getD (T + j) 0 = oo at *
             clear hr hx hco hfo v1 v2 v3 hgo HPO
             go_wp2_with fail
             refine Calls.mono HV.out ?_
             rintro e w3 ⟨rfl, hr3, hx3⟩
             have HF3 := mkHid (And.intro hr3 (HX.out.trans hx3))
             clear hr3 hx3
             go_wp2_with fail
             go_roundw
             case rel => exact ⟨j + 1, by omega, by go_num, by rw [HN.out]; exact HF3.out⟩
             case measure => simp [intOf]; omega)
        · have hje : j = H.order.length - T := by omega
          subst hje
          have HDr := mkHid (drawEnd_ok t e0 a l _ wr hr HD.out)
          have HX := mkHid hx
          have hagl : (backTo H T (H.order.length - T)).age = H.age := backTo_age H T _
          clear hr hx
          go_wp2_with fail
          refine Calls.mono HDr.out ?_
          rintro e w3 ⟨rfl, hr3, hx3⟩
          have c10 := hr3.c10
          have f10 := hr3.frozen 10
          have e1 : (drawH (backTo H T (H.order.length - T)) t e0).age = H.age := hagl
          rw [e1] at c10
          have HE : Hid (Rep (w3.setCell ⟨a, 10, none⟩ (.int .i64 ((H.age : Int) + 1))) a l { drawH (backTo H T (H.order.length - T)) t e0 with age := H.age + 1 } ∧ Nx a l l w (w3.setCell ⟨a, 10, none⟩ (.int .i64 ((H.age : Int) + 1)))) :=
            ⟨hr3.set (H' := { drawH (backTo H T (H.order.length - T)) t e0 with age := H.age + 1 }) 10 _ rfl rfl rfl rfl rfl, (HX.out.trans hx3).trans (Nx.fr (Fr.setCell (S := [a]) _ _ _ (by simp)))⟩
          clear hr3 hx3 e1 hagl
          go_wp2_with fail
          go_ret
          exact ⟨rfl, HE.out⟩
end Go.Proofs.YtklfnjlenbgmoaaDoor

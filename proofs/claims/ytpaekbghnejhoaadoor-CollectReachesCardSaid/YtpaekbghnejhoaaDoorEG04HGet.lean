import Derived.Test.YtpaekbghnejhoaaDoorEG03HSlide
namespace Go.Proofs.YtpaekbghnejhoaaDoor
open Go.RowKit
set_option linter.unusedVariables false
attribute [local go_sem ↓] Go.wp_at_zero Go.wp_at_succ
theorem mem_cells_one {w : World} {a : Nat} {l : Lay} {H : HS} {C : Array Value} (hCl : C.toList = (H.mem ++ List.replicate (l.cm - H.mem.length) 0).map (Value.int .i64)) : ∀ v ∈ C.toList, v.oneCell' = true := by
  rw [hCl]; exact ints_oneCell _ _
theorem drop_take_map (M : List Int) (k p L : Nat) (h : p + L ≤ M.length) : (((M ++ List.replicate k 0).map (Value.int .i64)).drop p).take L = ((M.drop p).take L).map (Value.int .i64) := by
  rw [List.map_append, List.drop_append_of_le_length (by simp; omega), List.take_append_of_le_length (by simp; omega), List.map_take, List.map_drop]
theorem run_clear0 (w : World) (ty : TypeId) (ao : Option Addr) (c : Nat) : (Builtin.clear_ #[25] ty #[.slice ao 0 c]).run Tryd.prog w = .ok (.tuple #[]) w := by
  cases ao <;> simp [Builtin.clear_, run_underlying Tryd.underlying25]
theorem wpList_clear0 {ops : Array Oper} {rest : List Oper} {o : Oper} {a : Act} {w : World} {Q : Exit → Act → World → Prop} (hgd : o.guard = none) (d : Operand)
    (ho : o.op = .call { callee := .builtin .clear, args := #[d], argTypes := #[25] }) (ao : Option Addr) (c : Nat) (hd : a.eval d = .slice ao 0 c) (h : wpList Tryd.prog ops Q rest (a.put o.dst (.tuple #[])) w) : wpList Tryd.prog ops Q (o :: rest) a w := by
  refine wpList_plain hgd fun K hK => ?_
  have hrun := run_clear0 w o.type ao c
  unfold Oper.wp
  simp [execOp, ho, resolve, invoke, builtin, hd, hrun, Result.andThen]
  exact hK _ _ h
set_option maxRecDepth 20000 in
set_option maxHeartbeats 2000000 in
theorem slide_ok (a : Nat) (l : Lay) (H : HS) (w : World) (h : Rep w a l H) (hk : SlideOk H) :
    Calls Tryd.prog 75 #[.pointer (some ⟨a, 0, none⟩)] w fun e w' => e = .returned (.tuple #[]) ∧ Rep w' a l (slideH H) ∧ Nx a l l w w' := by
  have hal := h.lt a (by simp [foot])
  have c6 := h.c6
  have hr1 := hk.r1
  go_enter Tryd.func75, Tryd.ntmps75
  go_wp2
  go_loopw [2, 3, 12] (fun t e c wr => ∃ k : Nat, k ≤ H.order.length ∧ c = .int .i64 k ∧ t = .int .i64 ((slideTo H k).turns : Int) ∧ e = .int .i64 ((slideTo H k).en : Int) ∧ Hid (Rep wr a l (slideTo H k).H ∧ Nx a l l w wr)) (fun _ _ c _ => H.order.length - (intOf c).toNat)
  case atStart => exact ⟨0, Nat.zero_le _, rfl, rfl, rfl, h, Nx.refl _ _ _⟩
  case round =>
    obtain ⟨k, hkn, rfl, rfl, rfl, hq⟩ := hrel
    obtain ⟨hr, hx⟩ := hq.out
    clear hq h c6
    obtain ⟨l1, l2, l3, l4, l5⟩ := slideTo_len H hk k hkn
    have hst := hk.step k
    have hm1 := hk.m1
    have ht1 := hk.t1
    by_cases hlt : k < H.order.length
    · have hst := hst hlt
      have hnext : Hid (slideTo H (k + 1) = slideStep (slideTo H k) k) := rfl
      obtain ⟨x, hxx⟩ : ∃ x, x = slideTo H k := ⟨_, rfl⟩
      rw [← hxx] at hr l1 l2 l3 l4 l5 hst hnext
      rw [← hxx]
      clear hxx
      obtain ⟨Hk, tn, en⟩ := x
      dsimp only at *
      obtain ⟨go, hgo, hco, hfo, hgoa, hgol⟩ := hr.orderAt k (by omega)
      have o1 := hco k (by omega)
      have k1 : (0 : Int) ≤ (k : Int) := by omega
      have k2 : (k : Int) < (H.order.length : Int) := by omega
      have HK := mkHid hk
      have b1 : Hk.mem.length ≤ 1048576 := by omega
      have b2 : Hk.order.length ≤ 1048576 := by omega
      have b3 : Hk.seats.length ≤ 65538 := by omega
      have b4 : en ≤ Hk.mem.length := by omega
      have b5 : tn < Hk.order.length := by omega
      have LL := mkHid (And.intro l1 (And.intro l2 l3))
      clear l1 l2 l3 l5
      by_cases h0 : Hk.order.getD k 0 = 0
      · rw [h0] at o1
        have HN : Hid (slideTo H (k + 1) = ⟨Hk, tn, en⟩) := by
          rw [show slideTo H (k + 1) = slideStep ⟨Hk, tn, en⟩ k from hnext.out]
          unfold slideStep Hid
          rw [if_pos h0]
        have HR := mkHid hr
        have HX := mkHid hx
        rw [hgo]
        clear hr hx hco hfo hst hk hnext h0 hgo
        go_wp2
        go_roundw
        case rel => exact ⟨k + 1, by omega, by go_num, by rw [HN.out], by rw [HN.out], by rw [HN.out]; exact ⟨HR.out, HX.out⟩⟩
        case measure => simp [intOf]; omega
      · obtain ⟨z1, z2, z3, z4⟩ := hst h0
        have HN : Hid (slideTo H (k + 1) = ⟨{ Hk with mem := splice Hk.mem en ((Hk.mem.drop (Hk.seats.getD (Hk.order.getD k 0) (0, 0, 0)).1).take (Hk.seats.getD (Hk.order.getD k 0) (0, 0, 0)).2.1), seats := Hk.seats.set (Hk.order.getD k 0) (en, (Hk.seats.getD (Hk.order.getD k 0) (0, 0, 0)).2.1, tn), order := Hk.order.set tn (Hk.order.getD k 0) }, tn + 1, en + (Hk.seats.getD (Hk.order.getD k 0) (0, 0, 0)).2.1⟩) := by
          rw [show slideTo H (k + 1) = slideStep ⟨Hk, tn, en⟩ k from hnext.out]
          unfold slideStep Hid
          rw [if_neg h0]
        have hob : ((Hk.order.getD k 0 : Int) == 0) = false := by simpa using h0
        dsimp only at z1 z2 z3 z4
        clear hnext hst h0 hk
        generalize Hk.order.getD k 0 = o at *
        obtain ⟨gs, hgs, hcs, hfs, hgsa, hgsl⟩ := hr.seatAt o z1
        obtain ⟨q0, q1, q2⟩ := hcs o z1
        have c5 := hr.c5
        rw [hgs] at c5
        simp only [I] at q0 q1 q2
        obtain ⟨⟨p, L, t⟩, hs⟩ : ∃ s, s = Hk.seats.getD o (0, 0, 0) := ⟨_, rfl⟩
        rw [← hs] at z2 z3 z4 HN q0 q1 q2
        dsimp only at z2 z3 z4 HN q0 q1 q2
        clear hs hcs hfs
        have m0 : (0 : Int) ≤ (o : Int) := by omega
        have m1 : (o : Int) < (Hk.seats.length : Int) := by omega
        have HR := mkHid hr
        have HX := mkHid hx
        have hga2 := hr.lt a (by simp [foot])
        rw [hgo]
        clear hr hx hco hfo
        go_wp2
        go_cut [] (fun W => Hid (Rep W a l { Hk with mem := splice Hk.mem en ((Hk.mem.drop p).take L) } ∧ Nx a l l w W ∧ W.heap[wr.heap.size]? = some (.cells #[.int .i64 (p : Int), .int .i64 (L : Int), .int .i64 (t : Int)] 86 (0, 0))))
        case first =>
          obtain ⟨g, hg, _, _, hga, hgl⟩ := HR.out.memBlock (by omega)
          obtain ⟨C, hC, hCl, hCs, hcm⟩ := HR.out.memCells hg
          have hml := HR.out.ml
          have c4 := HR.out.c4
          rw [hg] at c4
          obtain ⟨o3, ho3⟩ : ∃ o3, o3 = Obj.cells #[.int .i64 (p : Int), .int .i64 (L : Int), .int .i64 (t : Int)] 86 := ⟨_, rfl⟩
          have C4 := (World.cell?_alloc_lt wr o3 ⟨a, 4, none⟩ (by show a < _; omega)).trans c4
          have hn3 := heap_alloc_new wr o3
          rw [ho3] at hn3
          have T0 := cell_in hn3 0
          have T1 := cell_in hn3 1
          rw [← ho3] at T0 T1
          simp only [List.getElem?_toArray, List.getElem?_cons_succ, List.getElem?_cons_zero] at T0 T1
          have hC3 : Hid ((wr.alloc o3).heap[g]? = some (.cells C 40 (0, 0)) ∧ Rep (wr.alloc o3) a l Hk ∧ Nx a l l w (wr.alloc o3) ∧ (wr.alloc o3).heap[wr.heap.size]? = some (.cells #[.int .i64 (p : Int), .int .i64 (L : Int), .int .i64 (t : Int)] 86 (0, 0)) ∧ wr.heap.size ≠ g ∧ wr.heap.size < (wr.alloc o3).heap.size) :=
            ⟨(Below.heap_alloc _ _ _ hgl).trans hC, HR.out.alloc _, HX.out.trans (Nx.frw (Fr.alloc _ _ _)), by rw [ho3]; exact heap_alloc_new _ _, by omega, by simp⟩
          have h1c := mem_cells_one (w := wr) (a := a) hCl
          have H1C := mkHid h1c
          have HCL := mkHid hCl
          rw [← ho3]
          clear ho3 hn3 hC hCl c4 q0 q1 q2 c5 h1c o1
          generalize wr.alloc o3 = w3 at *
          have j1 : (0 : Int) ≤ (p : Int) := by omega
          have j2 : (p : Int) + (L : Int) ≤ (l.cm : Int) := by omega
          have j4 : (p : Int) ≤ (p : Int) + (L : Int) := by omega
          have j5 : IntKind.i64.wrap ((p : Int) + (L : Int)) = (p : Int) + (L : Int) := by rw [iwrap]; unfold wrap64; omega
          have e1 : ((p : Int) + (L : Int)).toNat = p + L := by omega
          have hcp : ¬ l.cm = p := by omega
          have hce : ¬ l.cm = en := by omega
          have j6 : (0 : Int) ≤ (en : Int) := by omega
          have j7 : (en : Int) ≤ (Hk.mem.length : Int) := by omega
          generalize hmm : Hk.mem.length = m at *
          have HMM := mkHid hmm
          clear hmm
          go_region_held3 (fun w' => w'.cell? ⟨a, 4, none⟩ = some (.slice (some ⟨g, 0, none⟩) m l.cm) ∧ w'.cell? ⟨wr.heap.size, 0, none⟩ = some (.int .i64 (p : Int)) ∧ w'.cell? ⟨wr.heap.size, 1, none⟩ = some (.int .i64 (L : Int))) (go_keep)
            ((refine step_copy rfl (.tmp 30) (.tmp 42) rfl g en p (m - en) (l.cm - en) L (l.cm - p) (by simp [Act.eval]) (by simp [Act.eval]) C (by exact hC3.out.1) (by omega) (by omega) (by omega) H1C.out ?_; intro w4 hh1 hh2 hh3; have y4 := hh2.cell (p := ⟨a, 4, none⟩) (by exact (by have := hC3.out.2.1.lt a (by simp [foot]); exact this)) (by simp; omega); have z0 := hh2.cell (p := ⟨wr.heap.size, 0, none⟩) (by exact hC3.out.2.2.2.2.2) (by simp; exact hC3.out.2.2.2.2.1); have z1 := hh2.cell (p := ⟨wr.heap.size, 1, none⟩) (by exact hC3.out.2.2.2.2.2) (by simp; exact hC3.out.2.2.2.2.1)))
          all_goals go_wp2
          all_goals
            go_meet
            case rel =>
              have hfr : Fr [g] w3 w4 := Fr.trans (S' := [g]) (Fr.drew [g] w3) hh2 (fun b hb => .inl hb)
              rw [HCL.out, drop_take_map _ _ _ _ (by rw [HMM.out]; omega), ← HCL.out] at hh1
              have K := hC3.out.2.1.spliced hg hC3.out.1 (by rw [List.length_take, List.length_drop, HMM.out]; omega) hh1 hfr
              refine mkHid ⟨K.1, hC3.out.2.2.1.trans K.2, ?_⟩
              rw [hfr.block _ hC3.out.2.2.2.2.2 (by simp; exact hC3.out.2.2.2.2.1)]
              exact hC3.out.2.2.2.1
        case rest =>
          obtain ⟨w2, hw2⟩ : ∃ w2, w2 = wc := ⟨_, rfl⟩
          subst hw2
          clear q0 q1 q2 c5 o1 HR HX
          obtain ⟨hr, hx, hsb⟩ := hcut.out
          clear hcut
          obtain ⟨g2, hg2, hc2, hf2, _, hg2l⟩ := hr.seatAt o z1
          obtain ⟨q0, q1, q2⟩ := hc2 o z1
          have c5 := hr.c5
          rw [hg2] at c5
          have p0 := hf2 (o * 3)
          have p1 := hf2 (o * 3 + 1)
          have p2 := hf2 (o * 3 + 2)
          have T1 := cell_in hsb 1
          simp only [I, List.getElem?_toArray, List.getElem?_cons_succ, List.getElem?_cons_zero] at q0 q1 q2 T1
          dsimp only at c5 q0 q1 q2
          generalize (Hk.seats.getD o (0, 0, 0)).1 = y0 at *
          generalize (Hk.seats.getD o (0, 0, 0)).2.1 = y1 at *
          generalize (Hk.seats.getD o (0, 0, 0)).2.2 = y2 at *
          have hgn : g2 ≠ wr.heap.size := by
            rw [hgs] at hg2
            injection hg2 with e
            injection e with e
            omega
          have HE : Hid (∀ W, Eqw (((w2.setCell ⟨g2, o * 3, none⟩ (.int .i64 (en : Int))).setCell ⟨g2, o * 3 + 1, none⟩ (.int .i64 (L : Int))).setCell ⟨g2, o * 3 + 2, none⟩ (.int .i64 (tn : Int))) W → Rep W a l { Hk with mem := splice Hk.mem en ((Hk.mem.drop p).take L), seats := Hk.seats.set o (en, L, tn) } ∧ Nx a l l w W ∧ W.heap[wr.heap.size]? = some (.cells #[.int .i64 (p : Int), .int .i64 (L : Int), .int .i64 (t : Int)] 86 (0, 0))) := by
            intro W he
            have K := hr.setSeat hg2 o z1 (en, L, tn) W he
            refine ⟨K.1, hx.trans K.2, ?_⟩
            rw [he.2.2.2, set_else (Ne.symm hgn), set_else (Ne.symm hgn), set_else (Ne.symm hgn)]
            exact hsb
          clear hr hx hsb hc2 hf2
          go_wp2
          go_cut [] (fun W => Hid (Rep W a l { Hk with mem := splice Hk.mem en ((Hk.mem.drop p).take L), seats := Hk.seats.set o (en, L, tn) } ∧ Nx a l l w W ∧ W.heap[wr.heap.size]? = some (.cells #[.int .i64 (p : Int), .int .i64 (L : Int), .int .i64 (t : Int)] 86 (0, 0))))
          case first =>
            go_region
            all_goals go_wp2
            all_goals
              go_meet
              case rel =>
                refine mkHid (HE.out _ ?_)
                exact eqw_drew _
          case rest =>
            obtain ⟨w5, hw5⟩ : ∃ w5, w5 = wc := ⟨_, rfl⟩
            subst hw5
            clear q0 q1 q2 p0 p1 p2 c5 T1 HE
            obtain ⟨hr, hx, hsb⟩ := hcut.out
            clear hcut
            obtain ⟨g3, hg3, hc3, hf3, _, hg3l⟩ := hr.orderAt tn b5
            have o1 := hc3 tn b5
            have f1 := hf3 tn
            have c6 := hr.c6
            rw [hg3] at c6
            have T1 := cell_in hsb 1
            simp only [List.getElem?_toArray, List.getElem?_cons_succ, List.getElem?_cons_zero] at T1
            dsimp only at c6 o1
            have hgn3 : g3 ≠ wr.heap.size := by
              intro e
              obtain ⟨cur, hcur⟩ := own_blk hr.order g3 (by rw [hg3]; simp [blk])
              rw [e, hsb] at hcur
              simp at hcur
            have HE : Hid (∀ W, Eqw (w5.setCell ⟨g3, tn, none⟩ (.int .i64 (o : Int))) W → Rep W a l { Hk with mem := splice Hk.mem en ((Hk.mem.drop p).take L), seats := Hk.seats.set o (en, L, tn), order := Hk.order.set tn o } ∧ Nx a l l w W) := by
              intro W he
              have K := hr.setOrder hg3 tn o W he
              exact ⟨K.1, hx.trans K.2⟩
            generalize Hk.order.getD tn 0 = ov at *
            have n1 : (0 : Int) ≤ (tn : Int) := by omega
            have n2 : (tn : Int) < (Hk.order.length : Int) := by omega
            clear hr hx hsb hc3 hf3 hg3
            go_wp2
            go_quiet (fail)
            go_wp2
            go_roundw
            case rel => exact ⟨k + 1, by omega, by go_num, by rw [HN.out]; go_num, by rw [HN.out]; go_num, by rw [HN.out]; exact HE.out _ ⟨rfl, rfl, rfl, rfl⟩⟩
            case measure => simp [intOf]; omega
    · have hke : k = H.order.length := by omega
      subst hke
      have HSH : Hid (slideH H = { (slideTo H H.order.length).H with mem := (slideTo H H.order.length).H.mem.take (slideTo H H.order.length).en, order := (slideTo H H.order.length).H.order.take (slideTo H H.order.length).turns }) := rfl
      obtain ⟨x, hxx⟩ : ∃ x, x = slideTo H H.order.length := ⟨_, rfl⟩
      rw [← hxx] at hr l1 l2 l3 l4 l5 HSH
      rw [← hxx]
      clear hxx hst hk
      obtain ⟨Hk, tn, en⟩ := x
      dsimp only at *
      have b1 : Hk.mem.length ≤ 1048576 := by omega
      have b4 : en ≤ Hk.mem.length := by omega
      have b5 : tn ≤ Hk.order.length := by omega
      have HR := mkHid hr
      have HX1 := mkHid hx
      have c4 := hr.c4
      have hml := hr.ml
      have hal2 := hr.lt a (by simp [foot])
      have L2 := mkHid l2
      clear hx l1 l3 l5 hkn
      go_upto_region 11 with (fail)
      go_cut [] (fun W => Hid (∃ M, M.length = Hk.mem.length ∧ M.take en = Hk.mem.take en ∧ M = M.take en ++ List.replicate (M.length - en) 0 ∧ Rep W a l { Hk with mem := M } ∧ Nx a l l w W))
      case first =>
        by_cases hem : en < Hk.mem.length
        · obtain ⟨g, hg, _, _, hga, hgl⟩ := hr.memBlock (by omega)
          obtain ⟨C, hC, hCl, hCs, hcm⟩ := hr.memCells hg
          rw [hg] at c4
          have HC := mkHid hC
          have j6 : (0 : Int) ≤ (en : Int) := by omega
          have j7 : (en : Int) ≤ (Hk.mem.length : Int) := by omega
          have hce : ¬ l.cm = en := by omega
          clear hr hCl hC l2
          generalize hmm : Hk.mem.length = m at *
          have HMM := mkHid hmm
          clear hmm
          go_wp2_with (first
            | (refine wpList_clear rfl (.tmp 74) rfl g en (m - en) (l.cm - en) (by simp [Act.eval]) (by omega) C (by exact HC.out) (by omega) ?_; intro w4 hh1 hh2 hh3)
            | go_in)
          go_meet
          case rel =>
            rw [zeros_map] at hh1
            have K := HR.out.spliced (vs := List.replicate (m - en) 0) hg HC.out (by rw [HMM.out, List.length_replicate]; omega) hh1 hh2
            refine mkHid ⟨_, (length_splice Hk.mem en (List.replicate (m - en) 0) (by rw [HMM.out, List.length_replicate]; omega)).trans HMM.out, ?_, ?_, K.1, HX1.out.trans K.2⟩
            · unfold splice
              rw [List.take_append_of_le_length (by simp; rw [HMM.out]; omega), List.take_take, Nat.min_self]
            · have hl := HMM.out
              unfold splice
              simp only [List.length_replicate]
              rw [show en + (m - en) = Hk.mem.length from by omega, List.drop_length, List.append_nil, List.take_append_of_le_length (by simp; omega), List.take_take, Nat.min_self]
              congr 2
              simp
              omega
        · have hem' : en = Hk.mem.length := by omega
          have HZ : Hid (∃ M, M.length = Hk.mem.length ∧ M.take en = Hk.mem.take en ∧ M = M.take en ++ List.replicate (M.length - en) 0 ∧ Rep wr a l { Hk with mem := M } ∧ Nx a l l w wr) :=
            ⟨Hk.mem, rfl, rfl, by rw [hem', Nat.sub_self, List.take_length]; simp, hr, HX1.out⟩
          have j6 : (0 : Int) ≤ (en : Int) := by omega
          have j7 : (en : Int) ≤ (Hk.mem.length : Int) := by omega
          have j8 : Hk.mem.length - en = 0 := by omega
          clear hr l2 hem hem'
          generalize hmm : Hk.mem.length = m at *
          clear hmm
          go_wp2_with (first
            | (refine wpList_clear0 rfl (.tmp 74) rfl (if l.cm = en then l.pm else l.pm.map fun b => b.add en) (l.cm - en) (by simp [Act.eval]) ?_)
            | go_in)
          all_goals
            go_meet
            case rel => exact HZ
      case rest =>
        obtain ⟨w2, hw2⟩ : ∃ w2, w2 = wc := ⟨_, rfl⟩
        subst hw2
        clear c4 hr
        obtain ⟨M, m1, m2, m3, hr, hx⟩ := hcut.out
        clear hcut
        have HE : Hid (∀ W, Eqw ((w2.setCell ⟨a, 6, none⟩ (.slice l.po tn l.co)).setCell ⟨a, 4, none⟩ (.slice l.pm en l.cm)) W → Rep W a l (slideH H) ∧ Nx a l l w W) := by
          intro W he
          have K := hr.cut b5 (by rw [m1]; exact b4) m3 W he
          dsimp only at K
          rw [m2] at K
          rw [HSH.out]
          exact ⟨K.1, hx.trans K.2⟩
        have c4 := hr.c4
        have c6 := hr.c6
        have f4 := hr.frozen 4
        have f6 := hr.frozen 6
        dsimp only at c4 c6
        rw [m1] at c4
        have hcm := hr.ml
        dsimp only at hcm
        have hco : tn ≤ l.co ∧ (l.po = none → l.co = 0) ∧ (∀ ad, l.po = some ad → ∃ g, ad = ⟨g, 0, none⟩) := by
          have := hr.order
          rcases this.2 with ⟨q, q0⟩ | ⟨g, cap, cur, q1, q2, q3, q4, q5, q6, q7⟩
          · injection q with q1 q2 q3
            rw [q1, q3]
            dsimp only at q0
            exact ⟨by omega, (fun _ => rfl), (fun ad h => by cases h)⟩
          · injection q1 with q1 q1b q1c
            rw [q1, q1c]
            dsimp only at q4
            exact ⟨by omega, (fun h => by cases h), (fun ad h => ⟨g, by injection h with h; exact h.symm⟩)⟩
        have hpm : (l.pm = none → l.cm = 0) ∧ (∀ ad, l.pm = some ad → ∃ g, ad = ⟨g, 0, none⟩) := by
          have := hr.mem
          rcases this.2 with ⟨q, q0⟩ | ⟨g, cap, cur, q1, q2, q3, q4, q5, q6, q7⟩
          · injection q with q1 q2 q3
            rw [q1, q3]
            exact ⟨(fun _ => rfl), (fun ad h => by cases h)⟩
          · injection q1 with q1 q1b q1c
            rw [q1]
            exact ⟨(fun h => by cases h), (fun ad h => ⟨g, by injection h with h; exact h.symm⟩)⟩
        obtain ⟨hco1, hco2, hco3⟩ := hco
        have u1 : (0 : Int) ≤ (tn : Int) := by omega
        have u2 : (tn : Int) ≤ (l.co : Int) := by omega
        have u3 : (0 : Int) ≤ (en : Int) := by omega
        have u4 : (en : Int) ≤ (l.cm : Int) := by omega
        clear hr hx m2 m3 m1 l2 HSH HR HX1
        obtain ⟨pm, cm, ps, cs, po, co, pb, cb⟩ := l
        dsimp only at *
        rcases po with _ | ado
        · have e0 : tn = 0 ∧ co = 0 := by have := hco2 rfl; omega
          obtain ⟨e1, e2⟩ := e0
          subst e1 e2
          rcases pm with _ | adm
          · have e3 : cm = 0 := hpm.1 rfl
            have e4 : en = 0 := by omega
            subst e3 e4
            clear hco2 hco3 hpm
            go_wp2
            go_region
            all_goals go_wp2
            all_goals
              go_end0
              refine ⟨rfl, HE.out _ ?_⟩
              exact eqw_drew _
          · obtain ⟨gm, rfl⟩ := hpm.2 adm rfl
            clear hco2 hco3 hpm
            go_wp2
            go_region
            all_goals go_wp2
            all_goals
              go_end0
              refine ⟨rfl, HE.out _ ?_⟩
              exact eqw_drew _
        · obtain ⟨go, rfl⟩ := hco3 ado rfl
          rcases pm with _ | adm
          · have e3 : cm = 0 := hpm.1 rfl
            have e4 : en = 0 := by omega
            subst e3 e4
            clear hco2 hco3 hpm
            go_wp2
            go_region
            all_goals go_wp2
            all_goals
              go_end0
              refine ⟨rfl, HE.out _ ?_⟩
              exact eqw_drew _
          · obtain ⟨gm, rfl⟩ := hpm.2 adm rfl
            clear hco2 hco3 hpm
            go_wp2
            go_region
            all_goals go_wp2
            all_goals
              go_end0
              refine ⟨rfl, HE.out _ ?_⟩
              exact eqw_drew _
end Go.Proofs.YtpaekbghnejhoaaDoor


namespace Go.Proofs.YtpaekbghnejhoaaDoor
open Go.RowKit
set_option linter.unusedVariables false
attribute [local go_sem ↓] Go.wp_at_zero Go.wp_at_succ
theorem info4 : (Tryd.prog.info? 4).map (fun i => (i.zero, i.size, i.bytes)) = some (some (.bool false), 1, 1) := by kernel_rfl
def keptL (n : Nat) (ks : List Nat) : List Value := (List.range n).map fun i => .bool (decide (i ∈ ks))
theorem keptL_len (n : Nat) (ks : List Nat) : (keptL n ks).length = n := by simp [keptL]
theorem keptL_at (n : Nat) (ks : List Nat) (i : Nat) (h : i < n) : (keptL n ks)[i]? = some (.bool (decide (i ∈ ks))) := by simp [keptL, h]
theorem keptL_snoc (n : Nat) (ks : List Nat) (i : Nat) : (keptL n ks).set i (.bool true) = keptL n (ks ++ [i]) := by
  apply List.ext_getElem?
  intro j
  rw [List.getElem?_set]
  by_cases hj : j < n
  · by_cases hij : i = j
    · subst hij
      simp [keptL, hj]
    · rw [if_neg hij, keptL_at _ _ _ hj, keptL_at _ _ _ hj]
      have : ¬ j = i := fun e => hij e.symm
      simp [this]
  · have h1 : (keptL n ks).length ≤ j := by rw [keptL_len]; omega
    have h2 : (keptL n (ks ++ [i])).length ≤ j := by rw [keptL_len]; omega
    rw [List.getElem?_eq_none h2]
    by_cases hij : i = j
    · subst hij
      rw [if_pos rfl, if_neg (by omega)]
    · rw [if_neg hij, List.getElem?_eq_none h1]
theorem make_bools (n : Nat) (h2 : n ≤ 1048576) (W : World) :
    (Instr.makeSlice 99 (.int .i64 (n : Int)) (.int .i64 (n : Int))).run Tryd.prog W = .ok (.slice (some ⟨W.heap.size, 0, none⟩) n n) (W.alloc (.cells (keptL n []).toArray 4)) := by
  obtain ⟨i0, hi, hz0, hz1, hz2⟩ := info_parts info4
  have h := run_make (P := Tryd.prog) W 99 4 i0 (.bool false) Tryd.underlying99 hi hz0 .i64 .i64 n n (by omega) (by omega) (by rw [hz2]; omega) (by omega)
  have e : madeCells (Value.bool false).cells n = (keptL n []).toArray := by
    apply Array.toList_inj.1
    show (madeCells #[.bool false] n).toList = _
    rw [toList_madeCells_one]
    apply List.ext_getElem?
    intro j
    by_cases hj : j < n
    · rw [List.getElem?_replicate, if_pos hj]
      simp [keptL, hj]
    · rw [List.getElem?_replicate, if_neg hj, List.getElem?_eq_none (by rw [keptL_len]; omega)]
  rw [h, hz1, Nat.mul_one, Int.toNat_natCast, e]
def vacTo (H : HS) (ks : List Nat) : Nat → HS
  | 0 => H
  | k + 1 => if (vacTo H ks k).order.getD k 0 ≠ 0 ∧ (vacTo H ks k).order.getD k 0 ∉ ks then vacH (vacTo H ks k) ((vacTo H ks k).order.getD k 0) else vacTo H ks k
structure KeepOk (H : HS) (ks : List Nat) : Prop where
  all : ∀ j ∈ ks, 1 ≤ j ∧ j < H.seats.length ∧ (H.seats.getD j (0, 0, 0)).2.1 ≠ 0
  vac : ∀ k, k < H.order.length → (vacTo H ks k).order.getD k 0 ≠ 0 → (vacTo H ks k).order.getD k 0 < H.seats.length ∧ ((vacTo H ks k).order.getD k 0 ∉ ks → VacOk (vacTo H ks k) ((vacTo H ks k).order.getD k 0))
  sl : SlideOk (vacTo H ks H.order.length)
  m1 : H.mem.length ≤ 1048576
  r1 : H.order.length ≤ 1048576
  t1 : H.seats.length ≤ 65538
  c1 : H.count ≤ 65536
  a1 : H.age ≤ 1000000000
theorem vacTo_len (H : HS) (ks : List Nat) (hk : KeepOk H ks) : ∀ k, k ≤ H.order.length → (vacTo H ks k).mem.length = H.mem.length ∧ (vacTo H ks k).order.length = H.order.length ∧ (vacTo H ks k).seats.length = H.seats.length ∧ (vacTo H ks k).count ≤ H.count ∧ (vacTo H ks k).age = H.age := by
  intro k
  induction k with
  | zero => intro _; exact ⟨rfl, rfl, rfl, Nat.le_refl _, rfl⟩
  | succ k ih =>
    intro hle
    obtain ⟨h1, h2, h3, h4, h5⟩ := ih (by omega)
    have hv := hk.vac k (by omega)
    unfold vacTo
    split
    · rename_i hc
      have hq := (hv hc.1).2 hc.2
      have := hq.s2
      unfold vacH remH wipeH
      refine ⟨?_, by simpa using h2, by simpa using h3, by dsimp only; omega, h5⟩
      dsimp only
      rw [length_splice _ _ _ (by rw [List.length_replicate]; omega)]
      exact h1
    · exact ⟨h1, h2, h3, h4, h5⟩
theorem slideTo_rest (H : HS) : ∀ k, (slideTo H k).H.count = H.count ∧ (slideTo H k).H.age = H.age := by
  intro k
  induction k with
  | zero => exact ⟨rfl, rfl⟩
  | succ k ih =>
    show (slideStep (slideTo H k) k).H.count = _ ∧ (slideStep (slideTo H k) k).H.age = _
    unfold slideStep
    split
    · exact ih
    · exact ih
theorem slideH_len (H : HS) (hk : SlideOk H) : (slideH H).mem.length ≤ H.mem.length ∧ (slideH H).count = H.count ∧ (slideH H).age = H.age := by
  have h1 := slideTo_len H hk H.order.length (Nat.le_refl _)
  have h2 := slideTo_rest H H.order.length
  refine ⟨?_, h2.1, h2.2⟩
  show ((slideTo H H.order.length).H.mem.take _).length ≤ _
  rw [List.length_take]
  omega
def keepH (H : HS) (ks : List Nat) : HS := { slideH (vacTo H ks H.order.length) with age := H.age + 1 }
set_option maxRecDepth 20000 in
set_option maxHeartbeats 2000000 in
theorem Keep_any (ks : List Nat) (ao : Option Addr) (c : Nat) (a : Nat) (l : Lay) (H : HS) (w : World) (h : Rep w a l H) (hk : KeepOk H ks) (hin : ∀ j, j < ks.length → ∃ b, ao = some ⟨b, 0, none⟩ ∧ b < w.heap.size ∧ b ∉ foot a l ∧ w.cell? ⟨b, j, none⟩ = some (.int .i64 (ks.getD j 0 : Nat))) (hkl : (ks.length : Int) ≤ 9223372036854775807) :
    Calls Tryd.prog 39 #[.pointer (some ⟨a, 0, none⟩), .slice ao ks.length c] w fun e w' => e = .returned (.tuple #[.int .i64 ((H.count : Int) - (keepH H ks).count), .int .i64 ((H.mem.length : Int) - (keepH H ks).mem.length), .int .i64 0]) ∧ Rep w' a l (keepH H ks) ∧ Nx a l l w w' := by
  have hal := h.lt a (by simp [foot])
  have c0 := h.c0
  have c5 := h.c5
  have hmk := make_bools H.seats.length (by have := hk.t1; omega)
  have HK := mkHid hk
  have HR := mkHid h
  have HIN := mkHid hin
  have ht1 := hk.t1
  clear hk h hin
  go_enter Tryd.func39, Tryd.ntmps39
  go_wp2_with (go_at_call 40; refine (made_any _ _ c0).mono ?_; rintro e w1 ⟨rfl, hw1⟩; rw [hw1]; clear hw1 w1)
  go_loopw [27] (fun q wr => ∃ k : Nat, k ≤ ks.length ∧ q = .int .i64 k ∧ Hid (Rep wr a l H ∧ Nx a l l w wr ∧ wr.heap[w.heap.size]? = some (.cells (keptL H.seats.length (ks.take k)).toArray 4 (0, 0)))) (fun q _ => ks.length - (intOf q).toNat)
  case atStart => exact ⟨0, Nat.zero_le _, rfl, HR.out.alloc _, Nx.frw (Fr.alloc _ _ _), heap_alloc_new _ _⟩
  case round =>
    obtain ⟨k, hkn, rfl, hq⟩ := hrel
    obtain ⟨hr, hx, hkb⟩ := hq.out
    clear hq
    by_cases hlt : k < ks.length
    · obtain ⟨j, hj⟩ : ∃ j, j = ks.getD k 0 := ⟨_, rfl⟩
      obtain ⟨b, rfl, hb, hbn, hin⟩ := HIN.out k hlt
      have hin := (hx.1.cell (p := ⟨b, k, none⟩) hb hbn).trans hin
      rw [← hj] at hin
      have hmem : j ∈ ks := by rw [hj]; simp [hlt]
      obtain ⟨j1, j2, j3⟩ := HK.out.all j hmem
      have HSO := mkHid (seatOf_yes j a l H wr hr (by omega) (by omega) j3)
      have HT : Hid (ks.take (k + 1) = ks.take k ++ [j]) := by
        unfold Hid
        rw [hj, List.take_succ_eq_append_getElem hlt]
        simp [hlt]
      obtain ⟨⟨p, L, t⟩, hs⟩ : ∃ s, s = H.seats.getD j (0, 0, 0) := ⟨_, rfl⟩
      rw [← hs] at HSO
      dsimp only [sv, I] at HSO
      have k1 : (0 : Int) ≤ (k : Int) := by omega
      have k2 : (k : Int) < (ks.length : Int) := by omega
      have k3 : (0 : Int) ≤ (j : Int) := by omega
      have k4 : (j : Int) < (H.seats.length : Int) := by omega
      have hkl2 := lt_of_heap hkb
      have HRr := mkHid hr
      have HXr := mkHid hx
      have HKB := mkHid hkb
      clear hr hx hkb hs j3 hmem hj
      go_wp2_with fail
      refine Calls.mono HSO.out ?_
      rintro e w1 ⟨rfl, hf1⟩
      have z1 := hf1.size
      have hkb1 := (hf1.block _ hkl2 (by simp)).trans HKB.out
      have hkb2 := (Below.heap_alloc w1 (.cells #[.int .i64 (p : Int), .int .i64 (L : Int), .int .i64 (t : Int)] 86) w.heap.size (by omega)).trans hkb1
      have cl := cell_in hkb2 j
      have fl := frozen_in hkb2 j
      rw [List.getElem?_toArray, keptL_at _ _ _ (by omega)] at cl
      have HE : Hid (∀ W, Eqw ((w1.alloc (.cells #[.int .i64 (p : Int), .int .i64 (L : Int), .int .i64 (t : Int)] 86)).setCell ⟨w.heap.size, j, none⟩ (.bool true)) W → Rep W a l H ∧ Nx a l l w W ∧ W.heap[w.heap.size]? = some (.cells (keptL H.seats.length (ks.take (k + 1))).toArray 4 (0, 0))) := by
        intro W he
        have F1 : Fr [] wr (w1.alloc (.cells #[.int .i64 (p : Int), .int .i64 (L : Int), .int .i64 (t : Int)] 86)) := hf1.trans (Fr.alloc [] _ _) (by simp)
        have hr1 := HRr.out.keep F1 (by simp)
        have hnf : w.heap.size ∉ foot a l := fun hm => by have := HR.out.lt _ hm; omega
        refine ⟨(hr1.congr fun g hg => set_else (fun e => hnf (by rw [← e]; exact hg))).eqw he, Nx.eqw ⟨?_, fun b hb => .inl hb⟩ he, ?_⟩
        · refine (HXr.out.1.trans (F1.mono (S' := foot a l) (by simp)) (fun b hb => .inl hb)).trans (Fr.setCell (S := [w.heap.size]) _ _ _ (by simp)) (fun b hb => by simp at hb; subst hb; right; exact Nat.le_refl _)
        · rw [he.2.2.2, set_in hkb2 j (.bool true), HT.out, ← keptL_snoc]
          simp
      have HF1 := mkHid hf1
      generalize decide (j ∈ ks.take k) = old at *
      clear hf1 hkb1 hkb2 HSO
      go_wp2
      go_roundw
      case rel => exact ⟨k + 1, by omega, by go_num, HE.out _ ⟨rfl, rfl, rfl, rfl⟩⟩
      case measure => simp [intOf]; omega
    · have hke : k = ks.length := by omega
      subst hke
      rw [List.take_length] at hkb
      have c4 := hr.c4
      have c6 := hr.c6
      have c9 := hr.c9
      have hc1 := HK.out.c1
      have hr1 := HK.out.r1
      have HRr := mkHid hr
      have HXr := mkHid hx
      have HKB := mkHid hkb
      clear hr hx hkb hkn
      go_wp2
      go_quiet (fail)
      go_wp2
      go_loopw [59] (fun q W => ∃ k : Nat, k ≤ H.order.length ∧ q = .int .i64 k ∧ Hid (Rep W a l (vacTo H ks k) ∧ Nx a l l w W ∧ W.heap[w.heap.size]? = some (.cells (keptL H.seats.length ks).toArray 4 (0, 0)))) (fun q _ => H.order.length - (intOf q).toNat)
      case atStart => exact ⟨0, Nat.zero_le _, rfl, HRr.out.congr fun _ _ => rfl, HXr.out.eqw ⟨rfl, rfl, rfl, rfl⟩, HKB.out⟩
      case round =>
        clear c4 c6 c9
        obtain ⟨k, hkn, rfl, hq⟩ := hrel
        obtain ⟨hr, hx, hkb⟩ := hq.out
        clear hq
        obtain ⟨l1, l2, l3, l4, l5⟩ := vacTo_len H ks HK.out k hkn
        by_cases hlt : k < H.order.length
        · have hv := HK.out.vac k hlt
          have hnext : Hid (vacTo H ks (k + 1) = if (vacTo H ks k).order.getD k 0 ≠ 0 ∧ (vacTo H ks k).order.getD k 0 ∉ ks then vacH (vacTo H ks k) ((vacTo H ks k).order.getD k 0) else vacTo H ks k) := rfl
          obtain ⟨Hk, hHk⟩ : ∃ x, x = vacTo H ks k := ⟨_, rfl⟩
          rw [← hHk] at hr l1 l2 l3 l4 l5 hv hnext
          clear hHk
          obtain ⟨go, hgo, hco, hfo, hgoa, hgol⟩ := hr.orderAt k (by omega)
          have o1 := hco k (by omega)
          have k1 : (0 : Int) ≤ (k : Int) := by omega
          have k2 : (k : Int) < (H.order.length : Int) := by omega
          generalize Hk.order.getD k 0 = o at *
          have HR2 := mkHid hr
          have HX2 := mkHid hx
          rw [hgo]
          clear hco hfo l1 l2 l4 l5
          by_cases h0 : o = 0
          · subst h0
            have HN : Hid (vacTo H ks (k + 1) = Hk) := by
              rw [hnext.out]
              unfold Hid
              rw [if_neg (by simp)]
            clear hnext hv hr hx l3
            have HKB2 := mkHid hkb
            clear hkb
            go_wp2
            go_roundw
            case rel => exact ⟨k + 1, by omega, by go_num, by rw [HN.out]; exact ⟨HR2.out, HX2.out, HKB2.out⟩⟩
            case measure => simp [intOf]; omega
          · have hob : ((o : Int) != 0) = true := by rw [bne_iff_ne]; omega
            obtain ⟨v1, v2⟩ := hv h0
            have cl := cell_in hkb o
            rw [List.getElem?_toArray, keptL_at _ _ _ v1] at cl
            have k3 : (0 : Int) ≤ (o : Int) := by omega
            have k4 : (o : Int) < (H.seats.length : Int) := by omega
            by_cases hin : o ∈ ks
            · rw [decide_eq_true hin] at cl
              have HN : Hid (vacTo H ks (k + 1) = Hk) := by
                rw [hnext.out]
                unfold Hid
                rw [if_neg (fun h => h.2 hin)]
              have HKB2 := mkHid hkb
              clear hnext v2 hr hx l3 hkb hin
              go_wp2
              go_roundw
              case rel => exact ⟨k + 1, by omega, by go_num, by rw [HN.out]; exact ⟨HR2.out, HX2.out, HKB2.out⟩⟩
              case measure => simp [intOf]; omega
            · rw [decide_eq_false hin] at cl
              have HN : Hid (vacTo H ks (k + 1) = vacH Hk o) := by
                rw [hnext.out]
                unfold Hid
                rw [if_pos ⟨h0, hin⟩]
              have HV := mkHid (vacate_ok o a l Hk wr hr (v2 hin))
              have HKB2 := mkHid hkb
              have hkl2 := lt_of_heap hkb
              have hnf : Hid (w.heap.size ∉ foot a l) := fun hm => by have := HR.out.lt _ hm; omega
              clear hnext v2 hr hx l3 hkb hin h0
              go_wp2_with fail
              refine Calls.mono HV.out ?_
              rintro e w2 ⟨rfl, hr2, hx2⟩
              have HF : Hid (Rep w2 a l (vacH Hk o) ∧ Nx a l l w w2 ∧ w2.heap[w.heap.size]? = some (.cells (keptL H.seats.length ks).toArray 4 (0, 0))) :=
                ⟨hr2, HX2.out.trans hx2, (hx2.1.block _ hkl2 hnf.out).trans HKB2.out⟩
              clear hr2 hx2 HV
              go_wp2
              go_roundw
              case rel => exact ⟨k + 1, by omega, by go_num, by rw [HN.out]; exact HF.out⟩
              case measure => simp [intOf]; omega
        · have hke : k = H.order.length := by omega
          subst hke
          have HKH : Hid (keepH H ks = { slideH (vacTo H ks H.order.length) with age := H.age + 1 }) := rfl
          have HSL := mkHid (slide_ok a l _ wr hr HK.out.sl)
          have hsl := slideH_len (vacTo H ks H.order.length) HK.out.sl
          have ha1 := HK.out.a1
          have hm1 := HK.out.m1
          obtain ⟨Hk, hHk⟩ : ∃ x, x = vacTo H ks H.order.length := ⟨_, rfl⟩
          rw [← hHk] at HKH HSL l1 l4 l5 hsl
          obtain ⟨Hs, hHs⟩ : ∃ x, x = slideH Hk := ⟨_, rfl⟩
          rw [← hHs] at HKH HSL hsl
          have HX2 := mkHid hx
          clear hr hx hkb l2 l3 hHk
          go_wp2_with fail
          refine Calls.mono HSL.out ?_
          rintro e w2 ⟨rfl, hr2, hx2⟩
          have d4 := hr2.c4
          have d9 := hr2.c9
          have d10 := hr2.c10
          have e10 := hr2.frozen 10
          have b1 : (Hs.mem.length : Int) ≤ 1048576 := by omega
          have b2 : (Hs.count : Int) ≤ 65536 := by omega
          have b3 : (Hs.age : Int) ≤ 1000000000 := by omega
          have HAG : Hid (Hs.age = H.age) := by unfold Hid; omega
          have HF : Hid (∀ W, Eqw (w2.setCell ⟨a, 10, none⟩ (.int .i64 ((Hs.age : Int) + 1))) W → Rep W a l (keepH H ks) ∧ Nx a l l w W) := by
            intro W he
            rw [HKH.out, ← HAG.out]
            have K := hr2.set (H' := { Hs with age := Hs.age + 1 }) 10 (.int .i64 ((Hs.age : Int) + 1)) rfl rfl rfl rfl rfl
            exact ⟨K.eqw he, ((HX2.out.trans hx2).trans (Nx.fr (Fr.setCell (S := [a]) _ _ _ (by simp)))).eqw he⟩
          clear hr2 hx2 HSL l1 l4 l5 hsl hHs
          go_wp2
          go_quiet (fail)
          go_wp2
          go_ret3
          refine ⟨?_, HF.out _ ⟨rfl, rfl, rfl, rfl⟩⟩
          rw [HKH.out]
          rfl
theorem Keep_ok (ks : List Nat) (b c : Nat) (a : Nat) (l : Lay) (H : HS) (w : World) (h : Rep w a l H) (hk : KeepOk H ks) (hb : b < w.heap.size) (hbn : b ∉ foot a l) (hin : ∀ j, j < ks.length → w.cell? ⟨b, j, none⟩ = some (.int .i64 (ks.getD j 0 : Nat))) (hkl : (ks.length : Int) ≤ 1000000000) :
    Calls Tryd.prog 39 #[.pointer (some ⟨a, 0, none⟩), .slice (some ⟨b, 0, none⟩) ks.length c] w fun e w' => e = .returned (.tuple #[.int .i64 ((H.count : Int) - (keepH H ks).count), .int .i64 ((H.mem.length : Int) - (keepH H ks).mem.length), .int .i64 0]) ∧ Rep w' a l (keepH H ks) ∧ Nx a l l w w' :=
  Keep_any ks (some ⟨b, 0, none⟩) c a l H w h hk (fun j hj => ⟨b, rfl, hb, hbn, hin j hj⟩) (by omega)
end Go.Proofs.YtpaekbghnejhoaaDoor


namespace Go.Proofs.YtpaekbghnejhoaaDoor
open Go.RowKit
set_option linter.unusedVariables false
attribute [local go_sem ↓] Go.wp_at_zero Go.wp_at_succ
theorem has_yes {H : HS} {oop : Nat} (h : has H oop = true) : (1 : Int) ≤ oop ∧ (oop : Int) < H.seats.length ∧ (H.seats.getD oop (0, 0, 0)).2.1 ≠ 0 := by
  have := of_decide_eq_true h
  simpa using this
theorem seatOf_none (oop : Int) (a : Nat) (l : Lay) (H : HS) (w : World) (h : Rep w a l H) (hh : has H oop = false) :
    Calls Tryd.prog 48 #[.pointer (some ⟨a, 0, none⟩), .int .i64 oop] w fun e w' => e = .returned (.tuple #[.agg #[.int .i64 0, .int .i64 0, .int .i64 0], .int .i64 20]) ∧ Fr [] w w' := seatOf_no oop a l H w h hh
set_option maxHeartbeats 1000000 in
theorem Class_no (oop : Int) (a : Nat) (l : Lay) (H : HS) (w : World) (h : Rep w a l H) (hh : has H oop = false) :
    Calls Tryd.prog 85 #[.pointer (some ⟨a, 0, none⟩), .int .i64 oop] w fun e w' => e = .returned (.tuple #[.int .i64 0, .int .i64 20]) ∧ Fr [] w w' := by
  have HSO := mkHid (seatOf_none oop a l H w h hh)
  clear h hh
  go_enter Tryd.func85, Tryd.ntmps85
  go_wp2_with fail
  refine Calls.mono HSO.out ?_
  rintro e w1 ⟨rfl, hf1⟩
  have HF := mkHid (hf1.trans (Fr.alloc [] w1 (.cells #[.int .i64 0, .int .i64 0, .int .i64 0] 86)) (by simp))
  clear hf1 HSO
  go_wp2
  go_ret2
  exact ⟨rfl, HF.out⟩
set_option maxHeartbeats 1000000 in
theorem Size_no (oop : Int) (a : Nat) (l : Lay) (H : HS) (w : World) (h : Rep w a l H) (hh : has H oop = false) :
    Calls Tryd.prog 87 #[.pointer (some ⟨a, 0, none⟩), .int .i64 oop] w fun e w' => e = .returned (.tuple #[.int .i64 0, .int .i64 0, .int .i64 20]) ∧ Fr [] w w' := by
  have HSO := mkHid (seatOf_none oop a l H w h hh)
  clear h hh
  go_enter Tryd.func87, Tryd.ntmps87
  go_wp2_with fail
  refine Calls.mono HSO.out ?_
  rintro e w1 ⟨rfl, hf1⟩
  have HF := mkHid (hf1.trans (Fr.alloc [] w1 (.cells #[.int .i64 0, .int .i64 0, .int .i64 0] 86)) (by simp))
  clear hf1 HSO
  go_wp2
  go_ret3
  exact ⟨rfl, HF.out⟩
set_option maxHeartbeats 1000000 in
theorem Put_no (oop i v : Int) (a : Nat) (l : Lay) (H : HS) (w : World) (h : Rep w a l H) (hh : has H oop = false) :
    Calls Tryd.prog 16 #[.pointer (some ⟨a, 0, none⟩), .int .i64 oop, .int .i64 i, .int .i64 v] w fun e w' => e = .returned (.int .i64 20) ∧ Fr [] w w' := by
  have HSO := mkHid (seatOf_none oop a l H w h hh)
  clear h hh
  go_enter Tryd.func16, Tryd.ntmps16
  go_wp2_with fail
  refine Calls.mono HSO.out ?_
  rintro e w1 ⟨rfl, hf1⟩
  have HF := mkHid (hf1.trans (Fr.alloc [] w1 (.cells #[.int .i64 0, .int .i64 0, .int .i64 0] 86)) (by simp))
  clear hf1 HSO
  go_wp2
  go_ret
  exact ⟨rfl, HF.out⟩
set_option maxHeartbeats 1000000 in
theorem At_no (oop i : Int) (a : Nat) (l : Lay) (H : HS) (w : World) (h : Rep w a l H) (hh : has H oop = false) :
    Calls Tryd.prog 17 #[.pointer (some ⟨a, 0, none⟩), .int .i64 oop, .int .i64 i] w fun e w' => e = .returned (.tuple #[.int .i64 0, .int .i64 20]) ∧ Fr [] w w' := by
  have HSO := mkHid (seatOf_none oop a l H w h hh)
  clear h hh
  go_enter Tryd.func17, Tryd.ntmps17
  go_wp2_with fail
  refine Calls.mono HSO.out ?_
  rintro e w1 ⟨rfl, hf1⟩
  have HF := mkHid (hf1.trans (Fr.alloc [] w1 (.cells #[.int .i64 0, .int .i64 0, .int .i64 0] 86)) (by simp))
  clear hf1 HSO
  go_wp2
  go_ret2
  exact ⟨rfl, HF.out⟩
set_option maxRecDepth 20000 in
set_option maxHeartbeats 1000000 in
theorem Class_ok (oop : Nat) (a : Nat) (l : Lay) (H : HS) (w : World) (h : Rep w a l H) (hi : has H oop = true) (hm : (H.seats.getD oop (0, 0, 0)).1 < H.mem.length) (hb : (H.mem.length : Int) ≤ 1048576) :
    Calls Tryd.prog 85 #[.pointer (some ⟨a, 0, none⟩), .int .i64 oop] w fun e w' => e = .returned (.tuple #[.int .i64 (H.mem.getD (H.seats.getD oop (0, 0, 0)).1 0), .int .i64 0]) ∧ Fr [] w w' := by
  obtain ⟨h1, h2, h3⟩ := has_yes hi
  have HSO := mkHid (seatOf_yes oop a l H w h h1 h2 h3)
  obtain ⟨g, hg, hcg, hfg, hga, hgl⟩ := h.memBlock (by omega)
  have q := hcg _ hm
  have c4 := h.c4
  rw [hg] at c4
  have hal := h.lt a (by simp [foot])
  obtain ⟨⟨p, L, t⟩, hs⟩ : ∃ s, s = H.seats.getD oop (0, 0, 0) := ⟨_, rfl⟩
  rw [← hs] at HSO hm q
  rw [← hs]
  dsimp only [sv, I] at *
  clear h hcg hfg hs h1 h2 h3 hi
  generalize H.mem.getD p 0 = v at *
  generalize H.mem.length = m at *
  have k1 : (0 : Int) ≤ (p : Int) := by omega
  have k2 : (p : Int) < (m : Int) := by omega
  go_enter Tryd.func85, Tryd.ntmps85
  go_wp2_with fail
  refine Calls.mono HSO.out ?_
  rintro e w1 ⟨rfl, hf1⟩
  have z1 := hf1.size
  have d4 := (hf1.cell (p := ⟨a, 4, none⟩) hal (by simp)).trans c4
  have dq := (hf1.cell (p := ⟨g, p, none⟩) hgl (by simp)).trans q
  have D4 := (World.cell?_alloc_lt w1 (.cells #[.int .i64 (p : Int), .int .i64 (L : Int), .int .i64 (t : Int)] 86) ⟨a, 4, none⟩ (by show a < _; omega)).trans d4
  have DQ := (World.cell?_alloc_lt w1 (.cells #[.int .i64 (p : Int), .int .i64 (L : Int), .int .i64 (t : Int)] 86) ⟨g, p, none⟩ (by show g < _; omega)).trans dq
  have HF := mkHid (hf1.trans (Fr.alloc [] w1 (.cells #[.int .i64 (p : Int), .int .i64 (L : Int), .int .i64 (t : Int)] 86)) (by simp))
  clear hf1 HSO d4 dq
  go_wp2
  go_quiet (fail)
  go_wp2
  go_ret2
  exact ⟨rfl, HF.out.trans (Fr.drewN [] _ _) (by simp)⟩
set_option maxRecDepth 20000 in
set_option maxHeartbeats 1000000 in
theorem Size_ok (oop n f : Nat) (a : Nat) (l : Lay) (H : HS) (w : World) (h : Rep w a l H) (hi : has H oop = true) (hb : (H.mem.length : Int) ≤ 1048576) (h4 : (H.seats.getD oop (0, 0, 0)).1 + 1 < H.mem.length) (h5 : H.mem.getD ((H.seats.getD oop (0, 0, 0)).1 + 1) 0 = ((2 * n + f : Nat) : Int)) (hf : (f : Int) ≤ 1) :
    Calls Tryd.prog 87 #[.pointer (some ⟨a, 0, none⟩), .int .i64 oop] w fun e w' => e = .returned (.tuple #[.int .i64 n, .int .i64 f, .int .i64 0]) ∧ Fr [] w w' := by
  obtain ⟨h1, h2, h3⟩ := has_yes hi
  have HSO := mkHid (seatOf_yes oop a l H w h h1 h2 h3)
  obtain ⟨⟨p, L, t⟩, hs⟩ : ∃ s, s = H.seats.getD oop (0, 0, 0) := ⟨_, rfl⟩
  rw [← hs] at HSO h4 h5
  have HSH : Hid (∀ W, Rep W a l H → Calls Tryd.prog 49 #[.pointer (some ⟨a, 0, none⟩), .agg #[.int .i64 (p : Int), .int .i64 (L : Int), .int .i64 (t : Int)]] W fun e w' => e = .returned (.tuple #[.int .i64 (n : Int), .int .i64 (f : Int)]) ∧ Fr [] W w') := by
    intro W hW
    have := shape_of (p, L, t) (2 * n + f) a l H W hW h4 h5 hb
    rw [show (2 * n + f) / 2 = n from by omega, show (2 * n + f) % 2 = f from by omega] at this
    exact this
  have HR := mkHid h
  clear h hs h1 h2 h3 hi h4 h5
  dsimp only [sv, I] at HSO
  go_enter Tryd.func87, Tryd.ntmps87
  go_wp2_with fail
  refine Calls.mono HSO.out ?_
  rintro e w1 ⟨rfl, hf1⟩
  have F2 : Fr [] w (w1.alloc (.cells #[.int .i64 (p : Int), .int .i64 (L : Int), .int .i64 (t : Int)] 86)) := hf1.trans (Fr.alloc [] _ _) (by simp)
  have HF2 := mkHid F2
  clear hf1 HSO F2
  go_wp2_with fail
  refine Calls.mono (HSH.out _ (HR.out.keep HF2.out (by simp))) ?_
  rintro e w2 ⟨rfl, hf2⟩
  have HF := mkHid (HF2.out.trans hf2 (by simp))
  clear hf2 HSH HF2
  go_wp2
  go_ret3
  exact ⟨rfl, HF.out⟩
end Go.Proofs.YtpaekbghnejhoaaDoor



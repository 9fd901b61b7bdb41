import Derived.Test.YtpaekbghnejhoaaDoorKG15CNm
import Derived.Test.YtpaekbghnejhoaaDoorKG12CMarked
import Derived.Test.YtpaekbghnejhoaaDoorKG10HTakesN
namespace Go.Proofs.YtpaekbghnejhoaaDoor
open Go.RowKit
set_option linter.unusedVariables false
attribute [local go_sem ↓] Go.wp_at_zero Go.wp_at_succ
def slen : Value → Nat
  | .slice _ n _ => n
  | _ => 0
def bnat : Value → Nat
  | .bool true => 1
  | _ => 0
theorem nodup_le : ∀ (l m : List Int), l.Nodup → (∀ x ∈ l, x ∈ m) → l.length ≤ m.length
  | [], m, _, _ => by simp
  | x :: l, m, hd, h => by
    have hx := h x (by simp)
    have h1 := nodup_le l (m.erase x) (List.nodup_cons.1 hd).2 (fun y hy => (List.mem_erase_of_ne (fun e => (List.nodup_cons.1 hd).1 (by rw [← e]; exact hy))).2 (h y (by simp [hy])))
    rw [List.length_erase_of_mem hx] at h1
    have := List.length_pos_of_mem hx
    simp only [List.length_cons]
    omega
/-- what was found so far -/
structure Fd (W1 wr : World) (ls fs : List Int) (v : Value) : Prop where
  own : wr.ownsRow W1.heap.size 3 1 v fs.length (fs.map (Value.int .i64))
  nd : fs.Nodup
  sub : ∀ q ∈ fs, q ∈ ls
  fr : Fr [] W1 wr
theorem Fd.idle {W1 wr V : World} {ls fs : List Int} {v : Value} (h : Fd W1 wr ls fs v) (hf : Fr [] wr V) : Fd W1 V ls fs v :=
  ⟨own_congr h.own fun g hg => hf.block g (h.own.lt g hg).2 (by simp), h.nd, h.sub, h.fr.trans hf (by simp)⟩
theorem Fd.len {W1 wr : World} {ls fs : List Int} {v : Value} (h : Fd W1 wr ls fs v) : fs.length ≤ ls.length := nodup_le fs ls h.nd h.sub
theorem Fd.next {W1 wr w1 : World} {ls fs : List Int} {v v' : Value} {z : Int} (h : Fd W1 wr ls fs v) (hz : z ∈ ls) (hn : z ∉ fs) (hown : w1.ownsRow W1.heap.size 3 1 v' (fs.length + 1) (fs.map (Value.int .i64) ++ [.int .i64 z])) (hg : (wr.alloc (.cells #[.int .i64 z] 3)).grownBy w1 v.ownBlock) : Fd W1 w1 ls (fs ++ [z]) v' := by
  refine ⟨by simpa using hown, ?_, fun q hq => ?_, ?_⟩
  · rw [List.nodup_append]
    exact ⟨h.nd, by simp, fun a ha b hb e => by simp at hb; exact hn (by rw [← hb, ← e]; exact ha)⟩
  · rcases List.mem_append.1 hq with h1 | h1
    · exact h.sub q h1
    · rw [List.mem_singleton.1 h1]; exact hz
  · have h1 : Fr [] W1 (wr.alloc (.cells #[.int .i64 z] 3)) := h.fr.trans (Fr.alloc [] _ _) (by simp)
    refine ⟨hg.os.trans h1.os, hg.tape.trans h1.tape, hg.output.trans h1.output, Nat.le_trans h1.size hg.size, fun i hi hni => ?_⟩
    rw [hg.block i (Nat.lt_of_lt_of_le hi h1.size) (fun e => by have := (h.own.lt i e.symm).1; omega)]
    exact h1.block i hi hni
set_option maxRecDepth 20000 in
set_option maxHeartbeats 4000000 in
theorem led_ok (l : List OI) (x1 x2 x3 : Int) (ov lv rv : Value) (ls roots : List Int) (w : World) (ha : SAt w ov l) (hl : Rd w lv ls) (hr : Rd w rv roots)
    (hls : ls.length ≤ 1000000) (hb : ∀ q ∈ ls, 0 ≤ q ∧ q ≤ 1000000) (hfi : ∀ p ∈ ls, ∃ o, l.find? (fun o => decide (o.oop = p)) = some o) (hnd : ls.Nodup)
    (hled : ∀ fs : List Int, (∀ q ∈ fs, q ∈ ls) → (∀ q ∈ ls, q ∉ fs → namedB l q fs roots = false) → ∀ q ∈ ls, q ∈ fs) :
    Calls Tryd.prog 22 #[.agg #[.int .i64 x1, .int .i64 x2, .int .i64 x3, ov], lv, rv] w fun e w' => e = .returned (.bool true) ∧ Fr [] w w' := by
  obtain ⟨j0, ji, jz0, jz1, jz2⟩ := info_parts info3
  have HA := mkHid ha
  have HFi := mkHid hfi
  have HR := mkHid hr
  have HND := mkHid hnd
  have HLed := mkHid hled
  have HBd := mkHid hb
  obtain ⟨pa, ca, rfl, -⟩ := ha.at_
  obtain ⟨pl, cl, rfl, hpl⟩ := hl.at_
  obtain ⟨pr, cr, rfl, -⟩ := hr.at_
  have HPL := mkHid hpl
  have s1 := ha.short
  have s3 := hr.short
  obtain ⟨W1, hW1⟩ : ∃ W1, W1 = w.alloc (.cells #[.int .i64 x1, .int .i64 x2, .int .i64 x3, .slice pa l.length ca] 24) := ⟨_, rfl⟩
  have F1 : Hid (Fr [] w W1) := by rw [hW1]; exact Fr.alloc [] _ _
  have hB : W1.heap[w.heap.size]? = some (.cells #[.int .i64 x1, .int .i64 x2, .int .i64 x3, .slice pa l.length ca] 24 (0, 0)) := by rw [hW1]; exact heap_alloc_new _ _
  have HS : Hid (∀ V, Hid (Fr [] W1 V) → V.cell? ⟨w.heap.size, 0, none⟩ = some (.int .i64 x1) ∧ V.cell? ⟨w.heap.size, 1, none⟩ = some (.int .i64 x2) ∧ V.cell? ⟨w.heap.size, 2, none⟩ = some (.int .i64 x3) ∧ V.cell? ⟨w.heap.size, 3, none⟩ = some (.slice pa l.length ca)) := fun V hV => by
    have hb := (hV.out.block _ (lt_of_heap hB) (by simp)).trans hB
    exact ⟨by rw [cell_in hb]; rfl, by rw [cell_in hb]; rfl, by rw [cell_in hb]; rfl, by rw [cell_in hb]; rfl⟩
  clear ha hl hr hpl hB hfi hnd hled hb
  go_enter Tryd.func22, Tryd.ntmps22
  go_wp2_with fail
  rw [← hW1]
  clear hW1
  go_loopw [7, 8] (fun v b wr => ∃ (fs : List Int) (bb : Bool) (p : Option Addr) (c : Nat), v = .slice p fs.length c ∧ b = .bool bb ∧ fs.length ≤ ls.length ∧ Hid (Fd W1 wr ls fs (.slice p fs.length c)) ∧ Hid (bb = false → ∀ q ∈ ls, q ∉ fs → namedB l q fs roots = false)) (fun v b _ => 2 * (ls.length - slen v) + bnat b)
  case atStart => exact ⟨[], true, none, 0, rfl, rfl, Nat.zero_le _, ⟨World.ownsRow_nil _ _ _ _, by simp, by simp, Fr.refl _ _⟩, fun h => by cases h⟩
  case round =>
    obtain ⟨fs0, bb, p0, c0', rfl, rfl, hfl0, hfd0, hdone0⟩ := hrel
    cases bb with
    | false =>
      have hle : fs0.length = ls.length := by
        have h1 := nodup_le ls fs0 HND.out (HLed.out fs0 hfd0.out.sub (hdone0.out rfl))
        omega
      have hb : ((fs0.length : Int) == (ls.length : Int)) = true := by rw [hle]; simp
      have HFr := mkHid (F1.out.trans hfd0.out.fr (by simp))
      clear hdone0 hfd0
      go_wp2_with fail
      go_ret
      exact ⟨rfl, HFr.out⟩
    | true =>
      clear hdone0
      go_wp2_with fail
      go_loopw [7, 8, 9] (fun v b q wr => ∃ (fs : List Int) (bb : Bool) (p : Option Addr) (c : Nat) (k : Nat), v = .slice p fs.length c ∧ b = .bool bb ∧ q = .int .i64 k ∧ k ≤ ls.length ∧ fs.length ≤ ls.length ∧ Hid (Fd W1 wr ls fs (.slice p fs.length c)) ∧ Hid ((bb = true ∧ fs0.length < fs.length) ∨ (bb = false ∧ fs = fs0 ∧ ∀ q ∈ ls.take k, q ∉ fs → namedB l q fs roots = false))) (fun _ _ q _ => ls.length - (intOf q).toNat)
      case atStart => exact ⟨fs0, false, p0, c0', 0, rfl, rfl, rfl, Nat.zero_le _, hfl0, hfd0, .inr ⟨rfl, rfl, by simp⟩⟩
      case round =>
        clear hfd0
        obtain ⟨fs, bb, p, c, k, rfl, rfl, rfl, hkn, hfl, hfd, hst⟩ := hrel
        have k1 : (0 : Int) ≤ (k : Int) := by omega
        by_cases hlt : k < ls.length
        · have k2 : (k : Int) < (ls.length : Int) := by omega
          obtain ⟨gl, og, rfl, hgl, hcl⟩ := HPL.out (by omega)
          have hm := getD_in ls 0 k hlt
          have hz0 := hcl k hlt
          have hbd := HBd.out _ hm
          have HStep : Hid (∀ bz, (bz = true → fs0.length < fs.length ∨ True) → (ls.getD k 0 ∈ fs ∨ namedB l (ls.getD k 0) fs roots = false) → (bb = true ∧ fs0.length < fs.length) ∨ (bb = false ∧ fs = fs0 ∧ ∀ q ∈ ls.take (k + 1), q ∉ fs → namedB l q fs roots = false)) := fun _ _ hor => by
            rcases hst.out with h1 | ⟨h1, h2, h3⟩
            · exact .inl h1
            · refine .inr ⟨h1, h2, fun q hq hn => ?_⟩
              rw [take_snoc ls 0 k hlt] at hq
              rcases List.mem_append.1 hq with h4 | h4
              · exact h3 q h4 hn
              · rw [List.mem_singleton.1 h4] at hn ⊢
                rcases hor with h5 | h5
                · exact absurd h5 hn
                · exact h5
          have HGrow : Hid (fs0.length < fs.length + 1) := by
            show fs0.length < fs.length + 1
            rcases hst.out with ⟨_, h1⟩ | ⟨_, h2, _⟩
            · omega
            · rw [h2]; omega
          generalize ls.getD k 0 = z at *
          have HCl : Hid (∀ V, Hid (Fr [] wr V) → (V.cell? ⟨w.heap.size, 0, none⟩ = some (.int .i64 x1) ∧ V.cell? ⟨w.heap.size, 1, none⟩ = some (.int .i64 x2) ∧ V.cell? ⟨w.heap.size, 2, none⟩ = some (.int .i64 x3) ∧ V.cell? ⟨w.heap.size, 3, none⟩ = some (.slice pa l.length ca)) ∧ V.cell? ⟨gl, og + k, none⟩ = some (.int .i64 z)) := fun V hV =>
            ⟨HS.out V (hfd.out.fr.trans hV.out (by simp)), ((F1.out.trans (hfd.out.fr.trans hV.out (by simp)) (by simp)).cell (p := ⟨gl, og + k, none⟩) hgl (by simp)).trans hz0⟩
          have HI : Hid (∀ V, Hid (Fr [] wr V) → Calls Tryd.prog 15 #[.slice p fs.length c, .int .i64 z] V fun e w' => e = .returned (.bool (decide (z ∈ fs))) ∧ Hid (Fr [] wr w')) := fun V hV =>
            (in_ok fs z _ V (own_rd (hfd.out.idle hV.out).own (by omega))).mono fun e w' ⟨he, hw⟩ => ⟨he, by rw [hw]; exact hV⟩
          have HN : Hid (∀ V, Hid (Fr [] wr V) → Calls Tryd.prog 60 #[.agg #[.int .i64 x1, .int .i64 x2, .int .i64 x3, .slice pa l.length ca], .int .i64 z, .slice p fs.length c, .slice pr roots.length cr] V fun e w' => e = .returned (.bool (namedB l z fs roots)) ∧ Hid (Fr [] wr w')) := fun V hV =>
            (named_ok l x1 x2 x3 z _ _ _ fs roots V (HA.out.idle (F1.out.trans (hfd.out.fr.trans hV.out (by simp)) (by simp))) (own_rd (hfd.out.idle hV.out).own (by omega)) (HR.out.idle (F1.out.trans (hfd.out.fr.trans hV.out (by simp)) (by simp))) hbd.1 hbd.2 (fun q hq => HFi.out q (hfd.out.sub q hq))).mono fun e w' ⟨he, hf⟩ => ⟨he, hV.out.trans hf (by simp)⟩
          have hq : Hid (Fr [] wr wr) := Fr.refl _ _
          clear hcl hz0 hst
          by_cases hin : z ∈ fs
          · rw [decide_eq_true hin] at HI
            have HS2 := mkHid (HStep.out true (fun _ => .inr trivial) (.inl hin))
            clear HStep hin HN
            go_wp2_with fail
            refine region_quiet hq (by kernel_rfl) (by kernel_rfl) ?_
            iterate 17
              first
                | refine wq_skip rfl ?_
                | refine wq_call 15 Tryd.f15 Tryd.func15 (by kernel_rfl) (by kernel_rfl) _ _ rfl rfl _ (by simp [Act.eval]) _ HI.out ?_
                | (refine wq_val (v := ?_) rfl ?_ ?_
                   rotate_left
                   · (intro V hV; obtain ⟨⟨c0, c1, c2, c3⟩, c4⟩ := HCl.out V hV; go_simp; first | done | with_reducible rfl))
              try simp only [Act.put, List.setIfInBounds_toArray, List.set_cons_zero, List.set_cons_succ]
            refine wq_nil ?_
            intro w' hf'
            go_wp2_with fail
            go_roundw
            case rel => exact ⟨fs, bb, p, c, k + 1, rfl, rfl, by go_num, by omega, hfl, hfd.out.idle hf'.out, HS2⟩
            case measure => simp [intOf]; omega
          · rw [decide_eq_false hin] at HI
            cases hnb : namedB l z fs roots with
            | false =>
              rw [hnb] at HN
              have HS2 := mkHid (HStep.out true (fun _ => .inr trivial) (.inr hnb))
              clear HStep hin hnb
              go_wp2_with fail
              refine region_quiet hq (by kernel_rfl) (by kernel_rfl) ?_
              iterate 17
                first
                  | refine wq_skip rfl ?_
                  | refine wq_call 15 Tryd.f15 Tryd.func15 (by kernel_rfl) (by kernel_rfl) _ _ rfl rfl _ (by simp [Act.eval]) _ HI.out ?_
                  | refine wq_call 60 Tryd.f60 Tryd.func60 (by kernel_rfl) (by kernel_rfl) _ _ rfl rfl _ (by simp [Act.eval]) _ HN.out ?_
                  | (refine wq_val (v := ?_) rfl ?_ ?_
                     rotate_left
                     · (intro V hV; obtain ⟨⟨c0, c1, c2, c3⟩, c4⟩ := HCl.out V hV; go_simp; first | done | with_reducible rfl))
                try simp only [Act.put, List.setIfInBounds_toArray, List.set_cons_zero, List.set_cons_succ]
              refine wq_nil ?_
              intro w' hf'
              go_wp2_with fail
              go_roundw
              case rel => exact ⟨fs, bb, p, c, k + 1, rfl, rfl, by go_num, by omega, hfl, hfd.out.idle hf'.out, HS2⟩
              case measure => simp [intOf]; omega
            | true =>
              rw [hnb] at HN
              clear HStep hnb
              go_wp2_with fail
              refine region_quiet hq (by kernel_rfl) (by kernel_rfl) ?_
              iterate 17
                first
                  | refine wq_skip rfl ?_
                  | refine wq_call 15 Tryd.f15 Tryd.func15 (by kernel_rfl) (by kernel_rfl) _ _ rfl rfl _ (by simp [Act.eval]) _ HI.out ?_
                  | refine wq_call 60 Tryd.f60 Tryd.func60 (by kernel_rfl) (by kernel_rfl) _ _ rfl rfl _ (by simp [Act.eval]) _ HN.out ?_
                  | (refine wq_val (v := ?_) rfl ?_ ?_
                     rotate_left
                     · (intro V hV; obtain ⟨⟨c0, c1, c2, c3⟩, c4⟩ := HCl.out V hV; go_simp; first | done | with_reducible rfl))
                try simp only [Act.put, List.setIfInBounds_toArray, List.set_cons_zero, List.set_cons_succ]
              refine wq_nil ?_
              intro w' hf'
              obtain ⟨⟨c0, c1, c2, c3⟩, c4⟩ := HCl.out w' hf'
              have hfd2 := hfd.out.idle hf'.out
              have hown2 := hfd2.own.alloc (.cells #[.int .i64 z] 3)
              have HFd := mkHid hfd2
              have hsz := hfd2.fr.size
              clear hfd2 HI HN HCl hfd
              go_wp2_with (first
                | (at_builtin; refine wpList_append_own _ rfl (.tmp 34) (.tmp 39) 26 rfl W1.heap.size 3 j0 (.int .i64 0) 1 8 Tryd.underlying26 ji jz0 jz1 jz2 rfl (by decide) _ _ _ rfl hown2 ⟨w'.heap.size, 0, none⟩ 1 1 [.int .i64 z] rfl rfl ?c1 ?c2 ?c3 ?c4 ?c5 ?_)
                | go_in)
              case c1 => intro i u hu; match i, hu with | 0, hu => (obtain rfl := Option.some.inj hu; exact cell_in (heap_alloc_new w' _) 0) | i + 1, hu => cases hu
              case c2 => first | rfl | (intro u hu; simp at hu; subst hu; rfl)
              case c3 => unfold maxLen; omega
              case c4 => omega
              case c5 => first | omega | (simp; omega)
              intro v' w1 hown' hgrow _
              have HN2 := mkHid (HFd.out.next hm hin hown' hgrow)
              have hlen2 := HN2.out.len
              obtain ⟨p2, c2', hv2, -⟩ := own_slot HN2.out.own
              subst hv2
              clear hown' hgrow hown2
              go_wp2_with fail
              go_roundw
              case rel => exact ⟨fs ++ [z], true, p2, c2', k + 1, by simp, rfl, by go_num, by omega, hlen2, HN2, .inl ⟨rfl, by have := HGrow.out; simp; omega⟩⟩
              case measure => simp [intOf]; omega
        · have hke : k = ls.length := by omega
          subst hke
          have HO : Hid (Fd W1 wr ls fs (.slice p fs.length c)) := hfd
          have HE : Hid ((bb = true ∧ fs0.length < fs.length) ∨ (bb = false ∧ fs = fs0 ∧ ∀ q ∈ ls, q ∉ fs → namedB l q fs roots = false)) := by
            have := hst.out
            rw [List.take_length] at this
            exact this
          clear hst hfd
          go_wp2_with fail
          go_roundw
          case rel => exact ⟨fs, bb, p, c, rfl, rfl, hfl, HO, fun hb => by
            rcases HE.out with ⟨h1, _⟩ | ⟨_, _, h3⟩
            · rw [hb] at h1; cases h1
            · exact h3⟩
          case measure =>
            rcases HE.out with ⟨h1, h2⟩ | ⟨h1, h2, _⟩
            · subst h1; simp [slen, bnat]; omega
            · subst h1; subst h2; simp [slen, bnat]
end Go.Proofs.YtpaekbghnejhoaaDoor
namespace Go.Proofs.YtpaekbghnejhoaaDoor
open Go.RowKit
set_option linter.unusedVariables false
theorem sr_same {H : HS} {M : MS} {roots : List Int} {rs rs2 : List Nat} (h : Sr H M roots (rs, [])) (h2 : Sr H M roots (rs2, [])) : stays H rs = stays H rs2 := by
  have cl : ∀ r : List Nat, Sr H M roots (r, []) → Cl H M roots (fun q => q ∈ r) := fun r hr => ⟨hr.root, fun q hq z hz hb => by
    rcases hr.on q hq with h1 | h1
    · simp at h1
    · exact h1 z hz hb⟩
  unfold stays
  refine List.filter_congr fun q _ => ?_
  rw [Bool.eq_iff_iff, decide_eq_true_eq, decide_eq_true_eq]
  exact ⟨h.least _ (cl rs2 h2) q, h2.least _ (cl rs h) q⟩
theorem filter_at {α : Type} (f : α → Bool) : ∀ (l : List α) (i : Nat) (o : α), l[i]? = some o → f o = true → (l.filter f)[((l.take i).filter f).length]? = some o
  | [], i, o, h, _ => by simp at h
  | x :: l, 0, o, h, hf => by
    have : x = o := by simpa using h
    subst this
    simp [hf]
  | x :: l, i + 1, o, h, hf => by
    have h1 : l[i]? = some o := by simpa using h
    have ih := filter_at f l i o h1 hf
    rw [List.take_succ_cons, List.filter_cons, List.filter_cons]
    by_cases hx : f x = true
    · rw [if_pos hx, if_pos hx, List.length_cons, List.getElem?_cons_succ]; exact ih
    · rw [if_neg hx, if_neg hx]; exact ih
/-- whether an object stays -/
def inSt (st : List Nat) (o : OI) : Bool := decide (o.oop.toNat ∈ st)
theorem keys_filter (la : List OI) (st : List Nat) : ((la.map oiKey).filter fun k => decide (k.1.toNat ∈ st)) = (la.filter (inSt st)).map oiKey := by
  rw [List.filter_map]; rfl
/-- how many of the first stay, and how many words they take -/
def keptN (la : List OI) (st : List Nat) (i : Nat) : Nat := ((la.take i).filter (inSt st)).length
def usedN (la : List OI) (st : List Nat) (i : Nat) : Int := endK (((la.take i).filter (inSt st)).map oiKey)
theorem take_some {la : List OI} {i : Nat} {o : OI} (h : la[i]? = some o) : la.take (i + 1) = la.take i ++ [o] := by rw [List.take_add_one, h]; rfl
theorem kept_yes {la : List OI} {st : List Nat} {i : Nat} {o : OI} (h : la[i]? = some o) (hf : inSt st o = true) : keptN la st (i + 1) = keptN la st i + 1 ∧ usedN la st (i + 1) = usedN la st i + lenOf (o.slots.length : Int) o.fmt := by
  unfold keptN usedN
  rw [take_some h, List.filter_append, List.filter_cons_of_pos hf, List.map_append, endK_append]
  exact ⟨by simp, by simp [endK, oiKey]⟩
theorem kept_no {la : List OI} {st : List Nat} {i : Nat} {o : OI} (h : la[i]? = some o) (hf : inSt st o = false) : keptN la st (i + 1) = keptN la st i ∧ usedN la st (i + 1) = usedN la st i := by
  unfold keptN usedN
  rw [take_some h, List.filter_append, List.filter_cons_of_neg (by rw [hf]; simp)]
  exact ⟨by simp, by simp⟩
theorem endK_nonneg : ∀ ks : List Key, 0 ≤ endK ks
  | [] => by simp [endK]
  | k :: t => by
    have := endK_nonneg t
    have h2 : 0 ≤ lenOf (k.2.2.2.length : Int) k.2.2.1 := by unfold lenOf; split <;> omega
    simp only [endK]
    omega
theorem used_le (la : List OI) (st : List Nat) (i : Nat) : 0 ≤ usedN la st i ∧ usedN la st i ≤ endK ((la.filter (inSt st)).map oiKey) := by
  unfold usedN
  refine ⟨endK_nonneg _, ?_⟩
  conv => rhs; rw [← List.take_append_drop i la, List.filter_append, List.map_append, endK_append]
  have := endK_nonneg (((la.drop i).filter (inSt st)).map oiKey)
  omega
theorem kept_le (la : List OI) (st : List Nat) (i : Nat) : keptN la st i ≤ (la.filter (inSt st)).length := by
  unfold keptN
  conv => rhs; rw [← List.take_append_drop i la, List.filter_append, List.length_append]
  omega
theorem kept_all (la : List OI) (st : List Nat) : keptN la st la.length = (la.filter (inSt st)).length ∧ usedN la st la.length = endK ((la.filter (inSt st)).map oiKey) := by
  unfold keptN usedN
  rw [List.take_length]
  exact ⟨rfl, rfl⟩
theorem srep_told {w : World} {base : Nat} {ov : Value} {l : List OS} {ks : List Key} (h : SRep w base ov l) (hk : (l.map osKey).map (fun k : Nat × Int × Nat × List Int => ((k.1 : Int), k.2.1, (k.2.2.1 : Int), k.2.2.2)) = ks) (hl : ks.length ≤ 1048576) (hs : ∀ k ∈ ks, k.2.2.2.length ≤ 1048576) : SAt w ov (l.map toOI) ∧ (l.map toOI).map oiKey = ks := by
  have hll : l.length = ks.length := by rw [← hk]; simp
  refine ⟨h.sat (by omega) (fun o ho => ?_), by rw [← hk, List.map_map, List.map_map]; rfl⟩
  have h1 : ((o.oop : Int), o.cls, (o.fmt : Int), o.slots) ∈ ks := by rw [← hk, List.map_map]; exact List.mem_map_of_mem (f := (fun k : Nat × Int × Nat × List Int => ((k.1 : Int), k.2.1, (k.2.2.1 : Int), k.2.2.2)) ∘ osKey) ho
  have := hs _ h1
  dsimp only at this
  omega
theorem zs_nodup {l : List Nat} (h : l.Nodup) : (zs l).Nodup := by
  unfold zs
  refine List.pairwise_map.2 (h.imp fun hab e => hab (by omega))
/-- what a Run leaves, by keys -/
structure Left (words oops mark : Nat) (la : List OI) (H : HS) (M : MS) (st : List Nat) : Prop where
  ka : KA words oops mark ((la.filter (inSt st)).map oiKey) (keepH H st) { M with things := keptTh M.things st }
  all : allTo (keepH H st) (keepH H st).seats.length = st
  cnt : (keepH H st).count = st.length
  len : (la.filter (inSt st)).length = st.length
theorem left_of {words oops mark : Nat} {la : List OI} {H : HS} {M : MS} (h : KA words oops mark (la.map oiKey) H M) {roots : List Int} {rs : List Nat} (hs : Sr H M roots (rs, [])) (ha : H.age ≤ 1000000000) : Left words oops mark la H M (stays H rs) := by
  have hk := h.keep (stays H rs) (stays_has h.inv rs) ha
  rw [keys_filter] at hk
  have hall := run_all h.inv rs hk.inv
  have hc : (keepH H (stays H rs)).count = (stays H rs).length := by rw [← hk.inv.countAll, hall]
  exact ⟨hk, hall, hc, by have := hk.count; rw [hc] at this; simpa using this.symm⟩
/-- a second Run takes nothing -/
structure Same (words oops mark : Nat) (ks : List Key) (H H2 : HS) (M2 : MS) : Prop where
  ka : KA words oops mark ks H2 M2
  cnt : (H.count : Int) - H2.count = 0
  mem : (H.mem.length : Int) - H2.mem.length = 0
theorem same_of {words oops mark : Nat} {la : List OI} {H : HS} {M : MS} (h : KA words oops mark (la.map oiKey) H M) {roots : List Int} {rs rs2 : List Nat} (hs : Sr H M roots (rs, [])) (ha : H.age ≤ 999999999)
    (h2 : Sr (keepH H (stays H rs)) { M with things := keptTh M.things (stays H rs) } roots (rs2, [])) :
    Same words oops mark ((la.filter (inSt (stays H rs))).map oiKey) (keepH H (stays H rs)) (keepH (keepH H (stays H rs)) (stays (keepH H (stays H rs)) rs2)) { M with things := keptTh (keptTh M.things (stays H rs)) (stays (keepH H (stays H rs)) rs2) } := by
  have hl := left_of h hs (by omega)
  have hag : (keepH H (stays H rs)).age ≤ 1000000000 := by show H.age + 1 ≤ _; omega
  have hk2 := hl.ka.keep (stays (keepH H (stays H rs)) rs2) (stays_has hl.ka.inv rs2) hag
  have hk3 : KA words oops mark ((la.filter (inSt (stays H rs))).map oiKey) (keepH (keepH H (stays H rs)) (stays (keepH H (stays H rs)) rs2)) { M with things := keptTh (keptTh M.things (stays H rs)) (stays (keepH H (stays H rs)) rs2) } := by
    have e := keep_all_keys hl.ka
    rw [← again_all h.inv hs hl.ka.inv h2] at e
    rw [e] at hk2
    exact hk2
  have c1 := hl.ka.count
  have c2 := hk3.count
  have m1 := hl.ka.mem
  have m2 := hk3.mem
  exact ⟨hk3, by omega, by omega⟩
end Go.Proofs.YtpaekbghnejhoaaDoor
namespace Go.Proofs.YtpaekbghnejhoaaDoor
open Go.RowKit
set_option linter.unusedVariables false
theorem SRep.fr {w w' : World} {base : Nat} {ov : Value} {l : List OS} {S : List Nat} (h : SRep w base ov l) (hf : Fr S w w') (hd : ∀ g ∈ S, g < base) : SRep w' base ov l :=
  ⟨own_congr h.row fun g hg => hf.block g (h.row.lt g hg).2 (fun hm => by have h1 := (h.row.lt g hg).1; have h2 := hd g hm; omega), fun o ho => own_congr (h.slots o ho) fun g hg => hf.block g ((h.slots o ho).lt g hg).2 (fun hm => by have h1 := ((h.slots o ho).lt g hg).1; have h2 := hd g hm; omega)⟩
theorem KA.slots {words oops mark : Nat} {ks : List Key} {H : HS} {M : MS} (h : KA words oops mark ks H M) : ∀ k ∈ ks, k.2.2.2.length ≤ 8192 := fun k hk => by
  obtain ⟨b0, b1, b2, b3, b4⟩ := h.at_ k hk
  have := h.inv.model.slots _ (there_lt b1)
  rw [b4] at this
  omega
theorem KA.klen {words oops mark : Nat} {ks : List Key} {H : HS} {M : MS} (h : KA words oops mark ks H M) : ks.length ≤ 65538 := by
  have h1 := h.count
  have h2 := h.inv.countAll
  have h3 := allTo_len H H.seats.length
  have h4 := h.inv.told.seats
  omega
/-- what State tells, by keys -/
structure Tld (w : World) (base : Nat) (ov : Value) (lo : List OS) (ks : List Key) : Prop where
  rep : SRep w base ov lo
  keys : (lo.map toOI).map oiKey = ks
  len : ks.length ≤ 65538
  slots : ∀ k ∈ ks, k.2.2.2.length ≤ 8192
theorem Tld.fr {w w' : World} {base : Nat} {ov : Value} {lo : List OS} {ks : List Key} {S : List Nat} (h : Tld w base ov lo ks) (hf : Fr S w w') (hd : ∀ g ∈ S, g < base) : Tld w' base ov lo ks :=
  ⟨h.rep.fr hf hd, h.keys, h.len, h.slots⟩
theorem Tld.sat {w : World} {base : Nat} {ov : Value} {lo : List OS} {ks : List Key} (h : Tld w base ov lo ks) : SAt w ov (lo.map toOI) := by
  have hll : lo.length = ks.length := by rw [← h.keys]; simp
  have hl := h.len
  refine h.rep.sat (by omega) (fun o ho => ?_)
  have h1 : oiKey (toOI o) ∈ ks := by rw [← h.keys]; exact List.mem_map_of_mem (List.mem_map_of_mem ho)
  have := h.slots _ h1
  have e : (oiKey (toOI o)).2.2.2 = o.slots := rfl
  rw [e] at this
  omega
theorem state_of {words oops mark : Nat} {ks : List Key} {H : HS} {M : MS} {a : Nat} {l : Lay} {w : World} (hr : Rep w a l H) (h : KA words oops mark ks H M) :
    Calls Tryd.prog 12 #[.pointer (some ⟨a, 0, none⟩)] w fun e w' => ∃ p c lo, e = .returned (.agg #[.int .i64 (words : Int), .int .i64 (oops : Int), .int .i64 (mark : Int), .slice p ks.length c]) ∧ Tld w' w.heap.size (.slice p ks.length c) lo ks ∧ Fr [] w w' := by
  refine (State_ok a l H M w hr h.inv.toInvV).mono ?_
  rintro e w' ⟨ov, ls, rfl, hs, hk, hf⟩
  have hkk : (ls.map toOI).map oiKey = ks := by
    rw [← h.st, ← hk, List.map_map, List.map_map]; rfl
  have hll : ls.length = ks.length := by rw [← hkk]; simp
  have ht : Tld w' w.heap.size ov ls ks := ⟨hs, hkk, h.klen, h.slots⟩
  obtain ⟨p, c, e1, -⟩ := ht.sat.at_
  rw [List.length_map, hll] at e1
  subst e1
  exact ⟨p, c, ls, by rw [h.words, h.oops, h.mark], ht, hf⟩
end Go.Proofs.YtpaekbghnejhoaaDoor
namespace Go.Proofs.YtpaekbghnejhoaaDoor
open Go.RowKit
set_option linter.unusedVariables false
attribute [local go_sem ↓] Go.wp_at_zero Go.wp_at_succ
set_option maxRecDepth 20000 in
set_option maxHeartbeats 4000000 in
theorem keeps_any (x y z : Int) (ov rv : Value) (la : List OI) (roots : List Int) (W : World) (ha : SAt W ov la) (hr : Rd W rv roots) (hT : Tab W) (hT0 : 0 < W.heap.size) :
    Calls Tryd.prog 4 #[.agg #[.int .i64 x, .int .i64 y, .int .i64 z, ov], rv] W fun e w' => e = .returned (.bool true) ∧ Fr [] W w' := by
  obtain ⟨pa, ca, rfl, -⟩ := ha.at_
  obtain ⟨pr, cr, rfl, -⟩ := hr.at_
  obtain ⟨W1, hW1⟩ : ∃ W1, W1 = W.alloc (.cells #[.int .i64 x, .int .i64 y, .int .i64 z, .slice pa la.length ca] 24) := ⟨_, rfl⟩
  have F1 : Hid (Fr [] W W1) := by rw [hW1]; exact Fr.alloc [] _ _
  have hB : W1.heap[W.heap.size]? = some (.cells #[.int .i64 x, .int .i64 y, .int .i64 z, .slice pa la.length ca] 24 (0, 0)) := by rw [hW1]; exact heap_alloc_new _ _
  have HS0 := mkHid hB
  have HS : Hid (∀ V, Fr [] W1 V → V.cell? ⟨W.heap.size, 0, none⟩ = some (.int .i64 x) ∧ V.cell? ⟨W.heap.size, 1, none⟩ = some (.int .i64 y) ∧ V.cell? ⟨W.heap.size, 2, none⟩ = some (.int .i64 z) ∧ V.cell? ⟨W.heap.size, 3, none⟩ = some (.slice pa la.length ca)) := fun V hV => by
    have hb := (hV.block _ (lt_of_heap hB) (by simp)).trans hB
    exact ⟨by rw [cell_in hb]; rfl, by rw [cell_in hb]; rfl, by rw [cell_in hb]; rfl, by rw [cell_in hb]; rfl⟩
  have HA : Hid (∀ V, Fr [] W1 V → SAt V (.slice pa la.length ca) la) := fun V hV => ha.idle (F1.out.trans hV (by simp))
  have HR : Hid (∀ V, Fr [] W1 V → Rd V (.slice pr roots.length cr) roots) := fun V hV => hr.idle (F1.out.trans hV (by simp))
  have HTb : Hid (∀ V, Fr [] W1 V → Tab V ∧ 0 < V.heap.size) := fun V hV => ⟨hT.fr (F1.out.trans hV (by simp)) hT0, Nat.lt_of_lt_of_le hT0 (F1.out.trans hV (by simp)).size⟩
  have s1 := ha.short
  have s2 := hr.short
  have HLd := mkHid (load_row x y z _ la W1 (HA.out W1 (Fr.refl _ _)) (HTb.out W1 (Fr.refl _ _)).1 (HTb.out W1 (Fr.refl _ _)).2)
  clear ha hr hT hT0 hB
  go_enter Tryd.func4, Tryd.ntmps4
  obtain ⟨c0, c1, c2, c3⟩ := HS.out W1 (Fr.refl _ _)
  go_wp2_with fail
  rw [← hW1]
  refine Calls.mono HLd.out ?_
  clear HLd hW1
  rintro e w1 (⟨n, hn0, hn1, hn2, rfl, hf⟩ | ⟨xn, yn, zn, l, H, M, rfl, rfl, rfl, hxn, hyn, rfl, hrep, hk, hf1, hnew⟩)
  · have hb : (n == 0) = false := by simpa using hn0
    have hb2 : (n != 0) = true := by simpa using hn0
    have HAl := mkHid (alive_ok w1 (HTb.out w1 hf).1 (HTb.out w1 hf).2)
    have HF := mkHid (F1.out.trans hf (by simp))
    clear hn0 hf
    go_wp2_with fail
    refine Calls.mono (num_any n w1 (by omega) (by omega)) ?_
    rintro e w2 ⟨rfl, rfl⟩
    go_wp2_with fail
    refine Calls.mono HAl.out ?_
    rintro e w3 ⟨rfl, hf3⟩
    have HF3 := mkHid hf3
    clear hf3
    go_wp2_with fail
    go_ret
    exact ⟨rfl, HF.out.trans HF3.out (by simp)⟩
  · generalize ha : W1.heap.size + 1 = a at *
    have hagz := hk.age
    have HK := mkHid hk.ka
    have HRe := mkHid hrep
    have HF1 := mkHid hf1
    have HNw := mkHid hnew
    have HAge : Hid (H.age = 0) := hagz
    have hsz1 : W.heap.size < W1.heap.size := lt_of_heap (HS0.out)
    clear hk hrep hf1 hnew hagz
    go_wp2_with fail
    refine Calls.mono (num_any 0 w1 (by decide) (by decide)) ?_
    rintro e w2 ⟨rfl, rfl⟩
    obtain ⟨v3, V3, hr3, ho3, hf3⟩ := run_copy roots _ w2 (HR.out w2 HF1.out)
    have HR3 := mkHid hr3
    have HF3 : Hid (Fr [] w2 V3) := hf3
    have HRd3 := mkHid (own_rd ho3 s2)
    obtain ⟨p3, c3', rfl, -⟩ := HRd3.out.at_
    clear hr3 ho3 hf3
    go_wp2_with (at_builtin; refine Lib.wpList_append_run _ rfl (.const (.slice none 0 0)) (.tmp 37) 25 25 rfl _ _ rfl rfl _ _ HR3.out ?_)
    clear HR3
    refine Calls.mono (Reach_ok a l H M p3 c3' roots V3 (HRe.out.keep HF3.out (by simp)) HK.out.inv (HTb.out V3 (HF1.out.trans HF3.out (by simp))).1 HRd3.out) ?_
    rintro e w4 ⟨v4, rfl, rs, hsr, hrow, hf4⟩
    have hrow' : w4.ownsRow V3.heap.size 3 1 v4 (stays H rs).length ((stays H rs).map I) := hrow
    have HSr := mkHid hsr
    have HF4 : Hid (Fr [] W1 w4) := (HF1.out.trans HF3.out (by simp)).trans hf4 (by simp)
    have HFo : Hid (∀ g ∈ foot a l, g < V3.heap.size) := fun g hg => Nat.lt_of_lt_of_le (HRe.out.lt g hg) HF3.out.size
    have HRe4 := mkHid ((HRe.out.keep HF3.out (by simp)).keep hf4 (by simp))
    have hseat := HK.out.inv.told.seats
    have hstl : (stays H rs).length ≤ 65538 := by
      have h1 : (stays H rs).length ≤ H.seats.length := Nat.le_trans (List.length_filter_le _ _) (allTo_len H _)
      omega
    have hzl : (zs (stays H rs)).length = (stays H rs).length := by simp [zs]
    have hrd4 := own_rd (own_ints hrow') (by omega)
    obtain ⟨p4, c4', rfl, -⟩ := hrd4.at_
    rw [hzl] at hrow' hrd4
    have HRow := mkHid hrow'
    have HCR := mkHid (closed_root HK.out hsr)
    have HCO := mkHid (closed_on HK.out hsr)
    have HLL := mkHid (led_least HK.out hsr)
    have HRise := mkHid (stays_rise H rs)
    have HBd : Hid (∀ q ∈ zs (stays H rs), 0 ≤ q ∧ q ≤ 1000000) := fun q hq => by
      obtain ⟨n, hn, rfl⟩ := mem_zs.1 hq
      have h1 := List.mem_range.1 (List.mem_filter.1 (List.mem_filter.1 hn).1).1
      omega
    have HND := mkHid (zs_nodup (stays_nodup H rs))
    have HRdL : Hid (∀ V, Fr [] w4 V → Rd V (.slice p4 (stays H rs).length c4') (zs (stays H rs))) := fun V hV => hrd4.idle hV
    clear hsr hrow hrow' hrd4 hf4 HRd3 hseat HRe
    rw [hzl]
    generalize hst : stays H rs = st at *
    go_wp2_with fail
    refine Calls.mono (num_any 0 w4 (by decide) (by decide)) ?_
    rintro e w5 ⟨rfl, rfl⟩
    go_wp2_with fail
    refine Calls.mono (rising_ok (zs st) _ w5 (HRdL.out w5 (Fr.refl _ _)) HRise.out) ?_
    rintro e w6 ⟨rfl, hf6⟩
    have HF6 : Hid (Fr [] W1 w6) := HF4.out.trans hf6 (by simp)
    obtain ⟨d0, d1, d2, d3⟩ := HS.out w6 HF6.out
    have HC6 := mkHid (closed_ok la xn yn zn _ _ _ (zs st) roots w6 (HA.out w6 HF6.out) (HRdL.out w6 hf6) (HR.out w6 HF6.out) HCR.out HCO.out)
    have HF56 := mkHid hf6
    clear hf6
    go_wp2_with fail
    refine Calls.mono HC6.out ?_
    rintro e w7 ⟨rfl, hf7⟩
    have HF7 : Hid (Fr [] W1 w7) := HF6.out.trans hf7 (by simp)
    have HF57 : Hid (Fr [] w5 w7) := HF56.out.trans hf7 (by simp)
    clear d0 d1 d2 d3 hf7 HC6
    obtain ⟨d0, d1, d2, d3⟩ := HS.out w7 HF7.out
    have HL7 := mkHid (led_ok la xn yn zn _ _ _ (zs st) roots w7 (HA.out w7 HF7.out) (HRdL.out w7 HF57.out) (HR.out w7 HF7.out) (by omega) HBd.out (fun q hq => ⟨_, (HCO.out q hq).choose_spec.1⟩) HND.out HLL.out)
    go_wp2_with fail
    refine Calls.mono HL7.out ?_
    rintro e w8 ⟨rfl, hf8⟩
    have HF8 : Hid (Fr [] W1 w8) := HF7.out.trans hf8 (by simp)
    have HF58 : Hid (Fr [] w5 w8) := HF57.out.trans hf8 (by simp)
    clear d0 d1 d2 d3 hf8 HL7 HCR HCO HLL HRise HBd HND HF6 HF7 HF56 HF57
    obtain ⟨v9, V9, hr9, ho9, hf9⟩ := run_copy roots _ w8 (HR.out w8 HF8.out)
    have HR9 := mkHid hr9
    have HF9 : Hid (Fr [] w8 V9) := hf9
    have HRd9 := mkHid (own_rd ho9 s2)
    obtain ⟨p9, c9', rfl, -⟩ := HRd9.out.at_
    clear hr9 ho9 hf9
    go_wp2_with (at_builtin; refine Lib.wpList_append_run _ rfl (.const (.slice none 0 0)) (.tmp 66) 25 25 rfl _ _ rfl rfl _ _ HR9.out ?_)
    clear HR9
    have HF59 : Hid (Fr [] w5 V9) := HF58.out.trans HF9.out (by simp)
    refine Calls.mono (Run_ok a l H M p9 c9' roots V9 (HRe4.out.keep HF59.out (by simp)) HK.out.inv (HTb.out V9 (HF8.out.trans HF9.out (by simp))).1 HRd9.out (by have := HAge.out; omega)) ?_
    rintro e w10 ⟨rs2, hsr2, rfl, hrep, -, hnx⟩
    have he2 : stays H rs2 = st := by rw [← hst]; exact sr_same hsr2 HSr.out
    rw [he2] at hrep ⊢
    have hlf := left_of HK.out HSr.out (by have := HAge.out; omega)
    rw [hst] at hlf
    have hcnt := HK.out.count
    rw [List.length_map] at hcnt
    rw [hlf.cnt, hcnt]
    have HLf := mkHid hlf
    have HRe := mkHid hrep
    have HFo10 : Hid (∀ g ∈ foot a l, g < w10.heap.size) := hrep.lt
    have HFX : Hid (Fr [] W1 w10) := (HF8.out.trans HF9.out (by simp)).trans hnx.1 (fun b hb => .inr (HNw.out b hb))
    have hrowX : w10.ownsRow V3.heap.size 3 1 (.slice p4 st.length c4') st.length (st.map I) :=
      own_congr (own_congr HRow.out fun g hg => HF59.out.block g (HRow.out.lt g hg).2 (by simp)) fun g hg => hnx.1.block g (Nat.lt_of_lt_of_le (HRow.out.lt g hg).2 HF59.out.size) (fun hm => by have h1 := (HRow.out.lt g hg).1; have h2 := HFo.out g hm; omega)
    have HRowX := mkHid hrowX
    generalize ((H.mem.length : Int) - ((keepH H st).mem.length : Int)) = mm at *
    clear hsr2 hrep hnx he2 hlf hcnt hrowX HRow HF9 HF59 HF58 HF8 HRd9 HRe4 HRdL HF4 HF1 HF3
    go_wp2_with fail
    refine Calls.mono (state_of HRe.out HLf.out.ka) ?_
    rintro e w11 ⟨pt, ct, lo, rfl, htl, hf11⟩
    have hlen := HLf.out.len
    rw [List.length_map, hlen] at htl ⊢
    have hszX := hf11.size
    obtain ⟨W12, hW12⟩ : ∃ W12, W12 = w11.alloc (.cells #[.int .i64 (xn : Int), .int .i64 (yn : Int), .int .i64 (zn : Int), .slice pt st.length ct] 24) := ⟨_, rfl⟩
    have F12 : Hid (Fr [] w10 W12) := by rw [hW12]; exact hf11.trans (Fr.alloc [] _ _) (by simp)
    have HTl : Hid (Tld W12 w10.heap.size (.slice pt st.length ct) lo ((la.filter (inSt st)).map oiKey)) := by rw [hW12]; exact htl.fr (Fr.alloc [] _ _) (by simp)
    have HTB : Hid (W12.heap[w11.heap.size]? = some (.cells #[.int .i64 (xn : Int), .int .i64 (yn : Int), .int .i64 (zn : Int), .slice pt st.length ct] 24 (0, 0))) := by rw [hW12]; exact heap_alloc_new _ _
    generalize hT : w11.heap.size = T at *
    clear htl hf11 hlen
    go_wp2_with fail
    rw [← hW12]
    clear hW12
    have HFZ : Hid (Fr [] W1 W12) := HFX.out.trans F12.out (by simp)
    have hrs : W1.heap.size ≤ T := by have h1 := HFX.out.size; omega
    obtain ⟨d0, d1, d2, d3⟩ := HS.out W12 HFZ.out
    have t3 : W12.cell? ⟨T, 3, none⟩ = some (.slice pt st.length ct) := by rw [cell_in HTB.out]; rfl
    refine Calls.mono (num_any 0 W12 (by decide) (by decide)) ?_
    rintro e w13 ⟨rfl, rfl⟩
    have HRe13 := mkHid (HRe.out.keep F12.out (by simp))
    have hse := HLf.out.ka.inv.told.seats
    have hw1 : IntKind.i64.wrap ((la.length : Int) - (st.length : Int)) = (la.length : Int) - (st.length : Int) := by rw [iwrap]; unfold wrap64; omega
    go_wp2_with fail
    refine Calls.mono (All_ok a l (keepH H st) w13 HRe13.out hse) ?_
    rintro e w14 ⟨v14, rfl, hrow14, hf14⟩
    rw [HLf.out.all] at hrow14
    have hzl2 : (zs st).length = st.length := by simp [zs]
    have hrd14 := own_rd (own_ints hrow14) (by omega)
    obtain ⟨p14, c14, rfl, -⟩ := hrd14.at_
    rw [hzl2] at hrd14 ⊢
    have HRd14 := mkHid hrd14
    have HF14 := mkHid hf14
    have HRdL : Hid (∀ V, Fr [] w10 V → Rd V (.slice p4 st.length c4') (zs st)) := fun V hV => by
      have h1 := own_rd (own_ints HRowX.out) (by omega)
      exact h1.idle hV
    clear hrow14 hrd14 hf14 hse
    go_wp2_with fail
    refine Calls.mono (sameInts_ok (zs st) _ _ w14 HRd14.out (HRdL.out w14 (F12.out.trans HF14.out (by simp)))) ?_
    rintro e w15 ⟨rfl, n15, hw15⟩
    have HF15 : Hid (Fr [] w13 w15) := by rw [hw15]; exact HF14.out.trans (Fr.drewN [] _ _) (by simp)
    have HFA : Hid (Fr [] W1 w15) := HFZ.out.trans HF15.out (by simp)
    have HFB : Hid (Fr [] w10 w15) := F12.out.trans HF15.out (by simp)
    have HRe15 := mkHid (HRe13.out.keep HF15.out (by simp))
    clear d0 d1 d2 d3 t3 hw15 HRd14 HF14 HRe13 HRe
    have hlen := HLf.out.len
    have hub : endK ((la.filter (inSt st)).map oiKey) ≤ 1048576 := by
      have h1 := HLf.out.ka.mem
      have h2 := HLf.out.ka.inv.safe.small.mem
      have h3 := HLf.out.ka.words
      omega
    go_wp2_with fail
    have hT15 : T < w15.heap.size := lt_of_heap ((HF15.out.block _ (lt_of_heap HTB.out) (by simp)).trans HTB.out)
    have HLoop : Hid (∀ V, Fr [] w15 V → (V.cell? ⟨W.heap.size, 0, none⟩ = some (.int .i64 (xn : Int)) ∧ V.cell? ⟨W.heap.size, 1, none⟩ = some (.int .i64 (yn : Int)) ∧ V.cell? ⟨W.heap.size, 2, none⟩ = some (.int .i64 (zn : Int)) ∧ V.cell? ⟨W.heap.size, 3, none⟩ = some (.slice pa la.length ca)) ∧ V.cell? ⟨T, 3, none⟩ = some (.slice pt st.length ct)) := fun V hV => by
      have hb := ((HF15.out.trans hV (by simp)).block _ (lt_of_heap HTB.out) (by simp)).trans HTB.out
      exact ⟨HS.out V (HFA.out.trans hV (by simp)), by rw [cell_in hb]; rfl⟩
    have HTl15 : Hid (∀ V, Fr [] w15 V → Tld V w10.heap.size (.slice pt st.length ct) lo ((la.filter (inSt st)).map oiKey)) := fun V hV => HTl.out.fr (HF15.out.trans hV (by simp)) (by simp)
    have HA15 : Hid (∀ V, Fr [] w15 V → SAt V (.slice pa la.length ca) la) := fun V hV => HA.out V (HFA.out.trans hV (by simp))
    have HRd15 : Hid (∀ V, Fr [] w15 V → Rd V (.slice p4 st.length c4') (zs st)) := fun V hV => HRdL.out V (HFB.out.trans hV (by simp))
    have HAt := mkHid HK.out.at_
    have HSl := mkHid HK.out.slots
    have hpa : ∃ X, X = (0 : Nat) := ⟨0, rfl⟩
    clear hpa
    go_loopw [13, 14, 15] (fun kv uv q wr => ∃ i : Nat, i ≤ la.length ∧ q = .int .i64 i ∧ kv = .int .i64 (keptN la st i : Nat) ∧ uv = .int .i64 (usedN la st i) ∧ Hid (Fr [] w15 wr)) (fun _ _ q _ => la.length - (intOf q).toNat)
    case atStart => exact ⟨0, Nat.zero_le _, rfl, rfl, rfl, Fr.refl _ _⟩
    case round =>
      obtain ⟨i, hin, rfl, rfl, rfl, hq⟩ := hrel
      have i1 : (0 : Int) ≤ (i : Int) := by omega
      obtain ⟨⟨d0, d1, d2, d3⟩, t3⟩ := HLoop.out wr hq.out
      have hul := used_le la st i
      have hkl := kept_le la st i
      by_cases hlt : i < la.length
      · have i2 : (i : Int) < (la.length : Int) := by omega
        obtain ⟨p', c', ep, hat⟩ := (HA15.out wr hq.out).at_
        injection ep with ep1 _ ep2
        subst ep1 ep2
        obtain ⟨ga, oa, rfl, hca⟩ := hat (by omega)
        obtain ⟨o, ho, o0, o1, o2, o3⟩ := hca i hlt
        have hom := List.mem_of_getElem? ho
        have hk1 := (HAt.out (oiKey o) (List.mem_map.2 ⟨o, hom, rfl⟩)).1
        have hsl := HSl.out (oiKey o) (List.mem_map.2 ⟨o, hom, rfl⟩)
        have hrdo := (HA15.out wr hq.out).slots o hom
        have hmem : decide (o.oop ∈ zs st) = inSt st o := by
          unfold inSt
          rw [Bool.eq_iff_iff, decide_eq_true_eq, decide_eq_true_eq]
          have e : ((o.oop.toNat : Nat) : Int) = o.oop := by have : 1 ≤ o.oop := hk1; omega
          rw [← e, mem_zs', e]
        have HYes := mkHid (fun hf : inSt st o = true => kept_yes (st := st) ho hf)
        have HNo := mkHid (fun hf : inSt st o = false => kept_no (st := st) ho hf)
        have HFil := mkHid (fun hf : inSt st o = true => filter_at (inSt st) la i o ho hf)
        obtain ⟨oo, oc, of_, os, ovv⟩ := o
        dsimp only at *
        obtain ⟨pv, cv, rfl, -⟩ := hrdo.at_
        have HRo := mkHid hrdo
        have HIn : Hid (∀ V, Fr [] w15 V → Calls Tryd.prog 15 #[.slice p4 st.length c4', .int .i64 oo] V fun e w' => e = .returned (.bool (decide (oo ∈ zs st))) ∧ w' = V) := fun V hV => in_ok (zs st) oo _ V (HRd15.out V hV)
        rw [hmem] at HIn
        generalize hV1 : wr.alloc (.cells #[.int .i64 oo, .int .i64 oc, .int .i64 of_, .slice pv os.length cv] 44) = V1
        have HF1 : Hid (Fr [] wr V1) := by rw [← hV1]; exact Fr.alloc [] _ _
        have HBX : Hid (V1.heap[wr.heap.size]? = some (.cells #[.int .i64 oo, .int .i64 oc, .int .i64 of_, .slice pv os.length cv] 44 (0, 0))) := by rw [← hV1]; exact heap_alloc_new _ _
        have HFV : Hid (Fr [] w15 V1) := hq.out.trans HF1.out (by simp)
        have y0 : V1.cell? ⟨wr.heap.size, 0, none⟩ = some (.int .i64 oo) := by rw [cell_in HBX.out]; rfl
        have y1 : V1.cell? ⟨wr.heap.size, 1, none⟩ = some (.int .i64 oc) := by rw [cell_in HBX.out]; rfl
        have y2 : V1.cell? ⟨wr.heap.size, 2, none⟩ = some (.int .i64 of_) := by rw [cell_in HBX.out]; rfl
        have y3 : V1.cell? ⟨wr.heap.size, 3, none⟩ = some (.slice pv os.length cv) := by rw [cell_in HBX.out]; rfl
        clear hat hca ho hom hk1 hrdo hmem
        cases hb : inSt st ⟨oo, oc, of_, os, .slice pv os.length cv⟩ with
        | false =>
          rw [hb] at HIn
          obtain ⟨hkn, hun⟩ := HNo.out hb
          clear HYes HNo HFil hb
          go_wp2_with fail
          refine Calls.mono (HIn.out V1 HFV.out) ?_
          rintro e w' ⟨rfl, rfl⟩
          clear hV1
          go_wp2_with fail
          go_roundw
          case rel => exact ⟨i + 1, by omega, by go_num, by rw [hkn], by rw [hun], HFV⟩
          case measure => simp [intOf]; omega
        | true =>
          rw [hb] at HIn
          obtain ⟨hkn, hun⟩ := HYes.out hb
          have hfil := HFil.out hb
          have htk := (HTl15.out V1 HFV.out)
          obtain ⟨pt', ct', ept, htat⟩ := htk.sat.at_
          have hlol : (lo.map toOI).length = st.length := by
            have h1 := congrArg List.length htk.keys
            rw [List.length_map, List.length_map, List.length_map, hlen] at h1
            rw [List.length_map]
            exact h1
          rw [hlol] at ept htat
          injection ept with ep1 _ ep2
          subst ep1 ep2
          have hkk : keptN la st i < st.length := by rw [← hlen]; exact (List.getElem?_eq_some_iff.1 hfil).1
          obtain ⟨gt, ot, rfl, hct⟩ := htat (by omega)
          obtain ⟨o', ho', u0, u1, u2, u3⟩ := hct (keptN la st i) hkk
          have hrt := htk.sat.slots o' (List.mem_of_getElem? ho')
          have hkey : oiKey o' = (oo, oc, of_, os) := by
            have h1 := congrArg (fun l => l[keptN la st i]?) htk.keys
            simp only [List.getElem?_map] at h1
            have ho2 : (List.map toOI lo)[keptN la st i]? = some o' := ho'
            rw [List.getElem?_map] at ho2
            rw [show keptN la st i = ((la.take i).filter (inSt st)).length from rfl, hfil] at h1
            rw [show ((la.take i).filter (inSt st)).length = keptN la st i from rfl] at h1
            rw [ho2] at h1
            simpa [oiKey] using h1
          obtain ⟨oo', oc', of', os', ov'⟩ := o'
          simp only [oiKey, Prod.mk.injEq] at hkey
          obtain ⟨rfl, rfl, rfl, rfl⟩ := hkey
          dsimp only at *
          obtain ⟨pw, cw, rfl, -⟩ := hrt.at_
          have HSO : Hid (∀ V, Hid (Fr [] V1 V) → Calls Tryd.prog 24 #[.agg #[.int .i64 oo', .int .i64 oc', .int .i64 of', .slice pv os'.length cv], .agg #[.int .i64 oo', .int .i64 oc', .int .i64 of', .slice pw os'.length cw]] V fun e w' => e = .returned (.bool true) ∧ Hid (Fr [] V1 w')) := fun V hV =>
            (sameObject_ok oo' oc' of' os' _ _ V ((HRo.out.idle HF1.out).idle hV.out) (hrt.idle hV.out)).mono fun e w' ⟨he, hf⟩ => ⟨he, hV.out.trans hf (by simp)⟩
          have HCl : Hid (∀ V, Hid (Fr [] V1 V) → (V.cell? ⟨wr.heap.size, 0, none⟩ = some (.int .i64 oo') ∧ V.cell? ⟨wr.heap.size, 1, none⟩ = some (.int .i64 oc') ∧ V.cell? ⟨wr.heap.size, 2, none⟩ = some (.int .i64 of') ∧ V.cell? ⟨wr.heap.size, 3, none⟩ = some (.slice pv os'.length cv)) ∧ V.cell? ⟨T, 3, none⟩ = some (.slice (some ⟨gt, ot, none⟩) st.length ct) ∧ V.cell? ⟨gt, ot + keptN la st i * 4, none⟩ = some (.int .i64 oo') ∧ V.cell? ⟨gt, ot + keptN la st i * 4 + 1, none⟩ = some (.int .i64 oc') ∧ V.cell? ⟨gt, ot + keptN la st i * 4 + 2, none⟩ = some (.int .i64 of') ∧ V.cell? ⟨gt, ot + keptN la st i * 4 + 3, none⟩ = some (.slice pw os'.length cw)) := fun V hV => by
            have hb := (hV.out.block _ (lt_of_heap HBX.out) (by simp)).trans HBX.out
            have hgl : gt < V1.heap.size := World.block_lt_of_cell? V1 _ u0
            exact ⟨⟨by rw [cell_in hb]; rfl, by rw [cell_in hb]; rfl, by rw [cell_in hb]; rfl, by rw [cell_in hb]; rfl⟩, (HLoop.out V (HFV.out.trans hV.out (by simp))).2, (hV.out.cell (p := ⟨gt, _, none⟩) hgl (by simp)).trans u0, (hV.out.cell (p := ⟨gt, _, none⟩) hgl (by simp)).trans u1, (hV.out.cell (p := ⟨gt, _, none⟩) hgl (by simp)).trans u2, (hV.out.cell (p := ⟨gt, _, none⟩) hgl (by simp)).trans u3⟩
          have kk1 : (0 : Int) ≤ (keptN la st i : Int) := by omega
          have kk2 : (keptN la st i : Int) < (st.length : Int) := by omega
          have hlo : (os'.length : Int) ≤ 8192 := by have : os'.length ≤ 8192 := hsl; omega
          have hR : Hid (Fr [] V1 V1) := Fr.refl _ _
          clear HYes HNo HFil hb htat hct u0 u1 u2 u3 ho' hrt htk hfil hsl HRo
          generalize hKN : keptN la st i = KN at *
          generalize hUN : usedN la st i = UN at *
          go_wp2_with fail
          refine Calls.mono (HIn.out V1 HFV.out) ?_
          rintro e w' ⟨rfl, rfl⟩
          clear hV1
          go_wp2_with fail
          refine region_quiet hR (by kernel_rfl) (by kernel_rfl) ?_
          iterate 8
            first
              | refine wq_call 24 Tryd.f24 Tryd.func24 (by kernel_rfl) (by kernel_rfl) _ _ rfl rfl _ (by simp [Act.eval]) _ HSO.out ?_
              | (refine wq_val (v := ?_) rfl ?_ ?_
                 rotate_left
                 · (intro V hV; obtain ⟨⟨z0, z1, z2, z3⟩, z4, z5, z6, z7, z8⟩ := HCl.out V hV; go_simp; first | done | with_reducible rfl))
            try simp only [Act.put, List.setIfInBounds_toArray, List.set_cons_zero, List.set_cons_succ]
          refine wq_nil ?_
          intro w'' hf'
          obtain ⟨⟨z0, z1, z2, z3⟩, -⟩ := HCl.out w'' hf'
          have HFW : Hid (Fr [] w15 w'') := HFV.out.trans hf'.out (by simp)
          clear HCl HSO hf' y0 y1 y2 y3
          by_cases h1 : of' = 1
          · subst h1
            have hq4 : ((os'.length : Int) + 3).tdiv 4 = ((os'.length : Int) + 3) / 4 := Int.tdiv_eq_ediv_of_nonneg (by omega)
            have hln : lenOf (os'.length : Int) 1 = 2 + ((os'.length : Int) + 3) / 4 := by unfold lenOf; rw [if_pos rfl]
            rw [hln] at hun
            go_wp2_with fail
            go_roundw
            case rel => exact ⟨i + 1, by omega, by go_num, by rw [hkn]; go_num, by rw [hun]; congr 1; omega, HFW⟩
            case measure => simp [intOf]; omega
          · have hb1 : (of' == 1) = false := by simpa using h1
            have hln : lenOf (os'.length : Int) of' = 2 + (os'.length : Int) := by unfold lenOf; rw [if_neg h1]
            rw [hln] at hun
            clear h1
            go_wp2_with fail
            go_roundw
            case rel => exact ⟨i + 1, by omega, by go_num, by rw [hkn]; go_num, by rw [hun]; congr 1; omega, HFW⟩
            case measure => simp [intOf]; omega
      · have hie : i = la.length := by omega
        subst hie
        have hua := (kept_all la st).2
        have HRe16 := mkHid (HRe15.out.keep hq.out (by simp))
        have hsm := HLf.out.ka.inv.safe.small
        have hE := HLf.out.ka.mem
        have hcnt4 := HLf.out.cnt
        have HFC : Hid (Fr [] W1 wr) := HFA.out.trans hq.out (by simp)
        have HFD : Hid (Fr [] w10 wr) := HFB.out.trans hq.out (by simp)
        have hun := used_le la st la.length
        go_wp2_with fail
        refine Calls.mono (Room_any a l (keepH H st) wr HRe16.out hsm) ?_
        rintro e w16 ⟨rfl, n16, hw16⟩
        have HF16 : Hid (Fr [] wr w16) := by rw [hw16]; exact Fr.drewN [] _ _
        rw [HLf.out.ka.words, HLf.out.ka.oops, hE, hcnt4, ← hua]
        clear hw16
        obtain ⟨v17, V17, hr17, ho17, hf17⟩ := run_copy roots _ w16 (HR.out w16 (HFC.out.trans HF16.out (by simp)))
        have HR17 := mkHid hr17
        have HF17 : Hid (Fr [] w16 V17) := hf17
        have HRd17 := mkHid (own_rd ho17 s2)
        obtain ⟨p17, c17, rfl, -⟩ := HRd17.out.at_
        clear hr17 ho17 hf17
        go_wp2_with (at_builtin; refine Lib.wpList_append_run _ rfl (.const (.slice none 0 0)) (.tmp 156) 25 25 rfl _ _ rfl rfl _ _ HR17.out ?_)
        clear HR17
        have HFE : Hid (Fr [] wr V17) := HF16.out.trans HF17.out (by simp)
        refine Calls.mono (Run_ok a l (keepH H st) { M with things := keptTh M.things st } p17 c17 roots V17 (HRe16.out.keep HFE.out (by simp)) HLf.out.ka.inv (HTb.out V17 (HFC.out.trans HFE.out (by simp))).1 HRd17.out (by show H.age + 1 ≤ _; have := HAge.out; omega)) ?_
        rintro e w18 ⟨rs3, hsr3, rfl, hrep, -, hnx⟩
        have hsame := same_of HK.out HSr.out (by have := HAge.out; omega) (rs2 := rs3) (by rw [hst]; exact hsr3)
        rw [hst] at hsame
        rw [hsame.cnt, hsame.mem]
        have HKA := mkHid hsame.ka
        generalize keepH (keepH H st) (stays (keepH H st) rs3) = H5 at *
        generalize ({ M with things := keptTh (keptTh M.things st) (stays (keepH H st) rs3) } : MS) = M5 at *
        have HRe18 := mkHid hrep
        have HFG : Hid (Fr [] W1 w18) := (HFC.out.trans HFE.out (by simp)).trans hnx.1 (fun b hb => .inr (HNw.out b hb))
        have HTl18 : Hid (∀ V, Fr [] w18 V → Tld V w10.heap.size (.slice pt st.length ct) lo ((la.filter (inSt st)).map oiKey)) := fun V hV =>
          ((HTl15.out V17 (hq.out.trans HFE.out (by simp))).fr hnx.1 HFo10.out).fr hV (by simp)
        have HTB18 : Hid (w18.heap[T]? = some (.cells #[.int .i64 (xn : Int), .int .i64 (yn : Int), .int .i64 (zn : Int), .slice pt st.length ct] 24 (0, 0))) := by
          have h1 := (((HF15.out.trans hq.out (by simp)).trans HFE.out (by simp)).block _ (lt_of_heap HTB.out) (by simp)).trans HTB.out
          exact (hnx.1.block _ (lt_of_heap h1) (fun hm => by have := HFo10.out _ hm; omega)).trans h1
        have HCl : Hid (∀ V, Hid (Fr [] w18 V) → (V.cell? ⟨W.heap.size, 0, none⟩ = some (.int .i64 (xn : Int)) ∧ V.cell? ⟨W.heap.size, 1, none⟩ = some (.int .i64 (yn : Int))) ∧ (V.cell? ⟨T, 0, none⟩ = some (.int .i64 (xn : Int)) ∧ V.cell? ⟨T, 1, none⟩ = some (.int .i64 (yn : Int)) ∧ V.cell? ⟨T, 2, none⟩ = some (.int .i64 (zn : Int)) ∧ V.cell? ⟨T, 3, none⟩ = some (.slice pt st.length ct)) ∧ Hid (Fr [] w18 V)) := fun V hV => by
          have hb := (hV.out.block _ (lt_of_heap HTB18.out) (by simp)).trans HTB18.out
          obtain ⟨q0, q1, -⟩ := HS.out V (HFG.out.trans hV.out (by simp))
          exact ⟨⟨q0, q1⟩, ⟨by rw [cell_in hb]; rfl, by rw [cell_in hb]; rfl, by rw [cell_in hb]; rfl, by rw [cell_in hb]; rfl⟩, hV⟩
        have HSt : Hid (∀ V, Hid (Fr [] w18 V) → Calls Tryd.prog 12 #[.pointer (some ⟨a, 0, none⟩)] V fun e w' => ∃ p c lo, e = .returned (.agg #[.int .i64 (xn : Int), .int .i64 (yn : Int), .int .i64 (zn : Int), .slice p st.length c]) ∧ Hid (Tld w' V.heap.size (.slice p st.length c) lo ((la.filter (inSt st)).map oiKey)) ∧ Hid (Fr [] w18 w')) := fun V hV => by
          refine (state_of (HRe18.out.keep hV.out (by simp)) HKA.out).mono ?_
          rintro e w' ⟨p, c, lo2, rfl, h1, h2⟩
          rw [List.length_map, hlen] at h1 ⊢
          exact ⟨p, c, lo2, rfl, h1, hV.out.trans h2 (by simp)⟩
        have HSS : Hid (∀ V p c lo2 B, Hid (Tld V B (.slice p st.length c) lo2 ((la.filter (inSt st)).map oiKey)) → Hid (Fr [] w18 V) → Calls Tryd.prog 25 #[.agg #[.int .i64 (xn : Int), .int .i64 (yn : Int), .int .i64 (zn : Int), .slice p st.length c], .agg #[.int .i64 (xn : Int), .int .i64 (yn : Int), .int .i64 (zn : Int), .slice pt st.length ct]] V fun e w' => e = .returned (.bool true) ∧ Hid (Fr [] w18 w')) := fun V p c lo2 B h1 h2 =>
          (sameState_at xn yn zn _ _ _ _ V h1.out.sat (HTl18.out V h2.out).sat (h1.out.keys.trans (HTl18.out V h2.out).keys.symm)).mono fun e w' ⟨he, hf⟩ => ⟨he, h2.out.trans hf (by simp)⟩
        have HAl : Hid (∀ V, Hid (Fr [] w18 V) → Calls Tryd.prog 9 #[] V fun e w' => e = .returned (.bool true) ∧ Hid (Fr [] w18 w')) := fun V hV =>
          (alive_ok V (HTb.out V (HFG.out.trans hV.out (by simp))).1 (HTb.out V (HFG.out.trans hV.out (by simp))).2).mono fun e w' ⟨he, hf⟩ => ⟨he, hV.out.trans hf (by simp)⟩
        have hR : Hid (Fr [] w18 w18) := Fr.refl _ _
        have hnn := endK_nonneg ((la.filter (inSt st)).map oiKey)
        have hwx : IntKind.i64.wrap ((xn : Int) - endK ((la.filter (inSt st)).map oiKey)) = (xn : Int) - endK ((la.filter (inSt st)).map oiKey) := by rw [iwrap]; unfold wrap64; omega
        have hwy : IntKind.i64.wrap ((yn : Int) - (st.length : Int)) = (yn : Int) - (st.length : Int) := by rw [iwrap]; unfold wrap64; omega
        clear hsr3 hrep hsame hnx HTl15 HTl18 HTB18 HRe18 HKA HF15 HTB HLoop HA15 HRd15 HAt HSl d0 d1 d2 d3 t3 HRdL HFE HF16 HF17 HRd17 HRe16 HRe15 hE hua HTl HFA HFB HFC HFD HLf HK HSr HRowX HFX F12 HFZ
        generalize endK ((la.filter (inSt st)).map oiKey) = UU at *
        go_wp2_with fail
        obtain ⟨⟨c0, c1⟩, ⟨t0, t1, t2, t3⟩, -⟩ := HCl.out w18 hR
        go_region_held3 (fun w' => (w'.cell? ⟨W.heap.size, 0, none⟩ = some (.int .i64 (xn : Int)) ∧ w'.cell? ⟨W.heap.size, 1, none⟩ = some (.int .i64 (yn : Int))) ∧ (w'.cell? ⟨T, 0, none⟩ = some (.int .i64 (xn : Int)) ∧ w'.cell? ⟨T, 1, none⟩ = some (.int .i64 (yn : Int)) ∧ w'.cell? ⟨T, 2, none⟩ = some (.int .i64 (zn : Int)) ∧ w'.cell? ⟨T, 3, none⟩ = some (.slice pt st.length ct)) ∧ Hid (Fr [] w18 w'))
          (first
            | exact HCl.out _ (hid_drew hR)
            | exact HCl.out _ (by assumption))
          (first
            | (go_at_call 8; refine (num_any 0 _ (by decide) (by decide)).mono ?_; rintro e w' ⟨rfl, rfl⟩)
            | (go_at_call 12; refine (HSt.out _ (hid_drew hR)).mono ?_; rintro e w' ⟨p', c', lo', rfl, htl', hfa⟩)
            | (go_at_call 25; refine (HSS.out _ _ _ _ _ (by assumption) (by assumption)).mono ?_; rintro e w' ⟨rfl, hfb⟩)
            | (go_at_call 9; refine (HAl.out _ (by assumption)).mono ?_; rintro e w' ⟨rfl, hfc⟩))
        go_wp2_with fail
        go_ret
        exact ⟨rfl, (F1.out.trans HFG.out (by simp)).trans (Hid.out (by assumption)) (by simp)⟩
end Go.Proofs.YtpaekbghnejhoaaDoor

import Derived.Test.YtblbjgifhgfifaaPQChs
import Derived.Test.YtblbjgifhgfifaaPQMyI
import Derived.Test.YtblbjgifhgfifaaPG07NLawA
namespace Go.Proofs.Ytblbjgifhgfifaa
open Go.RowKit Go.Maps Go.WideMaps
set_option linter.unusedVariables false
set_option linter.unusedSimpArgs false
/-- what the program's Make hands out: rows of its own -/
def PrOut (w w' : World) (vr : Value) (cs : List Ch) : Prop := ∃ xs p d, vr = .slice p xs.length d ∧ xs.map Cg.c = cs ∧ w'.ownsRow w.heap.size 36 4 (.slice p xs.length d) xs.length (cgs xs) ∧ Cgs w w' xs ∧ Fr [] w w' ∧ xs.length ≤ 1048576
theorem prOut_nil {w w' : World} (h : Fr [] w w') : PrOut w w' (.slice none 0 0) [] := ⟨[], none, 0, rfl, rfl, World.ownsRow_nil _ _ _ _, Cgs.nil _ _, h, by simp⟩
theorem PrOut.mk {w w' : World} {vr : Value} {cs : List Ch} (h : PrOut w w' vr cs) : MkOut w w' vr cs := by
  obtain ⟨xs, p, d, rfl, h1, h2, h3, h4, h5⟩ := h
  refine ⟨xs, own_rdH h2 (fun x hx => ?_) (fun x hx => ?_) (fun x hx => ?_) (by omega), h1, h4, fun g hg => ?_⟩
  · exact own_rd (h3.old x hx).2 (h3.len x hx).1
  · exact own_rd (h3.new x hx).2 (h3.len x hx).2.1
  · exact own_rdI (h3.frm x hx).2 (h3.len x hx).2.2
  · rcases hg with hg | ⟨x, hx, hg | hg | hg⟩
    · exact (own_lt h2 g hg).1
    · exact (own_lt (h3.old x hx).2 g hg).1
    · exact (own_lt (h3.new x hx).2 g hg).1
    · exact (own_lt (h3.frm x hx).2 g hg).1
theorem among_at (l : List Cl) (s : ByteArray) : amongZ (names l) s = zO (atN l l.length s) := by
  unfold amongZ atN zO
  rw [show (names l).take l.length = names l by rw [show l.length = (names l).length by simp [names], List.take_length]]
theorem lin_bad {l : List Cl} {v : Value} {w : World} (h : Calls Try.prog 37 #[v] w (LinP l v w)) (hm : madeB l = false) : Calls Try.prog 37 #[v] w fun e w' => ∃ p1 n1 c1 p2 n2 c2 fv, e = .returned (.tuple #[.agg #[.slice p1 n1 c1, .slice p2 n2 c2, fv], .bool false]) ∧ (fv = .nilFunc ∨ ∃ bf, fv = .func (.func 58) #[] #[.pointer (some bf)]) ∧ Fr [] w w' := by
  refine Calls.mono h ?_
  rintro e w' (⟨_, ⟨u, rfl, p1, n1, c1, p2, n2, c2, fv, rfl, hfv⟩, hf⟩ | ⟨h2, _⟩)
  · exact ⟨p1, n1, c1, p2, n2, c2, fv, rfl, hfv, hf⟩
  · rw [hm] at h2; cases h2
theorem lin_good {l : List Cl} {v : Value} {w : World} (h : Calls Try.prog 37 #[v] w (LinP l v w)) (hm : madeB l = true) : Calls Try.prog 37 #[v] w fun e w' => ∃ g bf m, e = .returned (.tuple #[.agg #[v, .slice (some ⟨g, 0, none⟩) l.length l.length, .func (.func 58) #[] #[.pointer (some ⟨bf, 0, none⟩)]], .bool true]) ∧ Lin w' v l g bf m ∧ Fr [] w w' := by
  refine Calls.mono h ?_
  rintro e w' (⟨h2, _⟩ | ⟨_, g, bf, m, rfl, hL, hf⟩)
  · rw [hm] at h2; cases h2
  · exact ⟨g, bf, m, rfl, hL, hf⟩
set_option maxRecDepth 20000 in
set_option maxHeartbeats 2000000 in
theorem pMake_bad (l : List Cl) (kernel : Int) (name : ByteArray) (p : Option Addr) (c : Nat) (po : Option Addr) (no co : Nat) (w : World) (HL : Hid (Calls Try.prog 37 #[.slice p l.length c] w (LinP l (.slice p l.length c) w))) (hm : madeB l = false) :
    Calls Try.prog 13 #[.slice p l.length c, .int .i64 kernel, .string name, .slice po no co] w fun e w' => e = .returned (.tuple #[.slice none 0 0, .int .i64 1]) ∧ Fr [] w w' := by
  have HB := mkHid (lin_bad HL.out hm)
  clear HL
  go_enter Try.func13, Try.ntmps13
  go_wp2_with (first
    | (go_at_call 37
       refine HB.out.mono ?_
       rintro e w3 ⟨p1, n1, c1, p2, n2, c2, fv, rfl, hfv, hf⟩
       have HF := mkHid hf
       clear hf
       rcases hfv with rfl | ⟨bf, rfl⟩))
  all_goals go_wp2_with fail
  all_goals
    go_ret2
    exact ⟨rfl, HF.out.trans (Fr.alloc [] _ _) (by simp)⟩
/-- all that Make calls, once the list is well made -/
structure MkC (l : List Cl) (name : ByteArray) (own : List ByteArray) (v ov : Value) (w : World) : Prop where
  lin : Calls Try.prog 37 #[v] w fun e w' => ∃ g bf m, e = .returned (.tuple #[.agg #[v, .slice (some ⟨g, 0, none⟩) l.length l.length, .func (.func 58) #[] #[.pointer (some ⟨bf, 0, none⟩)]], .bool true]) ∧ Lin w' v l g bf m ∧ Fr [] w w'
  find : ∀ V g bf m, Lin V v l g bf m → Calls Try.prog 58 #[.string name, .pointer (some ⟨bf, 0, none⟩)] V fun e w' => e = .returned (.int .i64 (zO (atN l l.length name))) ∧ w' = V
  rsh : ∀ V g bf m top, top < l.length → Fr [] w V → Lin V v l g bf m → Calls Try.prog 38 #[.agg #[v, .slice (some ⟨g, 0, none⟩) l.length l.length, .func (.func 58) #[] #[.pointer (some ⟨bf, 0, none⟩)]], .int .i64 top, ov] V fun e w' => ∃ b, e = .returned (.pointer (some ⟨b, 0, none⟩)) ∧ Rsh w' v l top own ov b ∧ Fr [] w w'
  own_ : ∀ V b top, top < l.length → Fr [] w V → Rsh V v l top own ov b → Calls Try.prog 39 #[.pointer (some ⟨b, 0, none⟩)] V fun e w' => e = .returned (.int .i64 (listedZ (inherited l top) [] own)) ∧ Rsh w' v l top own ov b ∧ Fr [] w w'
  inh : ∀ V b top, top < l.length → Fr [] w V → Rsh V v l top own ov b → Calls Try.prog 40 #[.pointer (some ⟨b, 0, none⟩)] V fun e w' => e = .returned (.int .i64 (belowZ l top own)) ∧ Rsh w' v l top own ov b ∧ Fr [] w w'
  eq : ∀ V b top, top < l.length → Fr [] w V → Rsh V v l top own ov b → Calls Try.prog 41 #[ov, (clAt l top).v] V fun e w' => e = .returned (.bool (decide (own = (clAt l top).own))) ∧ Rsh w' v l top own ov b ∧ Fr [] w w'
  cnt : ∀ V b top, top < l.length → Fr [] w V → Rsh V v l top own ov b → Calls Try.prog 42 #[.pointer (some ⟨b, 0, none⟩)] V fun e w' => e = .returned (.int .i64 (if (affected l top l.length).any (full l) then 138 else 0)) ∧ Rsh w' v l top own ov b ∧ Fr [] w w'
  chs : ∀ V b top, top < l.length → Fr [] w V → Rsh V v l top own ov b → belowZ l top own = 0 → Calls Try.prog 43 #[.pointer (some ⟨b, 0, none⟩)] V fun e w' => ∃ p n d, e = .returned (.slice p n d) ∧ Hid (PrOut w w' (.slice p n d) (changes l top own))
theorem mkC (l : List Cl) (name : ByteArray) (own : List ByteArray) (v ov : Value) (w : World) (h : RdC w v l) (ho : RdS w ov own) (ha : Ask l own) (hT : Txt l) (hz : ∀ s ∈ own, s.size ≤ maxLen) (hn : name.size ≤ maxLen) (hm : madeB l = true) : MkC l name own v ov w := by
  have few := ha.few
  refine ⟨lin_good (lineageOf_ok l v w h few (fun k hk => (hT k).2.2) (fun k hk => ⟨(hT k).1, (hT k).2.1⟩)) hm, fun V g bf m hL => ?_, fun V g bf m top ht hV hL => ?_, fun V b top ht hV hR => ?_, fun V b top ht hV hR => ?_, fun V b top ht hV hR => ?_, fun V b top ht hV hR => ?_, fun V b top ht hV hR hb0 => ?_⟩
  · rw [← among_at]; exact find58 name bf m (names l) V hL.find hn
  · refine Calls.mono (reshapingOf_ok l top own v ov g bf m V (h.idle hV) (ho.idle hV) ht few hL hz) ?_
    rintro e w' ⟨b, rfl, hR, hf⟩
    exact ⟨b, rfl, hR, hV.trans hf (by simp)⟩
  · refine Calls.mono (mayOwn_ok l top own v ov b V hR ht few ha.small hT hz) ?_
    rintro e w' ⟨rfl, hf⟩
    exact ⟨rfl, hR.idle hf, hV.trans hf (by simp)⟩
  · refine Calls.mono (mayInherit_ok l top own v ov b V hR ht few (ha.small2 top) hT) ?_
    rintro e w' ⟨rfl, hf⟩
    exact ⟨rfl, hR.idle hf, hV.trans hf (by simp)⟩
  · refine Calls.mono (equal_ok own (clAt l top).own ov _ V hR.rds (hR.rdc.own top ht)) ?_
    rintro e w' ⟨rfl, hf⟩
    exact ⟨rfl, hR.idle hf, hV.trans hf (by simp)⟩
  · refine Calls.mono (mayCount_ok l top own v ov b V hR ht few) ?_
    rintro e w' ⟨rfl, hf⟩
    exact ⟨rfl, hR.idle hf, hV.trans hf (by simp)⟩
  · have hbz := hb0
    unfold belowZ at hbz
    split at hbz
    · omega
    · split at hbz
      · omega
      · rename_i h2
        rw [below2_fam] at h2
        refine Calls.mono (changes_ok l top own v ov b V hR ht few ha.small (ha.small2 top) hT hz (fun c hc => ?_)) ?_
        · have := fun hx => h2 (List.any_eq_true.2 ⟨c, hc, hx⟩)
          simp at this
          exact this
        · rintro e w' ⟨xs, p, d, rfl, q1, q2, q3, q4⟩
          refine ⟨p, _, d, rfl, mkHid ⟨xs, p, d, rfl, q1, own_down q2 hV.size, ⟨fun x hx => ⟨(q3.old x hx).1, own_down (q3.old x hx).2 hV.size⟩, fun x hx => ⟨(q3.new x hx).1, own_down (q3.new x hx).2 hV.size⟩, fun x hx => ⟨(q3.frm x hx).1, own_down (q3.frm x hx).2 hV.size⟩, q3.txt, q3.int, q3.len⟩, hV.trans q4 (by simp), ?_⟩⟩
          have e1 := congrArg List.length q1
          rw [List.length_map] at e1
          rw [e1]
          unfold changes
          rw [List.length_map]
          have := aff_len l top l.length
          omega
set_option maxRecDepth 20000 in
set_option maxHeartbeats 2000000 in
theorem pMake_neg (l : List Cl) (kernel : Int) (name : ByteArray) (own : List ByteArray) (p : Option Addr) (cc : Nat) (po : Option Addr) (no co : Nat) (w : World) (HC : Hid (MkC l name own (.slice p l.length cc) (.slice po no co) w)) (hk : kernel < 0) :
    Calls Try.prog 13 #[.slice p l.length cc, .int .i64 kernel, .string name, .slice po no co] w fun e w' => e = .returned (.tuple #[.slice none 0 0, .int .i64 1]) ∧ Fr [] w w' := by
  have HL := mkHid HC.out.lin
  go_enter Try.func13, Try.ntmps13
  go_wp2_with (first
    | (go_at_call 37
       refine HL.out.mono ?_
       rintro e w3 ⟨g, bf, m, rfl, hL3, hf3⟩
       have HL3 := mkHid (hL3.idle (Fr.alloc [] w3 (.cells #[.slice p l.length cc, .slice (some ⟨g, 0, none⟩) l.length l.length, .func (.func 58) #[] #[.pointer (some ⟨bf, 0, none⟩)]] 64)))
       have HF3 : Hid (Fr [] w (w3.alloc (.cells #[.slice p l.length cc, .slice (some ⟨g, 0, none⟩) l.length l.length, .func (.func 58) #[] #[.pointer (some ⟨bf, 0, none⟩)]] 64))) := mkHid (hf3.trans (Fr.alloc [] _ _) (by simp))
       clear hL3 hf3))
  go_ret2
  exact ⟨rfl, HF3.out⟩
set_option maxRecDepth 20000 in
set_option maxHeartbeats 2000000 in
theorem pMake_great (l : List Cl) (kernel : Int) (name : ByteArray) (own : List ByteArray) (p : Option Addr) (cc : Nat) (po : Option Addr) (no co : Nat) (w : World) (HC : Hid (MkC l name own (.slice p l.length cc) (.slice po no co) w)) (hk : ¬ kernel < 0) (hk2 : (l.length : Int) < kernel) :
    Calls Try.prog 13 #[.slice p l.length cc, .int .i64 kernel, .string name, .slice po no co] w fun e w' => e = .returned (.tuple #[.slice none 0 0, .int .i64 1]) ∧ Fr [] w w' := by
  have HL := mkHid HC.out.lin
  go_enter Try.func13, Try.ntmps13
  go_wp2_with (first
    | (go_at_call 37
       refine HL.out.mono ?_
       rintro e w3 ⟨g, bf, m, rfl, hL3, hf3⟩
       have HL3 := mkHid (hL3.idle (Fr.alloc [] w3 (.cells #[.slice p l.length cc, .slice (some ⟨g, 0, none⟩) l.length l.length, .func (.func 58) #[] #[.pointer (some ⟨bf, 0, none⟩)]] 64)))
       have HF3 : Hid (Fr [] w (w3.alloc (.cells #[.slice p l.length cc, .slice (some ⟨g, 0, none⟩) l.length l.length, .func (.func 58) #[] #[.pointer (some ⟨bf, 0, none⟩)]] 64))) := mkHid (hf3.trans (Fr.alloc [] _ _) (by simp))
       clear hL3 hf3))
  go_ret2
  exact ⟨rfl, HF3.out⟩
set_option maxRecDepth 20000 in
set_option maxHeartbeats 2000000 in
theorem pMake_none (l : List Cl) (kernel : Int) (name : ByteArray) (own : List ByteArray) (p : Option Addr) (cc : Nat) (po : Option Addr) (no co : Nat) (w : World) (HC : Hid (MkC l name own (.slice p l.length cc) (.slice po no co) w)) (hk : ¬ kernel < 0) (hk2 : ¬ (l.length : Int) < kernel) (hat : atN l l.length name = none) :
    Calls Try.prog 13 #[.slice p l.length cc, .int .i64 kernel, .string name, .slice po no co] w fun e w' => e = .returned (.tuple #[.slice none 0 0, .int .i64 130]) ∧ Fr [] w w' := by
  have hzs : ∀ d, zO (some d) = (d : Int) := fun d => rfl
  have hzn : zO none = -1 := rfl
  have HAT := mkHid hat
  clear hat
  have HL := mkHid HC.out.lin
  go_enter Try.func13, Try.ntmps13
  go_wp2_with (first
    | (go_at_call 37
       refine HL.out.mono ?_
       rintro e w3 ⟨g, bf, m, rfl, hL3, hf3⟩
       have HL3 := mkHid (hL3.idle (Fr.alloc [] w3 (.cells #[.slice p l.length cc, .slice (some ⟨g, 0, none⟩) l.length l.length, .func (.func 58) #[] #[.pointer (some ⟨bf, 0, none⟩)]] 64)))
       have HF3 : Hid (Fr [] w (w3.alloc (.cells #[.slice p l.length cc, .slice (some ⟨g, 0, none⟩) l.length l.length, .func (.func 58) #[] #[.pointer (some ⟨bf, 0, none⟩)]] 64))) := mkHid (hf3.trans (Fr.alloc [] _ _) (by simp))
       clear hL3 hf3)
    | (go_at_call 58; refine (HC.out.find _ _ _ _ HL3.out).mono ?_; rewrite [HAT.out, hzn]; rintro e w9 ⟨rfl, rfl⟩))
  go_ret2
  exact ⟨rfl, HF3.out⟩
set_option maxRecDepth 20000 in
set_option maxHeartbeats 2000000 in
theorem pMake_kern (l : List Cl) (kernel : Int) (name : ByteArray) (own : List ByteArray) (gc oc cc : Nat) (po : Option Addr) (no co : Nat) (w : World) (HC : Hid (MkC l name own (.slice (some ⟨gc, oc, none⟩) l.length cc) (.slice po no co) w)) (hk : ¬ kernel < 0) (hk2 : ¬ (l.length : Int) < kernel) (top : Nat) (hat : atN l l.length name = some top) (ht : top < l.length) (hk3 : (top : Int) < kernel) :
    Calls Try.prog 13 #[.slice (some ⟨gc, oc, none⟩) l.length cc, .int .i64 kernel, .string name, .slice po no co] w fun e w' => e = .returned (.tuple #[.slice none 0 0, .int .i64 132]) ∧ Fr [] w w' := by
  have hzs : ∀ d, zO (some d) = (d : Int) := fun d => rfl
  have hzn : zO none = -1 := rfl
  have HAT := mkHid hat
  have t0 : (0 : Int) ≤ (top : Int) := by omega
  have t1 : (top : Int) < (l.length : Int) := by omega
  clear hat
  have HL := mkHid HC.out.lin
  go_enter Try.func13, Try.ntmps13
  go_wp2_with (first
    | (go_at_call 37
       refine HL.out.mono ?_
       rintro e w3 ⟨g, bf, m, rfl, hL3, hf3⟩
       have HL3 := mkHid (hL3.idle (Fr.alloc [] w3 (.cells #[.slice (some ⟨gc, oc, none⟩) l.length cc, .slice (some ⟨g, 0, none⟩) l.length l.length, .func (.func 58) #[] #[.pointer (some ⟨bf, 0, none⟩)]] 64)))
       have HF3 : Hid (Fr [] w (w3.alloc (.cells #[.slice (some ⟨gc, oc, none⟩) l.length cc, .slice (some ⟨g, 0, none⟩) l.length l.length, .func (.func 58) #[] #[.pointer (some ⟨bf, 0, none⟩)]] 64))) := mkHid (hf3.trans (Fr.alloc [] _ _) (by simp))
       clear hL3 hf3)
    | (go_at_call 58; refine (HC.out.find _ _ _ _ HL3.out).mono ?_; rewrite [HAT.out, hzs]; rintro e w9 ⟨rfl, rfl⟩))
  go_ret2
  exact ⟨rfl, HF3.out⟩
set_option maxRecDepth 20000 in
set_option maxHeartbeats 2000000 in
theorem pMake_listed (l : List Cl) (kernel : Int) (name : ByteArray) (own : List ByteArray) (gc oc cc : Nat) (po : Option Addr) (no co : Nat) (w : World) (HC : Hid (MkC l name own (.slice (some ⟨gc, oc, none⟩) l.length cc) (.slice po no co) w)) (hk : ¬ kernel < 0) (hk2 : ¬ (l.length : Int) < kernel) (top : Nat) (hat : atN l l.length name = some top) (ht : top < l.length) (hk3 : ¬ (top : Int) < kernel) (z : Int) (hl : listedZ (inherited l top) [] own = z) (hzb : (z != 0) = true) :
    Calls Try.prog 13 #[.slice (some ⟨gc, oc, none⟩) l.length cc, .int .i64 kernel, .string name, .slice po no co] w fun e w' => e = .returned (.tuple #[.slice none 0 0, .int .i64 z]) ∧ Fr [] w w' := by
  have hzs : ∀ d, zO (some d) = (d : Int) := fun d => rfl
  have hzn : zO none = -1 := rfl
  have HAT := mkHid hat
  have t0 : (0 : Int) ≤ (top : Int) := by omega
  have t1 : (top : Int) < (l.length : Int) := by omega
  clear hat
  have HLz := mkHid hl
  clear hl
  have HL := mkHid HC.out.lin
  go_enter Try.func13, Try.ntmps13
  go_wp2_with (first
    | (go_at_call 39; refine (HC.out.own_ _ b top ht HF5.out HR5.out).mono ?_; rewrite [HLz.out]; rintro e w6 ⟨rfl, hr, hf⟩; have HR6 := mkHid hr; have HF6 := mkHid hf; clear hr hf)
    | (go_at_call 38; refine (HC.out.rsh _ _ _ _ top ht HF3.out HL3.out).mono ?_; rintro e w5 ⟨b, rfl, hr, hf⟩; have HR5 := mkHid hr; have HF5 := mkHid hf; clear hr hf)
    | (go_at_call 58; refine (HC.out.find _ _ _ _ HL3.out).mono ?_; rewrite [HAT.out, hzs]; rintro e w9 ⟨rfl, rfl⟩)
    | (go_at_call 37
       refine HL.out.mono ?_
       rintro e w3 ⟨g, bf, m, rfl, hL3, hf3⟩
       have HL3 := mkHid (hL3.idle (Fr.alloc [] w3 (.cells #[.slice (some ⟨gc, oc, none⟩) l.length cc, .slice (some ⟨g, 0, none⟩) l.length l.length, .func (.func 58) #[] #[.pointer (some ⟨bf, 0, none⟩)]] 64)))
       have HF3 : Hid (Fr [] w (w3.alloc (.cells #[.slice (some ⟨gc, oc, none⟩) l.length cc, .slice (some ⟨g, 0, none⟩) l.length l.length, .func (.func 58) #[] #[.pointer (some ⟨bf, 0, none⟩)]] 64))) := mkHid (hf3.trans (Fr.alloc [] _ _) (by simp))
       clear hL3 hf3))
  go_ret2
  exact ⟨rfl, HF6.out⟩
set_option maxRecDepth 20000 in
set_option maxHeartbeats 2000000 in
theorem pMake_below (l : List Cl) (kernel : Int) (name : ByteArray) (own : List ByteArray) (gc oc cc : Nat) (po : Option Addr) (no co : Nat) (w : World) (HC : Hid (MkC l name own (.slice (some ⟨gc, oc, none⟩) l.length cc) (.slice po no co) w)) (hk : ¬ kernel < 0) (hk2 : ¬ (l.length : Int) < kernel) (top : Nat) (hat : atN l l.length name = some top) (ht : top < l.length) (hk3 : ¬ (top : Int) < kernel) (hl : listedZ (inherited l top) [] own = 0) (z : Int) (hb : belowZ l top own = z) (hzb : (z != 0) = true) :
    Calls Try.prog 13 #[.slice (some ⟨gc, oc, none⟩) l.length cc, .int .i64 kernel, .string name, .slice po no co] w fun e w' => e = .returned (.tuple #[.slice none 0 0, .int .i64 z]) ∧ Fr [] w w' := by
  have hzs : ∀ d, zO (some d) = (d : Int) := fun d => rfl
  have hzn : zO none = -1 := rfl
  have HAT := mkHid hat
  have t0 : (0 : Int) ≤ (top : Int) := by omega
  have t1 : (top : Int) < (l.length : Int) := by omega
  clear hat
  have HLz := mkHid hl
  clear hl
  have HBz := mkHid hb
  clear hb
  have HL := mkHid HC.out.lin
  go_enter Try.func13, Try.ntmps13
  go_wp2_with (first
    | (go_at_call 40; refine (HC.out.inh _ b top ht HF6.out HR6.out).mono ?_; rewrite [HBz.out]; rintro e w7 ⟨rfl, hr, hf⟩; have HR7 := mkHid hr; have HF7 := mkHid hf; clear hr hf)
    | (go_at_call 39; refine (HC.out.own_ _ b top ht HF5.out HR5.out).mono ?_; rewrite [HLz.out]; rintro e w6 ⟨rfl, hr, hf⟩; have HR6 := mkHid hr; have HF6 := mkHid hf; clear hr hf)
    | (go_at_call 38; refine (HC.out.rsh _ _ _ _ top ht HF3.out HL3.out).mono ?_; rintro e w5 ⟨b, rfl, hr, hf⟩; have HR5 := mkHid hr; have HF5 := mkHid hf; clear hr hf)
    | (go_at_call 58; refine (HC.out.find _ _ _ _ HL3.out).mono ?_; rewrite [HAT.out, hzs]; rintro e w9 ⟨rfl, rfl⟩)
    | (go_at_call 37
       refine HL.out.mono ?_
       rintro e w3 ⟨g, bf, m, rfl, hL3, hf3⟩
       have HL3 := mkHid (hL3.idle (Fr.alloc [] w3 (.cells #[.slice (some ⟨gc, oc, none⟩) l.length cc, .slice (some ⟨g, 0, none⟩) l.length l.length, .func (.func 58) #[] #[.pointer (some ⟨bf, 0, none⟩)]] 64)))
       have HF3 : Hid (Fr [] w (w3.alloc (.cells #[.slice (some ⟨gc, oc, none⟩) l.length cc, .slice (some ⟨g, 0, none⟩) l.length l.length, .func (.func 58) #[] #[.pointer (some ⟨bf, 0, none⟩)]] 64))) := mkHid (hf3.trans (Fr.alloc [] _ _) (by simp))
       clear hL3 hf3))
  go_ret2
  exact ⟨rfl, HF7.out⟩
set_option maxRecDepth 20000 in
set_option maxHeartbeats 2000000 in
theorem pMake_same (l : List Cl) (kernel : Int) (name : ByteArray) (own : List ByteArray) (gc oc cc : Nat) (po : Option Addr) (no co : Nat) (w : World) (HC : Hid (MkC l name own (.slice (some ⟨gc, oc, none⟩) l.length cc) (.slice po no co) w)) (hk : ¬ kernel < 0) (hk2 : ¬ (l.length : Int) < kernel) (top : Nat) (hat : atN l l.length name = some top) (ht : top < l.length) (hk3 : ¬ (top : Int) < kernel) (hl : listedZ (inherited l top) [] own = 0) (hb : belowZ l top own = 0) (pv : Option Addr) (nv cv : Nat) (hv : (clAt l top).v = .slice pv nv cv) (hsm : decide (own = (clAt l top).own) = true) :
    Calls Try.prog 13 #[.slice (some ⟨gc, oc, none⟩) l.length cc, .int .i64 kernel, .string name, .slice po no co] w fun e w' => e = .returned (.tuple #[.slice none 0 0, .int .i64 0]) ∧ Fr [] w w' := by
  have hzs : ∀ d, zO (some d) = (d : Int) := fun d => rfl
  have hzn : zO none = -1 := rfl
  have HAT := mkHid hat
  have t0 : (0 : Int) ≤ (top : Int) := by omega
  have t1 : (top : Int) < (l.length : Int) := by omega
  clear hat
  have HLz := mkHid hl
  clear hl
  have HBz := mkHid hb
  clear hb
  have HV : Hid (∀ (V : World) (b : Nat), Rsh V (.slice (some ⟨gc, oc, none⟩) l.length cc) l top own (.slice po no co) b → V.cell? ⟨gc, oc + top * 4 + 2, none⟩ = some (.slice pv nv cv)) := mkHid (fun V b hR => by
    obtain ⟨p', c', e, hcl⟩ := hR.rdc.at_
    obtain ⟨g', o', e2, x1, x2⟩ := hcl (by omega)
    injection e with e _ _
    rw [← e] at e2
    injection e2 with e2
    injection e2 with e3 e4
    subst e3
    subst e4
    rw [(x2 top ht).2.2.1, hv])
  have HE41 : Hid (∀ V b, Fr [] w V → Rsh V (.slice (some ⟨gc, oc, none⟩) l.length cc) l top own (.slice po no co) b → Calls Try.prog 41 #[.slice po no co, .slice pv nv cv] V fun e w' => e = .returned (.bool (decide (own = (clAt l top).own))) ∧ Rsh w' (.slice (some ⟨gc, oc, none⟩) l.length cc) l top own (.slice po no co) b ∧ Fr [] w w') := mkHid (fun V b hV hR => by
    have := HC.out.eq V b top ht hV hR
    rw [hv] at this
    exact this)
  clear hv
  have HEq := mkHid hsm
  clear hsm
  have HL := mkHid HC.out.lin
  go_enter Try.func13, Try.ntmps13
  go_wp2_with (first
    | (go_at_call 41; refine (HE41.out _ b HF7.out HR7.out).mono ?_; rewrite [HEq.out]; rintro e w8 ⟨rfl, hr, hf⟩; have HR8 := mkHid hr; have HF8 := mkHid hf; clear hr hf)
    | (go_at_call 40; refine (HC.out.inh _ b top ht HF6.out HR6.out).mono ?_; rewrite [HBz.out]; rintro e w7 ⟨rfl, hr, hf⟩; have kv := HV.out _ _ hr; have HR7 := mkHid hr; have HF7 := mkHid hf; clear hr hf)
    | (go_at_call 39; refine (HC.out.own_ _ b top ht HF5.out HR5.out).mono ?_; rewrite [HLz.out]; rintro e w6 ⟨rfl, hr, hf⟩; have HR6 := mkHid hr; have HF6 := mkHid hf; clear hr hf)
    | (go_at_call 38; refine (HC.out.rsh _ _ _ _ top ht HF3.out HL3.out).mono ?_; rintro e w5 ⟨b, rfl, hr, hf⟩; have HR5 := mkHid hr; have HF5 := mkHid hf; clear hr hf)
    | (go_at_call 58; refine (HC.out.find _ _ _ _ HL3.out).mono ?_; rewrite [HAT.out, hzs]; rintro e w9 ⟨rfl, rfl⟩)
    | (go_at_call 37
       refine HL.out.mono ?_
       rintro e w3 ⟨g, bf, m, rfl, hL3, hf3⟩
       have HL3 := mkHid (hL3.idle (Fr.alloc [] w3 (.cells #[.slice (some ⟨gc, oc, none⟩) l.length cc, .slice (some ⟨g, 0, none⟩) l.length l.length, .func (.func 58) #[] #[.pointer (some ⟨bf, 0, none⟩)]] 64)))
       have HF3 : Hid (Fr [] w (w3.alloc (.cells #[.slice (some ⟨gc, oc, none⟩) l.length cc, .slice (some ⟨g, 0, none⟩) l.length l.length, .func (.func 58) #[] #[.pointer (some ⟨bf, 0, none⟩)]] 64))) := mkHid (hf3.trans (Fr.alloc [] _ _) (by simp))
       clear hL3 hf3))
  go_ret2
  exact ⟨rfl, HF8.out⟩
set_option maxRecDepth 20000 in
set_option maxHeartbeats 2000000 in
theorem pMake_count (l : List Cl) (kernel : Int) (name : ByteArray) (own : List ByteArray) (gc oc cc : Nat) (po : Option Addr) (no co : Nat) (w : World) (HC : Hid (MkC l name own (.slice (some ⟨gc, oc, none⟩) l.length cc) (.slice po no co) w)) (hk : ¬ kernel < 0) (hk2 : ¬ (l.length : Int) < kernel) (top : Nat) (hat : atN l l.length name = some top) (ht : top < l.length) (hk3 : ¬ (top : Int) < kernel) (hl : listedZ (inherited l top) [] own = 0) (hb : belowZ l top own = 0) (pv : Option Addr) (nv cv : Nat) (hv : (clAt l top).v = .slice pv nv cv) (hsm : decide (own = (clAt l top).own) = false) (hc : (if (affected l top l.length).any (full l) then (138 : Int) else 0) = 138) :
    Calls Try.prog 13 #[.slice (some ⟨gc, oc, none⟩) l.length cc, .int .i64 kernel, .string name, .slice po no co] w fun e w' => e = .returned (.tuple #[.slice none 0 0, .int .i64 138]) ∧ Fr [] w w' := by
  have hzs : ∀ d, zO (some d) = (d : Int) := fun d => rfl
  have hzn : zO none = -1 := rfl
  have HAT := mkHid hat
  have t0 : (0 : Int) ≤ (top : Int) := by omega
  have t1 : (top : Int) < (l.length : Int) := by omega
  clear hat
  have HLz := mkHid hl
  clear hl
  have HBz := mkHid hb
  clear hb
  have HV : Hid (∀ (V : World) (b : Nat), Rsh V (.slice (some ⟨gc, oc, none⟩) l.length cc) l top own (.slice po no co) b → V.cell? ⟨gc, oc + top * 4 + 2, none⟩ = some (.slice pv nv cv)) := mkHid (fun V b hR => by
    obtain ⟨p', c', e, hcl⟩ := hR.rdc.at_
    obtain ⟨g', o', e2, x1, x2⟩ := hcl (by omega)
    injection e with e _ _
    rw [← e] at e2
    injection e2 with e2
    injection e2 with e3 e4
    subst e3
    subst e4
    rw [(x2 top ht).2.2.1, hv])
  have HE41 : Hid (∀ V b, Fr [] w V → Rsh V (.slice (some ⟨gc, oc, none⟩) l.length cc) l top own (.slice po no co) b → Calls Try.prog 41 #[.slice po no co, .slice pv nv cv] V fun e w' => e = .returned (.bool (decide (own = (clAt l top).own))) ∧ Rsh w' (.slice (some ⟨gc, oc, none⟩) l.length cc) l top own (.slice po no co) b ∧ Fr [] w w') := mkHid (fun V b hV hR => by
    have := HC.out.eq V b top ht hV hR
    rw [hv] at this
    exact this)
  clear hv
  have HEq := mkHid hsm
  clear hsm
  have HCt := mkHid hc
  clear hc
  have HL := mkHid HC.out.lin
  go_enter Try.func13, Try.ntmps13
  go_wp2_with (first
    | (go_at_call 42; refine (HC.out.cnt _ b top ht HF8.out HR8.out).mono ?_; rewrite [HCt.out]; rintro e w10 ⟨rfl, hr, hf⟩; have HR10 := mkHid hr; have HF10 := mkHid hf; clear hr hf)
    | (go_at_call 41; refine (HE41.out _ b HF7.out HR7.out).mono ?_; rewrite [HEq.out]; rintro e w8 ⟨rfl, hr, hf⟩; have HR8 := mkHid hr; have HF8 := mkHid hf; clear hr hf)
    | (go_at_call 40; refine (HC.out.inh _ b top ht HF6.out HR6.out).mono ?_; rewrite [HBz.out]; rintro e w7 ⟨rfl, hr, hf⟩; have kv := HV.out _ _ hr; have HR7 := mkHid hr; have HF7 := mkHid hf; clear hr hf)
    | (go_at_call 39; refine (HC.out.own_ _ b top ht HF5.out HR5.out).mono ?_; rewrite [HLz.out]; rintro e w6 ⟨rfl, hr, hf⟩; have HR6 := mkHid hr; have HF6 := mkHid hf; clear hr hf)
    | (go_at_call 38; refine (HC.out.rsh _ _ _ _ top ht HF3.out HL3.out).mono ?_; rintro e w5 ⟨b, rfl, hr, hf⟩; have HR5 := mkHid hr; have HF5 := mkHid hf; clear hr hf)
    | (go_at_call 58; refine (HC.out.find _ _ _ _ HL3.out).mono ?_; rewrite [HAT.out, hzs]; rintro e w9 ⟨rfl, rfl⟩)
    | (go_at_call 37
       refine HL.out.mono ?_
       rintro e w3 ⟨g, bf, m, rfl, hL3, hf3⟩
       have HL3 := mkHid (hL3.idle (Fr.alloc [] w3 (.cells #[.slice (some ⟨gc, oc, none⟩) l.length cc, .slice (some ⟨g, 0, none⟩) l.length l.length, .func (.func 58) #[] #[.pointer (some ⟨bf, 0, none⟩)]] 64)))
       have HF3 : Hid (Fr [] w (w3.alloc (.cells #[.slice (some ⟨gc, oc, none⟩) l.length cc, .slice (some ⟨g, 0, none⟩) l.length l.length, .func (.func 58) #[] #[.pointer (some ⟨bf, 0, none⟩)]] 64))) := mkHid (hf3.trans (Fr.alloc [] _ _) (by simp))
       clear hL3 hf3))
  go_ret2
  exact ⟨rfl, HF10.out⟩
set_option maxRecDepth 20000 in
set_option maxHeartbeats 2000000 in
theorem pMake_chg (l : List Cl) (kernel : Int) (name : ByteArray) (own : List ByteArray) (gc oc cc : Nat) (po : Option Addr) (no co : Nat) (w : World) (HC : Hid (MkC l name own (.slice (some ⟨gc, oc, none⟩) l.length cc) (.slice po no co) w)) (hk : ¬ kernel < 0) (hk2 : ¬ (l.length : Int) < kernel) (top : Nat) (hat : atN l l.length name = some top) (ht : top < l.length) (hk3 : ¬ (top : Int) < kernel) (hl : listedZ (inherited l top) [] own = 0) (hb : belowZ l top own = 0) (pv : Option Addr) (nv cv : Nat) (hv : (clAt l top).v = .slice pv nv cv) (hsm : decide (own = (clAt l top).own) = false) (hc : (if (affected l top l.length).any (full l) then (138 : Int) else 0) = 0) :
    Calls Try.prog 13 #[.slice (some ⟨gc, oc, none⟩) l.length cc, .int .i64 kernel, .string name, .slice po no co] w fun e w' => ∃ vr, e = .returned (.tuple #[vr, .int .i64 0]) ∧ PrOut w w' vr (changes l top own) := by
  have hzs : ∀ d, zO (some d) = (d : Int) := fun d => rfl
  have hzn : zO none = -1 := rfl
  have HAT := mkHid hat
  have t0 : (0 : Int) ≤ (top : Int) := by omega
  have t1 : (top : Int) < (l.length : Int) := by omega
  clear hat
  have HLz := mkHid hl
  clear hl
  have HBz := mkHid hb
  clear hb
  have HV : Hid (∀ (V : World) (b : Nat), Rsh V (.slice (some ⟨gc, oc, none⟩) l.length cc) l top own (.slice po no co) b → V.cell? ⟨gc, oc + top * 4 + 2, none⟩ = some (.slice pv nv cv)) := mkHid (fun V b hR => by
    obtain ⟨p', c', e, hcl⟩ := hR.rdc.at_
    obtain ⟨g', o', e2, x1, x2⟩ := hcl (by omega)
    injection e with e _ _
    rw [← e] at e2
    injection e2 with e2
    injection e2 with e3 e4
    subst e3
    subst e4
    rw [(x2 top ht).2.2.1, hv])
  have HE41 : Hid (∀ V b, Fr [] w V → Rsh V (.slice (some ⟨gc, oc, none⟩) l.length cc) l top own (.slice po no co) b → Calls Try.prog 41 #[.slice po no co, .slice pv nv cv] V fun e w' => e = .returned (.bool (decide (own = (clAt l top).own))) ∧ Rsh w' (.slice (some ⟨gc, oc, none⟩) l.length cc) l top own (.slice po no co) b ∧ Fr [] w w') := mkHid (fun V b hV hR => by
    have := HC.out.eq V b top ht hV hR
    rw [hv] at this
    exact this)
  clear hv
  have HEq := mkHid hsm
  clear hsm
  have HCt := mkHid hc
  clear hc
  have HL := mkHid HC.out.lin
  go_enter Try.func13, Try.ntmps13
  go_wp2_with (first
    | (go_at_call 43; refine (HC.out.chs _ b top ht HF10.out HR10.out HBz.out).mono ?_; rintro e w11 ⟨pr, nr, dr, rfl, hpr⟩)
    | (go_at_call 42; refine (HC.out.cnt _ b top ht HF8.out HR8.out).mono ?_; rewrite [HCt.out]; rintro e w10 ⟨rfl, hr, hf⟩; have HR10 := mkHid hr; have HF10 := mkHid hf; clear hr hf)
    | (go_at_call 41; refine (HE41.out _ b HF7.out HR7.out).mono ?_; rewrite [HEq.out]; rintro e w8 ⟨rfl, hr, hf⟩; have HR8 := mkHid hr; have HF8 := mkHid hf; clear hr hf)
    | (go_at_call 40; refine (HC.out.inh _ b top ht HF6.out HR6.out).mono ?_; rewrite [HBz.out]; rintro e w7 ⟨rfl, hr, hf⟩; have kv := HV.out _ _ hr; have HR7 := mkHid hr; have HF7 := mkHid hf; clear hr hf)
    | (go_at_call 39; refine (HC.out.own_ _ b top ht HF5.out HR5.out).mono ?_; rewrite [HLz.out]; rintro e w6 ⟨rfl, hr, hf⟩; have HR6 := mkHid hr; have HF6 := mkHid hf; clear hr hf)
    | (go_at_call 38; refine (HC.out.rsh _ _ _ _ top ht HF3.out HL3.out).mono ?_; rintro e w5 ⟨b, rfl, hr, hf⟩; have HR5 := mkHid hr; have HF5 := mkHid hf; clear hr hf)
    | (go_at_call 58; refine (HC.out.find _ _ _ _ HL3.out).mono ?_; rewrite [HAT.out, hzs]; rintro e w9 ⟨rfl, rfl⟩)
    | (go_at_call 37
       refine HL.out.mono ?_
       rintro e w3 ⟨g, bf, m, rfl, hL3, hf3⟩
       have HL3 := mkHid (hL3.idle (Fr.alloc [] w3 (.cells #[.slice (some ⟨gc, oc, none⟩) l.length cc, .slice (some ⟨g, 0, none⟩) l.length l.length, .func (.func 58) #[] #[.pointer (some ⟨bf, 0, none⟩)]] 64)))
       have HF3 : Hid (Fr [] w (w3.alloc (.cells #[.slice (some ⟨gc, oc, none⟩) l.length cc, .slice (some ⟨g, 0, none⟩) l.length l.length, .func (.func 58) #[] #[.pointer (some ⟨bf, 0, none⟩)]] 64))) := mkHid (hf3.trans (Fr.alloc [] _ _) (by simp))
       clear hL3 hf3))
  go_ret2
  exact ⟨_, rfl, hpr.out⟩
end Go.Proofs.Ytblbjgifhgfifaa

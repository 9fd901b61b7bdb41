import Derived.Test.YtdflpoldlokijaaDoorSCStp1
import Derived.Test.YtdflpoldlokijaaDoorSCStp2
import Derived.Test.YtdflpoldlokijaaDoorSCStp3
import Derived.Test.YtdflpoldlokijaaDoorSCStp4
import Derived.Test.YtdflpoldlokijaaDoorSG32CStp7
import Derived.Test.YtdflpoldlokijaaDoorSG33CStp9
namespace Go.Proofs.YtdflpoldlokijaaDoor
open Go.RowKit
set_option linter.unusedVariables false
set_option linter.unusedSimpArgs false
/-- a body that the law may walk -/
structure BodyOk (pls : List Pl) (inf : List Inf) (dep : List Int) (b e : Nat) (sc : List Nat) : Prop where
  k : ∃ k, 1 ≤ k ∧ inf[k - 1]? = some (sc, b, e) ∧ (plD pls b).body = k
  zero : depD dep b = 0
  s1 : 1 ≤ sc.length
  s25 : sc.length ≤ 25
  s32 : ∀ y ∈ sc, y ≤ 32
/-- a walker under way: where it is the stack is as deep as it is told -/
structure Iv (pls : List Pl) (dep : List Int) (F : Fx) (k : Nat) (s : WS) : Prop where
  wild : s.wild = false
  go : s.done = false → depD dep s.at_ = s.dep ∧ (plD pls s.at_).body = k
  lo : s.loose ≤ s.at_
  hi : s.at_ ≤ F.e0
  sd : 0 ≤ s.seed ∧ s.seed < 2147483648
def StepP (w : World) (B x : Nat) (F : Fx) (pls : List Pl) (inf : List Inf) (dep : List Int) (k : Nat) (ins : List In) (e : Ending) (w' : World) : Prop :=
  e = .returned (.tuple #[]) ∧ Kw B w w' ∧ ∃ s' pi' ci' ins', WK w' B x F s' pi' ci' ins' ∧ Iv pls dep F k s' ∧ ins'.length ≤ ins.length + 1 ∧ ∀ u ∈ ins', u ∈ ins ∨ BodyOk pls inf dep u.b u.e u.sc
theorem there {C : Cx} {t : Nat} {stack : Int} {pls : List Pl} {inf : List Inf} {dep : List Int} (S : Safe C t stack pls inf dep) {k : Nat} {sc : List Nat} {b0 e0 : Nat} (hinf : inf[k - 1]? = some (sc, b0, e0)) (y : Nat) (hy : depD dep y ≠ -1) (hb : (plD pls y).body = k) : y < e0 ∧ b0 ≤ y ∧ 0 ≤ depD dep y ∧ depD dep y ≤ stack ∧ StepOk C stack pls inf dep y sc b0 e0 := by
  obtain ⟨sc', b0', e0', g1, ok⟩ := S.step y hy
  rw [hb, hinf] at g1
  simp only [Option.some.injEq, Prod.mk.injEq] at g1
  obtain ⟨rfl, rfl, rfl⟩ := g1
  exact ⟨ok.hi, ok.lo, ok.pos, ok.top, ok⟩
section
variable {w : World} {B x : Nat} {F : Fx} {s : WS} {pi : Option Addr} {ci : Nat} {ins : List In} {pls : List Pl} {inf : List Inf} {dep : List Int} {t k : Nat}
theorem StP.up {w' : World} {e : Ending} {s' : WS} (hp : StP w B x F s pi ci ins s' e w') (h : WK w B x F s pi ci ins) (hB : B ≤ w.heap.size) (iv : Iv pls dep F k s') : StepP w B x F pls inf dep k ins e w' :=
  ⟨hp.1, h.kwx hB hp.2.1, s', pi, ci, ins, hp.2.2, iv, by omega, fun u hu => .inl hu⟩
/-- what is known of an instruction that goes on -/
theorem goesOn (S : Safe F.C t F.h.stack pls inf dep) (hinf : inf[k - 1]? = some (F.sc, F.b0, F.e0)) (hb : (plD pls s.at_).body = k) (ok : StepOk F.C F.h.stack pls inf dep s.at_ F.sc F.b0 F.e0) (kd op opd tk on jp ar : Nat) (ho : (plD pls s.at_).op = op) (hs : shp (op : Int) = ⟨kd, opd, tk, on, jp⟩) (hk : kd = 1 ∨ kd = 5 ∨ kd = 7) (ha : (plD pls s.at_).args = ar) (h19 : op ≠ 19) :
    s.at_ + (1 + opd) ≤ F.e0 ∧ (tk : Int) + ar ≤ depD dep s.at_ ∧ depD dep (s.at_ + (1 + opd)) = depD dep s.at_ - tk - ar + on ∧ depD dep s.at_ - tk - ar + on ≤ F.h.stack ∧ (plD pls (s.at_ + (1 + opd))).body = k ∧ depD dep s.at_ ≤ F.h.stack := by
  have h1 := ok.shut.rest
  have h2 := ok.shut.on
  have h3 := ok.ins.fin
  have h4 := ok.ins.fe
  have h5 := ok.ins.nob (by rw [ho]; exact h19)
  rw [ho, hs, ha] at h1 h2
  rw [ho, hs] at h3
  obtain ⟨-, q2, q3⟩ := h2 (by show kd = 1 ∨ kd = 2 ∨ kd = 5 ∨ kd = 7; omega)
  have e : (plD pls s.at_).nxt = s.at_ + (1 + opd) := by rw [h5, h3]; show s.at_ + 1 + opd = _; omega
  rw [e] at q2 q3
  have h1 : 0 ≤ depD dep s.at_ - (tk : Int) - (ar : Int) := h1
  have q3 : depD dep (s.at_ + (1 + opd)) = depD dep s.at_ - (tk : Int) - (ar : Int) + (on : Int) := q3
  have := there S hinf (s.at_ + (1 + opd)) (by rw [q3]; omega) (q2.trans hb)
  exact ⟨by rw [h3] at h4; have h4 : s.at_ + 1 + opd ≤ F.e0 := h4; omega, by omega, q3, by rw [← q3]; exact this.2.2.2.1, q2.trans hb, ok.top⟩
/-- what is known of a jump -/
theorem jumps (S : Safe F.C t F.h.stack pls inf dep) (hinf : inf[k - 1]? = some (F.sc, F.b0, F.e0)) (hb : (plD pls s.at_).body = k) (ok : StepOk F.C F.h.stack pls inf dep s.at_ F.sc F.b0 F.e0) (kd op opd tk on jp : Nat) (ho : (plD pls s.at_).op = op) (hs : shp (op : Int) = ⟨kd, opd, tk, on, jp⟩) (hk : 4 ≤ kd) (hn : ¬(op = 17 ∨ op = 18)) (tg : Nat) (hto : (plD pls s.at_).to = tg) :
    s.at_ + (1 + opd) ≤ F.e0 ∧ (plD pls s.at_).fin = s.at_ + (1 + opd) ∧ (tk : Int) ≤ depD dep s.at_ ∧ depD dep tg = depD dep s.at_ - tk + jp ∧ tg < F.e0 ∧ (plD pls tg).body = k := by
  have h1 := ok.shut.rest
  have h2 := ok.shut.jmp
  have h3 := ok.ins.fin
  have h4 := ok.ins.fe
  have ha := ok.ins.nos (by rw [ho]; exact hn)
  rw [ho, hs, ha] at h1 h2
  rw [ho, hs] at h3
  have hj := ok.jbody (by rw [ho, hs]; exact hk)
  rw [hto] at h2 hj
  have h1 : 0 ≤ depD dep s.at_ - (tk : Int) - ((0 : Nat) : Int) := h1
  have q3 : depD dep tg = depD dep s.at_ - (tk : Int) - ((0 : Nat) : Int) + (jp : Int) := h2 hk
  have := there S hinf tg (by rw [q3]; omega) (hj.trans hb)
  have h3 : (plD pls s.at_).fin = s.at_ + 1 + opd := h3
  exact ⟨by omega, by omega, by omega, by omega, this.1, hj.trans hb⟩
theorem any_1 (S : Safe F.C t F.h.stack pls inf dep) (h : WK w B x F s pi ci ins) (hB : B ≤ w.heap.size) (hinf : inf[k - 1]? = some (F.sc, F.b0, F.e0)) (iv : Iv pls dep F k s) (hnd : s.done = false) (hil : ins.length + 1 ≤ 100000) (hd : depD dep s.at_ = s.dep) (hb : (plD pls s.at_).body = k) (ok : StepOk F.C F.h.stack pls inf dep s.at_ F.sc F.b0 F.e0) (ho : (plD pls s.at_).op = 1) :
    Calls Tryd.prog 19 #[.pointer (some ⟨x, 0, none⟩)] w fun e w' => StepP w B x F pls inf dep k ins e w' := by
  have hw : F.C.w s.at_ = 1 := by have := ok.ins.op; rw [ho] at this; exact this
  have hsd := iv.sd
  have n4 := h.n4
  have en := h.en
  have at4 := h.at4
  have hlo : s.loose + 1 ≤ 5000 := by have := iv.lo; omega
  have ivlo := iv.lo
  have hfit := ok.ins.fit
  rw [ho] at hfit
  have hz := ok.ins.nos (by rw [ho]; decide)
  obtain ⟨g1, g2, g3, g4, g5, g6⟩ := goesOn S hinf hb ok 1 1 0 0 1 0 0 ho rfl (by decide) hz (by decide)
  rw [hd] at g2 g3 g4 g6
  refine (step_1 h hw (by omega) iv.wild (by omega) (by omega) hlo hfit).mono fun e w' hp => hp.up h hB ⟨rfl, fun _ => ⟨?_, g5⟩, ?_, ?_, hsd⟩
  · show depD dep (s.at_ + 1) = s.dep - 0 + 1; rw [show s.at_ + 1 = s.at_ + (1 + 0) from rfl, g3]; omega
  · show s.loose + 1 ≤ s.at_ + 1; omega
  · show s.at_ + 1 ≤ F.e0; omega
theorem any_2 (S : Safe F.C t F.h.stack pls inf dep) (h : WK w B x F s pi ci ins) (hB : B ≤ w.heap.size) (hinf : inf[k - 1]? = some (F.sc, F.b0, F.e0)) (iv : Iv pls dep F k s) (hnd : s.done = false) (hil : ins.length + 1 ≤ 100000) (hd : depD dep s.at_ = s.dep) (hb : (plD pls s.at_).body = k) (ok : StepOk F.C F.h.stack pls inf dep s.at_ F.sc F.b0 F.e0) (ho : (plD pls s.at_).op = 2) :
    Calls Tryd.prog 19 #[.pointer (some ⟨x, 0, none⟩)] w fun e w' => StepP w B x F pls inf dep k ins e w' := by
  have hw : F.C.w s.at_ = 2 := by have := ok.ins.op; rw [ho] at this; exact this
  have hsd := iv.sd
  have n4 := h.n4
  have en := h.en
  have at4 := h.at4
  have hlo : s.loose + 1 ≤ 5000 := by have := iv.lo; omega
  have ivlo := iv.lo
  have hfit := ok.ins.fit
  rw [ho] at hfit
  have hz := ok.ins.nos (by rw [ho]; decide)
  obtain ⟨g1, g2, g3, g4, g5, g6⟩ := goesOn S hinf hb ok 1 2 0 0 1 0 0 ho rfl (by decide) hz (by decide)
  rw [hd] at g2 g3 g4 g6
  refine (step_2 h hw (by omega) iv.wild (by omega) (by omega) hlo hfit).mono fun e w' hp => hp.up h hB ⟨rfl, fun _ => ⟨?_, g5⟩, ?_, ?_, hsd⟩
  · show depD dep (s.at_ + 1) = s.dep - 0 + 1; rw [show s.at_ + 1 = s.at_ + (1 + 0) from rfl, g3]; omega
  · show s.loose + 1 ≤ s.at_ + 1; omega
  · show s.at_ + 1 ≤ F.e0; omega
theorem any_3 (S : Safe F.C t F.h.stack pls inf dep) (h : WK w B x F s pi ci ins) (hB : B ≤ w.heap.size) (hinf : inf[k - 1]? = some (F.sc, F.b0, F.e0)) (iv : Iv pls dep F k s) (hnd : s.done = false) (hil : ins.length + 1 ≤ 100000) (hd : depD dep s.at_ = s.dep) (hb : (plD pls s.at_).body = k) (ok : StepOk F.C F.h.stack pls inf dep s.at_ F.sc F.b0 F.e0) (ho : (plD pls s.at_).op = 3) :
    Calls Tryd.prog 19 #[.pointer (some ⟨x, 0, none⟩)] w fun e w' => StepP w B x F pls inf dep k ins e w' := by
  have hw : F.C.w s.at_ = 3 := by have := ok.ins.op; rw [ho] at this; exact this
  have hsd := iv.sd
  have n4 := h.n4
  have en := h.en
  have at4 := h.at4
  have hlo : s.loose + 1 ≤ 5000 := by have := iv.lo; omega
  have ivlo := iv.lo
  have hfit := ok.ins.fit
  rw [ho] at hfit
  have hz := ok.ins.nos (by rw [ho]; decide)
  obtain ⟨g1, g2, g3, g4, g5, g6⟩ := goesOn S hinf hb ok 1 3 0 0 1 0 0 ho rfl (by decide) hz (by decide)
  rw [hd] at g2 g3 g4 g6
  refine (step_3 h hw (by omega) iv.wild (by omega) (by omega) hlo hfit).mono fun e w' hp => hp.up h hB ⟨rfl, fun _ => ⟨?_, g5⟩, ?_, ?_, hsd⟩
  · show depD dep (s.at_ + 1) = s.dep - 0 + 1; rw [show s.at_ + 1 = s.at_ + (1 + 0) from rfl, g3]; omega
  · show s.loose + 1 ≤ s.at_ + 1; omega
  · show s.at_ + 1 ≤ F.e0; omega
theorem any_4 (S : Safe F.C t F.h.stack pls inf dep) (h : WK w B x F s pi ci ins) (hB : B ≤ w.heap.size) (hinf : inf[k - 1]? = some (F.sc, F.b0, F.e0)) (iv : Iv pls dep F k s) (hnd : s.done = false) (hil : ins.length + 1 ≤ 100000) (hd : depD dep s.at_ = s.dep) (hb : (plD pls s.at_).body = k) (ok : StepOk F.C F.h.stack pls inf dep s.at_ F.sc F.b0 F.e0) (ho : (plD pls s.at_).op = 4) :
    Calls Tryd.prog 19 #[.pointer (some ⟨x, 0, none⟩)] w fun e w' => StepP w B x F pls inf dep k ins e w' := by
  have hw : F.C.w s.at_ = 4 := by have := ok.ins.op; rw [ho] at this; exact this
  have hsd := iv.sd
  have n4 := h.n4
  have en := h.en
  have at4 := h.at4
  have hlo : s.loose + 1 ≤ 5000 := by have := iv.lo; omega
  have ivlo := iv.lo
  have hfit := ok.ins.fit
  rw [ho] at hfit
  have hz := ok.ins.nos (by rw [ho]; decide)
  obtain ⟨g1, g2, g3, g4, g5, g6⟩ := goesOn S hinf hb ok 1 4 0 0 1 0 0 ho rfl (by decide) hz (by decide)
  rw [hd] at g2 g3 g4 g6
  refine (step_4 h hw (by omega) iv.wild (by omega) (by omega) hlo hfit).mono fun e w' hp => hp.up h hB ⟨rfl, fun _ => ⟨?_, g5⟩, ?_, ?_, hsd⟩
  · show depD dep (s.at_ + 1) = s.dep - 0 + 1; rw [show s.at_ + 1 = s.at_ + (1 + 0) from rfl, g3]; omega
  · show s.loose + 1 ≤ s.at_ + 1; omega
  · show s.at_ + 1 ≤ F.e0; omega
theorem any_5 (S : Safe F.C t F.h.stack pls inf dep) (h : WK w B x F s pi ci ins) (hB : B ≤ w.heap.size) (hinf : inf[k - 1]? = some (F.sc, F.b0, F.e0)) (iv : Iv pls dep F k s) (hnd : s.done = false) (hil : ins.length + 1 ≤ 100000) (hd : depD dep s.at_ = s.dep) (hb : (plD pls s.at_).body = k) (ok : StepOk F.C F.h.stack pls inf dep s.at_ F.sc F.b0 F.e0) (ho : (plD pls s.at_).op = 5) :
    Calls Tryd.prog 19 #[.pointer (some ⟨x, 0, none⟩)] w fun e w' => StepP w B x F pls inf dep k ins e w' := by
  have hw : F.C.w s.at_ = 5 := by have := ok.ins.op; rw [ho] at this; exact this
  have hsd := iv.sd
  have n4 := h.n4
  have en := h.en
  have at4 := h.at4
  have hlo : s.loose + 1 ≤ 5000 := by have := iv.lo; omega
  have ivlo := iv.lo
  have hfit := ok.ins.fit
  rw [ho] at hfit
  have hz := ok.ins.nos (by rw [ho]; decide)
  obtain ⟨g1, g2, g3, g4, g5, g6⟩ := goesOn S hinf hb ok 1 5 1 0 1 0 0 ho rfl (by decide) hz (by decide)
  rw [hd] at g2 g3 g4 g6
  refine (step_5 h hw (by omega) iv.wild (by omega) (by omega) hlo hfit).mono fun e w' hp => hp.up h hB ⟨rfl, fun _ => ⟨?_, g5⟩, ?_, ?_, hsd⟩
  · show depD dep (s.at_ + 2) = s.dep - 0 + 1; rw [show s.at_ + 2 = s.at_ + (1 + 1) from rfl, g3]; omega
  · show s.loose + 1 ≤ s.at_ + 2; omega
  · show s.at_ + 2 ≤ F.e0; omega
theorem any_6 (S : Safe F.C t F.h.stack pls inf dep) (h : WK w B x F s pi ci ins) (hB : B ≤ w.heap.size) (hinf : inf[k - 1]? = some (F.sc, F.b0, F.e0)) (iv : Iv pls dep F k s) (hnd : s.done = false) (hil : ins.length + 1 ≤ 100000) (hd : depD dep s.at_ = s.dep) (hb : (plD pls s.at_).body = k) (ok : StepOk F.C F.h.stack pls inf dep s.at_ F.sc F.b0 F.e0) (ho : (plD pls s.at_).op = 6) :
    Calls Tryd.prog 19 #[.pointer (some ⟨x, 0, none⟩)] w fun e w' => StepP w B x F pls inf dep k ins e w' := by
  have hw : F.C.w s.at_ = 6 := by have := ok.ins.op; rw [ho] at this; exact this
  have hsd := iv.sd
  have n4 := h.n4
  have en := h.en
  have at4 := h.at4
  have hlo : s.loose + 1 ≤ 5000 := by have := iv.lo; omega
  have ivlo := iv.lo
  have hfit := ok.ins.fit
  rw [ho] at hfit
  have hz := ok.ins.nos (by rw [ho]; decide)
  obtain ⟨g1, g2, g3, g4, g5, g6⟩ := goesOn S hinf hb ok 1 6 1 0 1 0 0 ho rfl (by decide) hz (by decide)
  rw [hd] at g2 g3 g4 g6
  refine (step_6 h hw (by omega) iv.wild (by omega) (by omega) hlo hfit).mono fun e w' hp => hp.up h hB ⟨rfl, fun _ => ⟨?_, g5⟩, ?_, ?_, hsd⟩
  · show depD dep (s.at_ + 2) = s.dep - 0 + 1; rw [show s.at_ + 2 = s.at_ + (1 + 1) from rfl, g3]; omega
  · show s.loose + 1 ≤ s.at_ + 2; omega
  · show s.at_ + 2 ≤ F.e0; omega
theorem any_7 (S : Safe F.C t F.h.stack pls inf dep) (h : WK w B x F s pi ci ins) (hB : B ≤ w.heap.size) (hinf : inf[k - 1]? = some (F.sc, F.b0, F.e0)) (iv : Iv pls dep F k s) (hnd : s.done = false) (hil : ins.length + 1 ≤ 100000) (hd : depD dep s.at_ = s.dep) (hb : (plD pls s.at_).body = k) (ok : StepOk F.C F.h.stack pls inf dep s.at_ F.sc F.b0 F.e0) (ho : (plD pls s.at_).op = 7) :
    Calls Tryd.prog 19 #[.pointer (some ⟨x, 0, none⟩)] w fun e w' => StepP w B x F pls inf dep k ins e w' := by
  have hw : F.C.w s.at_ = 7 := by have := ok.ins.op; rw [ho] at this; exact this
  have hsd := iv.sd
  have n4 := h.n4
  have en := h.en
  have at4 := h.at4
  have hlo : s.loose + 1 ≤ 5000 := by have := iv.lo; omega
  have ivlo := iv.lo
  have hfit := ok.ins.fit
  rw [ho] at hfit
  have hz := ok.ins.nos (by rw [ho]; decide)
  obtain ⟨g1, g2, g3, g4, g5, g6⟩ := goesOn S hinf hb ok 1 7 1 0 1 0 0 ho rfl (by decide) hz (by decide)
  rw [hd] at g2 g3 g4 g6
  refine (step_7 h hw (by omega) iv.wild (by omega) (by omega) hlo hfit).mono fun e w' hp => hp.up h hB ⟨rfl, fun _ => ⟨?_, g5⟩, ?_, ?_, hsd⟩
  · show depD dep (s.at_ + 2) = s.dep - 0 + 1; rw [show s.at_ + 2 = s.at_ + (1 + 1) from rfl, g3]; omega
  · show s.loose + 1 ≤ s.at_ + 2; omega
  · show s.at_ + 2 ≤ F.e0; omega
theorem any_8 (S : Safe F.C t F.h.stack pls inf dep) (h : WK w B x F s pi ci ins) (hB : B ≤ w.heap.size) (hinf : inf[k - 1]? = some (F.sc, F.b0, F.e0)) (iv : Iv pls dep F k s) (hnd : s.done = false) (hil : ins.length + 1 ≤ 100000) (hd : depD dep s.at_ = s.dep) (hb : (plD pls s.at_).body = k) (ok : StepOk F.C F.h.stack pls inf dep s.at_ F.sc F.b0 F.e0) (ho : (plD pls s.at_).op = 8) :
    Calls Tryd.prog 19 #[.pointer (some ⟨x, 0, none⟩)] w fun e w' => StepP w B x F pls inf dep k ins e w' := by
  have hw : F.C.w s.at_ = 8 := by have := ok.ins.op; rw [ho] at this; exact this
  have hsd := iv.sd
  have n4 := h.n4
  have en := h.en
  have at4 := h.at4
  have hlo : s.loose + 1 ≤ 5000 := by have := iv.lo; omega
  have ivlo := iv.lo
  have hfit := ok.ins.fit
  rw [ho] at hfit
  have hz := ok.ins.nos (by rw [ho]; decide)
  obtain ⟨g1, g2, g3, g4, g5, g6⟩ := goesOn S hinf hb ok 1 8 1 0 1 0 0 ho rfl (by decide) hz (by decide)
  rw [hd] at g2 g3 g4 g6
  refine (step_8 h hw (by omega) iv.wild (by omega) (by omega) hlo hfit).mono fun e w' hp => hp.up h hB ⟨rfl, fun _ => ⟨?_, g5⟩, ?_, ?_, hsd⟩
  · show depD dep (s.at_ + 2) = s.dep - 0 + 1; rw [show s.at_ + 2 = s.at_ + (1 + 1) from rfl, g3]; omega
  · show s.loose + 1 ≤ s.at_ + 2; omega
  · show s.at_ + 2 ≤ F.e0; omega
theorem any_9 (S : Safe F.C t F.h.stack pls inf dep) (h : WK w B x F s pi ci ins) (hB : B ≤ w.heap.size) (hinf : inf[k - 1]? = some (F.sc, F.b0, F.e0)) (iv : Iv pls dep F k s) (hnd : s.done = false) (hil : ins.length + 1 ≤ 100000) (hd : depD dep s.at_ = s.dep) (hb : (plD pls s.at_).body = k) (ok : StepOk F.C F.h.stack pls inf dep s.at_ F.sc F.b0 F.e0) (ho : (plD pls s.at_).op = 9) :
    Calls Tryd.prog 19 #[.pointer (some ⟨x, 0, none⟩)] w fun e w' => StepP w B x F pls inf dep k ins e w' := by
  have hw : F.C.w s.at_ = 9 := by have := ok.ins.op; rw [ho] at this; exact this
  have hsd := iv.sd
  have n4 := h.n4
  have en := h.en
  have at4 := h.at4
  have hlo : s.loose + 1 ≤ 5000 := by have := iv.lo; omega
  have ivlo := iv.lo
  have hfit := ok.ins.fit
  rw [ho] at hfit
  have hz := ok.ins.nos (by rw [ho]; decide)
  obtain ⟨g1, g2, g3, g4, g5, g6⟩ := goesOn S hinf hb ok 1 9 1 0 1 0 0 ho rfl (by decide) hz (by decide)
  rw [hd] at g2 g3 g4 g6
  refine (step_9 h hw (by omega) iv.wild (by omega) (by omega) hlo hfit).mono fun e w' hp => hp.up h hB ⟨rfl, fun _ => ⟨?_, g5⟩, ?_, ?_, hsd⟩
  · show depD dep (s.at_ + 2) = s.dep - 0 + 1; rw [show s.at_ + 2 = s.at_ + (1 + 1) from rfl, g3]; omega
  · show s.loose + 1 ≤ s.at_ + 2; omega
  · show s.at_ + 2 ≤ F.e0; omega
theorem any_10 (S : Safe F.C t F.h.stack pls inf dep) (h : WK w B x F s pi ci ins) (hB : B ≤ w.heap.size) (hinf : inf[k - 1]? = some (F.sc, F.b0, F.e0)) (iv : Iv pls dep F k s) (hnd : s.done = false) (hil : ins.length + 1 ≤ 100000) (hd : depD dep s.at_ = s.dep) (hb : (plD pls s.at_).body = k) (ok : StepOk F.C F.h.stack pls inf dep s.at_ F.sc F.b0 F.e0) (ho : (plD pls s.at_).op = 10) :
    Calls Tryd.prog 19 #[.pointer (some ⟨x, 0, none⟩)] w fun e w' => StepP w B x F pls inf dep k ins e w' := by
  have hw : F.C.w s.at_ = 10 := by have := ok.ins.op; rw [ho] at this; exact this
  have hsd := iv.sd
  have n4 := h.n4
  have en := h.en
  have at4 := h.at4
  have hlo : s.loose + 1 ≤ 5000 := by have := iv.lo; omega
  have ivlo := iv.lo
  have hfit := ok.ins.fit
  rw [ho] at hfit
  have hz := ok.ins.nos (by rw [ho]; decide)
  obtain ⟨g1, g2, g3, g4, g5, g6⟩ := goesOn S hinf hb ok 1 10 2 0 1 0 0 ho rfl (by decide) hz (by decide)
  rw [hd] at g2 g3 g4 g6
  refine (step_10 h hw (by omega) iv.wild (by omega) (by omega) hlo hfit).mono fun e w' hp => hp.up h hB ⟨rfl, fun _ => ⟨?_, g5⟩, ?_, ?_, hsd⟩
  · show depD dep (s.at_ + 3) = s.dep - 0 + 1; rw [show s.at_ + 3 = s.at_ + (1 + 2) from rfl, g3]; omega
  · show s.loose + 1 ≤ s.at_ + 3; omega
  · show s.at_ + 3 ≤ F.e0; omega
theorem any_11 (S : Safe F.C t F.h.stack pls inf dep) (h : WK w B x F s pi ci ins) (hB : B ≤ w.heap.size) (hinf : inf[k - 1]? = some (F.sc, F.b0, F.e0)) (iv : Iv pls dep F k s) (hnd : s.done = false) (hil : ins.length + 1 ≤ 100000) (hd : depD dep s.at_ = s.dep) (hb : (plD pls s.at_).body = k) (ok : StepOk F.C F.h.stack pls inf dep s.at_ F.sc F.b0 F.e0) (ho : (plD pls s.at_).op = 11) :
    Calls Tryd.prog 19 #[.pointer (some ⟨x, 0, none⟩)] w fun e w' => StepP w B x F pls inf dep k ins e w' := by
  have hw : F.C.w s.at_ = 11 := by have := ok.ins.op; rw [ho] at this; exact this
  have hsd := iv.sd
  have n4 := h.n4
  have en := h.en
  have at4 := h.at4
  have hlo : s.loose + 1 ≤ 5000 := by have := iv.lo; omega
  have ivlo := iv.lo
  have hfit := ok.ins.fit
  rw [ho] at hfit
  have hz := ok.ins.nos (by rw [ho]; decide)
  obtain ⟨g1, g2, g3, g4, g5, g6⟩ := goesOn S hinf hb ok 1 11 1 0 1 0 0 ho rfl (by decide) hz (by decide)
  rw [hd] at g2 g3 g4 g6
  refine (step_11 h hw (by omega) iv.wild (by omega) (by omega) hlo hfit).mono fun e w' hp => hp.up h hB ⟨rfl, fun _ => ⟨?_, g5⟩, ?_, ?_, hsd⟩
  · show depD dep (s.at_ + 2) = s.dep - 0 + 1; rw [show s.at_ + 2 = s.at_ + (1 + 1) from rfl, g3]; omega
  · show s.loose + 1 ≤ s.at_ + 2; omega
  · show s.at_ + 2 ≤ F.e0; omega
theorem any_12 (S : Safe F.C t F.h.stack pls inf dep) (h : WK w B x F s pi ci ins) (hB : B ≤ w.heap.size) (hinf : inf[k - 1]? = some (F.sc, F.b0, F.e0)) (iv : Iv pls dep F k s) (hnd : s.done = false) (hil : ins.length + 1 ≤ 100000) (hd : depD dep s.at_ = s.dep) (hb : (plD pls s.at_).body = k) (ok : StepOk F.C F.h.stack pls inf dep s.at_ F.sc F.b0 F.e0) (ho : (plD pls s.at_).op = 12) :
    Calls Tryd.prog 19 #[.pointer (some ⟨x, 0, none⟩)] w fun e w' => StepP w B x F pls inf dep k ins e w' := by
  have hw : F.C.w s.at_ = 12 := by have := ok.ins.op; rw [ho] at this; exact this
  have hsd := iv.sd
  have n4 := h.n4
  have en := h.en
  have at4 := h.at4
  have hlo : s.loose + 1 ≤ 5000 := by have := iv.lo; omega
  have ivlo := iv.lo
  have hfit := ok.ins.fit
  rw [ho] at hfit
  have hz := ok.ins.nos (by rw [ho]; decide)
  obtain ⟨g1, g2, g3, g4, g5, g6⟩ := goesOn S hinf hb ok 1 12 1 1 1 0 0 ho rfl (by decide) hz (by decide)
  rw [hd] at g2 g3 g4 g6
  refine (step_12 h hw (by omega) iv.wild (by omega) (by omega) hlo hfit).mono fun e w' hp => hp.up h hB ⟨rfl, fun _ => ⟨?_, g5⟩, ?_, ?_, hsd⟩
  · show depD dep (s.at_ + 2) = s.dep - 1 + 1; rw [show s.at_ + 2 = s.at_ + (1 + 1) from rfl, g3]; omega
  · show s.loose + 1 ≤ s.at_ + 2; omega
  · show s.at_ + 2 ≤ F.e0; omega
theorem any_13 (S : Safe F.C t F.h.stack pls inf dep) (h : WK w B x F s pi ci ins) (hB : B ≤ w.heap.size) (hinf : inf[k - 1]? = some (F.sc, F.b0, F.e0)) (iv : Iv pls dep F k s) (hnd : s.done = false) (hil : ins.length + 1 ≤ 100000) (hd : depD dep s.at_ = s.dep) (hb : (plD pls s.at_).body = k) (ok : StepOk F.C F.h.stack pls inf dep s.at_ F.sc F.b0 F.e0) (ho : (plD pls s.at_).op = 13) :
    Calls Tryd.prog 19 #[.pointer (some ⟨x, 0, none⟩)] w fun e w' => StepP w B x F pls inf dep k ins e w' := by
  have hw : F.C.w s.at_ = 13 := by have := ok.ins.op; rw [ho] at this; exact this
  have hsd := iv.sd
  have n4 := h.n4
  have en := h.en
  have at4 := h.at4
  have hlo : s.loose + 1 ≤ 5000 := by have := iv.lo; omega
  have ivlo := iv.lo
  have hfit := ok.ins.fit
  rw [ho] at hfit
  have hz := ok.ins.nos (by rw [ho]; decide)
  obtain ⟨g1, g2, g3, g4, g5, g6⟩ := goesOn S hinf hb ok 1 13 2 1 1 0 0 ho rfl (by decide) hz (by decide)
  rw [hd] at g2 g3 g4 g6
  refine (step_13 h hw (by omega) iv.wild (by omega) (by omega) hlo hfit).mono fun e w' hp => hp.up h hB ⟨rfl, fun _ => ⟨?_, g5⟩, ?_, ?_, hsd⟩
  · show depD dep (s.at_ + 3) = s.dep - 1 + 1; rw [show s.at_ + 3 = s.at_ + (1 + 2) from rfl, g3]; omega
  · show s.loose + 1 ≤ s.at_ + 3; omega
  · show s.at_ + 3 ≤ F.e0; omega
theorem any_14 (S : Safe F.C t F.h.stack pls inf dep) (h : WK w B x F s pi ci ins) (hB : B ≤ w.heap.size) (hinf : inf[k - 1]? = some (F.sc, F.b0, F.e0)) (iv : Iv pls dep F k s) (hnd : s.done = false) (hil : ins.length + 1 ≤ 100000) (hd : depD dep s.at_ = s.dep) (hb : (plD pls s.at_).body = k) (ok : StepOk F.C F.h.stack pls inf dep s.at_ F.sc F.b0 F.e0) (ho : (plD pls s.at_).op = 14) :
    Calls Tryd.prog 19 #[.pointer (some ⟨x, 0, none⟩)] w fun e w' => StepP w B x F pls inf dep k ins e w' := by
  have hw : F.C.w s.at_ = 14 := by have := ok.ins.op; rw [ho] at this; exact this
  have hsd := iv.sd
  have n4 := h.n4
  have en := h.en
  have at4 := h.at4
  have hlo : s.loose + 1 ≤ 5000 := by have := iv.lo; omega
  have ivlo := iv.lo
  have hfit := ok.ins.fit
  rw [ho] at hfit
  have hz := ok.ins.nos (by rw [ho]; decide)
  obtain ⟨g1, g2, g3, g4, g5, g6⟩ := goesOn S hinf hb ok 1 14 1 1 1 0 0 ho rfl (by decide) hz (by decide)
  rw [hd] at g2 g3 g4 g6
  refine (step_14 h hw (by omega) iv.wild (by omega) (by omega) hlo hfit).mono fun e w' hp => hp.up h hB ⟨rfl, fun _ => ⟨?_, g5⟩, ?_, ?_, hsd⟩
  · show depD dep (s.at_ + 2) = s.dep - 1 + 1; rw [show s.at_ + 2 = s.at_ + (1 + 1) from rfl, g3]; omega
  · show s.loose + 1 ≤ s.at_ + 2; omega
  · show s.at_ + 2 ≤ F.e0; omega
theorem any_15 (S : Safe F.C t F.h.stack pls inf dep) (h : WK w B x F s pi ci ins) (hB : B ≤ w.heap.size) (hinf : inf[k - 1]? = some (F.sc, F.b0, F.e0)) (iv : Iv pls dep F k s) (hnd : s.done = false) (hil : ins.length + 1 ≤ 100000) (hd : depD dep s.at_ = s.dep) (hb : (plD pls s.at_).body = k) (ok : StepOk F.C F.h.stack pls inf dep s.at_ F.sc F.b0 F.e0) (ho : (plD pls s.at_).op = 15) :
    Calls Tryd.prog 19 #[.pointer (some ⟨x, 0, none⟩)] w fun e w' => StepP w B x F pls inf dep k ins e w' := by
  have hw : F.C.w s.at_ = 15 := by have := ok.ins.op; rw [ho] at this; exact this
  have hsd := iv.sd
  have n4 := h.n4
  have en := h.en
  have at4 := h.at4
  have hlo : s.loose + 1 ≤ 5000 := by have := iv.lo; omega
  have ivlo := iv.lo
  have hfit := ok.ins.fit
  rw [ho] at hfit
  have hz := ok.ins.nos (by rw [ho]; decide)
  obtain ⟨g1, g2, g3, g4, g5, g6⟩ := goesOn S hinf hb ok 1 15 0 1 0 0 0 ho rfl (by decide) hz (by decide)
  rw [hd] at g2 g3 g4 g6
  refine (step_15 h hw (by omega) iv.wild (by omega) (by omega) hlo).mono fun e w' hp => hp.up h hB ⟨rfl, fun _ => ⟨?_, g5⟩, ?_, ?_, hsd⟩
  · show depD dep (s.at_ + 1) = s.dep - 1 + 0; rw [show s.at_ + 1 = s.at_ + (1 + 0) from rfl, g3]; omega
  · show s.loose + 1 ≤ s.at_ + 1; omega
  · show s.at_ + 1 ≤ F.e0; omega
theorem any_16 (S : Safe F.C t F.h.stack pls inf dep) (h : WK w B x F s pi ci ins) (hB : B ≤ w.heap.size) (hinf : inf[k - 1]? = some (F.sc, F.b0, F.e0)) (iv : Iv pls dep F k s) (hnd : s.done = false) (hil : ins.length + 1 ≤ 100000) (hd : depD dep s.at_ = s.dep) (hb : (plD pls s.at_).body = k) (ok : StepOk F.C F.h.stack pls inf dep s.at_ F.sc F.b0 F.e0) (ho : (plD pls s.at_).op = 16) :
    Calls Tryd.prog 19 #[.pointer (some ⟨x, 0, none⟩)] w fun e w' => StepP w B x F pls inf dep k ins e w' := by
  have hw : F.C.w s.at_ = 16 := by have := ok.ins.op; rw [ho] at this; exact this
  have hsd := iv.sd
  have n4 := h.n4
  have en := h.en
  have at4 := h.at4
  have hlo : s.loose + 1 ≤ 5000 := by have := iv.lo; omega
  have ivlo := iv.lo
  have hfit := ok.ins.fit
  rw [ho] at hfit
  have hz := ok.ins.nos (by rw [ho]; decide)
  obtain ⟨g1, g2, g3, g4, g5, g6⟩ := goesOn S hinf hb ok 1 16 0 1 2 0 0 ho rfl (by decide) hz (by decide)
  rw [hd] at g2 g3 g4 g6
  refine (step_16 h hw (by omega) iv.wild (by omega) (by omega) hlo).mono fun e w' hp => hp.up h hB ⟨rfl, fun _ => ⟨?_, g5⟩, ?_, ?_, hsd⟩
  · show depD dep (s.at_ + 1) = s.dep - 1 + 2; rw [show s.at_ + 1 = s.at_ + (1 + 0) from rfl, g3]; omega
  · show s.loose + 1 ≤ s.at_ + 1; omega
  · show s.at_ + 1 ≤ F.e0; omega
theorem any_17 (S : Safe F.C t F.h.stack pls inf dep) (h : WK w B x F s pi ci ins) (hB : B ≤ w.heap.size) (hinf : inf[k - 1]? = some (F.sc, F.b0, F.e0)) (iv : Iv pls dep F k s) (hnd : s.done = false) (hil : ins.length + 1 ≤ 100000) (hd : depD dep s.at_ = s.dep) (hb : (plD pls s.at_).body = k) (ok : StepOk F.C F.h.stack pls inf dep s.at_ F.sc F.b0 F.e0) (ho : (plD pls s.at_).op = 17) :
    Calls Tryd.prog 19 #[.pointer (some ⟨x, 0, none⟩)] w fun e w' => StepP w B x F pls inf dep k ins e w' := by
  have hw : F.C.w s.at_ = 17 := by have := ok.ins.op; rw [ho] at this; exact this
  have hsd := iv.sd
  have n4 := h.n4
  have en := h.en
  have at4 := h.at4
  have hlo : s.loose + 1 ≤ 5000 := by have := iv.lo; omega
  have ivlo := iv.lo
  have hfit := ok.ins.fit
  rw [ho] at hfit
  have hz := ok.ins.snd (by rw [ho]; decide)
  have hk2 : ∃ m : Nat, F.C.w (s.at_ + 2) = (m : Int) := by
    have := hfit
    simp [fitP, bel, inR] at this
    exact ⟨_, (Int.toNat_of_nonneg this.2.1).symm⟩
  obtain ⟨m, hm⟩ := hk2
  rw [hm, Int.toNat_natCast] at hz
  obtain ⟨g1, g2, g3, g4, g5, g6⟩ := goesOn S hinf hb ok 1 17 2 1 1 0 m ho rfl (by decide) hz (by decide)
  rw [hd] at g2 g3 g4 g6
  refine (step_17 h hw (by omega) iv.wild m hm (by omega) (by omega) hlo hfit).mono fun e w' hp => hp.up h hB ⟨rfl, fun _ => ⟨?_, g5⟩, Nat.zero_le _, ?_, hsd⟩
  · show depD dep (s.at_ + 3) = s.dep - m; rw [show s.at_ + 3 = s.at_ + (1 + 2) from rfl, g3]; omega
  · show s.at_ + 3 ≤ F.e0; omega
theorem any_18 (S : Safe F.C t F.h.stack pls inf dep) (h : WK w B x F s pi ci ins) (hB : B ≤ w.heap.size) (hinf : inf[k - 1]? = some (F.sc, F.b0, F.e0)) (iv : Iv pls dep F k s) (hnd : s.done = false) (hil : ins.length + 1 ≤ 100000) (hd : depD dep s.at_ = s.dep) (hb : (plD pls s.at_).body = k) (ok : StepOk F.C F.h.stack pls inf dep s.at_ F.sc F.b0 F.e0) (ho : (plD pls s.at_).op = 18) :
    Calls Tryd.prog 19 #[.pointer (some ⟨x, 0, none⟩)] w fun e w' => StepP w B x F pls inf dep k ins e w' := by
  have hw : F.C.w s.at_ = 18 := by have := ok.ins.op; rw [ho] at this; exact this
  have hsd := iv.sd
  have n4 := h.n4
  have en := h.en
  have at4 := h.at4
  have hlo : s.loose + 1 ≤ 5000 := by have := iv.lo; omega
  have ivlo := iv.lo
  have hfit := ok.ins.fit
  rw [ho] at hfit
  have hz := ok.ins.snd (by rw [ho]; decide)
  have hk2 : ∃ m : Nat, F.C.w (s.at_ + 2) = (m : Int) := by
    have := hfit
    simp [fitP, bel, inR] at this
    exact ⟨_, (Int.toNat_of_nonneg this.2.1).symm⟩
  obtain ⟨m, hm⟩ := hk2
  rw [hm, Int.toNat_natCast] at hz
  obtain ⟨g1, g2, g3, g4, g5, g6⟩ := goesOn S hinf hb ok 1 18 2 1 1 0 m ho rfl (by decide) hz (by decide)
  rw [hd] at g2 g3 g4 g6
  refine (step_18 h hw (by omega) iv.wild m hm (by omega) (by omega) hlo hfit).mono fun e w' hp => hp.up h hB ⟨rfl, fun _ => ⟨?_, g5⟩, Nat.zero_le _, ?_, hsd⟩
  · show depD dep (s.at_ + 3) = s.dep - m; rw [show s.at_ + 3 = s.at_ + (1 + 2) from rfl, g3]; omega
  · show s.at_ + 3 ≤ F.e0; omega
theorem any_19 (S : Safe F.C t F.h.stack pls inf dep) (h : WK w B x F s pi ci ins) (hB : B ≤ w.heap.size) (hinf : inf[k - 1]? = some (F.sc, F.b0, F.e0)) (iv : Iv pls dep F k s) (hnd : s.done = false) (hil : ins.length + 1 ≤ 100000) (hd : depD dep s.at_ = s.dep) (hb : (plD pls s.at_).body = k) (ok : StepOk F.C F.h.stack pls inf dep s.at_ F.sc F.b0 F.e0) (ho : (plD pls s.at_).op = 19) :
    Calls Tryd.prog 19 #[.pointer (some ⟨x, 0, none⟩)] w fun e w' => StepP w B x F pls inf dep k ins e w' := by
  have hw : F.C.w s.at_ = 19 := by have := ok.ins.op; rw [ho] at this; exact this
  have hsd := iv.sd
  have n4 := h.n4
  have en := h.en
  have at4 := h.at4
  have hlo : s.loose + 1 ≤ 5000 := by have := iv.lo; omega
  have ivlo := iv.lo
  have hfit := ok.ins.fit
  rw [ho] at hfit
  have hz := ok.ins.nos (by rw [ho]; decide)
  have hff : ((0 ≤ F.C.w (s.at_ + 1) ∧ F.C.w (s.at_ + 1) ≤ 8) ∧ F.C.w (s.at_ + 1) ≤ F.C.w (s.at_ + 2) ∧ F.C.w (s.at_ + 2) ≤ 32) ∧ 0 < F.C.w (s.at_ + 3) ∧ F.sc.length ≤ 24 := by
    have := hfit
    simp [fitP, scopeB, inR] at this
    exact ⟨⟨⟨this.1.1.1.1, this.1.1.1.2⟩, this.1.1.2.1, this.1.1.2.2⟩, this.1.2, this.2⟩
  obtain ⟨⟨⟨x1, x2⟩, x3, x4⟩, x5, x6⟩ := hff
  obtain ⟨par, hpar⟩ := Int.eq_ofNat_of_zero_le x1
  obtain ⟨sl, hsl⟩ := Int.eq_ofNat_of_zero_le (show 0 ≤ F.C.w (s.at_ + 2) by omega)
  obtain ⟨m, hm⟩ := Int.eq_ofNat_of_zero_le (show 0 ≤ F.C.w (s.at_ + 3) by omega)
  have h3 := ok.ins.fin
  rw [ho] at h3
  have h3 : (plD pls s.at_).fin = s.at_ + 1 + 3 := h3
  obtain ⟨hn, -⟩ := ok.ins.blk ho
  rw [hm, Int.toNat_natCast] at hn
  have hne := ok.ins.ne
  have r1 := ok.shut.rest
  have r2 := ok.shut.on
  have r3 := ok.shut.blk
  rw [ho, hz] at r1 r2
  rw [ho] at r3
  obtain ⟨-, q2, q3⟩ := r2 (.inr (.inl rfl))
  have q3 : depD dep (plD pls s.at_).nxt = depD dep s.at_ - ((0 : Nat) : Int) - ((0 : Nat) : Int) + ((1 : Nat) : Int) := q3
  have r3 := r3 rfl
  obtain ⟨k', k1, k2, k3⟩ := ok.blk ho
  have enx : (plD pls s.at_).nxt = s.at_ + 4 + m := by omega
  have efi : (plD pls s.at_).fin = s.at_ + 4 := by omega
  rw [enx] at q2 q3 hne k2
  rw [efi] at r3 k2 k3
  rw [hd] at q3
  have hp := h.dp
  have ht := there S hinf (s.at_ + 4 + m) (by rw [q3]; omega) (q2.trans hb)
  rw [hsl] at k2
  rw [Int.toNat_natCast] at k2
  refine (step_19 h hB hw (by omega) iv.wild hlo par sl m hpar hsl hm (by omega) (by omega) (by omega) hne (by omega) hil).mono ?_
  rintro e w' ⟨rfl, K, pi', ci', p, c, hk⟩
  refine ⟨rfl, K, _, pi', ci', _, hk, ⟨rfl, fun _ => ⟨?_, q2.trans hb⟩, Nat.zero_le _, hne, hsd⟩, by simp, fun u hu => ?_⟩
  · show depD dep (s.at_ + 4 + m) = s.dep + 1; omega
  · rcases List.mem_append.1 hu with hu | hu
    · exact .inl hu
    · right
      have e : u = ⟨s.at_ + 4, s.at_ + 4 + m, p, c, F.sc ++ [sl]⟩ := by simpa using hu
      subst e
      exact ⟨⟨k', k1, k2, k3⟩, r3, by show 1 ≤ (F.sc ++ [sl]).length; simp, by show (F.sc ++ [sl]).length ≤ 25; simp; omega, fun y hy => by
        rcases List.mem_append.1 hy with hy | hy
        · exact h.sc32 y hy
        · simp at hy; omega⟩
theorem any_20 (S : Safe F.C t F.h.stack pls inf dep) (h : WK w B x F s pi ci ins) (hB : B ≤ w.heap.size) (hinf : inf[k - 1]? = some (F.sc, F.b0, F.e0)) (iv : Iv pls dep F k s) (hnd : s.done = false) (hil : ins.length + 1 ≤ 100000) (hd : depD dep s.at_ = s.dep) (hb : (plD pls s.at_).body = k) (ok : StepOk F.C F.h.stack pls inf dep s.at_ F.sc F.b0 F.e0) (ho : (plD pls s.at_).op = 20) :
    Calls Tryd.prog 19 #[.pointer (some ⟨x, 0, none⟩)] w fun e w' => StepP w B x F pls inf dep k ins e w' := by
  have hw : F.C.w s.at_ = 20 := by have := ok.ins.op; rw [ho] at this; exact this
  have hsd := iv.sd
  have n4 := h.n4
  have en := h.en
  have at4 := h.at4
  have hlo : s.loose + 1 ≤ 5000 := by have := iv.lo; omega
  have ivlo := iv.lo
  have hfit := ok.ins.fit
  rw [ho] at hfit
  have hz := ok.ins.nos (by rw [ho]; decide)
  have r1 := ok.shut.rest
  rw [ho, hz] at r1
  have r1 : 0 ≤ depD dep s.at_ - ((1 : Nat) : Int) - ((0 : Nat) : Int) := r1
  have r4 := ok.top
  have r5 := ok.hi
  rw [hd] at r1 r4
  have hmay := ok.ins.may
  rw [ho] at hmay
  refine (step_20 h hw (by omega) iv.wild hlo _ (fun V hV => leads_ret hV 20 (by decide) hmay 0 0 ((s.at_ : Int) + 1) (by show 1 ≤ s.dep; omega) (by show s.dep - 1 ≤ F.h.stack; omega)) (fun t s' hh => ⟨s.at_ + 1, by have := hh.1; omega, by omega⟩)).mono ?_
  rintro e w' ⟨rfl, f, m, s', ⟨hm, rfl⟩, hk⟩
  have em : m = s.at_ + 1 := by omega
  subst em
  refine ⟨rfl, h.kwx hB f, _, pi, ci, ins, hk, ⟨rfl, fun hx => (by cases hx), ?_, ?_, hsd⟩, by omega, fun u hu => .inl hu⟩
  · show s.loose + 1 ≤ s.at_ + 1; omega
  · show s.at_ + 1 ≤ F.e0; omega
theorem any_21 (S : Safe F.C t F.h.stack pls inf dep) (h : WK w B x F s pi ci ins) (hB : B ≤ w.heap.size) (hinf : inf[k - 1]? = some (F.sc, F.b0, F.e0)) (iv : Iv pls dep F k s) (hnd : s.done = false) (hil : ins.length + 1 ≤ 100000) (hd : depD dep s.at_ = s.dep) (hb : (plD pls s.at_).body = k) (ok : StepOk F.C F.h.stack pls inf dep s.at_ F.sc F.b0 F.e0) (ho : (plD pls s.at_).op = 21) :
    Calls Tryd.prog 19 #[.pointer (some ⟨x, 0, none⟩)] w fun e w' => StepP w B x F pls inf dep k ins e w' := by
  have hw : F.C.w s.at_ = 21 := by have := ok.ins.op; rw [ho] at this; exact this
  have hsd := iv.sd
  have n4 := h.n4
  have en := h.en
  have at4 := h.at4
  have hlo : s.loose + 1 ≤ 5000 := by have := iv.lo; omega
  have ivlo := iv.lo
  have hfit := ok.ins.fit
  rw [ho] at hfit
  have hz := ok.ins.nos (by rw [ho]; decide)
  have r1 := ok.shut.rest
  rw [ho, hz] at r1
  have r1 : 0 ≤ depD dep s.at_ - ((1 : Nat) : Int) - ((0 : Nat) : Int) := r1
  have r4 := ok.top
  have r5 := ok.hi
  rw [hd] at r1 r4
  have hmay := ok.ins.may
  rw [ho] at hmay
  refine (step_21 h hw (by omega) iv.wild hlo _ (fun V hV => leads_ret hV 21 (by decide) hmay 0 0 ((s.at_ : Int) + 1) (by show 1 ≤ s.dep; omega) (by show s.dep - 1 ≤ F.h.stack; omega)) (fun t s' hh => ⟨s.at_ + 1, by have := hh.1; omega, by omega⟩)).mono ?_
  rintro e w' ⟨rfl, f, m, s', ⟨hm, rfl⟩, hk⟩
  have em : m = s.at_ + 1 := by omega
  subst em
  refine ⟨rfl, h.kwx hB f, _, pi, ci, ins, hk, ⟨rfl, fun hx => (by cases hx), ?_, ?_, hsd⟩, by omega, fun u hu => .inl hu⟩
  · show s.loose + 1 ≤ s.at_ + 1; omega
  · show s.at_ + 1 ≤ F.e0; omega
theorem any_22 (S : Safe F.C t F.h.stack pls inf dep) (h : WK w B x F s pi ci ins) (hB : B ≤ w.heap.size) (hinf : inf[k - 1]? = some (F.sc, F.b0, F.e0)) (iv : Iv pls dep F k s) (hnd : s.done = false) (hil : ins.length + 1 ≤ 100000) (hd : depD dep s.at_ = s.dep) (hb : (plD pls s.at_).body = k) (ok : StepOk F.C F.h.stack pls inf dep s.at_ F.sc F.b0 F.e0) (ho : (plD pls s.at_).op = 22) :
    Calls Tryd.prog 19 #[.pointer (some ⟨x, 0, none⟩)] w fun e w' => StepP w B x F pls inf dep k ins e w' := by
  have hw : F.C.w s.at_ = 22 := by have := ok.ins.op; rw [ho] at this; exact this
  have hsd := iv.sd
  have n4 := h.n4
  have en := h.en
  have at4 := h.at4
  have hlo : s.loose + 1 ≤ 5000 := by have := iv.lo; omega
  have ivlo := iv.lo
  have hfit := ok.ins.fit
  rw [ho] at hfit
  have hz := ok.ins.nos (by rw [ho]; decide)
  have r1 := ok.shut.rest
  rw [ho, hz] at r1
  have r1 : 0 ≤ depD dep s.at_ - ((1 : Nat) : Int) - ((0 : Nat) : Int) := r1
  have r4 := ok.top
  have r5 := ok.hi
  rw [hd] at r1 r4
  have hmay := ok.ins.may
  rw [ho] at hmay
  refine (step_22 h hw (by omega) iv.wild hlo _ (fun V hV => leads_ret hV 22 (by decide) hmay 0 0 ((s.at_ : Int) + 1) (by show 1 ≤ s.dep; omega) (by show s.dep - 1 ≤ F.h.stack; omega)) (fun t s' hh => ⟨s.at_ + 1, by have := hh.1; omega, by omega⟩)).mono ?_
  rintro e w' ⟨rfl, f, m, s', ⟨hm, rfl⟩, hk⟩
  have em : m = s.at_ + 1 := by omega
  subst em
  refine ⟨rfl, h.kwx hB f, _, pi, ci, ins, hk, ⟨rfl, fun hx => (by cases hx), ?_, ?_, hsd⟩, by omega, fun u hu => .inl hu⟩
  · show s.loose + 1 ≤ s.at_ + 1; omega
  · show s.at_ + 1 ≤ F.e0; omega
theorem any_23 (S : Safe F.C t F.h.stack pls inf dep) (h : WK w B x F s pi ci ins) (hB : B ≤ w.heap.size) (hinf : inf[k - 1]? = some (F.sc, F.b0, F.e0)) (iv : Iv pls dep F k s) (hnd : s.done = false) (hil : ins.length + 1 ≤ 100000) (hd : depD dep s.at_ = s.dep) (hb : (plD pls s.at_).body = k) (ok : StepOk F.C F.h.stack pls inf dep s.at_ F.sc F.b0 F.e0) (ho : (plD pls s.at_).op = 23) :
    Calls Tryd.prog 19 #[.pointer (some ⟨x, 0, none⟩)] w fun e w' => StepP w B x F pls inf dep k ins e w' := by
  have hw : F.C.w s.at_ = 23 := by have := ok.ins.op; rw [ho] at this; exact this
  have hsd := iv.sd
  have n4 := h.n4
  have en := h.en
  have at4 := h.at4
  have hlo : s.loose + 1 ≤ 5000 := by have := iv.lo; omega
  have ivlo := iv.lo
  have hfit := ok.ins.fit
  rw [ho] at hfit
  obtain ⟨j1, j2⟩ := ok.fwd (by rw [ho]; decide)
  obtain ⟨tg, hto⟩ : ∃ tg, (plD pls s.at_).to = tg := ⟨_, rfl⟩
  obtain ⟨p1, p2, p3, p4, p5, p6⟩ := jumps S hinf hb ok 4 23 1 0 0 0 ho rfl (by decide) (by decide) tg hto
  rw [hto, p2] at j2
  rw [p2] at j1
  rw [show s.at_ + (1 + 1) - 1 = s.at_ + 1 by omega] at j1 j2
  have hst := ok.top
  rw [hd] at p3 p4 hst
  have hdp := h.dp
  refine (step_23 h hw (by omega) iv.wild hlo _ (fun V hV => leads23 hV (F.C.w (s.at_ + 1)) 0 ((s.at_ : Int) + 2) ⟨by omega, by omega⟩ ⟨by omega, by omega⟩) (fun t s' hh => ⟨tg, by have := hh.1; omega, by omega⟩)).mono ?_
  rintro e w' ⟨rfl, f, m, s', ⟨hm, rfl⟩, hk⟩
  have em : m = tg := by omega
  subst em
  refine ⟨rfl, h.kwx hB f, _, pi, ci, ins, hk, ⟨rfl, fun _ => ⟨?_, p6⟩, ?_, ?_, ?_⟩, by omega, fun u hu => .inl hu⟩
  · show depD dep m = s.dep; omega
  · show s.loose + 1 ≤ m; omega
  · show m ≤ F.e0; omega
  · exact hsd
theorem any_24 (S : Safe F.C t F.h.stack pls inf dep) (h : WK w B x F s pi ci ins) (hB : B ≤ w.heap.size) (hinf : inf[k - 1]? = some (F.sc, F.b0, F.e0)) (iv : Iv pls dep F k s) (hnd : s.done = false) (hil : ins.length + 1 ≤ 100000) (hd : depD dep s.at_ = s.dep) (hb : (plD pls s.at_).body = k) (ok : StepOk F.C F.h.stack pls inf dep s.at_ F.sc F.b0 F.e0) (ho : (plD pls s.at_).op = 24) :
    Calls Tryd.prog 19 #[.pointer (some ⟨x, 0, none⟩)] w fun e w' => StepP w B x F pls inf dep k ins e w' := by
  have hw : F.C.w s.at_ = 24 := by have := ok.ins.op; rw [ho] at this; exact this
  have hsd := iv.sd
  have n4 := h.n4
  have en := h.en
  have at4 := h.at4
  have hlo : s.loose + 1 ≤ 5000 := by have := iv.lo; omega
  have ivlo := iv.lo
  have hfit := ok.ins.fit
  rw [ho] at hfit
  obtain ⟨j1, j2⟩ := ok.fwd (by rw [ho]; decide)
  obtain ⟨tg, hto⟩ : ∃ tg, (plD pls s.at_).to = tg := ⟨_, rfl⟩
  obtain ⟨p1, p2, p3, p4, p5, p6⟩ := jumps S hinf hb ok 5 24 1 1 0 0 ho rfl (by decide) (by decide) tg hto
  rw [hto, p2] at j2
  rw [p2] at j1
  rw [show s.at_ + (1 + 1) - 1 = s.at_ + 1 by omega] at j1 j2
  have hst := ok.top
  rw [hd] at p3 p4 hst
  have hdp := h.dp
  have hz := ok.ins.nos (by rw [ho]; decide)
  obtain ⟨g1, g2, g3, g4, g5, g6⟩ := goesOn S hinf hb ok 5 24 1 1 0 0 0 ho rfl (by decide) hz (by decide)
  rw [hd] at g2 g3 g4 g6
  refine (step_24 h hw (by omega) iv.wild hlo _ (fun V hV => leads24 hV (F.C.w (s.at_ + 1)) 0 ((s.at_ : Int) + 2) ⟨by omega, by omega⟩ ⟨by omega, by omega⟩ (by show 1 ≤ s.dep; omega) (by show s.dep - 1 ≤ F.h.stack; omega) hsd) (fun t s' hh => by obtain ⟨sd, -, -, -, h1 | h1⟩ := hh; exact ⟨tg, by omega, by omega⟩; exact ⟨s.at_ + 2, by omega, by omega⟩)).mono ?_
  rintro e w' ⟨rfl, f, m, s', ⟨sd, sd1, sd2, rfl, hm | hm⟩, hk⟩
  · skip
    have em : m = tg := by omega
    subst em
    refine ⟨rfl, h.kwx hB f, _, pi, ci, ins, hk, ⟨rfl, fun _ => ⟨?_, p6⟩, ?_, ?_, ?_⟩, by omega, fun u hu => .inl hu⟩
    · show depD dep m = s.dep - 1; omega
    · show s.loose + 1 ≤ m; omega
    · show m ≤ F.e0; omega
    · exact ⟨sd1, sd2⟩
  · skip
    have em : m = s.at_ + 2 := by omega
    subst em
    refine ⟨rfl, h.kwx hB f, _, pi, ci, ins, hk, ⟨rfl, fun _ => ⟨?_, g5⟩, ?_, ?_, ?_⟩, by omega, fun u hu => .inl hu⟩
    · show depD dep (s.at_ + 2) = s.dep - 1; rw [show s.at_ + 2 = s.at_ + (1 + 1) from rfl, g3]; omega
    · show s.loose + 1 ≤ s.at_ + 2; omega
    · show s.at_ + 2 ≤ F.e0; omega
    · exact ⟨sd1, sd2⟩
theorem any_25 (S : Safe F.C t F.h.stack pls inf dep) (h : WK w B x F s pi ci ins) (hB : B ≤ w.heap.size) (hinf : inf[k - 1]? = some (F.sc, F.b0, F.e0)) (iv : Iv pls dep F k s) (hnd : s.done = false) (hil : ins.length + 1 ≤ 100000) (hd : depD dep s.at_ = s.dep) (hb : (plD pls s.at_).body = k) (ok : StepOk F.C F.h.stack pls inf dep s.at_ F.sc F.b0 F.e0) (ho : (plD pls s.at_).op = 25) :
    Calls Tryd.prog 19 #[.pointer (some ⟨x, 0, none⟩)] w fun e w' => StepP w B x F pls inf dep k ins e w' := by
  have hw : F.C.w s.at_ = 25 := by have := ok.ins.op; rw [ho] at this; exact this
  have hsd := iv.sd
  have n4 := h.n4
  have en := h.en
  have at4 := h.at4
  have hlo : s.loose + 1 ≤ 5000 := by have := iv.lo; omega
  have ivlo := iv.lo
  have hfit := ok.ins.fit
  rw [ho] at hfit
  obtain ⟨j1, j2⟩ := ok.fwd (by rw [ho]; decide)
  obtain ⟨tg, hto⟩ : ∃ tg, (plD pls s.at_).to = tg := ⟨_, rfl⟩
  obtain ⟨p1, p2, p3, p4, p5, p6⟩ := jumps S hinf hb ok 5 25 1 1 0 0 ho rfl (by decide) (by decide) tg hto
  rw [hto, p2] at j2
  rw [p2] at j1
  rw [show s.at_ + (1 + 1) - 1 = s.at_ + 1 by omega] at j1 j2
  have hst := ok.top
  rw [hd] at p3 p4 hst
  have hdp := h.dp
  have hz := ok.ins.nos (by rw [ho]; decide)
  obtain ⟨g1, g2, g3, g4, g5, g6⟩ := goesOn S hinf hb ok 5 25 1 1 0 0 0 ho rfl (by decide) hz (by decide)
  rw [hd] at g2 g3 g4 g6
  refine (step_25 h hw (by omega) iv.wild hlo _ (fun V hV => leads25 hV (F.C.w (s.at_ + 1)) 0 ((s.at_ : Int) + 2) ⟨by omega, by omega⟩ ⟨by omega, by omega⟩ (by show 1 ≤ s.dep; omega) (by show s.dep - 1 ≤ F.h.stack; omega) hsd) (fun t s' hh => by obtain ⟨sd, -, -, -, h1 | h1⟩ := hh; exact ⟨tg, by omega, by omega⟩; exact ⟨s.at_ + 2, by omega, by omega⟩)).mono ?_
  rintro e w' ⟨rfl, f, m, s', ⟨sd, sd1, sd2, rfl, hm | hm⟩, hk⟩
  · skip
    have em : m = tg := by omega
    subst em
    refine ⟨rfl, h.kwx hB f, _, pi, ci, ins, hk, ⟨rfl, fun _ => ⟨?_, p6⟩, ?_, ?_, ?_⟩, by omega, fun u hu => .inl hu⟩
    · show depD dep m = s.dep - 1; omega
    · show s.loose + 1 ≤ m; omega
    · show m ≤ F.e0; omega
    · exact ⟨sd1, sd2⟩
  · skip
    have em : m = s.at_ + 2 := by omega
    subst em
    refine ⟨rfl, h.kwx hB f, _, pi, ci, ins, hk, ⟨rfl, fun _ => ⟨?_, g5⟩, ?_, ?_, ?_⟩, by omega, fun u hu => .inl hu⟩
    · show depD dep (s.at_ + 2) = s.dep - 1; rw [show s.at_ + 2 = s.at_ + (1 + 1) from rfl, g3]; omega
    · show s.loose + 1 ≤ s.at_ + 2; omega
    · show s.at_ + 2 ≤ F.e0; omega
    · exact ⟨sd1, sd2⟩
theorem any_26 (S : Safe F.C t F.h.stack pls inf dep) (h : WK w B x F s pi ci ins) (hB : B ≤ w.heap.size) (hinf : inf[k - 1]? = some (F.sc, F.b0, F.e0)) (iv : Iv pls dep F k s) (hnd : s.done = false) (hil : ins.length + 1 ≤ 100000) (hd : depD dep s.at_ = s.dep) (hb : (plD pls s.at_).body = k) (ok : StepOk F.C F.h.stack pls inf dep s.at_ F.sc F.b0 F.e0) (ho : (plD pls s.at_).op = 26) :
    Calls Tryd.prog 19 #[.pointer (some ⟨x, 0, none⟩)] w fun e w' => StepP w B x F pls inf dep k ins e w' := by
  have hw : F.C.w s.at_ = 26 := by have := ok.ins.op; rw [ho] at this; exact this
  have hsd := iv.sd
  have n4 := h.n4
  have en := h.en
  have at4 := h.at4
  have hlo : s.loose + 1 ≤ 5000 := by have := iv.lo; omega
  have ivlo := iv.lo
  have hfit := ok.ins.fit
  rw [ho] at hfit
  obtain ⟨j1, j3, j2⟩ := ok.bwd (by rw [ho]; decide)
  obtain ⟨tg, hto⟩ : ∃ tg, (plD pls s.at_).to = tg := ⟨_, rfl⟩
  obtain ⟨p1, p2, p3, p4, p5, p6⟩ := jumps S hinf hb ok 6 26 1 0 0 0 ho rfl (by decide) (by decide) tg hto
  rw [hto, p2] at j2
  rw [p2] at j1 j3
  rw [show s.at_ + (1 + 1) - 1 = s.at_ + 1 by omega] at j1 j2 j3
  have hst := ok.top
  rw [hd] at p3 p4 hst
  have hdp := h.dp
  refine (step_26 h hw (by omega) iv.wild hlo _ (fun V hV => leads26 hV (F.C.w (s.at_ + 1)) 0 ((s.at_ : Int) + 2) ⟨by omega, by omega⟩ ⟨by omega, by omega⟩) (fun t s' hh => ⟨tg, by have := hh.1; omega, by omega⟩)).mono ?_
  rintro e w' ⟨rfl, f, m, s', ⟨hm, rfl⟩, hk⟩
  have em : m = tg := by omega
  subst em
  refine ⟨rfl, h.kwx hB f, _, pi, ci, ins, hk, ⟨rfl, fun _ => ⟨?_, p6⟩, ?_, ?_, ?_⟩, by omega, fun u hu => .inl hu⟩
  · show depD dep m = s.dep; omega
  · show 0 ≤ m; omega
  · show m ≤ F.e0; omega
  · exact hsd
theorem any_27 (S : Safe F.C t F.h.stack pls inf dep) (h : WK w B x F s pi ci ins) (hB : B ≤ w.heap.size) (hinf : inf[k - 1]? = some (F.sc, F.b0, F.e0)) (iv : Iv pls dep F k s) (hnd : s.done = false) (hil : ins.length + 1 ≤ 100000) (hd : depD dep s.at_ = s.dep) (hb : (plD pls s.at_).body = k) (ok : StepOk F.C F.h.stack pls inf dep s.at_ F.sc F.b0 F.e0) (ho : (plD pls s.at_).op = 27) :
    Calls Tryd.prog 19 #[.pointer (some ⟨x, 0, none⟩)] w fun e w' => StepP w B x F pls inf dep k ins e w' := by
  have hw : F.C.w s.at_ = 27 := by have := ok.ins.op; rw [ho] at this; exact this
  have hsd := iv.sd
  have n4 := h.n4
  have en := h.en
  have at4 := h.at4
  have hlo : s.loose + 1 ≤ 5000 := by have := iv.lo; omega
  have ivlo := iv.lo
  have hfit := ok.ins.fit
  rw [ho] at hfit
  obtain ⟨j1, j2⟩ := ok.fwd (by rw [ho]; decide)
  obtain ⟨tg, hto⟩ : ∃ tg, (plD pls s.at_).to = tg := ⟨_, rfl⟩
  obtain ⟨p1, p2, p3, p4, p5, p6⟩ := jumps S hinf hb ok 5 27 2 2 1 0 ho rfl (by decide) (by decide) tg hto
  rw [hto, p2] at j2
  rw [p2] at j1
  rw [show s.at_ + (1 + 2) - 1 = s.at_ + 2 by omega] at j1 j2
  have hst := ok.top
  rw [hd] at p3 p4 hst
  have hdp := h.dp
  have hz := ok.ins.nos (by rw [ho]; decide)
  obtain ⟨g1, g2, g3, g4, g5, g6⟩ := goesOn S hinf hb ok 5 27 2 2 1 0 0 ho rfl (by decide) hz (by decide)
  rw [hd] at g2 g3 g4 g6
  have hsl : isSlotP F.sc 0 (F.C.w (s.at_ + 1)) = true := by simpa [fitP] using hfit
  refine (step_27 h hw (by omega) iv.wild hlo _ (fun V hV => leads27 hV (F.C.w (s.at_ + 1)) (F.C.w (s.at_ + 2)) ((s.at_ : Int) + 3) ⟨by omega, by omega⟩ ⟨by omega, by omega⟩ hsl (by show 2 ≤ s.dep; omega) (by show s.dep - 1 ≤ F.h.stack; omega) hsd) (fun t s' hh => by obtain ⟨sd, -, -, ⟨-, h1⟩ | ⟨-, h1⟩⟩ := hh; exact ⟨tg, by omega, by omega⟩; exact ⟨s.at_ + 3, by omega, by omega⟩)).mono ?_
  rintro e w' ⟨rfl, f, m, s', ⟨sd, sd1, sd2, ⟨rfl, hm⟩ | ⟨rfl, hm⟩⟩, hk⟩
  · skip
    have em : m = tg := by omega
    subst em
    refine ⟨rfl, h.kwx hB f, _, pi, ci, ins, hk, ⟨rfl, fun _ => ⟨?_, p6⟩, ?_, ?_, ?_⟩, by omega, fun u hu => .inl hu⟩
    · show depD dep m = s.dep - 2; omega
    · show s.loose + 1 ≤ m; omega
    · show m ≤ F.e0; omega
    · exact ⟨sd1, sd2⟩
  · skip
    have em : m = s.at_ + 3 := by omega
    subst em
    refine ⟨rfl, h.kwx hB f, _, pi, ci, ins, hk, ⟨rfl, fun _ => ⟨?_, g5⟩, ?_, ?_, ?_⟩, by omega, fun u hu => .inl hu⟩
    · show depD dep (s.at_ + 3) = s.dep - 1; rw [show s.at_ + 3 = s.at_ + (1 + 2) from rfl, g3]; omega
    · show s.loose + 1 ≤ s.at_ + 3; omega
    · show s.at_ + 3 ≤ F.e0; omega
    · exact ⟨sd1, sd2⟩
theorem any_28 (S : Safe F.C t F.h.stack pls inf dep) (h : WK w B x F s pi ci ins) (hB : B ≤ w.heap.size) (hinf : inf[k - 1]? = some (F.sc, F.b0, F.e0)) (iv : Iv pls dep F k s) (hnd : s.done = false) (hil : ins.length + 1 ≤ 100000) (hd : depD dep s.at_ = s.dep) (hb : (plD pls s.at_).body = k) (ok : StepOk F.C F.h.stack pls inf dep s.at_ F.sc F.b0 F.e0) (ho : (plD pls s.at_).op = 28) :
    Calls Tryd.prog 19 #[.pointer (some ⟨x, 0, none⟩)] w fun e w' => StepP w B x F pls inf dep k ins e w' := by
  have hw : F.C.w s.at_ = 28 := by have := ok.ins.op; rw [ho] at this; exact this
  have hsd := iv.sd
  have n4 := h.n4
  have en := h.en
  have at4 := h.at4
  have hlo : s.loose + 1 ≤ 5000 := by have := iv.lo; omega
  have ivlo := iv.lo
  have hfit := ok.ins.fit
  rw [ho] at hfit
  obtain ⟨j1, j3, j2⟩ := ok.bwd (by rw [ho]; decide)
  obtain ⟨tg, hto⟩ : ∃ tg, (plD pls s.at_).to = tg := ⟨_, rfl⟩
  obtain ⟨p1, p2, p3, p4, p5, p6⟩ := jumps S hinf hb ok 7 28 2 1 0 1 ho rfl (by decide) (by decide) tg hto
  rw [hto, p2] at j2
  rw [p2] at j1 j3
  rw [show s.at_ + (1 + 2) - 1 = s.at_ + 2 by omega] at j1 j2 j3
  have hst := ok.top
  rw [hd] at p3 p4 hst
  have hdp := h.dp
  have hz := ok.ins.nos (by rw [ho]; decide)
  obtain ⟨g1, g2, g3, g4, g5, g6⟩ := goesOn S hinf hb ok 7 28 2 1 0 1 0 ho rfl (by decide) hz (by decide)
  rw [hd] at g2 g3 g4 g6
  have hsl : isSlotP F.sc 0 (F.C.w (s.at_ + 1)) = true := by simpa [fitP] using hfit
  refine (step_28 h hw (by omega) iv.wild hlo _ (fun V hV => leads28 hV (F.C.w (s.at_ + 1)) (F.C.w (s.at_ + 2)) ((s.at_ : Int) + 3) ⟨by omega, by omega⟩ ⟨by omega, by omega⟩ hsl (by show 1 ≤ s.dep; omega) (by show s.dep ≤ F.h.stack; omega) hsd) (fun t s' hh => by obtain ⟨sd, -, -, ⟨-, h1⟩ | ⟨-, h1⟩⟩ := hh; exact ⟨s.at_ + 3, by omega, by omega⟩; exact ⟨tg, by omega, by omega⟩)).mono ?_
  rintro e w' ⟨rfl, f, m, s', ⟨sd, sd1, sd2, ⟨rfl, hm⟩ | ⟨rfl, hm⟩⟩, hk⟩
  · skip
    have em : m = s.at_ + 3 := by omega
    subst em
    refine ⟨rfl, h.kwx hB f, _, pi, ci, ins, hk, ⟨rfl, fun _ => ⟨?_, g5⟩, ?_, ?_, ?_⟩, by omega, fun u hu => .inl hu⟩
    · show depD dep (s.at_ + 3) = s.dep - 1; rw [show s.at_ + 3 = s.at_ + (1 + 2) from rfl, g3]; omega
    · show s.loose + 1 ≤ s.at_ + 3; omega
    · show s.at_ + 3 ≤ F.e0; omega
    · exact ⟨sd1, sd2⟩
  · skip
    have em : m = tg := by omega
    subst em
    refine ⟨rfl, h.kwx hB f, _, pi, ci, ins, hk, ⟨rfl, fun _ => ⟨?_, p6⟩, ?_, ?_, ?_⟩, by omega, fun u hu => .inl hu⟩
    · show depD dep m = s.dep; omega
    · show 0 ≤ m; omega
    · show m ≤ F.e0; omega
    · exact ⟨sd1, sd2⟩
theorem step_any (S : Safe F.C t F.h.stack pls inf dep) (h : WK w B x F s pi ci ins) (hB : B ≤ w.heap.size) (hinf : inf[k - 1]? = some (F.sc, F.b0, F.e0)) (iv : Iv pls dep F k s) (hnd : s.done = false) (hil : ins.length + 1 ≤ 100000) :
    Calls Tryd.prog 19 #[.pointer (some ⟨x, 0, none⟩)] w fun e w' => StepP w B x F pls inf dep k ins e w' := by
  obtain ⟨hd, hb⟩ := iv.go hnd
  obtain ⟨-, -, -, -, ok⟩ := there S hinf s.at_ (by rw [hd]; have := h.dp; omega) hb
  have lo := ok.ins.lo
  have hi := ok.ins.hi
  rcases (show (plD pls s.at_).op = 1 ∨ (plD pls s.at_).op = 2 ∨ (plD pls s.at_).op = 3 ∨ (plD pls s.at_).op = 4 ∨ (plD pls s.at_).op = 5 ∨ (plD pls s.at_).op = 6 ∨ (plD pls s.at_).op = 7 ∨ (plD pls s.at_).op = 8 ∨ (plD pls s.at_).op = 9 ∨ (plD pls s.at_).op = 10 ∨ (plD pls s.at_).op = 11 ∨ (plD pls s.at_).op = 12 ∨ (plD pls s.at_).op = 13 ∨ (plD pls s.at_).op = 14 ∨ (plD pls s.at_).op = 15 ∨ (plD pls s.at_).op = 16 ∨ (plD pls s.at_).op = 17 ∨ (plD pls s.at_).op = 18 ∨ (plD pls s.at_).op = 19 ∨ (plD pls s.at_).op = 20 ∨ (plD pls s.at_).op = 21 ∨ (plD pls s.at_).op = 22 ∨ (plD pls s.at_).op = 23 ∨ (plD pls s.at_).op = 24 ∨ (plD pls s.at_).op = 25 ∨ (plD pls s.at_).op = 26 ∨ (plD pls s.at_).op = 27 ∨ (plD pls s.at_).op = 28 by omega) with ho | ho | ho | ho | ho | ho | ho | ho | ho | ho | ho | ho | ho | ho | ho | ho | ho | ho | ho | ho | ho | ho | ho | ho | ho | ho | ho | ho
  · exact any_1 S h hB hinf iv hnd hil hd hb ok ho
  · exact any_2 S h hB hinf iv hnd hil hd hb ok ho
  · exact any_3 S h hB hinf iv hnd hil hd hb ok ho
  · exact any_4 S h hB hinf iv hnd hil hd hb ok ho
  · exact any_5 S h hB hinf iv hnd hil hd hb ok ho
  · exact any_6 S h hB hinf iv hnd hil hd hb ok ho
  · exact any_7 S h hB hinf iv hnd hil hd hb ok ho
  · exact any_8 S h hB hinf iv hnd hil hd hb ok ho
  · exact any_9 S h hB hinf iv hnd hil hd hb ok ho
  · exact any_10 S h hB hinf iv hnd hil hd hb ok ho
  · exact any_11 S h hB hinf iv hnd hil hd hb ok ho
  · exact any_12 S h hB hinf iv hnd hil hd hb ok ho
  · exact any_13 S h hB hinf iv hnd hil hd hb ok ho
  · exact any_14 S h hB hinf iv hnd hil hd hb ok ho
  · exact any_15 S h hB hinf iv hnd hil hd hb ok ho
  · exact any_16 S h hB hinf iv hnd hil hd hb ok ho
  · exact any_17 S h hB hinf iv hnd hil hd hb ok ho
  · exact any_18 S h hB hinf iv hnd hil hd hb ok ho
  · exact any_19 S h hB hinf iv hnd hil hd hb ok ho
  · exact any_20 S h hB hinf iv hnd hil hd hb ok ho
  · exact any_21 S h hB hinf iv hnd hil hd hb ok ho
  · exact any_22 S h hB hinf iv hnd hil hd hb ok ho
  · exact any_23 S h hB hinf iv hnd hil hd hb ok ho
  · exact any_24 S h hB hinf iv hnd hil hd hb ok ho
  · exact any_25 S h hB hinf iv hnd hil hd hb ok ho
  · exact any_26 S h hB hinf iv hnd hil hd hb ok ho
  · exact any_27 S h hB hinf iv hnd hil hd hb ok ho
  · exact any_28 S h hB hinf iv hnd hil hd hb ok ho
end
end Go.Proofs.YtdflpoldlokijaaDoor

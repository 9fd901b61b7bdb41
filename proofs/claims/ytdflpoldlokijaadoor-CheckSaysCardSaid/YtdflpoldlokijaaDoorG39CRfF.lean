import Derived.Test.YtdflpoldlokijaaDoorCRfC
import Derived.Test.YtdflpoldlokijaaDoorCRfD
import Derived.Test.YtdflpoldlokijaaDoorG33CRp2
namespace Go.Proofs.YtdflpoldlokijaaDoor
open Go.RowKit
set_option linter.unusedVariables false
set_option linter.unusedSimpArgs false
attribute [local go_sem ↓] Go.wp_at_zero Go.wp_at_succ
def isM1 (u : Value) : Bool := match u with | .int _ z => decide (z = -1) | _ => false
/-- how many depths are not told yet, in memory -/
def mesW (v : Nat) (w : World) : Nat :=
  match w.heap[v]? with
  | some (Obj.cells c _ _) => (match c[0]? with
    | some (Value.slice (some a) n _) => (match w.heap[a.block]? with
      | some (Obj.cells d _ _) => ((d.toList.take n).filter isM1).length
      | _ => 0)
    | _ => 0)
  | _ => 0
theorem filter_m1 (ds : List Int) : ((ds.map (Value.int .i64)).filter isM1).length = unr ds := by
  induction ds with
  | nil => rfl
  | cons a ds ih =>
    rw [List.map_cons, List.filter_cons, unr_cons]
    by_cases h : a = -1
    · rw [if_pos (by simp [isM1, h]), if_pos h, List.length_cons, ih]
    · rw [if_neg (by simp [isM1, h]), if_neg h, ih]; rfl
theorem mesW_eq {w : World} {B v : Nat} {ds : List Int} {pd : Option Addr} {cd : Nat} {most : Int} {cl : Bool} (h : VW w B v ds pd cd most cl) : mesW v w = unr ds := by
  have hr := h.row
  unfold mesW
  rw [h.top]
  simp only
  rcases hr.2 with ⟨e, e0⟩ | ⟨g, cap, cur, e, q1, q2, q3, q4, q5, q6⟩
  · injection e with e1 _ e3
    subst e1
    have : ds = [] := List.length_eq_zero_iff.1 e0
    subst this
    rfl
  · injection e with e1 _ e3
    subst e1 e3
    simp only [List.getElem?_toArray, List.getElem?_cons_zero]
    rw [q2]
    simp only
    rw [← filter_m1, show ds.length = ds.length * 1 by omega, q6]
/-- a depth more -/
theorem VW.push {w : World} {B v : Nat} {i : Nat} {pd : Option Addr} {cd : Nat} (h : VW w B v (List.replicate i (-1)) pd cd 0 false) (hB : B ≤ w.heap.size) (hi : i ≤ 100000) :
    ∃ p' c' w', (Builtin.append_ #[23, 23] 23 #[.slice pd i cd, .slice (some ⟨w.heap.size, 0, none⟩) 1 1]).run Tryd.prog (w.alloc (.cells #[.int .i64 (-1)] 3)) = .ok (.slice p' (i + 1) c') w' ∧
      VW (w'.setCell ⟨v, 0, none⟩ (.slice p' (i + 1) c')) B v (List.replicate (i + 1) (-1)) p' c' 0 false ∧ Fr (v :: blk pd) w (w'.setCell ⟨v, 0, none⟩ (.slice p' (i + 1) c')) ∧ w'.cell? ⟨v, 0, none⟩ = some (.slice pd i cd) ∧ w'.frozen? ⟨v, 0, none⟩ = false ∧ Nw w pd p' := by
  have ho := h.row
  obtain ⟨p', c', w', hr, hown, hm⟩ := push_int w B pd cd (List.replicate i (-1)) (-1) ho (by simp; omega) hB
  simp only [List.length_replicate] at hr hown
  have e1 : List.replicate i (-1 : Int) ++ [-1] = List.replicate (i + 1) (-1) := by rw [List.replicate_succ']
  rw [e1] at hown
  simp only [List.length_replicate] at hown
  have hf : Fr (blk pd) w w' := by
    rcases hm with ⟨-, -, e3⟩ | ⟨e1, -⟩
    · exact e3
    · exact e1.mono (by simp)
  have hnw : Nw w pd p' := by
    rcases hm with ⟨e1, -, -⟩ | ⟨-, e2⟩
    · rw [e1]; exact fun g hg => .inl hg
    · exact fun g hg => .inr (e2 g hg)
  have t1 := (hf.block v (lt_of_heap h.top) (fun hmm => h.dne v hmm rfl)).trans h.top
  simp only [List.length_replicate] at t1
  have hp'x : ∀ g ∈ blk p', g ≠ v := fun g hg e => by
    obtain ⟨c1, h1⟩ := row_block hown ((blk_own p' (i + 1) c' g).2 hg)
    exact ty_ne h1 t1 (by decide) e
  have f2 : Fr [v] w' (w'.setCell ⟨v, 0, none⟩ (.slice p' (i + 1) c')) := Fr.setCell (S := [v]) w' ⟨v, 0, none⟩ _ (by simp)
  refine ⟨p', c', w', hr, ⟨?_, h.base, ?_⟩, (hf.mono (S' := v :: blk pd) (fun g hg => .inl (by simp [hg]))).trans f2 (fun g hg => .inl (by simp at hg; simp [hg])), by rw [cell_in t1]; rfl, frozen_in t1 0, hnw⟩
  · rw [set_in t1 0 _]; simp
  · have hl : (List.replicate (i + 1) (-1 : Int)).length = i + 1 := by simp
    rw [hl]
    exact own_congr hown fun g hg => f2.block g (own_lt hown g hg).2 (by simp; exact hp'x g ((blk_own _ _ _ _).1 hg))
end Go.Proofs.YtdflpoldlokijaaDoor
namespace Go.Proofs.YtdflpoldlokijaaDoor
open Go.RowKit
set_option linter.unusedVariables false
set_option linter.unusedSimpArgs false
attribute [local go_sem ↓] Go.wp_at_zero Go.wp_at_succ
/-- the bodies against the instructions -/
structure BJ (bs : List Bd) (l : List Pl) : Prop where
  one : ∃ u : Bd, bs[0]? = some u ∧ u.b = 0
  be : ∀ (b : Nat) (u : Bd), bs[b]? = some u → u.b < l.length → (plD l u.b).body = b + 1
  bx : ∀ y, y < l.length → (plD l y).body ≠ 0 → (plD l y).op = 19 → ∃ (b : Nat) (u : Bd), bs[b]? = some u ∧ u.b = (plD l y).fin ∧ u.ar + 1 = ((plD l y).body : Int)
  jb : ∀ y, y < l.length → (plD l y).body ≠ 0 → 4 ≤ (shp (plD l y).op).kind → (plD l (plD l y).to).body = (plD l y).body
/-- what all ways leave -/
def WyP (w : World) (B x : Nat) (F : WFx) (bs : List Bd) (pb : Option Addr) (cb : Nat) (rs : List Ri) (pr : Option Addr) (cr el : Nat) (l : List Pl) (e : Ending) (w' : World) : Prop :=
  ∃ v, e = .returned (.pointer (some ⟨v, 0, none⟩)) ∧ Fr [x] w w' ∧ WR w' B x F bs pb cb rs pr cr el (followP l F.h.stack).1 ∧ ∃ ds pd cd m c, VW w' B v ds pd cd m c ∧ ((followP l F.h.stack).1 = 0 → ds = dsOf l (followP l F.h.stack).2)
/-- between two passes -/
def OutS (w : World) (B x v : Nat) (F : WFx) (bs : List Bd) (pb : Option Addr) (cb : Nat) (rs : List Ri) (pr : Option Addr) (cr el : Nat) (l : List Pl) (pd : Option Addr) (cd : Nat) (m : Bool) (W : World) : Prop :=
  ∃ (V : RV) (mo : Int) (cl : Bool) (er : Int), Fr [x] w W ∧ WR W B x F bs pb cb rs pr cr el er ∧ VW W B v (dsOf l V.dep) pd cd mo cl ∧ ((er = 0 ∧ mo = V.most ∧ cl = V.clash ∧ RS l V ∧ (m = false → RDone l V)) ∨ (er = 114 ∧ followP l F.h.stack = (114, [])))
/-- within a pass -/
def InS (w : World) (B x v : Nat) (F : WFx) (bs : List Bd) (pb : Option Addr) (cb : Nat) (rs : List Ri) (pr : Option Addr) (cr el : Nat) (l : List Pl) (pd : Option Addr) (cd : Nat) (u0 : Nat) (i : Nat) (m : Bool) (W : World) : Prop :=
  ∃ (V : RV) (mo : Int) (cl : Bool) (er : Int), Fr [x] w W ∧ WR W B x F bs pb cb rs pr cr el er ∧ VW W B v (dsOf l V.dep) pd cd mo cl ∧ unr (dsOf l V.dep) + (if m then 1 else 0) ≤ u0 ∧ ((er = 0 ∧ mo = V.most ∧ cl = V.clash ∧ ∃ V0, Pass l V0 V i m ∧ unr (dsOf l V0.dep) ≤ u0) ∨ (er = 114 ∧ followP l F.h.stack = (114, [])))
def flagN (q : Value) : Nat := match q with | .bool true => 1 | _ => 0
theorem OutS.mes {w : World} {B x v : Nat} {F : WFx} {bs : List Bd} {pb : Option Addr} {cb : Nat} {rs : List Ri} {pr : Option Addr} {cr el : Nat} {l : List Pl} {pd : Option Addr} {cd : Nat} {V : RV} {mo : Int} {cl : Bool} {W : World} (h : VW W B v (dsOf l V.dep) pd cd mo cl) : mesW v W = unr (dsOf l V.dep) := mesW_eq h
theorem VW.keepS {w w' : World} {B v : Nat} {ds : List Int} {pd : Option Addr} {cd : Nat} {most : Int} {cl : Bool} {S : List Nat} (h : VW w B v ds pd cd most cl) (hf : Fr S w w') (hv : v ∉ S) (hd : ∀ g ∈ blk pd, g ∉ S) : VW w' B v ds pd cd most cl :=
  ⟨(hf.block v (lt_of_heap h.top) hv).trans h.top, h.base, own_congr h.row fun g hg => hf.block g (own_lt h.row g hg).2 (hd g ((blk_own _ _ _ _).1 hg))⟩
section
variable {w : World} {B x : Nat} {F : WFx} {bs : List Bd} {pb : Option Addr} {cb : Nat} {rs : List Ri} {pr : Option Addr} {cr : Nat} {el : Nat} {l : List Pl}
theorem VW.newV {w : World} {B : Nat} (hB : B ≤ w.heap.size) : VW (w.alloc (.cells #[.slice none 0 0, .int .i64 0, .bool false] 76)) B w.heap.size [] none 0 0 false :=
  ⟨heap_alloc_new w _, hB, World.ownsRow_nil _ _ _ _⟩
set_option maxRecDepth 100000 in
set_option maxHeartbeats 16000000 in
theorem ways_ok (h : WR w B x F bs pb cb rs pr cr el 0) (hB : B ≤ w.heap.size) (hn : l.length ≤ 4096) (hj : RJ l rs) (hl : PlOk l) (hbs : bs.length ≤ 100000) (hbj : BJ bs l) :
    Calls Tryd.prog 39 #[.pointer (some ⟨x, 0, none⟩)] w fun e w' => WyP w B x F bs pb cb rs pr cr el l e w' := by
  have hrlen : rs.length ≤ 4096 := by rw [hj.len]; have := stK_len_le l l.length; omega
  have hdsl : ∀ V : RV, (dsOf l V.dep).length = rs.length := fun V => by rw [dsOf_len, hj.len]
  obtain ⟨u0, hu0, hu0b⟩ := hbj.one
  have hb0 : 0 < l.length → (plD l 0).body = 1 := fun h0 => by
    have := hbj.be 0 u0 hu0 (by rw [hu0b]; exact h0)
    rw [hu0b] at this
    exact this
  have HWk : Hid (∀ W, Fr [] w W → WR W B x F bs pb cb rs pr cr el 0) := fun W hW => h.idle hW
  obtain ⟨fe, hfe⟩ : ∃ z, begF rs 0 (u0.b : Int) 0 = z := ⟨_, rfl⟩
  have HEt : Hid (∀ W, Fr [] w W → Calls Tryd.prog 59 #[.pointer (some ⟨x, 0, none⟩), .int .i64 0] W fun e w' => e = .returned (.int .i64 fe) ∧ ∃ n, w' = W.drewN n) := fun W hW => by
    have := entry_ok (h.idle hW) (by omega) hbs 0 u0 hu0
    rw [hfe] at this
    exact this
  have HV0 : Hid (Fr [] w (w.alloc (.cells #[.slice none 0 0, .int .i64 0, .bool false] 76)) ∧ VW (w.alloc (.cells #[.slice none 0 0, .int .i64 0, .bool false] 76)) B w.heap.size [] none 0 0 false) := ⟨Fr.alloc [] w _, VW.newV hB⟩
  have HNe : Hid (x ≠ w.heap.size ∧ x < w.heap.size) := by have := lt_of_heap h.top; exact ⟨by omega, this⟩
  have hfr : ∀ W, Fr [] w W → B ≤ W.heap.size := fun W hW => Nat.le_trans hB hW.size
  have HBs := mkHid hfr
  have HBase := mkHid hB
  have HJ := mkHid hj
  have HL := mkHid hl
  have HBj := mkHid hbj
  have HN := mkHid hn
  have HB0 := mkHid hb0
  have HDl := mkHid hdsl
  have HFe := mkHid hfe
  have HU0 := mkHid (And.intro hu0 hu0b)
  have HNb := mkHid hbs
  clear h hB hj hl hbj hn hb0 hdsl hfr hfe hu0 hu0b hbs
  go_enter Tryd.func39, Tryd.ntmps39
  go_wp2_with fail
  go_loopw [4] (fun q wr => ∃ i : Nat, q = .int .i64 (i : Int) ∧ i ≤ rs.length ∧ Hid (∃ pd cd, VW wr B w.heap.size (List.replicate i (-1)) pd cd 0 false ∧ Fr [] w wr ∧ ∀ g ∈ blk pd, w.heap.size ≤ g)) (fun q _ => rs.length - (intOf q).toNat)
  case atStart => exact ⟨0, rfl, by omega, none, 0, HV0.out.2, HV0.out.1, by simp [blk]⟩
  case round =>
    clear HV0
    obtain ⟨i, rfl, hi, hst⟩ := hrel
    have i0 : (0 : Int) ≤ (i : Int) := by omega
    obtain ⟨pd, cd, hv, hf, hg⟩ := hst.out
    have c10 : wr.cell? ⟨x, 10, none⟩ = some (.slice pr rs.length cr) := (HWk.out wr hf).cell 10
    have hvt := hv.top
    have d0 : wr.cell? ⟨w.heap.size, 0, none⟩ = some (.slice pd i cd) := (cell_in hvt 0).trans (by simp)
    by_cases hlt : i < rs.length
    · have i1 : (i : Int) < (rs.length : Int) := by omega
      obtain ⟨p', c', w', hrun, hk, hfr, t1, z1, hnw⟩ := hv.push (HBs.out wr hf) (by omega)
      have HR := mkHid hrun
      have HE : Hid (∃ pd cd, VW (w'.setCell ⟨w.heap.size, 0, none⟩ (.slice p' (i + 1) c')) B w.heap.size (List.replicate (i + 1) (-1)) pd cd 0 false ∧ Fr [] w (w'.setCell ⟨w.heap.size, 0, none⟩ (.slice p' (i + 1) c')) ∧ ∀ g ∈ blk pd, w.heap.size ≤ g) := by
        refine ⟨p', c', hk, hf.trans hfr (fun b hb => .inr ?_), fun g hg' => ?_⟩
        · rcases List.mem_cons.1 hb with e | hb
          · omega
          · exact hg b hb
        · rcases hnw g hg' with h1 | h1
          · exact hg g h1
          · exact Nat.le_trans hf.size h1
      clear hst hv hf hg hvt hk hfr hnw hrun
      go_wp2_with (at_builtin; refine Lib.wpList_append_run _ rfl (.tmp 24) (.tmp 25) 23 23 rfl _ _ rfl rfl _ _ HR.out ?_)
      go_roundw
      case rel => exact ⟨i + 1, by go_num, by omega, HE.out⟩
      case measure => simp [intOf]; omega
    · have i1 : decide ((i : Int) < (rs.length : Int)) = false := decide_eq_false (by omega)
      have HIe : Hid (i = rs.length) := (by omega : i = rs.length)
      have HEt2 := mkHid (HEt.out wr hf)
      have HWR := mkHid (HWk.out wr hf)
      have HFr := mkHid hf
      have HV := mkHid hv
      have HG := mkHid hg
      clear HEt HWk hst hv hf hg hvt
      by_cases h0 : 0 < l.length
      · have hb0 : (plD l 0).body ≠ 0 := by rw [HB0.out h0]; decide
        have hz : plK l 0 < rs.length := by
          have := stK_at l l.length 0 h0 hb0
          rw [HJ.out.len]
          exact (List.getElem?_eq_some_iff.1 this).1
        have hfe0 : fe = 0 := by
          have := HJ.out.rl.yes 0 0 h0 (HB0.out h0)
          rw [← HFe.out, HU0.out.2]
          rw [this, plK_zero]
          rfl
        subst hfe0
        rw [plK_zero] at hz
        obtain ⟨gd, hpd, hgB, yd, zd⟩ := HV.out.depth 0 (by simp; have := HIe.out; omega)
        have hpd : pd = some ⟨gd, 0, none⟩ := hpd
        subst hpd
        have i2 : (0 : Int) < (i : Int) := by have := HIe.out; omega
        have HO : Hid (∀ n, OutS w B x w.heap.size F bs pb cb rs pr cr el l (some ⟨gd, 0, none⟩) cd true ((wr.drewN n).setCell ⟨gd, 0, none⟩ (.int .i64 0))) := fun n => by
          have hv1 : VW (wr.drewN n) B w.heap.size (List.replicate i (-1)) (some ⟨gd, 0, none⟩) cd 0 false := HV.out.idle ((Fr.refl _ _).dn n)
          obtain ⟨k1, k2⟩ := hv1.setDepth 0 (by simp; have := HIe.out; omega) 0 gd rfl
          have hgx : ∀ g ∈ blk (some (⟨gd, 0, none⟩ : Addr)), w.heap.size ≤ g := HG.out
          have hgd : w.heap.size ≤ gd := hgx gd (by simp [blk])
          have hfx : Fr [] w ((wr.drewN n).setCell ⟨gd, 0, none⟩ (.int .i64 0)) := (HFr.out.dn n).st hgd 0 _
          have hx := HNe.out.2
          refine ⟨startV l.length, 0, false, 0, hfx.mono (by simp), (HWR.out.dr n).keep k2 (by simp; omega) (fun b hb => ?_) (fun b hb => ?_) (by simp; exact hgB), ?_, .inl ⟨rfl, rfl, rfl, start_rs l h0 hb0, fun hh => by cases hh⟩⟩
          · have := (own_lt HWR.out.bod b ((blk_own _ _ _ _).2 hb))
            intro hm
            simp at hm
            subst hm
            obtain ⟨c1, h1⟩ := row_block HWR.out.bod ((blk_own pb bs.length cb b).2 hb)
            obtain ⟨c2, h2⟩ := row_block HV.out.row (g := b) rfl
            exact ty_ne h1 h2 (by decide) rfl
          · intro hm
            simp at hm
            subst hm
            obtain ⟨c1, h1⟩ := row_block HWR.out.lst ((blk_own pr rs.length cr b).2 hb)
            obtain ⟨c2, h2⟩ := row_block HV.out.row (g := b) rfl
            exact ty_ne h1 h2 (by decide) rfl
          · rw [dsOf_start l h0 hb0, ← HJ.out.len, ← HIe.out]
            exact k1
        have HGd : Hid (∀ g ∈ blk (some (⟨gd, 0, none⟩ : Addr)), w.heap.size ≤ g) := HG
        clear HG HV HFr HWR
        generalize hvv : w.heap.size = v at *
        have HVV := mkHid hvv
        clear hvv
        go_wp2_with (go_at_call 59; refine HEt2.out.mono ?_; rintro e w2 ⟨rfl, n2, hw2⟩; rw [hw2]; clear hw2 w2)
        go_loopw [6] (fun q wr => ∃ m : Bool, q = .bool m ∧ Hid (OutS w B x v F bs pb cb rs pr cr el l (some ⟨gd, 0, none⟩) cd m wr)) (fun q wr => mesW v wr + flagN q)
        case atStart => exact ⟨true, rfl, HO.out _⟩
        case round =>
          clear HO HEt2 c10 d0 yd zd i1 i0 i2 hi hlt HIe
          obtain ⟨m, rfl, hst⟩ := hrel
          obtain ⟨V, mo, cl, er, hf, hk, hv, hcs⟩ := hst.out
          have c12 : wr.cell? ⟨x, 12, none⟩ = some (.int .i64 er) := hk.cell 12
          by_cases hgo : m = true ∧ er = 0
          · obtain ⟨rfl, rfl⟩ := hgo
            rcases hcs with ⟨-, rfl, rfl, hrs, -⟩ | ⟨hh, -⟩
            rotate_left
            · exact absurd hh (by decide)
            obtain ⟨uu, huu⟩ : ∃ z, unr (dsOf l V.dep) = z := ⟨_, rfl⟩
            have HI : Hid (InS w B x v F bs pb cb rs pr cr el l (some ⟨gd, 0, none⟩) cd uu 0 false wr) := ⟨V, V.most, V.clash, 0, hf, hk, hv, by simp [huu], .inl ⟨rfl, rfl, rfl, V, Pass.begin hrs, by omega⟩⟩
            have HMe : Hid (mesW v wr = uu) := (mesW_eq hv).trans huu
            clear hst hf hk hv hrs huu
            generalize wr = wo at *
            go_wp2_with fail
            go_loopw [6, 7] (fun q i wr => ∃ (m : Bool) (i' : Nat), q = .bool m ∧ i = .int .i64 (i' : Int) ∧ i' ≤ rs.length ∧ Hid (InS w B x v F bs pb cb rs pr cr el l (some ⟨gd, 0, none⟩) cd uu i' m wr)) (fun _ q _ => rs.length - (intOf q).toNat)
            case atStart => exact ⟨false, 0, rfl, rfl, by omega, HI.out⟩
            case round =>
              clear HI c12
              obtain ⟨m, i, rfl, rfl, hi, hst⟩ := hrel
              obtain ⟨V, mo, cl, er, hf, hk, hv, hup, hcs⟩ := hst.out
              have c12 : wr.cell? ⟨x, 12, none⟩ = some (.int .i64 er) := hk.cell 12
              have c10 : wr.cell? ⟨x, 10, none⟩ = some (.slice pr rs.length cr) := hk.cell 10
              have i0 : (0 : Int) ≤ (i : Int) := by omega
              by_cases hlt : i < rs.length ∧ er = 0
              · obtain ⟨hlt, rfl⟩ := hlt
                have i1 : (i : Int) < (rs.length : Int) := by omega
                rcases hcs with ⟨-, rfl, rfl, V0, hp, hu0⟩ | ⟨hh, -⟩
                rotate_left
                · exact absurd hh (by decide)
                obtain ⟨y, hy⟩ : ∃ y, (stK l l.length)[i]? = some y := ⟨_, List.getElem?_eq_getElem (by rw [← HJ.out.len]; exact hlt)⟩
                obtain ⟨hyi0, hyl, hyb⟩ := stK_inv l _ i y hy
                have hyi : i = plK l y := by omega
                clear hyi0
                have hv0 : wr.cell? ⟨v, 0, none⟩ = some (.slice (some ⟨gd, 0, none⟩) rs.length cd) := (cell_in hv.top 0).trans (by simp [HDl.out V])
                obtain ⟨gd', hgd', -, yd, -⟩ := hv.depth i (by rw [HDl.out V]; exact hlt)
                have hgd2 : gd' = gd := by injection hgd' with hgd'; injection hgd' with hgd'; exact hgd'.symm
                subst hgd2
                rw [List.getD_eq_getElem?_getD, hyi, dsOf_get l V.dep y hyl hyb, Option.getD_some, ← hyi] at yd
                by_cases hd : depD V.dep y = -1
                · have HE : Hid (InS w B x v F bs pb cb rs pr cr el l (some ⟨gd', 0, none⟩) cd uu (i + 1) m wr) := ⟨V, V.most, V.clash, 0, hf, hk, hv, hup, .inl ⟨rfl, rfl, rfl, V0, hp.skip y hy hd, hu0⟩⟩
                  rw [hd] at yd
                  clear hst hf hk hv hup hp hu0 hy hyi hyl hyb hd
                  go_wp2_with fail
                  go_roundw
                  case rel => exact ⟨m, i + 1, rfl, by go_num, by omega, HE.out⟩
                  case measure => simp [intOf]; omega
                · have hpos := hp.rs.ri.pos y hd
                  have hdl := HDl.out V
                  have hb1 := hp.rs.rb.dep y
                  have hb2 := hp.rs.rb.most
                  have hmm := hp.rs.ri.mst.1
                  have hgo := goes_ok hk hv (Nat.le_trans HBase.out (Nat.le_trans (by rw [HVV.out]; exact Nat.le_refl _) hf.size)) HN.out HJ.out HL.out hp.rs.ri.len HNb.out HBj.out.be HBj.out.bx HBj.out.jb y hyl hyb hpos (by omega) hmm (by omega)
                  rw [← hyi] at hgo
                  have hfr2 : ∀ b ∈ x :: v :: blk (some (⟨gd', 0, none⟩ : Addr)), b ∈ [x] ∨ w.heap.size ≤ b := fun b hb => by
                    have h1 := HVV.out
                    rcases List.mem_cons.1 hb with e | hb
                    · exact .inl (by simp [e])
                    · rcases List.mem_cons.1 hb with e | hb
                      · exact .inr (by omega)
                      · have := HGd.out b hb
                        exact .inr (by omega)
                  by_cases he : endsP l y
                  · have HGo : Hid (Calls Tryd.prog 60 #[.pointer (some ⟨x, 0, none⟩), .pointer (some ⟨v, 0, none⟩), .int .i64 (i : Int)] wr fun e w' => e = .returned (.bool false) ∧ Hid (InS w B x v F bs pb cb rs pr cr el l (some ⟨gd', 0, none⟩) cd uu (i + 1) m w')) := hgo.mono (by
                      rintro e w' ⟨fr, h1 | h1⟩
                      · obtain ⟨-, rfl, h3, m', c', h4⟩ := h1
                        exact ⟨rfl, V, m', c', 114, hf.trans fr hfr2, h3, h4, hup, .inr ⟨rfl, ways_end HL.out h0 hb0 F.h.stack y (hp.rs.ri.rch y hd) he⟩⟩
                      · exact absurd he h1.1)
                    have hnn : ¬ depD V.dep y < 0 := by omega
                    clear hst hf hk hv hup hp hu0 hy hyi hyl hyb hd hgo hfr2 he hdl hb1 hb2 hmm
                    generalize depD V.dep y = dv at *
                    cases m
                    all_goals
                      go_wp2_with (go_at_call 60; refine HGo.out.mono ?_; rintro e w7 ⟨rfl, H7⟩)
                      go_roundw
                      case rel => exact ⟨_, i + 1, rfl, by go_num, by omega, H7.out⟩
                      case measure => simp [intOf]; omega
                  · have hps := hp.goes HL.out h0 hb0 y hy hd he
                    have HGo : Hid (Calls Tryd.prog 60 #[.pointer (some ⟨x, 0, none⟩), .pointer (some ⟨v, 0, none⟩), .int .i64 (i : Int)] wr fun e w' => e = .returned (.bool (goesV l V y).2) ∧ Hid (InS w B x v F bs pb cb rs pr cr el l (some ⟨gd', 0, none⟩) cd uu (i + 1) (m || (goesV l V y).2) w')) := hgo.mono (by
                      rintro e w' ⟨fr, h1 | h1⟩
                      · exact absurd h1.1 he
                      · obtain ⟨-, rfl, h3, h4⟩ := h1
                        exact ⟨rfl, (goesV l V y).1, _, _, 0, hf.trans fr hfr2, h3, h4, Nat.le_trans hps.up hu0, .inl ⟨rfl, rfl, rfl, V0, hps, hu0⟩⟩)
                    have hnn : ¬ depD V.dep y < 0 := by omega
                    clear hst hf hk hv hup hp hu0 hy hyi hyl hyb hd hgo hfr2 he hdl hb1 hb2 hmm hps
                    generalize depD V.dep y = dv at *
                    generalize (goesV l V y).2 = mm at *
                    cases m
                    all_goals
                      cases mm
                      all_goals
                        go_wp2_with (go_at_call 60; refine HGo.out.mono ?_; rintro e w7 ⟨rfl, H7⟩)
                        go_roundw
                        case rel => exact ⟨_, i + 1, rfl, by go_num, by omega, H7.out⟩
                        case measure => simp [intOf]; omega
              · have HE : Hid (OutS w B x v F bs pb cb rs pr cr el l (some ⟨gd, 0, none⟩) cd m wr ∧ mesW v wr + flagN (.bool m) < mesW v wo + 1) := by
                  refine ⟨⟨V, mo, cl, er, hf, hk, hv, ?_⟩, ?_⟩
                  · rcases hcs with ⟨rfl, rfl, rfl, V0, hp, hu0⟩ | ⟨rfl, hh⟩
                    · refine .inl ⟨rfl, rfl, rfl, hp.rs, fun hm => ?_⟩
                      subst hm
                      have : i = (stK l l.length).length := by rw [← HJ.out.len]; have : ¬ i < rs.length := fun h => hlt ⟨h, rfl⟩; omega
                      rw [this] at hp
                      exact hp.done HL.out h0 hb0
                    · exact .inr ⟨rfl, hh⟩
                  · rw [HMe.out, mesW_eq hv]
                    cases m <;> simp [flagN] at hup ⊢ <;> omega
                clear hst hf hk hv hup hcs
                by_cases hl2 : i < rs.length
                · have i1 : (i : Int) < (rs.length : Int) := by omega
                  have q0 : (er == 0) = false := beq_eq_false_iff_ne.2 (fun h => hlt ⟨hl2, h⟩)
                  clear hlt
                  go_wp2_with fail
                  go_roundw
                  case rel => exact ⟨m, rfl, HE.out.1⟩
                  case measure => exact HE.out.2
                · have i1 : decide ((i : Int) < (rs.length : Int)) = false := decide_eq_false (by omega)
                  clear hlt
                  go_wp2_with fail
                  go_roundw
                  case rel => exact ⟨m, rfl, HE.out.1⟩
                  case measure => exact HE.out.2
          · have v1 : wr.cell? ⟨v, 1, none⟩ = some (.int .i64 mo) := cell_in hv.top 1
            have v2 : wr.cell? ⟨v, 2, none⟩ = some (.bool cl) := cell_in hv.top 2
            have c2 : wr.cell? ⟨x, 2, none⟩ = some (.int .i64 F.h.stack) := hk.cell 2
            have hvx : v ∉ [x] := by simp; exact fun e => HNe.out.1 e.symm
            have hgx : ∀ g ∈ blk (some (⟨gd, 0, none⟩ : Addr)), g ∉ [x] := fun g hg => by
              have := HGd.out g hg
              have := HNe.out.2
              simp
              omega
            have HTN : Hid (((cl = true ∨ mo ≠ F.h.stack) → ∀ n, Calls Tryd.prog 53 #[.pointer (some ⟨x, 0, none⟩), .int .i64 113] (wr.drewN n) fun e w' => e = .returned (.tuple #[]) ∧ Hid (WyP w B x F bs pb cb rs pr cr el l (.returned (.pointer (some ⟨v, 0, none⟩))) w')) ∧ (¬(cl = true ∨ mo ≠ F.h.stack) → ∀ n, WyP w B x F bs pb cb rs pr cr el l (.returned (.pointer (some ⟨v, 0, none⟩))) (wr.drewN n))) := by
              rcases hcs with ⟨rfl, rfl, rfl, hrs, hdn⟩ | ⟨rfl, hfo⟩
              · have hm : m = false := by
                  cases m
                  · rfl
                  · exact absurd ⟨rfl, rfl⟩ hgo
                have hw := ways_done HL.out h0 hb0 F.h.stack (hdn hm)
                refine ⟨fun hc n => ?_, fun hc n => ?_⟩
                · rw [if_pos hc] at hw
                  refine (fails_ok (hk.dr n) 113).mono ?_
                  rintro e w' ⟨rfl, f, k⟩
                  refine ⟨rfl, v, rfl, (hf.trans (Fr.drewN [x] wr n) (fun b hb => .inl hb)).trans f (fun b hb => .inl hb), by rw [hw]; exact k, dsOf l V.dep, some ⟨gd, 0, none⟩, cd, V.most, V.clash, (hv.idle ((Fr.refl _ _).dn n)).keepS f hvx hgx, fun hh => by rw [hw] at hh; cases hh⟩
                · rw [if_neg hc] at hw
                  exact ⟨v, rfl, hf.trans (Fr.drewN [x] wr n) (fun b hb => .inl hb), by rw [hw]; exact hk.dr n, dsOf l V.dep, some ⟨gd, 0, none⟩, cd, V.most, V.clash, hv.idle ((Fr.refl _ _).dn n), fun hh => by rw [hw]⟩
              · refine ⟨fun hc n => ?_, fun hc n => ?_⟩
                · refine (fails_no (hk.dr n) (by decide) 113).mono ?_
                  rintro e w' ⟨rfl, rfl⟩
                  exact ⟨rfl, v, rfl, hf.trans (Fr.drewN [x] wr n) (fun b hb => .inl hb), by rw [hfo]; exact hk.dr n, dsOf l V.dep, some ⟨gd, 0, none⟩, cd, mo, cl, hv.idle ((Fr.refl _ _).dn n), fun hh => by rw [hfo] at hh; cases hh⟩
                · exact ⟨v, rfl, hf.trans (Fr.drewN [x] wr n) (fun b hb => .inl hb), by rw [hfo]; exact hk.dr n, dsOf l V.dep, some ⟨gd, 0, none⟩, cd, mo, cl, hv.idle ((Fr.refl _ _).dn n), fun hh => by rw [hfo] at hh; cases hh⟩
            have q0 : m = true → (er == 0) = false := fun hm => beq_eq_false_iff_ne.2 (fun h => hgo ⟨hm, h⟩)
            clear hst hf hk hv hcs hgo hvx hgx
            generalize F.h.stack = st at *
            cases m
            case' true => replace q0 := q0 rfl
            all_goals
              cases cl
              · by_cases hms : mo = st
                · have q1 : (mo != st) = false := by simp [hms]
                  have HX := mkHid (HTN.out.2 (fun hh => by rcases hh with h | h; cases h; exact h hms))
                  clear HTN hms
                  go_wp2_with fail
                  go_quiet (fail)
                  all_goals go_wp2_with fail
                  all_goals
                    go_ret
                    exact HX.out _
                · have q1 : (mo != st) = true := by simp [hms]
                  have HX := mkHid (HTN.out.1 (.inr hms))
                  clear HTN hms
                  go_wp2_with fail
                  go_quiet (fail)
                  all_goals go_wp2_with (go_at_call 53; refine (HX.out _).mono ?_; rintro e w9 ⟨rfl, H9⟩)
                  all_goals
                    go_ret
                    exact H9.out
              · have HX := mkHid (HTN.out.1 (.inl rfl))
                clear HTN
                go_wp2_with fail
                go_quiet (fail)
                all_goals go_wp2_with (go_at_call 53; refine (HX.out _).mono ?_; rintro e w9 ⟨rfl, H9⟩)
                all_goals
                  go_ret
                  exact H9.out
      · have hl0 : l.length = 0 := by omega
        have hfe0 : fe = -1 := by
          have := HJ.out.rl.no (u0.b : Int) 0 (fun y _ hy => absurd hy (by omega))
          rw [← HFe.out, this]
        subst hfe0
        have hfo : followP l F.h.stack = (114, []) := by unfold followP; rw [if_pos hl0]
        have HFl : Hid (∀ n, Calls Tryd.prog 53 #[.pointer (some ⟨x, 0, none⟩), .int .i64 114] (wr.drewN n) fun e w' => e = .returned (.tuple #[]) ∧ Hid (WyP w B x F bs pb cb rs pr cr el l (.returned (.pointer (some ⟨w.heap.size, 0, none⟩))) w')) := fun n => by
          refine (fails_ok (HWR.out.dr n) 114).mono ?_
          rintro e w' ⟨rfl, f, k⟩
          have hx := HNe.out
          refine ⟨rfl, w.heap.size, rfl, ((HFr.out.dn n).mono (by simp)).trans f (fun b hb => .inl hb), by rw [hfo]; exact k, _, pd, cd, 0, false, (HV.out.idle ((Fr.refl _ _).dn n)).keepS f (by simp; omega) (fun g hg => ?_), fun hh => by rw [hfo] at hh; cases hh⟩
          have := HG.out g hg
          simp
          omega
        clear HV HG HWR HFr hfo
        go_wp2_with (first
          | (go_at_call 59; refine HEt2.out.mono ?_; rintro e w2 ⟨rfl, n2, hw2⟩; rw [hw2]; clear hw2 w2)
          | (go_at_call 53; refine (HFl.out _).mono ?_; rintro e w9 ⟨rfl, H9⟩))
        go_ret
        exact H9.out
end
end Go.Proofs.YtdflpoldlokijaaDoor

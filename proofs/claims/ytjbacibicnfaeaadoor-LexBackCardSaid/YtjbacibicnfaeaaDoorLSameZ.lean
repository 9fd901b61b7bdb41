import Derived.Test.YtjbacibicnfaeaaDoorLBey
import Derived.Test.YtjbacibicnfaeaaDoorLSame
namespace Go.Proofs.YtjbacibicnfaeaaDoor
open Go.RowKit Go.Maps
set_option linter.unusedVariables false
set_option linter.unusedSimpArgs false
def zOf (x : Tok × Nat) : Z := ((x.1.kind : Int), x.1.text, (x.1.num : Int), (x.2 : Int))
theorem zOf_get (ts : List (Tok × Nat)) {j : Nat} (hj : j < ts.length) : (ts.map zOf).getD j noZ = zOf (ts.getD j noT) := by
  rw [List.getD_eq_getElem?_getD, List.getElem?_map, List.getElem?_eq_getElem hj, List.getD_eq_getElem?_getD, List.getElem?_eq_getElem hj]
  rfl
theorem RdT.z {w : World} {g n cap : Nat} {ts : List (Tok × Nat)} (h : RdT w (.slice (some ⟨g, 0, none⟩) n cap) ts) (h0 : 0 < ts.length) : RdZ w g 0 (ts.map zOf) := by
  obtain ⟨p, c, e, hp⟩ := h.at_
  injection e with e1 e2 e3
  obtain ⟨b, off, e4, hb, hc⟩ := hp h0
  subst e1
  injection e4 with e4
  injection e4 with e5 e6
  subst e5 e6
  refine ⟨hb, fun j hj => ?_⟩
  rw [List.length_map] at hj
  rw [zOf_get ts hj]
  exact hc j hj
/-- but for places -/
def AgreeZ (za zb : List Z) : Prop := zb.length = za.length ∧ ∀ j, j < za.length → (zb.getD j noZ).1 = (za.getD j noZ).1 ∧ (zb.getD j noZ).2.1 = (za.getD j noZ).2.1 ∧ (zb.getD j noZ).2.2.1 = (za.getD j noZ).2.2.1
set_option maxHeartbeats 8000000 in
set_option maxRecDepth 1000000 in
theorem same_z (ga fa ca gb fb cb : Nat) (za zb : List Z) (w : World) (ha : RdZ w ga fa za) (hb : RdZ w gb fb zb) (hs : AgreeZ za zb) (hmax : za.length ≤ 140737488355328) :
    Calls Tryd.prog 11 #[.slice (some ⟨ga, fa, none⟩) za.length ca, .slice (some ⟨gb, fb, none⟩) zb.length cb, .bool false] w fun e w' => e = .returned (.bool true) ∧ Bl w w' := by
  obtain ⟨hlen, hag⟩ := hs
  have HA := mkHid ha
  have HB := mkHid hb
  have HG := mkHid hag
  clear ha hb hag
  rw [hlen]
  go_enter Tryd.func11, Tryd.ntmps11
  go_wp2_with fail
  go_loopw [7] (fun q wr => ∃ k : Nat, k ≤ za.length ∧ q = .int .i64 k ∧ Hid (Bl w wr)) (fun q _ => za.length - (intOf q).toNat)
  case atStart => exact ⟨0, Nat.zero_le _, rfl, Bl.refl _⟩
  case round =>
    obtain ⟨k, hk, rfl, hbl⟩ := hrel
    by_cases hlt : k < za.length
    · have hki : (k : Int) < za.length := by omega
      obtain ⟨hga, hca⟩ := HA.out.keep hbl.out
      obtain ⟨hgb, hcb⟩ := HB.out.keep hbl.out
      obtain ⟨x0, x1, x2, x3⟩ := hca k hlt
      obtain ⟨y0, y1, y2, y3⟩ := hcb k (by omega)
      obtain ⟨g1, g2, g3⟩ := HG.out k hlt
      rw [g1] at y0
      rw [g2] at y1
      rw [g3] at y2
      clear hca hcb g1 g2 g3
      generalize za.getD k noZ = z at *
      obtain ⟨tk, tt, tn, tp⟩ := z
      generalize (zb.getD k noZ).2.2.2 = bp at *
      dsimp only at *
      go_wp2_with fail
      go_quiet (fail)
      go_wp2_with fail
      go_roundw
      case rel => exact ⟨k + 1, by omega, by simp, hbl.out.trans (Bl.drewN _ _)⟩
      case measure => simp [intOf]; omega
    · have hke : k = za.length := by omega
      subst hke
      go_wp2
      go_wp2
      go_ret
      exact ⟨rfl, hbl.out⟩
end Go.Proofs.YtjbacibicnfaeaaDoor

import Derived.Test.YtclkoffnjiiioaaGreatDoorJSm1
namespace Go.Proofs.YtclkoffnjiiioaaGreatDoor
open Go.RowKit
set_option linter.unusedVariables false
set_option linter.unusedSimpArgs false
attribute [local go_sem ↓] Go.wp_at_zero Go.wp_at_succ
/-- two codes that say the same -/
structure SameC (K L : Co) : Prop where
  hd : K.args = L.args ∧ K.temps = L.temps ∧ K.stack = L.stack
  ts : stL K.ts = stL L.ts
  ws : K.ws = L.ws
set_option maxRecDepth 100000 in
set_option maxHeartbeats 8000000 in
theorem sameCode_ok (K L : Co) (lp pw lp2 pw2 : Option Addr) (lc cw lc2 cw2 : Nat) (W : World) (hk : LitsR W lp lc K.ts) (hk2 : Rc W pw K.ws) (hl : LitsR W lp2 lc2 L.ts) (hl2 : Rc W pw2 L.ws) (hws : K.ws.length ≤ 17592186044000) (hs : SameC K L) :
    Calls Tryz.prog 12 #[.agg (K.v lp lc pw cw), .agg (L.v lp2 lc2 pw2 cw2)] W fun e w' => e = .returned (.bool true) ∧ Fr [] W w' := by
  obtain ⟨⟨h1, h2, h3⟩, h4, h5⟩ := hs
  have hlt : L.ts.length = K.ts.length := by rw [← stL_len, ← h4, stL_len]
  have HL : Hid (∀ V, Fr [] W V → Calls Tryz.prog 24 #[.slice lp K.ts.length lc, .slice lp2 K.ts.length lc2] V fun e w' => e = .returned (.bool true) ∧ Fr [] V w') := fun V fV => by
    have := sameLits_ok V lp lc K.ts (hk.idle fV) 0 lp2 lc2 L.ts (hl.idle fV) h4
    rw [hlt] at this
    refine Calls.mono (show Calls Tryz.prog 24 _ V _ from this) ?_
    rintro e w' ⟨rfl, n, rfl⟩
    exact ⟨rfl, (Fr.drewN [] V 0).tr0 (Fr.drewN [] _ n)⟩
  have HI : Hid (∀ V, Fr [] W V → Calls Tryz.prog 22 #[.slice pw K.ws.length cw, .slice pw2 K.ws.length cw2] V fun e w' => e = .returned (.bool true) ∧ Fr [] V w') := fun V fV => same_is K.ws K.ws.length rfl hws pw pw2 cw cw2 V (fun hp => by obtain ⟨g, off, e, hc⟩ := hk2 hp; exact ⟨g, off, e, fun i hi => fV.cl (hc i hi)⟩) (fun hp => by rw [h5] at hp ⊢; obtain ⟨g, off, e, hc⟩ := hl2 hp; exact ⟨g, off, e, fun i hi => fV.cl (hc i hi)⟩)
  have hv : L.v lp2 lc2 pw2 cw2 = #[.int .i64 K.args, .int .i64 K.temps, .int .i64 K.stack, .slice lp2 K.ts.length lc2, .slice pw2 K.ws.length cw2] := by unfold Co.v; rw [← h1, ← h2, ← h3, hlt, h5]
  rw [hv]
  obtain ⟨V2, hV2⟩ : ∃ V, (W.alloc (.cells #[.int .i64 K.args, .int .i64 K.temps, .int .i64 K.stack, .slice lp K.ts.length lc, .slice pw K.ws.length cw] 25)).alloc (.cells #[.int .i64 K.args, .int .i64 K.temps, .int .i64 K.stack, .slice lp2 K.ts.length lc2, .slice pw2 K.ws.length cw2] 25) = V := ⟨_, rfl⟩
  have f2 : Fr [] W V2 := by rw [← hV2]; exact (Fr.alloc [] W _).al _
  have b1 : V2.heap[W.heap.size]? = some (.cells #[.int .i64 K.args, .int .i64 K.temps, .int .i64 K.stack, .slice lp K.ts.length lc, .slice pw K.ws.length cw] 25 (0, 0)) := by rw [← hV2]; exact (Fr.alloc [] _ _).hb (heap_alloc_new W _)
  have b2 : V2.heap[W.heap.size + 1]? = some (.cells #[.int .i64 K.args, .int .i64 K.temps, .int .i64 K.stack, .slice lp2 K.ts.length lc2, .slice pw2 K.ws.length cw2] 25 (0, 0)) := by
    rw [← hV2]
    have := heap_alloc_new (W.alloc (.cells #[.int .i64 K.args, .int .i64 K.temps, .int .i64 K.stack, .slice lp K.ts.length lc, .slice pw K.ws.length cw] 25)) (.cells #[.int .i64 K.args, .int .i64 K.temps, .int .i64 K.stack, .slice lp2 K.ts.length lc2, .slice pw2 K.ws.length cw2] 25)
    simpa using this
  have HB1 := mkHid b1
  have HB2 := mkHid b2
  have HF2 := mkHid f2
  have HV2 := mkHid hV2
  unfold Co.v
  clear hk hk2 hl hl2 h1 h2 h3 h4 h5 hlt hv b1 b2 f2 hV2
  go_enter Tryz.func12, Tryz.ntmps12
  go_wp2_with fail
  rw [HV2.out]
  refine (HL.out _ HF2.out).mono ?_
  rintro e w1 ⟨rfl, f1⟩
  have c1 : w1.cell? ⟨W.heap.size, 4, none⟩ = some (.slice pw K.ws.length cw) := cell_in (f1.hb HB1.out) 4
  have c2 : w1.cell? ⟨W.heap.size + 1, 4, none⟩ = some (.slice pw2 K.ws.length cw2) := cell_in (f1.hb HB2.out) 4
  have HF3 := mkHid (HF2.out.tr0 f1)
  clear f1
  go_wp2_with fail
  refine (HI.out _ HF3.out).mono ?_
  rintro e w2 ⟨rfl, f2⟩
  have HF4 := mkHid (HF3.out.tr0 f2)
  clear f2
  go_wp2_with fail
  go_ret
  exact ⟨rfl, HF4.out⟩
/-- a code without anything -/
def co0 : Co := ⟨0, 0, 0, [], []⟩
end Go.Proofs.YtclkoffnjiiioaaGreatDoor

import Derived.Test.YtkmjimdaimbdfaaDoorSG24VRoom
import Derived.Test.YtkmjimdaimbdfaaDoorSVLive
import Derived.BigQuiet
namespace Go.Proofs.YtkmjimdaimbdfaaDoor
open Go.RowKit Go.Maps
set_option linter.unusedVariables false
set_option linter.unusedSimpArgs false
/-- an object that may be loaded -/
def GoodK (oops : Nat) (k : Key) : Prop := 1 ≤ k.1 ∧ k.1 ≤ (oops : Int) ∧ isW k.2.1 = true ∧ (k.2.2.1 = 0 ∨ k.2.2.1 = 1) ∧ k.2.2.2.length ≤ 8192 ∧ ∀ x ∈ k.2.2.2, mayB x k.2.2.1 = true
theorem newX_may (f : Nat) (hf : f ≤ 1) : mayB (newX f) (f : Int) = true := by
  rcases (show f = 0 ∨ f = 1 from by omega) with rfl | rfl
  · decide
  · decide
theorem good_new (oops q : Nat) (cl : Int) (n f : Nat) (h1 : 1 ≤ q) (h2 : q ≤ oops) (hc : isW cl = true) (hn : n ≤ 8192) (hf : f ≤ 1) : GoodK oops (newKey q cl n f) := by
  refine ⟨by show (1 : Int) ≤ (q : Int); omega, by show (q : Int) ≤ (oops : Int); omega, hc, by show ((f : Int) = 0 ∨ (f : Int) = 1); omega, by simp [newKey]; omega, fun x hx => ?_⟩
  have e : x = newX f := (List.mem_replicate.1 hx).2
  rw [e]
  exact newX_may f hf
theorem PutK.good {oops : Nat} {ks ks' : List Key} (h : PutK ks ks') (hg : ∀ k ∈ ks, GoodK oops k) : ∀ k ∈ ks', GoodK oops k := by
  rcases h with rfl | ⟨k, k1, i, v, hi, hm, rfl⟩
  · exact hg
  · intro x hx
    obtain ⟨y, hy, rfl⟩ := List.mem_map.1 hx
    unfold updK
    by_cases e : y.1 = k.1
    · rw [if_pos e]
      obtain ⟨a1, a2, a3, a4, a5, a6⟩ := hg k k1
      refine ⟨a1, a2, a3, a4, by simpa using a5, fun z hz => ?_⟩
      have hz' : z ∈ k.2.2.2.set i v := hz
      rcases List.mem_or_eq_of_mem_set hz' with h1 | h1
      · exact a6 z h1
      · rw [h1]; exact hm
    · rw [if_neg e]
      exact hg y hy
/-- a space, and what the law knows of it -/
structure Pw (w0 w : World) (s a t : Nat) (l : Lay) (kv : Value) (X : SpS) (ro : Int) (mk : Nat) (st : List Int) : Prop where
  spc : Spc w s a l X
  br : X.br = none
  told : w.heap[t]? = some (.cells #[.int .i64 (X.words : Int), .int .i64 (X.oops : Int), .int .i64 ro, .int .i64 (mk : Int), kv, .bool false] 63 (0, 0))
  kept : Rd w kv st
  stl : st.length ≤ 65536
  sepT : t ∉ foot a l ∧ t ≠ s ∧ X.sv.ownBlock ≠ some t
  sepK : 0 < st.length → ∀ g, kv.ownBlock = some g → g ∉ foot a l ∧ g ≠ s ∧ g ≠ t ∧ X.sv.ownBlock ≠ some g
  fr : Fr [] w0 w
  geA : ∀ b ∈ foot a l, w0.heap.size ≤ b
  geS : w0.heap.size ≤ s
  geT : w0.heap.size ≤ t
  geV : ∀ g, X.sv.ownBlock = some g → w0.heap.size ≤ g
  two : 2 ≤ w0.heap.size
  tab : Tab w0
  tab64 : Tab64 w0
  capK : ∀ p k c, kv = .slice p k c → k ≤ c ∧ (c : Int) ≤ 9223372036854775807
section
variable {w0 w : World} {s a t : Nat} {l : Lay} {kv : Value} {X : SpS} {ro : Int} {mk : Nat} {st : List Int}
theorem Pw.idle {w' : World} (h : Pw w0 w s a t l kv X ro mk st) (hf : Fr [] w w') : Pw w0 w' s a t l kv X ro mk st :=
  ⟨h.spc.idle hf, h.br, (hf.block t (lt_of_heap h.told) (by simp)).trans h.told, h.kept.idle hf, h.stl, h.sepT, h.sepK, h.fr.trans hf (by simp), h.geA, h.geS, h.geT, h.geV, h.two, h.tab, h.tab64, h.capK⟩
theorem Pw.tabs (h : Pw w0 w s a t l kv X ro mk st) : Tab w ∧ Tab64 w ∧ 0 < w.heap.size ∧ 2 ≤ a := by
  have := h.two
  have := h.fr.size
  exact ⟨h.tab.fr h.fr (by omega), h.tab64.keep h.fr (by omega) (by simp), by omega, by have := h.geA a (by simp [foot]); omega⟩
/-- the space has moved -/
theorem Pw.move {w' : World} {l' : Lay} {X' : SpS} {S : List Nat} (h : Pw w0 w s a t l kv X ro mk st) (hs : Spc w' s a l' X') (e1 : X'.words = X.words) (e2 : X'.oops = X.oops) (e3 : X'.br = none) (hf : Fr S w w') (hS : ∀ b ∈ S, b = s ∨ b ∈ foot a l ∨ X.sv.ownBlock = some b) (hl : ∀ g ∈ foot a l', g ∈ foot a l ∨ w.heap.size ≤ g) (hv : ∀ g, X'.sv.ownBlock = some g → X.sv.ownBlock = some g ∨ w.heap.size ≤ g) : Pw w0 w' s a t l' kv X' ro mk st := by
  have htS : t ∉ S := fun hm => by
    rcases hS t hm with e | e | e
    · exact h.sepT.2.1 e
    · exact h.sepT.1 e
    · exact h.sepT.2.2 e
  have htl := lt_of_heap h.told
  have hz := h.fr.size
  have hfr : Fr [] w0 w' := h.fr.trans hf (fun b hb => .inr (by
    rcases hS b hb with e | e | e
    · rw [e]; exact h.geS
    · exact h.geA b e
    · exact h.geV b e))
  refine ⟨hs, e3, ?_, h.kept.keep hf (fun hp g hg hm => ?_), h.stl, ⟨fun hm => ?_, h.sepT.2.1, fun e => ?_⟩, fun hp g hg => ?_, hfr, fun b hb => ?_, h.geS, h.geT, fun g hg => ?_, h.two, h.tab, h.tab64, h.capK⟩
  · rw [e1, e2]; exact (hf.block t htl htS).trans h.told
  · obtain ⟨k1, k2, k3, k4⟩ := h.sepK hp g hg
    rcases hS g hm with e | e | e
    · exact k2 e
    · exact k1 e
    · exact k4 e
  · rcases hl t hm with e | e
    · exact h.sepT.1 e
    · omega
  · rcases hv t e with e | e
    · exact h.sepT.2.2 e
    · omega
  · obtain ⟨k1, k2, k3, k4⟩ := h.sepK hp g hg
    have hgl := h.kept.lt hp g hg
    refine ⟨fun hm => ?_, k2, k3, fun e => ?_⟩
    · rcases hl g hm with e | e
      · exact k1 e
      · omega
    · rcases hv g e with e | e
      · exact k4 e
      · omega
  · rcases hl b hb with e | e
    · exact h.geA b e
    · omega
  · rcases hv g hg with e | e
    · exact h.geV g e
    · omega
/-- the heap below has moved -/
theorem Pw.nx {w' : World} {l' : Lay} {X' : SpS} (h : Pw w0 w s a t l kv X ro mk st) (hs : Spc w' s a l' X') (e1 : X'.words = X.words) (e2 : X'.oops = X.oops) (e3 : X'.br = none) (e4 : X'.sv = X.sv) (hx : Nx a l l' w w') : Pw w0 w' s a t l' kv X' ro mk st :=
  h.move hs e1 e2 e3 hx.1 (fun b hb => .inr (.inl hb)) hx.2 (fun g hg => .inl (by rw [← e4]; exact hg))
theorem Pw.cells (h : Pw w0 w s a t l kv X ro mk st) : w.cell? ⟨t, 0, none⟩ = some (.int .i64 (X.words : Int)) ∧ w.cell? ⟨t, 1, none⟩ = some (.int .i64 (X.oops : Int)) ∧ w.cell? ⟨t, 2, none⟩ = some (.int .i64 ro) ∧ w.cell? ⟨t, 3, none⟩ = some (.int .i64 (mk : Int)) ∧ w.cell? ⟨t, 4, none⟩ = some kv ∧ w.cell? ⟨t, 5, none⟩ = some (.bool false) := by
  refine ⟨?_, ?_, ?_, ?_, ?_, ?_⟩ <;> (rw [cell_in h.told]; rfl)
/-- the law writes what it knows -/
theorem Pw.write {w1 w' : World} {ro' : Int} {mk' : Nat} {kv' : Value} {st' : List Int} (h : Pw w0 w s a t l kv X ro mk st) (hf1 : Fr [] w w1) (hf : Fr [t] w1 w') (ht : w'.heap[t]? = some (.cells #[.int .i64 (X.words : Int), .int .i64 (X.oops : Int), .int .i64 ro', .int .i64 (mk' : Int), kv', .bool false] 63 (0, 0))) (hk : Rd w1 kv' st') (hkb : 0 < st'.length → ∀ g, kv'.ownBlock = some g → (0 < st.length ∧ kv.ownBlock = some g) ∨ w.heap.size ≤ g) (hsl : st'.length ≤ 65536) (hcap : ∀ p k c, kv' = .slice p k c → k ≤ c ∧ (c : Int) ≤ 9223372036854775807) : Pw w0 w' s a t l kv' X ro' mk' st' := by
  have hF : Fr [t] w w' := (hf1.mono (by simp)).trans hf (fun b hb => .inl hb)
  have htl := lt_of_heap h.told
  have hd : ∀ g ∈ foot a l, g ∉ [t] := fun g hg hm => by
    have e : g = t := by simpa using hm
    rw [e] at hg; exact h.sepT.1 hg
  have hsT : s ∉ [t] := by simpa using fun e => h.sepT.2.1 e.symm
  have hsp : Spc w' s a l X := ⟨(hF.block s (lt_of_heap h.spc.top) hsT).trans h.spc.top, h.spc.rep.keep hF hd, h.spc.ka, own_congr h.spc.stk fun g hg => hF.block g (h.spc.stk.lt g hg).2 (by simpa using fun e => h.sepT.2.2 (by rw [← e]; exact hg)), h.spc.sepS, h.spc.sepV⟩
  have hlt := h.spc.rep.lt
  have hsl2 := lt_of_heap h.spc.top
  have hkg : 0 < st'.length → ∀ g, kv'.ownBlock = some g → g ∉ foot a l ∧ g ≠ s ∧ g ≠ t ∧ X.sv.ownBlock ≠ some g := fun hp g hg => by
    rcases hkb hp g hg with ⟨e1, e2⟩ | e
    · exact h.sepK e1 g e2
    · refine ⟨fun hm => ?_, fun e2 => ?_, fun e2 => ?_, fun e2 => ?_⟩
      · have := hlt g hm; omega
      · omega
      · omega
      · have := (h.spc.stk.lt g e2).2; omega
  have hfr : Fr [] w0 w' := h.fr.trans hF (fun b hb => by
    have e : b = t := by simpa using hb
    rw [e]
    exact .inr h.geT)
  exact ⟨hsp, h.br, ht, hk.keep hf (fun hp g hg hm => (hkg hp g hg).2.2.1 (by simpa using hm)), hsl, h.sepT, hkg, hfr, h.geA, h.geS, h.geT, h.geV, h.two, h.tab, h.tab64, hcap⟩
theorem Pw.setMark (h : Pw w0 w s a t l kv X ro mk st) (m : Nat) : Pw w0 (w.setCell ⟨t, 3, none⟩ (.int .i64 (m : Int))) s a t l kv X ro m st :=
  h.write (Fr.refl _ _) (Fr.setCell (S := [t]) w ⟨t, 3, none⟩ _ (by simp)) (by rw [set_in h.told 3 _]; rfl) h.kept (fun hp g hg => .inl ⟨hp, hg⟩) h.stl h.capK
theorem Pw.setRoot (h : Pw w0 w s a t l kv X ro mk st) (r : Int) : Pw w0 (w.setCell ⟨t, 2, none⟩ (.int .i64 r)) s a t l kv X r mk st :=
  h.write (Fr.refl _ _) (Fr.setCell (S := [t]) w ⟨t, 2, none⟩ _ (by simp)) (by rw [set_in h.told 2 _]; rfl) h.kept (fun hp g hg => .inl ⟨hp, hg⟩) h.stl h.capK
end
/-- all is as the law knows it -/
structure Pl (w0 w : World) (s a t : Nat) (l : Lay) (kv : Value) (X : SpS) (n : Nat) : Prop where
  pw : Pw w0 w s a t l kv X X.root X.mark X.st
  root : X.root = 0 ∨ hasK X.ks X.root = true
  good : ∀ k ∈ X.ks, GoodK X.oops k
  age : X.H.age ≤ n
  oops : X.oops ≤ 63
  words : X.words ≤ 2047
section
variable {w0 w : World} {s a t : Nat} {l : Lay} {kv : Value} {X : SpS} {n : Nat}
theorem Pl.idle {w' : World} (h : Pl w0 w s a t l kv X n) (hf : Fr [] w w') : Pl w0 w' s a t l kv X n := ⟨h.pw.idle hf, h.root, h.good, h.age, h.oops, h.words⟩
theorem hasK_le {oops : Nat} {ks : List Key} (hg : ∀ k ∈ ks, GoodK oops k) {q : Int} (h : hasK ks q = true) : 1 ≤ q ∧ q ≤ (oops : Int) := by
  obtain ⟨k, k1, k2⟩ := List.any_eq_true.1 h
  have e : k.1 = q := by simpa using k2
  obtain ⟨a1, a2, -⟩ := hg k k1
  omega
theorem Pl.rootIn (h : Pl w0 w s a t l kv X n) : X.root = 0 ∨ (1 ≤ X.root ∧ X.root ≤ 65536) := by
  rcases h.root with e | e
  · exact .inl e
  · have := hasK_le h.good e
    have := h.oops
    right; omega
theorem good_at0 {oops : Nat} {ks : List Key} (hg : ∀ k ∈ ks, GoodK oops k) : atK ks 0 = none := by
  cases h : atK ks 0 with
  | none => rfl
  | some i =>
    obtain ⟨a, b, -⟩ := atK_some h
    have := (hg _ (keyD_mem a)).1
    omega
theorem Pl.rootAt (h : Pl w0 w s a t l kv X n) : (X.root = 0 ∧ atK X.ks X.root = none) ∨ (1 ≤ X.root ∧ X.root ≤ 65536) := by
  rcases h.rootIn with e | e
  · left; refine ⟨e, ?_⟩; rw [e]; exact good_at0 h.good
  · exact .inr e
theorem rts_mem (X : SpS) (z : Int) : z ∈ rootsOf X ↔ z ∈ rts X.root X.st := by
  unfold rootsOf rts
  rw [List.mem_append, List.mem_append]
  exact Or.comm
theorem Pl.fmts (h : Pl w0 w s a t l kv X n) : ∀ k ∈ X.ks, k.2.2.1 = 0 ∨ k.2.2.1 = 1 := fun k hk => (h.good k hk).2.2.2.1
end
end Go.Proofs.YtkmjimdaimbdfaaDoor
namespace Go.Proofs.YtkmjimdaimbdfaaDoor
open Go.RowKit Go.Maps
set_option linter.unusedVariables false
set_option linter.unusedSimpArgs false
attribute [local go_sem ↓] Go.wp_at_zero Go.wp_at_succ
/-- what State tells of a space's heap -/
theorem sstate_ok {w : World} {s a : Nat} {l : Lay} {X : SpS} (h : Spc w s a l X) :
    Calls Tryd.prog 15 #[.pointer (some ⟨a, 0, none⟩)] w fun e w' => ∃ p c, e = .returned (.agg #[.int .i64 (X.words : Int), .int .i64 (X.oops : Int), .int .i64 (X.mark : Int), .slice p X.ks.length c]) ∧ Sat w' (.slice p X.ks.length c) X.ks ∧ Fr [] w w' := by
  refine (state_of h.rep h.ka).mono ?_
  rintro e w' ⟨p, c, lo, rfl, h1, h2⟩
  exact ⟨p, c, rfl, h1.by, h2⟩
/-- a state that stays, whatever is done to older memory -/
def SatP (B : Nat) (w : World) (ov : Value) (ks : List Key) : Prop := ∀ S W, Fr S w W → (∀ g ∈ S, g < B) → Sat W ov ks
theorem sstateP_ok {w : World} {s a : Nat} {l : Lay} {X : SpS} (h : Spc w s a l X) :
    Calls Tryd.prog 15 #[.pointer (some ⟨a, 0, none⟩)] w fun e w' => ∃ p c, e = .returned (.agg #[.int .i64 (X.words : Int), .int .i64 (X.oops : Int), .int .i64 (X.mark : Int), .slice p X.ks.length c]) ∧ SatP w.heap.size w' (.slice p X.ks.length c) X.ks ∧ Fr [] w w' := by
  refine (state_of h.rep h.ka).mono ?_
  rintro e w' ⟨p, c, lo, rfl, h1, h2⟩
  exact ⟨p, c, rfl, fun S W hf hS => (h1.fr hf hS).by, h2⟩
theorem KA.atK {words oops mark : Nat} {ks : List Key} {H : HS} {M : MS} (h : KA words oops mark ks H M) {k : Key} (hk : k ∈ ks) : ∃ i, Go.Proofs.YtkmjimdaimbdfaaDoor.atK ks k.1 = some i ∧ i < ks.length ∧ ks.getD i noK = k := by
  cases ha : Go.Proofs.YtkmjimdaimbdfaaDoor.atK ks k.1 with
  | none => exact absurd rfl (atK_none ha k hk)
  | some i =>
    obtain ⟨a, b, -⟩ := atK_some ha
    exact ⟨i, rfl, a, h.uniq hk (keyD_mem a) b⟩
set_option maxRecDepth 20000 in
set_option maxHeartbeats 4000000 in
theorem untouched_k {w : World} {s a : Nat} {l : Lay} {X : SpS} (h : Spc w s a l X) (ks : List Key) (m : List Nat) (x1 x2 x3 : Int) (ov lv : Value) (ha : Sat w ov ks) (hl : Rd w lv (zs m)) (hm : ∀ i ∈ m, i < ks.length ∧ ks.getD i noK ∈ X.ks) :
    Calls Tryd.prog 31 #[.pointer (some ⟨s, 0, none⟩), .agg #[.int .i64 x1, .int .i64 x2, .int .i64 x3, ov], lv] w fun e w' => e = .returned (.bool true) ∧ Fr [] w w' := by
  have HSp := mkHid h
  have HA := mkHid ha
  have HL := mkHid hl
  have HM := mkHid hm
  obtain ⟨pa, ca, rfl, -⟩ := ha.at_
  obtain ⟨pl, cl, el, -⟩ := hl.at_
  rw [zs_len] at el
  subst el
  have hks := ha.short
  have hml : m.length ≤ 17592186043904 := by have := hl.short; rwa [zs_len] at this
  clear ha hl hm h
  go_enter Tryd.func31, Tryd.ntmps31
  go_wp2_with fail
  obtain ⟨V, hV⟩ : ∃ V, (w.alloc (.cells #[.int .i64 x1, .int .i64 x2, .int .i64 x3, .slice pa ks.length ca] 44)) = V := ⟨_, rfl⟩
  rw [hV]
  have hfV : Fr [] w V := by rw [← hV]; exact (Fr.alloc [] _ _)
  have hb1 : V.heap[w.heap.size]? = some (.cells #[.int .i64 x1, .int .i64 x2, .int .i64 x3, .slice pa ks.length ca] 44 (0, 0)) := by
    rw [← hV]; exact heap_alloc_new _ _
  obtain ⟨b0, hb0⟩ : ∃ b0, w.heap.size = b0 := ⟨_, rfl⟩
  rw [hb0] at hb1 ⊢
  have HH := mkHid (sHeap_ok (HSp.out.idle hfV))
  have HFV := mkHid hfV
  have HB1 := mkHid hb1
  clear hfV hV hb1 hb0
  go_wp2_with fail
  refine Calls.mono HH.out ?_
  rintro e w1 ⟨rfl, hf1⟩
  have HF1 := mkHid (HFV.out.trans hf1 (by simp))
  have HV1 := mkHid hf1
  have HSt := mkHid (sstate_ok (HSp.out.idle HF1.out))
  clear hf1 HH
  go_wp2_with fail
  refine Calls.mono HSt.out ?_
  rintro e w2 ⟨pn, cn, rfl, hsn, hf2⟩
  obtain ⟨U, hU⟩ : ∃ U, (w2.alloc (.cells #[.int .i64 (X.words : Int), .int .i64 (X.oops : Int), .int .i64 (X.mark : Int), .slice pn X.ks.length cn] 44)) = U := ⟨_, rfl⟩
  have fU : Fr [] w2 U := by rw [← hU]; exact (Fr.alloc [] _ _)
  have hb2 : U.heap[w2.heap.size]? = some (.cells #[.int .i64 (X.words : Int), .int .i64 (X.oops : Int), .int .i64 (X.mark : Int), .slice pn X.ks.length cn] 44 (0, 0)) := by
    rw [← hU]; exact heap_alloc_new _ _
  have HFU := mkHid ((HF1.out.trans hf2 (by simp)).trans fU (by simp))
  have HVU := mkHid ((HV1.out.trans hf2 (by simp)).trans fU (by simp))
  have HSN := mkHid (hsn.idle fU)
  have hkn := hsn.short
  obtain ⟨b3, hb3⟩ : ∃ b3, w2.heap.size = b3 := ⟨_, rfl⟩
  rw [hb3] at hb2
  have HB2 := mkHid hb2
  have HSA := mkHid (HA.out.idle HFU.out)
  have HLA := mkHid (HL.out.idle HFU.out)
  have HCl : Hid (∀ W, Hid (Fr [] U W) → W.cell? ⟨b0, 3, none⟩ = some (.slice pa ks.length ca) ∧ (W.cell? ⟨b3, 0, none⟩ = some (.int .i64 (X.words : Int)) ∧ W.cell? ⟨b3, 1, none⟩ = some (.int .i64 (X.oops : Int)) ∧ W.cell? ⟨b3, 2, none⟩ = some (.int .i64 (X.mark : Int)) ∧ W.cell? ⟨b3, 3, none⟩ = some (.slice pn X.ks.length cn)) ∧ b0 < W.heap.size ∧ b3 < W.heap.size) := fun W hW => by
    have e1 := (HVU.out.block _ (lt_of_heap HB1.out) (by simp)).trans HB1.out
    have e2 := (hW.out.block _ (lt_of_heap e1) (by simp)).trans e1
    have e3 := (hW.out.block _ (lt_of_heap HB2.out) (by simp)).trans HB2.out
    refine ⟨by rw [cell_in e2]; rfl, ⟨by rw [cell_in e3]; rfl, by rw [cell_in e3]; rfl, by rw [cell_in e3]; rfl, by rw [cell_in e3]; rfl⟩, lt_of_heap e2, lt_of_heap e3⟩
  have HUe := mkHid hU
  have HBe := mkHid hb3
  clear hsn hf2 fU hb2 HSt HF1 HV1 hU hb3
  go_wp2_with fail
  rw [HUe.out, HBe.out]
  clear HUe HBe
  go_loopw [8] (fun q wr => ∃ k : Nat, k ≤ m.length ∧ q = .int .i64 k ∧ Hid (Fr [] U wr)) (fun q _ => m.length - (intOf q).toNat)
  case atStart => exact ⟨0, Nat.zero_le _, rfl, Fr.refl _ _⟩
  case round =>
    obtain ⟨k, hk, rfl, hR⟩ := hrel
    obtain ⟨c1, ⟨d0, d1, d2, d3⟩, hl0, hl3⟩ := HCl.out wr hR
    by_cases hlt : k < m.length
    · have hmem := getD_in m k hlt
      obtain ⟨hj, hin⟩ := HM.out _ hmem
      obtain ⟨pa', ca', e2, hpa⟩ := (HSA.out.idle hR.out).at_
      cases e2
      obtain ⟨ga, oa, rfl, hca⟩ := hpa (by omega)
      obtain ⟨pv, cv, o0, o1, o2, o3, hrd⟩ := hca _ hj
      obtain ⟨pl', cl', e3, hpl⟩ := (HLA.out.idle hR.out).at_
      rw [zs_len] at e3 hpl
      cases e3
      obtain ⟨gl, ol, rfl, hgl, hcl⟩ := hpl (by omega)
      have x0 := hcl k hlt
      rw [zs_getD m k hlt] at x0
      obtain ⟨i, hi1, hi2, hi3⟩ := HSp.out.ka.atK hin
      obtain ⟨pn', cn', e4, hpn⟩ := (HSN.out.idle hR.out).at_
      cases e4
      obtain ⟨gn, on, rfl, hcn⟩ := hpn (by omega)
      obtain ⟨pu, cu, u0, u1, u2, u3, hru⟩ := hcn i hi2
      rw [hi3] at u0 u1 u2 u3 hru
      have HAt : Hid (∀ W, Fr [] U W → Calls Tryd.prog 37 #[.agg #[.int .i64 (X.words : Int), .int .i64 (X.oops : Int), .int .i64 (X.mark : Int), .slice (some ⟨gn, on, none⟩) X.ks.length cn], .int .i64 (ks.getD (m.getD k 0) noK).1] W fun e w' => e = .returned (.int .i64 (i : Int)) ∧ Fr [] W w') := fun W hW => by
        have := at_k X.ks (ks.getD (m.getD k 0) noK).1 X.words X.oops X.mark (.slice (some ⟨gn, on, none⟩) X.ks.length cn) W (HSN.out.idle hW)
        rw [hi1] at this
        exact this
      have hga : ga < wr.heap.size := World.block_lt_of_cell? wr _ o0
      have hgn : gn < wr.heap.size := World.block_lt_of_cell? wr _ u0
      clear hca hpa hpl hcl hcn hpn hi1 hi3 hmem hin
      generalize m.getD k 0 = j at *
      obtain ⟨K, hK⟩ : ∃ K, ks.getD j noK = K := ⟨_, rfl⟩
      rw [hK] at o0 o1 o2 o3 u0 u1 u2 u3 hrd hru HAt
      clear hK
      obtain ⟨y0, y1, y2, ys⟩ := K
      dsimp only at o0 o1 o2 o3 u0 u1 u2 u3 hrd hru HAt
      have HRd := mkHid hrd
      have HRu := mkHid hru
      have k1 : (0 : Int) ≤ (k : Int) := by omega
      have k2 : (k : Int) < (m.length : Int) := by omega
      have j1 : (0 : Int) ≤ (j : Int) := by omega
      have j2 : (j : Int) < (ks.length : Int) := by omega
      have i1 : (0 : Int) ≤ (i : Int) := by omega
      have i2 : (i : Int) < (X.ks.length : Int) := by omega
      clear hrd hru
      go_wp2_with fail
      go_region
      obtain ⟨T, hT⟩ : ∃ T, (wr.alloc (.cells #[.int .i64 y0, .int .i64 y1, .int .i64 y2, .slice pv ys.length cv] 90)).drew = T := ⟨_, rfl⟩
      rw [hT]
      have F1 : Fr [] wr T := by rw [← hT]; exact (Fr.alloc [] _ _).trans (Fr.drew [] _) (by simp)
      have hTb : T.heap[wr.heap.size]? = some (.cells #[.int .i64 y0, .int .i64 y1, .int .i64 y2, .slice pv ys.length cv] 90 (0, 0)) := by
        rw [← hT]; exact heap_alloc_new _ _
      obtain ⟨bx, hbx⟩ : ∃ bx, wr.heap.size = bx := ⟨_, rfl⟩
      rw [hbx] at hTb ⊢
      have z0 : T.cell? ⟨bx, 0, none⟩ = some (.int .i64 y0) := by rw [cell_in hTb]; rfl
      have HUT : Hid (Fr [] U T) := hR.out.trans F1 (by simp)
      obtain ⟨c1, ⟨d0, d1, d2, d3⟩, hl0, hl3⟩ := HCl.out T HUT
      have HAT := mkHid (HAt.out T HUT.out)
      have HTb := mkHid hTb
      have u0 := (F1.cell (p := ⟨gn, on + i * 4, none⟩) hgn (by simp)).trans u0
      have u1 := (F1.cell (p := ⟨gn, on + i * 4 + 1, none⟩) hgn (by simp)).trans u1
      have u2 := (F1.cell (p := ⟨gn, on + i * 4 + 2, none⟩) hgn (by simp)).trans u2
      have u3 := (F1.cell (p := ⟨gn, on + i * 4 + 3, none⟩) hgn (by simp)).trans u3
      have HF1 := mkHid F1
      clear F1 hT hTb HAt hbx o0 o1 o2 o3 x0
      go_wp2_with fail
      refine Calls.mono HAT.out ?_
      rintro e w5 ⟨rfl, hf5⟩
      have hU5 : Hid (Fr [] U w5) := HUT.out.trans hf5 (by simp)
      obtain ⟨c1, ⟨d0, d1, d2, d3⟩, hl0, hl3⟩ := HCl.out w5 hU5
      have hb5 := (hf5.block _ (lt_of_heap HTb.out) (by simp)).trans HTb.out
      have z0 : w5.cell? ⟨bx, 0, none⟩ = some (.int .i64 y0) := by rw [cell_in hb5]; rfl
      have z1 : w5.cell? ⟨bx, 1, none⟩ = some (.int .i64 y1) := by rw [cell_in hb5]; rfl
      have z2 : w5.cell? ⟨bx, 2, none⟩ = some (.int .i64 y2) := by rw [cell_in hb5]; rfl
      have z3 : w5.cell? ⟨bx, 3, none⟩ = some (.slice pv ys.length cv) := by rw [cell_in hb5]; rfl
      have hgT : gn < T.heap.size := World.block_lt_of_cell? T _ u0
      have u0 := (hf5.cell (p := ⟨gn, on + i * 4, none⟩) hgT (by simp)).trans u0
      have u1 := (hf5.cell (p := ⟨gn, on + i * 4 + 1, none⟩) hgT (by simp)).trans u1
      have u2 := (hf5.cell (p := ⟨gn, on + i * 4 + 2, none⟩) hgT (by simp)).trans u2
      have u3 := (hf5.cell (p := ⟨gn, on + i * 4 + 3, none⟩) hgT (by simp)).trans u3
      have hgn5 : gn < w5.heap.size := World.block_lt_of_cell? w5 _ u0
      have hbx5 := lt_of_heap hb5
      have FW5 : Fr [] wr w5 := HF1.out.trans hf5 (by simp)
      have hFA : Fr [] w5 (w5.alloc (.cells #[.int .i64 y0, .int .i64 y1, .int .i64 y2, .slice pu ys.length cu] 90)) := Fr.alloc [] _ _
      have HSW := mkHid (sameWords_ok ys (.slice pv ys.length cv) (.slice pu ys.length cu) (w5.alloc (.cells #[.int .i64 y0, .int .i64 y1, .int .i64 y2, .slice pu ys.length cu] 90)) ((HRd.out.idle FW5).idle hFA) ((HRu.out.idle FW5).idle hFA))
      have HE : Hid (∀ x, Fr [] U ((w5.alloc (.cells #[.int .i64 y0, .int .i64 y1, .int .i64 y2, .slice pu ys.length cu] 90)).drewN x)) := fun x => (hU5.out.trans hFA (by simp)).trans (Fr.drewN [] _ _) (by simp)
      have i3 : ¬ (i : Int) < 0 := by omega
      clear HAT hf5 hb5 FW5 hFA HUT HF1 hgT hga hgn
      go_wp2_with (go_at_call 24; refine Calls.mono HSW.out ?_; rintro e w' ⟨rfl, x, hw'⟩; rw [hw']; clear hw' w')
      go_roundw
      case rel => exact ⟨k + 1, by omega, by go_num, HE.out _⟩
      case measure => simp [intOf]; omega
    · have hke : k = m.length := by omega
      subst hke
      have HE := mkHid (HFU.out.trans hR.out (by simp))
      go_wp2_with fail
      go_ret
      exact ⟨rfl, HE.out⟩
end Go.Proofs.YtkmjimdaimbdfaaDoor
namespace Go.Proofs.YtkmjimdaimbdfaaDoor
open Go.RowKit Go.Maps
set_option linter.unusedVariables false
set_option linter.unusedSimpArgs false
attribute [local go_sem ↓] Go.wp_at_zero Go.wp_at_succ
set_option maxRecDepth 20000 in
set_option maxHeartbeats 1000000 in
theorem smade_same {w : World} {s a : Nat} {l : Lay} {X : SpS} (h : Spc w s a l X) : Calls Tryd.prog 42 #[.pointer (some ⟨s, 0, none⟩)] w fun e w' => e = .returned (.bool true) ∧ w' = w := by
  obtain ⟨c0, -⟩ := h.cells
  obtain ⟨j, hj⟩ := Option.isSome_iff_exists.1 info75
  have hq := run_eql_ptr_same (P := Tryd.prog) w ⟨s, 0, none⟩ Tryd.underlying23 hj
  clear h hj
  go_enter Tryd.func42, Tryd.ntmps42
  go_wp2
  go_ret
  exact ⟨rfl, rfl⟩
set_option maxRecDepth 20000 in
set_option maxHeartbeats 1000000 in
theorem sHeap_same {w : World} {s a : Nat} {l : Lay} {X : SpS} (h : Spc w s a l X) : Calls Tryd.prog 12 #[.pointer (some ⟨s, 0, none⟩)] w fun e w' => e = .returned (.pointer (some ⟨a, 0, none⟩)) ∧ w' = w := by
  have HM := mkHid (smade_same h)
  obtain ⟨c0, c1, -⟩ := h.cells
  clear h
  go_enter Tryd.func12, Tryd.ntmps12
  go_wp2_with (go_at_call 42; refine Calls.mono HM.out ?_; rintro e w' ⟨rfl, hw'⟩; rw [hw']; clear hw' w')
  go_ret
  exact ⟨rfl, rfl⟩
set_option maxRecDepth 20000 in
set_option maxHeartbeats 4000000 in
theorem fresh_k {w0 w : World} {s a t : Nat} {l : Lay} {kv : Value} {X : SpS} {ro : Int} {mk : Nat} {st : List Int} (P : Pw w0 w s a t l kv X ro mk st) (hmk : X.mark = mk) (hmb : (mk : Int) ≤ 1073741824) (ks : List Key) (m : List Nat) (x1 x2 x3 : Int) (ov lv : Value) (ha : Sat w ov ks) (hl : Rd w lv (zs m)) (hm : ∀ i ∈ m, i < ks.length ∧ ks.getD i noK ∈ X.ks) (k : Key) (hk : k ∈ X.ks) (hno : ∀ i ∈ m, (ks.getD i noK).1 ≠ k.1) :
    Calls Tryd.prog 65 #[.pointer (some ⟨t, 0, none⟩), .pointer (some ⟨s, 0, none⟩), .agg #[.int .i64 x1, .int .i64 x2, .int .i64 x3, ov], lv, .int .i64 k.1, .int .i64 (k.2.2.2.length : Int), .int .i64 k.2.2.1] w fun e w' => e = .returned (.bool true) ∧ Fr [] w w' := by
  have HP := mkHid P
  have HA := mkHid ha
  have HL := mkHid hl
  have HM := mkHid hm
  have HNo := mkHid hno
  obtain ⟨pa, ca, rfl, -⟩ := ha.at_
  obtain ⟨pl, cl, el, -⟩ := hl.at_
  rw [zs_len] at el
  subst el
  have hks := ha.short
  have hml : m.length ≤ 17592186043904 := by have := hl.short; rwa [zs_len] at this
  obtain ⟨V, hV⟩ : ∃ V, (w.alloc (.cells #[.int .i64 x1, .int .i64 x2, .int .i64 x3, .slice pa ks.length ca] 44)) = V := ⟨_, rfl⟩
  have hfV : Fr [] w V := by rw [← hV]; exact (Fr.alloc [] _ _)
  have hb1 : V.heap[w.heap.size]? = some (.cells #[.int .i64 x1, .int .i64 x2, .int .i64 x3, .slice pa ks.length ca] 44 (0, 0)) := by
    rw [← hV]; exact heap_alloc_new _ _
  obtain ⟨b0, hb0⟩ : ∃ b0, w.heap.size = b0 := ⟨_, rfl⟩
  rw [hb0] at hb1
  have HVe := mkHid hV
  have HBe := mkHid hb0
  have HB1 := mkHid hb1
  have HFV := mkHid hfV
  have hPV := P.idle hfV
  have HSz := mkHid (size_at hPV.spc.rep hPV.spc.ka hk)
  have HHp := mkHid (sHeap_same hPV.spc)
  generalize k.2.2.2.length = yn at *
  generalize k.2.2.1 = yf at *
  generalize k.1 = yq at *
  clear ha hl hm hno hV hfV hb1 hb0 hPV P hk
  go_enter Tryd.func65, Tryd.ntmps65
  go_wp2_with fail
  rw [HVe.out, HBe.out]
  clear HVe
  refine Calls.mono HHp.out ?_
  rintro e w1 ⟨rfl, rfl⟩
  go_wp2_with fail
  refine Calls.mono HSz.out ?_
  rintro e w2 ⟨rfl, hf2⟩
  have HF2 := mkHid (HFV.out.trans hf2 (by simp))
  have hP2 := HP.out.idle HF2.out
  have HHd : Hid (∀ n, Calls Tryd.prog 12 #[.pointer (some ⟨s, 0, none⟩)] (w2.drewN n) fun e w' => e = .returned (.pointer (some ⟨a, 0, none⟩)) ∧ w' = w2.drewN n) := fun n => sHeap_same (hP2.idle (Fr.drewN [] _ n)).spc
  have HMd : Hid (∀ n, Calls Tryd.prog 20 #[.pointer (some ⟨a, 0, none⟩)] (w2.drewN n) fun e w' => e = .returned (.int .i64 (mk : Int)) ∧ w' = w2.drewN n) := fun n => by
    have hh := (hP2.idle (Fr.drewN [] _ n)).spc
    have := Marked_any a l X.H (w2.drewN n) hh.rep
    rw [hh.ka.mark, hmk] at this
    exact this
  obtain ⟨-, -, -, t3, -, -⟩ := hP2.cells
  have HNd : Hid (∀ n, Calls Tryd.prog 11 #[.int .i64 0] (w2.drewN n) fun e w' => e = .returned (.int .i64 0) ∧ w' = w2.drewN n) := fun n => num_any 0 (w2.drewN n) (by omega) (by omega)
  have hV2 := mkHid hf2
  clear hf2 hP2 HSz HHp hmk
  go_wp2_with fail
  go_quiet ((first | (go_at_call 11; exact Calls.quiet_of_same (HNd.out _)) | (go_at_call 12; exact Calls.quiet_of_same (HHd.out _)) | (go_at_call 20; exact Calls.quiet_of_same (HMd.out _))))
  have HU : Hid (Fr [] w (w2.drewN nq)) := HF2.out.trans (Fr.drewN [] _ _) (by simp)
  have HVU : Hid (Fr [] w1 (w2.drewN nq)) := hV2.out.trans (Fr.drewN [] _ _) (by simp)
  clear HHd HMd HNd t3 hV2 HF2
  generalize w2.drewN nq = U at *
  have HSA := mkHid (HA.out.idle HU.out)
  have HLA := mkHid (HL.out.idle HU.out)
  have HSU := mkHid (HP.out.idle HU.out)
  have HCl : Hid (∀ W, Hid (Fr [] U W) → (W.cell? ⟨b0, 0, none⟩ = some (.int .i64 x1) ∧ W.cell? ⟨b0, 1, none⟩ = some (.int .i64 x2) ∧ W.cell? ⟨b0, 2, none⟩ = some (.int .i64 x3) ∧ W.cell? ⟨b0, 3, none⟩ = some (.slice pa ks.length ca))) := fun W hW => by
    have e1 := (HVU.out.block _ (lt_of_heap HB1.out) (by simp)).trans HB1.out
    have e2 := (hW.out.block _ (lt_of_heap e1) (by simp)).trans e1
    refine ⟨?_, ?_, ?_, ?_⟩ <;> (rw [cell_in e2]; rfl)
  clear HP HFV HA HL HVU HB1 HBe
  go_wp2_with fail
  go_loopw [18] (fun q wr => ∃ k : Nat, k ≤ m.length ∧ q = .int .i64 k ∧ Hid (Fr [] U wr)) (fun q _ => m.length - (intOf q).toNat)
  case atStart => exact ⟨0, Nat.zero_le _, rfl, Fr.refl _ _⟩
  case round =>
    obtain ⟨k, hk, rfl, hR⟩ := hrel
    obtain ⟨d0, d1, d2, d3⟩ := HCl.out wr hR
    by_cases hlt : k < m.length
    · have hmem := getD_in m k hlt
      obtain ⟨hj, -⟩ := HM.out _ hmem
      have hne := HNo.out _ hmem
      obtain ⟨pa', ca', e2, hpa⟩ := (HSA.out.idle hR.out).at_
      cases e2
      obtain ⟨ga, oa, rfl, hca⟩ := hpa (by omega)
      obtain ⟨pv, cv, o0, -⟩ := hca _ hj
      obtain ⟨pl', cl', e3, hpl⟩ := (HLA.out.idle hR.out).at_
      rw [zs_len] at e3 hpl
      cases e3
      obtain ⟨gl, ol, rfl, hgl, hcl⟩ := hpl (by omega)
      have x0 := hcl k hlt
      rw [zs_getD m k hlt] at x0
      clear hca hpa hpl hcl hmem
      generalize m.getD k 0 = j at *
      generalize (ks.getD j noK).1 = y0 at *
      have hbq : (y0 == yq) = false := by simpa using hne
      have k1 : (0 : Int) ≤ (k : Int) := by omega
      have k2 : (k : Int) < (m.length : Int) := by omega
      have j1 : (0 : Int) ≤ (j : Int) := by omega
      have j2 : (j : Int) < (ks.length : Int) := by omega
      have HE : Hid (∀ x, Fr [] U (wr.drewN x)) := fun x => hR.out.trans (Fr.drewN [] _ _) (by simp)
      clear hne HM HNo HSA HLA
      go_wp2_with fail
      go_quiet (fail)
      go_wp2_with fail
      go_roundw
      case rel => exact ⟨k + 1, by omega, by go_num, HE.out _⟩
      case measure => simp [intOf]; omega
    · have hke : k = m.length := by omega
      subst hke
      have HUn := mkHid (untouched_k (HSU.out.idle hR.out).spc ks m x1 x2 x3 (.slice pa ks.length ca) (.slice pl m.length cl) (HSA.out.idle hR.out) (HLA.out.idle hR.out) HM.out)
      have HE := mkHid (HU.out.trans hR.out (by simp))
      clear HSA HLA HM HNo hlt
      go_wp2_with fail
      refine Calls.mono HUn.out ?_
      rintro e w6 ⟨rfl, hf6⟩
      have HE6 := mkHid (HE.out.trans hf6 (by simp))
      clear hf6
      go_wp2_with fail
      go_ret
      exact ⟨rfl, HE6.out⟩
end Go.Proofs.YtkmjimdaimbdfaaDoor
namespace Go.Proofs.YtkmjimdaimbdfaaDoor
open Go.RowKit Go.Maps
set_option linter.unusedVariables false
set_option linter.unusedSimpArgs false
/-- there is room beside what is live -/
def RoomP (X : SpS) (m : List Nat) (nn ff : Nat) : Prop := m.length < X.oops ∧ sumK X.ks m + lenOf (nn : Int) (ff : Int) ≤ (X.words : Int)
theorem aErrK_small (words oops mark : Nat) (ks : List Key) (cl : Int) (nn ff : Nat) (hc : isW cl = true) (hn : nn ≤ 8192) (hf : ff ≤ 1) : aErrK words oops mark ks cl (nn : Int) (ff : Int) = if oops = ks.length ∨ (words : Int) - endK ks < lenOf (nn : Int) (ff : Int) then 23 else if mark = 1 then 24 else 0 := by
  unfold aErrK
  rw [if_neg, if_neg (by omega)]
  rintro (h | h | h)
  · rw [hc] at h; cases h
  · have : isF (ff : Int) = true := by unfold isF; rcases (show ff = 0 ∨ ff = 1 from by omega) with e | e <;> simp [e]
    rw [this] at h; cases h
  · omega
theorem endK_filter (p : Key → Bool) : ∀ ks : List Key, (∀ k ∈ ks, k.2.2.1 = 0 ∨ k.2.2.1 = 1) → endK (ks.filter p) ≤ endK ks
  | [], _ => by simp [endK]
  | k :: t, h => by
    have h1 := endK_filter p t fun x hx => h x (by simp [hx])
    have h2 : 0 ≤ lenOf (k.2.2.2.length : Int) k.2.2.1 := by unfold lenOf; split <;> omega
    rw [List.filter_cons]
    split
    · simp only [endK]; omega
    · simp only [endK]; omega
theorem sumK_le (ks : List Key) (hf : ∀ k ∈ ks, k.2.2.1 = 0 ∨ k.2.2.1 = 1) (m : List Nat) (hn : m.Nodup) (hl : ∀ i ∈ m, i < ks.length) : sumK ks m ≤ endK ks := by
  obtain ⟨M', hM, hs⟩ : ∃ M' : List Nat, m.Perm M' ∧ M'.Sublist (List.range ks.length) := by
    refine ⟨(List.range ks.length).filter fun i => decide (i ∈ m), (List.perm_ext_iff_of_nodup hn (List.Pairwise.filter _ List.nodup_range)).2 fun i => ?_, List.filter_sublist⟩
    rw [List.mem_filter, List.mem_range, decide_eq_true_eq]
    exact ⟨fun h => ⟨hl i h, h⟩, fun h => h.2⟩
  rw [sumK_perm ks hM]
  have hfull := (range_filter_key (fun _ => true) ks).2
  rw [List.filter_eq_self.2 (by simp), List.filter_eq_self.2 (by simp)] at hfull
  have key : ∀ (A B : List Nat), A.Sublist B → sumK ks A ≤ sumK ks B := by
    intro A B h
    induction h with
    | slnil => exact Int.le_refl _
    | cons x h ih =>
      have : 0 ≤ lenOf ((ks.getD x noK).2.2.2.length : Int) (ks.getD x noK).2.2.1 := by unfold lenOf; split <;> omega
      simp only [sumK]; omega
    | cons_cons x h ih => simp only [sumK]; omega
  have := key _ _ hs
  omega
/-- what an allocation leaves of a space -/
structure AlcR (X : SpS) (m : List Nat) (X' : SpS) (n : Nat) : Prop where
  words : X'.words = X.words
  oops : X'.oops = X.oops
  root : X'.root = X.root
  st : X'.st = X.st
  age : X'.H.age ≤ n
  live : ∀ i ∈ m, X.ks.getD i noK ∈ X'.ks
  good : ∀ k ∈ X'.ks, GoodK X.oops k
/-- what is live keeps the root -/
theorem live_root {ks ks' : List Key} {root : Int} {st : List Int} {m : List Nat} (hm : LvE ks (rts root st) m) (h1 : root = 0 ∨ hasK ks root = true) (h2 : root = 0 ∨ (1 ≤ root ∧ root ≤ 65536)) (hl : ∀ i ∈ m, ks.getD i noK ∈ ks') : root = 0 ∨ hasK ks' root = true := by
  by_cases h0 : root = 0
  · exact .inl h0
  · right
    rcases h1 with e | e
    · exact absurd e h0
    obtain ⟨k, k1, k2⟩ := List.any_eq_true.1 e
    have ek : k.1 = root := by simpa using k2
    cases ha : atK ks root with
    | none => exact absurd ek (atK_none ha k k1)
    | some i =>
      obtain ⟨a1, a2, -⟩ := atK_some ha
      have hmem : i ∈ m := by
        have hr : 1 ≤ root ∧ root ≤ 65536 := by omega
        have hn : nmK ks (4 * root) = some i := by
          unfold nmK
          rw [if_pos ((kind3 _).2 ⟨by omega, by omega, by omega⟩), show 4 * root / 4 = root from by omega]
          exact ha
        rcases hm.root (4 * root) (by unfold rts; rw [if_neg h0]; simp) with h3 | h3
        · simp at h3
        · exact h3 i hn
      exact List.any_eq_true.2 ⟨_, hl i hmem, by rw [beq_iff_eq]; exact a2⟩
/-- what Alloc answers, and what it leaves -/
def AlcO (w0 : World) (s a t : Nat) (kv : Value) (X : SpS) (n : Nat) (cl : Int) (nn ff : Nat) (m : List Nat) (e : Ending) (w' : World) : Prop :=
  ∃ l' X', Pw w0 w' s a t l' kv X' X.root X.mark X.st ∧ AlcR X m X' n ∧
    ((¬ RoomP X m nn ff ∧ e = .returned (.tuple #[.int .i64 0, .int .i64 23]) ∧ X'.mark = X.mark) ∨
     (RoomP X m nn ff ∧ X.mark = 1 ∧ e = .returned (.tuple #[.int .i64 0, .int .i64 24]) ∧ X'.mark = 0) ∨
     (RoomP X m nn ff ∧ X.mark ≠ 1 ∧ X'.mark = X.mark - 1 ∧ ∃ q : Nat, e = .returned (.tuple #[.int .i64 (4 * (q : Int)), .int .i64 0]) ∧ 1 ≤ q ∧ q ≤ 65536 ∧ newKey q cl nn ff ∈ X'.ks ∧ ∀ i ∈ m, (X.ks.getD i noK).1 ≠ (q : Int)))
theorem salloc_pl {w0 w : World} {s a t : Nat} {l : Lay} {kv : Value} {X : SpS} {n : Nat} (P : Pl w0 w s a t l kv X n) (hn : n ≤ 999) (cl : Int) (hcl : isW cl = true) (nn ff : Nat) (hnn : nn ≤ 8192) (hff : ff ≤ 1) (m : List Nat) (hm : LvE X.ks (rts X.root X.st) m) :
    Calls Tryd.prog 18 #[.pointer (some ⟨s, 0, none⟩), .int .i64 cl, .int .i64 (nn : Int), .int .i64 (ff : Int)] w fun e w' => AlcO w0 s a t kv X (n + 1) cl nn ff m e w' ∧ Fr (foot a l) w w' := by
  have hp := P.pw
  obtain ⟨hT, hT2, hT0, ha⟩ := hp.tabs
  have hka := hp.spc.ka
  have herr := aErrK_small X.words X.oops X.mark X.ks cl nn ff hcl hnn hff
  have hcnt : X.ks.length ≤ X.oops := by
    have h1 := hka.count
    have h2 := hka.inv.safe.small.count
    have h3 := hka.oops
    omega
  have hml := hm.len
  have hsum := sumK_le X.ks P.fmts m hm.nd hm.lt
  have hage := P.age
  by_cases h23 : X.oops = X.ks.length ∨ (X.words : Int) - endK X.ks < lenOf (nn : Int) (ff : Int)
  · rw [if_pos h23] at herr
    refine (salloc_full hp.spc cl nn ff (by have := hp.stl; omega) P.rootIn (by omega) hT hT0 (fun V hV => ?_) ha herr hp.br).mono ?_
    · have hfr : Fr [] w0 V := hp.fr.trans hV (fun b hb => .inr (hp.geA b hb))
      have := hp.two
      have := hfr.size
      exact ⟨hp.tab.fr hfr (by omega), hp.tab64.keep hfr (by omega) (by simp), by omega⟩
    · rintro e w' ⟨V, st, M0, H', M', hx, hfV, ⟨H0, hk0, hs0⟩, hag, hq⟩
      have hroots : ∀ z, z ∈ rootsOf X ↔ z ∈ rts X.root X.st := rts_mem X
      have hls := hk0.liveSum hs0 hm hroots
      have hlm := hk0.liveMem hs0 hm hroots
      have herr2 := aErrK_small X.words X.oops X.mark (keepK X.ks st) cl nn ff hcl hnn hff
      have hgk : ∀ k ∈ keepK X.ks st, GoodK X.oops k := fun k hk => P.good k (keepK_mem.1 hk).1
      have hmv : ∀ (l' : Lay) (X' : SpS), Spc w' s a l' X' → X'.words = X.words → X'.oops = X.oops → X'.br = none → X'.sv = X.sv → Nx a l l' V w' → Pw w0 w' s a t l' kv X' X.root X.mark X.st := fun l' X' h1 e1 e2 e3 e4 hN =>
        hp.move h1 e1 e2 e3 (hfV.trans hN.1 (fun b hb => .inl hb)) (fun b hb => .inr (.inl hb)) (fun g hg => by
          rcases hN.2 g hg with h2 | h2
          · exact .inl h2
          · have := hfV.size; right; omega) (fun g hg => .inl (by rw [← e4]; exact hg))
      rcases hq with ⟨g1, g2, H2, M2, g3, g4, g5, g6⟩ | ⟨g1, q, l', H2, M2, g2, g3, g4, g5, g6, g7, g8⟩
      · have e0 : aErrK X.words X.oops X.mark (keepK X.ks st) cl (nn : Int) (ff : Int) ≠ 0 := g1
        have g2' : e = .returned (.tuple #[.int .i64 0, .int .i64 (aErrK X.words X.oops X.mark (keepK X.ks st) cl (nn : Int) (ff : Int))]) := g2
        refine ⟨?_, hfV.trans g6.1 (fun b hb => .inl hb)⟩
        refine ⟨l, _, hmv l _ g3 rfl rfl hp.br rfl g6, ⟨rfl, rfl, rfl, rfl, by show H2.age ≤ n + 1; rw [g5]; show H'.age ≤ n + 1; omega, hlm, hgk⟩, ?_⟩
        rw [herr2] at e0 g2'
        by_cases c1 : X.oops = (keepK X.ks st).length ∨ (X.words : Int) - endK (keepK X.ks st) < lenOf (nn : Int) (ff : Int)
        · rw [if_pos c1] at g2'
          refine .inl ⟨fun hr => ?_, g2', ?_⟩
          · have := hr.1
            have := hr.2
            rcases c1 with c | c <;> omega
          · show (if aErrK X.words X.oops X.mark (keepK X.ks st) cl (nn : Int) (ff : Int) = 24 then 0 else X.mark) = X.mark
            rw [herr2, if_pos c1, if_neg (by decide)]
        · rw [if_neg c1] at g2' e0
          by_cases c2 : X.mark = 1
          · rw [if_pos c2] at g2'
            refine .inr (.inl ⟨⟨?_, ?_⟩, c2, g2', ?_⟩)
            · have : X.oops ≠ (keepK X.ks st).length := fun e => c1 (.inl e)
              have : (keepK X.ks st).length ≤ X.ks.length := List.length_filter_le _ _
              omega
            · have : ¬ (X.words : Int) - endK (keepK X.ks st) < lenOf (nn : Int) (ff : Int) := fun e => c1 (.inr e)
              omega
            · show (if aErrK X.words X.oops X.mark (keepK X.ks st) cl (nn : Int) (ff : Int) = 24 then 0 else X.mark) = 0
              rw [herr2, if_neg c1, if_pos c2, if_pos rfl]
          · rw [if_neg c2] at e0
            exact absurd rfl e0
      · have e0 : aErrK X.words X.oops X.mark (keepK X.ks st) cl (nn : Int) (ff : Int) = 0 := g1
        rw [herr2] at e0
        have c1 : ¬ (X.oops = (keepK X.ks st).length ∨ (X.words : Int) - endK (keepK X.ks st) < lenOf (nn : Int) (ff : Int)) := fun c => by rw [if_pos c] at e0; cases e0
        rw [if_neg c1] at e0
        have c2 : X.mark ≠ 1 := fun c => by rw [if_pos c] at e0; cases e0
        have c3 : X.oops ≠ (keepK X.ks st).length := fun e => c1 (.inl e)
        have c4 : ¬ (X.words : Int) - endK (keepK X.ks st) < lenOf (nn : Int) (ff : Int) := fun e => c1 (.inr e)
        have c5 : (keepK X.ks st).length ≤ X.ks.length := List.length_filter_le _ _
        have g2' : LowK (keepK X.ks st) q := g2
        have hq1 := g2'.le
        have hq0 := g2'.pos
        refine ⟨?_, hfV.trans g8.1 (fun b hb => .inl hb)⟩
        refine ⟨l', _, hmv l' _ g5 rfl rfl hp.br rfl g8, ⟨rfl, rfl, rfl, rfl, by show H2.age ≤ n + 1; rw [g7]; show H'.age ≤ n + 1; omega, fun i hi => List.mem_append.2 (.inl (hlm i hi)), fun k hk => ?_⟩, .inr (.inr ⟨⟨by omega, by omega⟩, c2, rfl, q, g4, hq0, g3, List.mem_append.2 (.inr (List.mem_singleton.2 (by simp))), fun i hi => g2'.free _ (hlm i hi)⟩)⟩
        rcases List.mem_append.1 hk with h1 | h1
        · exact hgk k h1
        · have e1 : k = newKey q cl nn ff := by simpa using h1
          rw [e1]
          exact good_new X.oops q cl nn ff hq0 (by omega) hcl hnn hff
  · rw [if_neg h23] at herr
    have c3 : X.oops ≠ X.ks.length := fun e => h23 (.inl e)
    have c4 : ¬ (X.words : Int) - endK X.ks < lenOf (nn : Int) (ff : Int) := fun e => h23 (.inr e)
    have hroom : RoomP X m nn ff := ⟨by omega, by omega⟩
    have hlm : ∀ i ∈ m, X.ks.getD i noK ∈ X.ks := fun i hi => keyD_mem (hm.lt i hi)
    refine (salloc_once hp.spc cl nn ff hT hT0 (fun V hV => (hp.idle hV).tabs.2.1) ha (.inl (by rw [herr]; split <;> decide))).mono ?_
    rintro e w' ⟨V, hfV, hq⟩
    have hpV := hp.idle hfV
    rcases hq with ⟨g1, g2, H2, M2, g3, g4, g5, g6⟩ | ⟨g1, q, l', H2, M2, g2, g3, g4, g5, g6, g7, g8⟩
    · refine ⟨?_, (hfV.mono (by simp)).trans g6.1 (fun b hb => .inl hb)⟩
      refine ⟨l, _, hpV.nx g3 rfl rfl hp.br rfl g6, ⟨rfl, rfl, rfl, rfl, by show H2.age ≤ n + 1; rw [g5]; omega, hlm, P.good⟩, .inr (.inl ?_)⟩
      rw [herr] at g1 g2
      by_cases c2 : X.mark = 1
      · rw [if_pos c2] at g2
        refine ⟨hroom, c2, g2, ?_⟩
        show (if aErrK X.words X.oops X.mark X.ks cl (nn : Int) (ff : Int) = 24 then 0 else X.mark) = 0
        rw [herr, if_pos c2, if_pos rfl]
      · rw [if_neg c2] at g1
        exact absurd rfl g1
    · rw [herr] at g1
      have c2 : X.mark ≠ 1 := fun c => by rw [if_pos c] at g1; cases g1
      have hq1 := g2.le
      have hq0 := g2.pos
      refine ⟨?_, (hfV.mono (by simp)).trans g8.1 (fun b hb => .inl hb)⟩
      refine ⟨l', _, hpV.nx g5 rfl rfl hp.br rfl g8, ⟨rfl, rfl, rfl, rfl, by show H2.age ≤ n + 1; rw [g7]; omega, fun i hi => List.mem_append.2 (.inl (hlm i hi)), fun k hk => ?_⟩, .inr (.inr ⟨hroom, c2, rfl, q, g4, hq0, g3, List.mem_append.2 (.inr (List.mem_singleton.2 (by simp))), fun i hi => g2.free _ (hlm i hi)⟩)⟩
      rcases List.mem_append.1 hk with h1 | h1
      · exact P.good k h1
      · have e1 : k = newKey q cl nn ff := by simpa using h1
        rw [e1]
        exact good_new X.oops q cl nn ff hq0 (by omega) hcl hnn hff
end Go.Proofs.YtkmjimdaimbdfaaDoor

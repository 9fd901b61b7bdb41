import Derived.Test.YtheolmnjedbjmaaGreatDoorSM3
import Derived.Test.YtheolmnjedbjmaaGreatDoorGD
import Derived.Handy
namespace Go.Proofs.YtheolmnjedbjmaaGreatDoor
open Go.RowKit
set_option linter.unusedVariables false
set_option linter.unusedSimpArgs false
attribute [local go_sem ↓] Go.wp_at_zero Go.wp_at_succ
theorem Sj.text {W w1 : World} {B wb fb : Nat} {C : Array Value} {st : Bool × Bs} (h : Sj W w1 B wb fb C 40 st) (hBw : B ≤ wb) (hBf : B ≤ fb) (hne : wb ≠ fb) (i : Nat) (s : ByteArray) (hi : C[i]? = some (.string s)) (hn : st.2.length ≤ 1100000) (hs : s.size ≤ 2305843009213693952) :
    Calls Tryz.prog 160 #[.pointer (some ⟨wb, 0, none⟩), .pointer (some ⟨fb, i, none⟩)] w1 fun e w' => (∃ u, e = .returned u) ∧ Sj W w' B wb fb (C.setIfInBounds i (.string ⟨#[]⟩)) 40 (txF st.1 st.2 s.data.toList) := by
  obtain ⟨p, c, hw⟩ := h.box
  refine (wtext_ok' w1 B wb fb i _ c p st.1 st.2 C 40 s hw rfl hBw hBf hne h.hf (by decide) hi hn hs).mono ?_
  rintro e w' ⟨he, v', h1, h2, h3⟩
  obtain ⟨p', c', rfl⟩ := h1.page.slice
  exact ⟨he, ⟨p', c', h1⟩, h2, h.ch.trans h3⟩
theorem Sj.texts {W w1 : World} {B wb fb : Nat} {C : Array Value} {st : Bool × Bs} (h : Sj W w1 B wb fb C 40 st) (hBw : B ≤ wb) (hBf : B ≤ fb) (hne : wb ≠ fb) (i : Nat) (l : List ByteArray) (q : Option Addr) (lc : Nat) (hi : C[i]? = some (.slice q l.length lc)) (hn : st.2.length ≤ 1100000) (hl : l.length ≤ 2305843009213693952) (hs : ∀ s ∈ l, s.size ≤ 2305843009213693952)
    (hc : ∀ U, Wf B [wb, fb] W U → Rs U q l) :
    Calls Tryz.prog 161 #[.pointer (some ⟨wb, 0, none⟩), .pointer (some ⟨fb, i, none⟩)] w1 fun e w' => (∃ u, e = .returned u) ∧ Sj W w' B wb fb (C.setIfInBounds i (.slice none 0 0)) 40 (txsF st l) := by
  obtain ⟨p, c, hw⟩ := h.box
  refine (wtexts_ok w1 B wb fb i _ st.1 st.2 C 40 l q lc hw hBw hBf hne h.hf (by decide) hi hn hl hs (fun U hU h0 => ?_)).mono ?_
  · have hr := hc U (h.ch.trans hU)
    obtain ⟨g, off, rfl, _⟩ := hr 0 h0
    refine ⟨g, off, rfl, fun j hj => ?_⟩
    obtain ⟨g2, off2, e, hcell⟩ := hr j hj
    injection e with e
    injection e with e1 e2
    rw [e1, e2]
    exact hcell
  · rintro e w' ⟨he, v', h1, h2, h3⟩
    obtain ⟨p', c', rfl⟩ := h1.page.slice
    exact ⟨he, ⟨p', c', h1⟩, h2, h.ch.trans h3⟩
set_option maxRecDepth 100000 in
set_option maxHeartbeats 2000000 in
theorem classW_ok {W w1 : World} {B wb fb : Nat} {C : Array Value} {st : Bool × Bs} (h : Sj W w1 B wb fb C 40 st) (hBw : B ≤ wb) (hBf : B ≤ fb) (hne : wb ≠ fb) (hn : st.2.length ≤ 1100000) (s0 : ByteArray) (hi0 : C[1]? = some (.string s0)) (hs0 : s0.size ≤ 2305843009213693952) (s1 : ByteArray) (hi1 : C[2]? = some (.string s1)) (hs1 : s1.size ≤ 2305843009213693952) (l : List ByteArray) (q : Option Addr) (lc : Nat) (hi2 : C[3]? = some (.slice q l.length lc)) (hl : l.length ≤ 2305843009213693952) (hs2 : ∀ s ∈ l, s.size ≤ 2305843009213693952) (hc : ∀ U, Wf B [wb, fb] W U → Rs U q l) :
    Calls Tryz.prog 94 #[.pointer (some ⟨wb, 0, none⟩), .pointer (some ⟨fb, 0, none⟩)] w1 fun e w' => (∃ u, e = .returned u) ∧ Sj W w' B wb fb ((((C).setIfInBounds 1 (.string ⟨#[]⟩)).setIfInBounds 2 (.string ⟨#[]⟩)).setIfInBounds 3 (.slice none 0 0)) 40 (txsF (txF (txF (st).1 (st).2 s0.data.toList).1 (txF (st).1 (st).2 s0.data.toList).2 s1.data.toList) l) := by
  have h0 := mkHid h
  have HT0 : Hid (∀ U, Sj W U B wb fb (C) 40 (st) → Calls Tryz.prog 160 #[.pointer (some ⟨wb, 0, none⟩), .pointer (some ⟨fb, 1, none⟩)] U fun e w' => (∃ u, e = .returned u) ∧ Sj W w' B wb fb ((C).setIfInBounds 1 (.string ⟨#[]⟩)) 40 (txF (st).1 (st).2 s0.data.toList)) := fun U hU => hU.text hBw hBf hne 1 s0 (hi0) hn hs0
  have hn1 : (txF (st).1 (st).2 s0.data.toList).2.length ≤ 1100000 := txF_len _ _ _ hn
  have HT1 : Hid (∀ U, Sj W U B wb fb ((C).setIfInBounds 1 (.string ⟨#[]⟩)) 40 (txF (st).1 (st).2 s0.data.toList) → Calls Tryz.prog 160 #[.pointer (some ⟨wb, 0, none⟩), .pointer (some ⟨fb, 2, none⟩)] U fun e w' => (∃ u, e = .returned u) ∧ Sj W w' B wb fb (((C).setIfInBounds 1 (.string ⟨#[]⟩)).setIfInBounds 2 (.string ⟨#[]⟩)) 40 (txF (txF (st).1 (st).2 s0.data.toList).1 (txF (st).1 (st).2 s0.data.toList).2 s1.data.toList)) := fun U hU => hU.text hBw hBf hne 2 s1 (by simp [Array.getElem?_setIfInBounds, hi1]) hn1 hs1
  have hn2 : (txF (txF (st).1 (st).2 s0.data.toList).1 (txF (st).1 (st).2 s0.data.toList).2 s1.data.toList).2.length ≤ 1100000 := txF_len _ _ _ hn1
  have HT2 : Hid (∀ U, Sj W U B wb fb (((C).setIfInBounds 1 (.string ⟨#[]⟩)).setIfInBounds 2 (.string ⟨#[]⟩)) 40 (txF (txF (st).1 (st).2 s0.data.toList).1 (txF (st).1 (st).2 s0.data.toList).2 s1.data.toList) → Calls Tryz.prog 161 #[.pointer (some ⟨wb, 0, none⟩), .pointer (some ⟨fb, 3, none⟩)] U fun e w' => (∃ u, e = .returned u) ∧ Sj W w' B wb fb ((((C).setIfInBounds 1 (.string ⟨#[]⟩)).setIfInBounds 2 (.string ⟨#[]⟩)).setIfInBounds 3 (.slice none 0 0)) 40 (txsF (txF (txF (st).1 (st).2 s0.data.toList).1 (txF (st).1 (st).2 s0.data.toList).2 s1.data.toList) l)) := fun U hU => hU.texts hBw hBf hne 3 l q lc (by simp [Array.getElem?_setIfInBounds, hi2]) hn2 hl hs2 hc
  clear h hi0 hi1 hi2
  go_enter Tryz.func94, Tryz.ntmps94
  go_wp2_with (first | (go_at_call 160; refine (HT0.out _ h0.out).mono ?_; rintro e w3 ⟨⟨u, rfl⟩, h3⟩; have HY0 := mkHid h3; clear h3 HT0) | (go_at_call 160; refine (HT1.out _ HY0.out).mono ?_; rintro e w4 ⟨⟨u, rfl⟩, h3⟩; have HY1 := mkHid h3; clear h3 HT1 HY0) | (go_at_call 161; refine (HT2.out _ HY1.out).mono ?_; rintro e w5 ⟨⟨u, rfl⟩, h3⟩; have HY2 := mkHid h3; clear h3 HT2 HY1))
  try go_wp2_with fail
  refine bodyPost_end (results_none rfl _ _ _) rfl ?_
  exact ⟨⟨_, rfl⟩, HY2.out⟩
set_option maxRecDepth 100000 in
set_option maxHeartbeats 2000000 in
theorem methodW_ok {W w1 : World} {B wb fb : Nat} {C : Array Value} {st : Bool × Bs} (h : Sj W w1 B wb fb C 40 st) (hBw : B ≤ wb) (hBf : B ≤ fb) (hne : wb ≠ fb) (hn : st.2.length ≤ 1100000) (s0 : ByteArray) (hi0 : C[1]? = some (.string s0)) (hs0 : s0.size ≤ 2305843009213693952) (s1 : ByteArray) (hi1 : C[4]? = some (.string s1)) (hs1 : s1.size ≤ 2305843009213693952) :
    Calls Tryz.prog 96 #[.pointer (some ⟨wb, 0, none⟩), .pointer (some ⟨fb, 0, none⟩)] w1 fun e w' => (∃ u, e = .returned u) ∧ Sj W w' B wb fb (((C).setIfInBounds 1 (.string ⟨#[]⟩)).setIfInBounds 4 (.string ⟨#[]⟩)) 40 (txF (txF (st).1 (st).2 s0.data.toList).1 (txF (st).1 (st).2 s0.data.toList).2 s1.data.toList) := by
  have h0 := mkHid h
  have HT0 : Hid (∀ U, Sj W U B wb fb (C) 40 (st) → Calls Tryz.prog 160 #[.pointer (some ⟨wb, 0, none⟩), .pointer (some ⟨fb, 1, none⟩)] U fun e w' => (∃ u, e = .returned u) ∧ Sj W w' B wb fb ((C).setIfInBounds 1 (.string ⟨#[]⟩)) 40 (txF (st).1 (st).2 s0.data.toList)) := fun U hU => hU.text hBw hBf hne 1 s0 (hi0) hn hs0
  have hn1 : (txF (st).1 (st).2 s0.data.toList).2.length ≤ 1100000 := txF_len _ _ _ hn
  have HT1 : Hid (∀ U, Sj W U B wb fb ((C).setIfInBounds 1 (.string ⟨#[]⟩)) 40 (txF (st).1 (st).2 s0.data.toList) → Calls Tryz.prog 160 #[.pointer (some ⟨wb, 0, none⟩), .pointer (some ⟨fb, 4, none⟩)] U fun e w' => (∃ u, e = .returned u) ∧ Sj W w' B wb fb (((C).setIfInBounds 1 (.string ⟨#[]⟩)).setIfInBounds 4 (.string ⟨#[]⟩)) 40 (txF (txF (st).1 (st).2 s0.data.toList).1 (txF (st).1 (st).2 s0.data.toList).2 s1.data.toList)) := fun U hU => hU.text hBw hBf hne 4 s1 (by simp [Array.getElem?_setIfInBounds, hi1]) hn1 hs1
  have hn2 : (txF (txF (st).1 (st).2 s0.data.toList).1 (txF (st).1 (st).2 s0.data.toList).2 s1.data.toList).2.length ≤ 1100000 := txF_len _ _ _ hn1
  clear h hi0 hi1
  go_enter Tryz.func96, Tryz.ntmps96
  go_wp2_with (first | (go_at_call 160; refine (HT0.out _ h0.out).mono ?_; rintro e w3 ⟨⟨u, rfl⟩, h3⟩; have HY0 := mkHid h3; clear h3 HT0) | (go_at_call 160; refine (HT1.out _ HY0.out).mono ?_; rintro e w4 ⟨⟨u, rfl⟩, h3⟩; have HY1 := mkHid h3; clear h3 HT1 HY0))
  try go_wp2_with fail
  refine bodyPost_end (results_none rfl _ _ _) rfl ?_
  exact ⟨⟨_, rfl⟩, HY1.out⟩
set_option maxRecDepth 100000 in
set_option maxHeartbeats 2000000 in
theorem removeW_ok {W w1 : World} {B wb fb : Nat} {C : Array Value} {st : Bool × Bs} (h : Sj W w1 B wb fb C 40 st) (hBw : B ≤ wb) (hBf : B ≤ fb) (hne : wb ≠ fb) (hn : st.2.length ≤ 1100000) (s0 : ByteArray) (hi0 : C[1]? = some (.string s0)) (hs0 : s0.size ≤ 2305843009213693952) (s1 : ByteArray) (hi1 : C[2]? = some (.string s1)) (hs1 : s1.size ≤ 2305843009213693952) :
    Calls Tryz.prog 98 #[.pointer (some ⟨wb, 0, none⟩), .pointer (some ⟨fb, 0, none⟩)] w1 fun e w' => (∃ u, e = .returned u) ∧ Sj W w' B wb fb (((C).setIfInBounds 1 (.string ⟨#[]⟩)).setIfInBounds 2 (.string ⟨#[]⟩)) 40 (txF (txF (st).1 (st).2 s0.data.toList).1 (txF (st).1 (st).2 s0.data.toList).2 s1.data.toList) := by
  have h0 := mkHid h
  have HT0 : Hid (∀ U, Sj W U B wb fb (C) 40 (st) → Calls Tryz.prog 160 #[.pointer (some ⟨wb, 0, none⟩), .pointer (some ⟨fb, 1, none⟩)] U fun e w' => (∃ u, e = .returned u) ∧ Sj W w' B wb fb ((C).setIfInBounds 1 (.string ⟨#[]⟩)) 40 (txF (st).1 (st).2 s0.data.toList)) := fun U hU => hU.text hBw hBf hne 1 s0 (hi0) hn hs0
  have hn1 : (txF (st).1 (st).2 s0.data.toList).2.length ≤ 1100000 := txF_len _ _ _ hn
  have HT1 : Hid (∀ U, Sj W U B wb fb ((C).setIfInBounds 1 (.string ⟨#[]⟩)) 40 (txF (st).1 (st).2 s0.data.toList) → Calls Tryz.prog 160 #[.pointer (some ⟨wb, 0, none⟩), .pointer (some ⟨fb, 2, none⟩)] U fun e w' => (∃ u, e = .returned u) ∧ Sj W w' B wb fb (((C).setIfInBounds 1 (.string ⟨#[]⟩)).setIfInBounds 2 (.string ⟨#[]⟩)) 40 (txF (txF (st).1 (st).2 s0.data.toList).1 (txF (st).1 (st).2 s0.data.toList).2 s1.data.toList)) := fun U hU => hU.text hBw hBf hne 2 s1 (by simp [Array.getElem?_setIfInBounds, hi1]) hn1 hs1
  have hn2 : (txF (txF (st).1 (st).2 s0.data.toList).1 (txF (st).1 (st).2 s0.data.toList).2 s1.data.toList).2.length ≤ 1100000 := txF_len _ _ _ hn1
  clear h hi0 hi1
  go_enter Tryz.func98, Tryz.ntmps98
  go_wp2_with (first | (go_at_call 160; refine (HT0.out _ h0.out).mono ?_; rintro e w3 ⟨⟨u, rfl⟩, h3⟩; have HY0 := mkHid h3; clear h3 HT0) | (go_at_call 160; refine (HT1.out _ HY0.out).mono ?_; rintro e w4 ⟨⟨u, rfl⟩, h3⟩; have HY1 := mkHid h3; clear h3 HT1 HY0))
  try go_wp2_with fail
  refine bodyPost_end (results_none rfl _ _ _) rfl ?_
  exact ⟨⟨_, rfl⟩, HY1.out⟩
set_option maxRecDepth 100000 in
set_option maxHeartbeats 2000000 in
theorem nameW_ok {W w1 : World} {B wb fb : Nat} {C : Array Value} {st : Bool × Bs} (h : Sj W w1 B wb fb C 40 st) (hBw : B ≤ wb) (hBf : B ≤ fb) (hne : wb ≠ fb) (hn : st.2.length ≤ 1100000) (s0 : ByteArray) (hi0 : C[1]? = some (.string s0)) (hs0 : s0.size ≤ 2305843009213693952) :
    Calls Tryz.prog 100 #[.pointer (some ⟨wb, 0, none⟩), .pointer (some ⟨fb, 0, none⟩)] w1 fun e w' => (∃ u, e = .returned u) ∧ Sj W w' B wb fb ((C).setIfInBounds 1 (.string ⟨#[]⟩)) 40 (txF (st).1 (st).2 s0.data.toList) := by
  have h0 := mkHid h
  have HT0 : Hid (∀ U, Sj W U B wb fb (C) 40 (st) → Calls Tryz.prog 160 #[.pointer (some ⟨wb, 0, none⟩), .pointer (some ⟨fb, 1, none⟩)] U fun e w' => (∃ u, e = .returned u) ∧ Sj W w' B wb fb ((C).setIfInBounds 1 (.string ⟨#[]⟩)) 40 (txF (st).1 (st).2 s0.data.toList)) := fun U hU => hU.text hBw hBf hne 1 s0 (hi0) hn hs0
  have hn1 : (txF (st).1 (st).2 s0.data.toList).2.length ≤ 1100000 := txF_len _ _ _ hn
  clear h hi0
  go_enter Tryz.func100, Tryz.ntmps100
  go_wp2_with (first | (go_at_call 160; refine (HT0.out _ h0.out).mono ?_; rintro e w3 ⟨⟨u, rfl⟩, h3⟩; have HY0 := mkHid h3; clear h3 HT0))
  try go_wp2_with fail
  refine bodyPost_end (results_none rfl _ _ _) rfl ?_
  exact ⟨⟨_, rfl⟩, HY0.out⟩
set_option maxRecDepth 100000 in
set_option maxHeartbeats 2000000 in
theorem textW_ok {W w1 : World} {B wb fb : Nat} {C : Array Value} {st : Bool × Bs} (h : Sj W w1 B wb fb C 40 st) (hBw : B ≤ wb) (hBf : B ≤ fb) (hne : wb ≠ fb) (hn : st.2.length ≤ 1100000) (s0 : ByteArray) (hi0 : C[4]? = some (.string s0)) (hs0 : s0.size ≤ 2305843009213693952) :
    Calls Tryz.prog 102 #[.pointer (some ⟨wb, 0, none⟩), .pointer (some ⟨fb, 0, none⟩)] w1 fun e w' => (∃ u, e = .returned u) ∧ Sj W w' B wb fb ((C).setIfInBounds 4 (.string ⟨#[]⟩)) 40 (txF (st).1 (st).2 s0.data.toList) := by
  have h0 := mkHid h
  have HT0 : Hid (∀ U, Sj W U B wb fb (C) 40 (st) → Calls Tryz.prog 160 #[.pointer (some ⟨wb, 0, none⟩), .pointer (some ⟨fb, 4, none⟩)] U fun e w' => (∃ u, e = .returned u) ∧ Sj W w' B wb fb ((C).setIfInBounds 4 (.string ⟨#[]⟩)) 40 (txF (st).1 (st).2 s0.data.toList)) := fun U hU => hU.text hBw hBf hne 4 s0 (hi0) hn hs0
  have hn1 : (txF (st).1 (st).2 s0.data.toList).2.length ≤ 1100000 := txF_len _ _ _ hn
  clear h hi0
  go_enter Tryz.func102, Tryz.ntmps102
  go_wp2_with (first | (go_at_call 160; refine (HT0.out _ h0.out).mono ?_; rintro e w3 ⟨⟨u, rfl⟩, h3⟩; have HY0 := mkHid h3; clear h3 HT0))
  try go_wp2_with fail
  refine bodyPost_end (results_none rfl _ _ _) rfl ?_
  exact ⟨⟨_, rfl⟩, HY0.out⟩
set_option maxRecDepth 100000 in
set_option maxHeartbeats 2000000 in
theorem reshapeW_ok {W w1 : World} {B wb fb : Nat} {C : Array Value} {st : Bool × Bs} (h : Sj W w1 B wb fb C 40 st) (hBw : B ≤ wb) (hBf : B ≤ fb) (hne : wb ≠ fb) (hn : st.2.length ≤ 1100000) (s0 : ByteArray) (hi0 : C[1]? = some (.string s0)) (hs0 : s0.size ≤ 2305843009213693952) (l : List ByteArray) (q : Option Addr) (lc : Nat) (hi1 : C[3]? = some (.slice q l.length lc)) (hl : l.length ≤ 2305843009213693952) (hs1 : ∀ s ∈ l, s.size ≤ 2305843009213693952) (hc : ∀ U, Wf B [wb, fb] W U → Rs U q l) :
    Calls Tryz.prog 106 #[.pointer (some ⟨wb, 0, none⟩), .pointer (some ⟨fb, 0, none⟩)] w1 fun e w' => (∃ u, e = .returned u) ∧ Sj W w' B wb fb (((C).setIfInBounds 1 (.string ⟨#[]⟩)).setIfInBounds 3 (.slice none 0 0)) 40 (txsF (txF (st).1 (st).2 s0.data.toList) l) := by
  have h0 := mkHid h
  have HT0 : Hid (∀ U, Sj W U B wb fb (C) 40 (st) → Calls Tryz.prog 160 #[.pointer (some ⟨wb, 0, none⟩), .pointer (some ⟨fb, 1, none⟩)] U fun e w' => (∃ u, e = .returned u) ∧ Sj W w' B wb fb ((C).setIfInBounds 1 (.string ⟨#[]⟩)) 40 (txF (st).1 (st).2 s0.data.toList)) := fun U hU => hU.text hBw hBf hne 1 s0 (hi0) hn hs0
  have hn1 : (txF (st).1 (st).2 s0.data.toList).2.length ≤ 1100000 := txF_len _ _ _ hn
  have HT1 : Hid (∀ U, Sj W U B wb fb ((C).setIfInBounds 1 (.string ⟨#[]⟩)) 40 (txF (st).1 (st).2 s0.data.toList) → Calls Tryz.prog 161 #[.pointer (some ⟨wb, 0, none⟩), .pointer (some ⟨fb, 3, none⟩)] U fun e w' => (∃ u, e = .returned u) ∧ Sj W w' B wb fb (((C).setIfInBounds 1 (.string ⟨#[]⟩)).setIfInBounds 3 (.slice none 0 0)) 40 (txsF (txF (st).1 (st).2 s0.data.toList) l)) := fun U hU => hU.texts hBw hBf hne 3 l q lc (by simp [Array.getElem?_setIfInBounds, hi1]) hn1 hl hs1 hc
  clear h hi0 hi1
  go_enter Tryz.func106, Tryz.ntmps106
  go_wp2_with (first | (go_at_call 160; refine (HT0.out _ h0.out).mono ?_; rintro e w3 ⟨⟨u, rfl⟩, h3⟩; have HY0 := mkHid h3; clear h3 HT0) | (go_at_call 161; refine (HT1.out _ HY0.out).mono ?_; rintro e w4 ⟨⟨u, rfl⟩, h3⟩; have HY1 := mkHid h3; clear h3 HT1 HY0))
  try go_wp2_with fail
  refine bodyPost_end (results_none rfl _ _ _) rfl ?_
  exact ⟨⟨_, rfl⟩, HY1.out⟩
theorem noW_ok (w1 : World) (x y : Value) : Calls Tryz.prog 108 #[x, y] w1 fun e w' => (∃ u, e = .returned u) ∧ w' = w1 := by
  go_enter Tryz.func108, Tryz.ntmps108
  go_wp2_with fail
  refine bodyPost_end (results_none rfl _ _ _) rfl ?_
  exact ⟨⟨_, rfl⟩, rfl⟩
end Go.Proofs.YtheolmnjedbjmaaGreatDoor


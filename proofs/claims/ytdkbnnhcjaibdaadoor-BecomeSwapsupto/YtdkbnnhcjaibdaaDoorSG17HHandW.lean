import Derived.Test.YtdkbnnhcjaibdaaDoorSG16CDefs
import Derived.Test.YtdkbnnhcjaibdaaDoorSG15CWk
import Derived.Test.YtdkbnnhcjaibdaaDoorSG14CMarked
import Derived.Test.YtdkbnnhcjaibdaaDoorSG07HRd
namespace Go.Proofs.YtdkbnnhcjaibdaaDoor
open Go.RowKit
set_option linter.unusedVariables false
def zs (l : List Nat) : List Int := l.map fun x : Nat => (x : Int)
theorem mem_zs {l : List Nat} {z : Int} : z ∈ zs l ↔ ∃ q ∈ l, (q : Int) = z := by unfold zs; exact List.mem_map
theorem mem_zs' {l : List Nat} {q : Nat} : ((q : Int)) ∈ zs l ↔ q ∈ l := by
  rw [mem_zs]
  exact ⟨fun ⟨p, h, e⟩ => by rw [show q = p from by omega]; exact h, fun h => ⟨q, h, rfl⟩⟩
theorem mem_stays {H : HS} {M : MS} (hi : Inv H M) {rs : List Nat} (hr : ∀ q ∈ rs, has H (q : Int) = true) (q : Nat) : q ∈ stays H rs ↔ q ∈ rs := by
  unfold stays
  rw [List.mem_filter, decide_eq_true_eq]
  refine ⟨fun h => h.2, fun h => ⟨?_, h⟩⟩
  have h1 := hr q h
  unfold has at h1
  have h2 := of_decide_eq_true h1
  unfold allTo
  rw [List.mem_filter, List.mem_range, decide_eq_true_eq]
  rw [show ((q : Int)).toNat = q from by omega] at h2
  exact ⟨by omega, by omega⟩
theorem KA.find {words oops mark : Nat} {l : List OI} {H : HS} {M : MS} (h : KA words oops mark (l.map oiKey) H M) (q : Nat) (hq : (M.things.getD (q - 1) noTh).there = true) (h1 : 1 ≤ q) :
    ∃ o, l.find? (fun o => decide (o.oop = (q : Int))) = some o ∧ o ∈ l ∧ o.oop = (q : Int) ∧ lk M q = o.cls :: (if o.fmt = 0 then o.slots else []) := by
  obtain ⟨k, k1, k2⟩ := h.only _ hq
  obtain ⟨o1, ho1, rfl⟩ := List.mem_map.1 k1
  have k3 : o1.oop = (q : Int) := by have : o1.oop = ((q - 1 : Nat) : Int) + 1 := k2; omega
  cases hf : l.find? (fun o => decide (o.oop = (q : Int))) with
  | none => exact absurd k3 (by simpa using List.find?_eq_none.1 hf o1 ho1)
  | some o =>
    have hm := List.mem_of_find?_eq_some hf
    have he : o.oop = (q : Int) := by simpa using List.find?_some hf
    refine ⟨o, rfl, hm, he, ?_⟩
    obtain ⟨-, b1, b2, b3, b4⟩ := h.at_ (oiKey o) (List.mem_map.2 ⟨o, hm, rfl⟩)
    have e : (oiKey o).1.toNat = q := by show o.oop.toNat = q; omega
    rw [e] at b1 b2 b3 b4
    unfold lk leadsOf
    rw [b2, b4]
    have b3' : ((M.things.getD (q - 1) noTh).fmt : Int) = o.fmt := b3
    by_cases hz : o.fmt = 0
    · rw [if_pos hz, if_pos (by omega)]; rfl
    · rw [if_neg hz, if_neg (by omega)]; rfl
theorem KA.hasK {words oops mark : Nat} {ks : List Key} {H : HS} {M : MS} (h : KA words oops mark ks H M) (k : Key) (hk : k ∈ ks) : has H k.1 = true := by
  obtain ⟨b0, b1, -⟩ := h.at_ k hk
  rw [h.inv.hasM, show k.1 = ((k.1.toNat - 1 : Nat) : Int) + 1 from by omega]
  exact mhas_of _ (there_lt b1) b1
theorem names_B {words oops mark : Nat} {l : List OI} {H : HS} {M : MS} (h : KA words oops mark (l.map oiKey) H M) {z : Int} (hz : namesS l z = true) : namesB H z = true := by
  unfold namesS at hz
  rw [Bool.and_eq_true, decide_eq_true_eq] at hz
  obtain ⟨⟨a1, a2, a3⟩, hf⟩ := hz
  obtain ⟨o, ho⟩ := Option.isSome_iff_exists.1 hf
  have hm := List.mem_of_find?_eq_some ho
  have he : o.oop = z / 4 := by simpa using List.find?_some ho
  unfold namesB
  rw [Bool.and_eq_true, decide_eq_true_eq]
  refine ⟨(kind3 z).2 ⟨a2, a1, a3⟩, ?_⟩
  rw [← he]
  exact h.hasK (oiKey o) (List.mem_map.2 ⟨o, hm, rfl⟩)
theorem sr_there {H : HS} {M : MS} (hi : Inv H M) {roots : List Int} {rs : List Nat} (hs : Sr H M roots (rs, [])) {q : Nat} (hq : q ∈ rs) : 1 ≤ q ∧ (M.things.getD (q - 1) noTh).there = true := by
  have h1 := hs.there q hq
  rw [hi.hasM] at h1
  obtain ⟨k, k1, k2, k3⟩ := mhas_yes h1
  have e : q = k + 1 := by omega
  subst e
  exact ⟨by omega, k3⟩
/-- the two halves of what closed asks -/
theorem closed_root {words oops mark : Nat} {l : List OI} {H : HS} {M : MS} (h : KA words oops mark (l.map oiKey) H M) {roots : List Int} {rs : List Nat} (hs : Sr H M roots (rs, [])) : ∀ z ∈ roots, inside l (zs (stays H rs)) z := fun z hz hn => by
  have hb := names_B h hn
  have h1 := hs.root z hz hb
  have h2 := (names_has hb).2
  rw [mem_zs]
  exact ⟨(z / 4).toNat, (mem_stays h.inv hs.there _).2 h1, by omega⟩
theorem closed_on {words oops mark : Nat} {l : List OI} {H : HS} {M : MS} (h : KA words oops mark (l.map oiKey) H M) {roots : List Int} {rs : List Nat} (hs : Sr H M roots (rs, [])) :
    ∀ q ∈ zs (stays H rs), ∃ o, l.find? (fun o => decide (o.oop = q)) = some o ∧ inside l (zs (stays H rs)) o.cls ∧ (o.fmt = 0 → ∀ z ∈ o.slots, inside l (zs (stays H rs)) z) := by
  intro q hq
  obtain ⟨n, hn, rfl⟩ := mem_zs.1 hq
  have hr := (mem_stays h.inv hs.there n).1 hn
  obtain ⟨t1, t2⟩ := sr_there h.inv hs hr
  obtain ⟨o, o1, o2, o3, o4⟩ := h.find n t2 t1
  have hon : ∀ z ∈ lk M n, namesB H z = true → (z / 4).toNat ∈ rs := by
    rcases hs.on n hr with h1 | h1
    · simp at h1
    · exact h1
  rw [o4] at hon
  have hin : ∀ z ∈ o.cls :: (if o.fmt = 0 then o.slots else []), inside l (zs (stays H rs)) z := fun z hz hnz => by
    have hb := names_B h hnz
    have h2 := (names_has hb).2
    rw [mem_zs]
    exact ⟨(z / 4).toNat, (mem_stays h.inv hs.there _).2 (hon z hz hb), by omega⟩
  exact ⟨o, o1, hin _ (by simp), fun hz z hm => hin z (by rw [if_pos hz]; simp [hm])⟩
/-- what led asks -/
theorem led_least {words oops mark : Nat} {l : List OI} {H : HS} {M : MS} (h : KA words oops mark (l.map oiKey) H M) {roots : List Int} {rs : List Nat} (hs : Sr H M roots (rs, [])) (fs : List Int) (hf : ∀ q ∈ fs, q ∈ zs (stays H rs))
    (hn : ∀ q ∈ zs (stays H rs), q ∉ fs → namedB l q fs roots = false) : ∀ q ∈ zs (stays H rs), q ∈ fs := by
  have key : ∀ z : Int, namesB H z = true → (z / 4).toNat ∈ rs → (z ∈ roots ∨ ∃ p ∈ fs, hitB l z p = true) → (((z / 4).toNat : Nat) : Int) ∈ fs := fun z hb hr hw => by
    refine Classical.byContradiction fun hno => ?_
    have h1 := hn _ (mem_zs'.2 ((mem_stays h.inv hs.there _).2 hr)) hno
    have h2 := (names_has hb).2
    unfold namesB at hb
    rw [Bool.and_eq_true, decide_eq_true_eq] at hb
    have h3 := (kind3 z).1 hb.1
    unfold namedB at h1
    rw [show 4 * (((z / 4).toNat : Nat) : Int) = z from by omega, Bool.or_eq_false_iff] at h1
    rcases hw with hw | ⟨p, p1, p2⟩
    · exact (of_decide_eq_false h1.1) hw
    · have := List.any_eq_false.1 h1.2 p p1
      exact this p2
  intro q hq
  obtain ⟨n, hn2, rfl⟩ := mem_zs.1 hq
  refine hs.least (fun q => ((q : Nat) : Int) ∈ fs) ⟨fun z hz hb => key z hb (hs.root z hz hb) (.inl hz), fun q hqf z hz hb => ?_⟩ n ((mem_stays h.inv hs.there n).1 hn2)
  have hqr := (mem_stays h.inv hs.there q).1 (mem_zs'.1 (hf _ hqf))
  obtain ⟨t1, t2⟩ := sr_there h.inv hs hqr
  obtain ⟨o, o1, o2, o3, o4⟩ := h.find q t2 t1
  have hon : (z / 4).toNat ∈ rs := by
    rcases hs.on q hqr with h1 | h1
    · simp at h1
    · exact h1 z hz hb
  refine key z hb hon (.inr ⟨(q : Int), hqf, ?_⟩)
  unfold hitB
  rw [o1]
  rw [o4] at hz
  rcases List.mem_cons.1 hz with e | hz
  · simp [e]
  · by_cases hfm : o.fmt = 0
    · rw [if_pos hfm] at hz; simp [hfm, hz]
    · rw [if_neg hfm] at hz; simp at hz
/-- behind a Run all that is there is led to -/
theorem again_all {H : HS} {M : MS} (hi : Inv H M) {roots : List Int} {rs rs2 : List Nat} (hs : Sr H M roots (rs, [])) (hI : Inv (keepH H (stays H rs)) { M with things := keptTh M.things (stays H rs) })
    (h2 : Sr (keepH H (stays H rs)) { M with things := keptTh M.things (stays H rs) } roots (rs2, [])) : stays (keepH H (stays H rs)) rs2 = allTo (keepH H (stays H rs)) (keepH H (stays H rs)).seats.length := by
  have hth : ∀ q : Nat, (({ M with things := keptTh M.things (stays H rs) } : MS).things.getD (q - 1) noTh).there = ((M.things.getD (q - 1) noTh).there && decide (q - 1 + 1 ∈ stays H rs)) := fun q => (kept_at M.things (stays H rs) (q - 1)).1
  have hhas : ∀ q : Nat, has (keepH H (stays H rs)) (q : Int) = true ↔ q ∈ rs := fun q => by
    rw [hI.hasM]
    constructor
    · intro hm
      obtain ⟨k, k1, k2, k3⟩ := mhas_yes hm
      have e : q = k + 1 := by omega
      subst e
      have := hth (k + 1)
      rw [Nat.add_sub_cancel] at this
      rw [this, Bool.and_eq_true, decide_eq_true_eq] at k3
      exact (mem_stays hi hs.there _).1 k3.2
    · intro hq
      obtain ⟨t1, t2⟩ := sr_there hi hs hq
      have := hth q
      rw [t2, show q - 1 + 1 = q from by omega, decide_eq_true ((mem_stays hi hs.there q).2 hq)] at this
      have h3 := mhas_of (M := { M with things := keptTh M.things (stays H rs) }) (q - 1) (there_lt this) this
      rw [show (((q - 1 : Nat)) : Int) + 1 = (q : Int) from by omega] at h3
      exact h3
  have hnm : ∀ z, namesB H z = true → (z / 4).toNat ∈ rs → namesB (keepH H (stays H rs)) z = true := fun z hz hr => by
    have h3 := (names_has hz).2
    unfold namesB at hz ⊢
    rw [Bool.and_eq_true] at hz ⊢
    refine ⟨hz.1, ?_⟩
    have := (hhas (z / 4).toNat).2 hr
    rw [show (((z / 4).toNat : Nat) : Int) = z / 4 from by omega] at this
    exact this
  have hall : ∀ q ∈ rs, q ∈ rs2 := hs.least (fun q => q ∈ rs2) ⟨fun z hz hb => h2.root z hz (hnm z hb (hs.root z hz hb)), fun q hq z hz hb => by
    have hqr : q ∈ rs := (hhas q).1 (h2.there q hq)
    have hzr : (z / 4).toNat ∈ rs := by
      rcases hs.on q hqr with h1 | h1
      · simp at h1
      · exact h1 z hz hb
    have hlk : lk { M with things := keptTh M.things (stays H rs) } q = lk M q := by
      obtain ⟨-, c2, c3, c4⟩ := kept_at M.things (stays H rs) (q - 1)
      unfold lk leadsOf
      show ((keptTh M.things (stays H rs)).getD (q - 1) noTh).cls :: (if ((keptTh M.things (stays H rs)).getD (q - 1) noTh).fmt = 0 then ((keptTh M.things (stays H rs)).getD (q - 1) noTh).slots else []) = _
      rw [c2, c3, c4]
    rcases h2.on q hq with h1 | h1
    · simp at h1
    · exact h1 z (by rw [hlk]; exact hz) (hnm z hb hzr)⟩
  unfold stays
  rw [List.filter_eq_self]
  intro q hq
  have h3 := all_has hI hq
  exact decide_eq_true (hall q ((hhas q).1 h3))
/-- what a Run leaves -/
theorem run_all {H : HS} {M : MS} (hi : Inv H M) (rs : List Nat) (hI : Inv (keepH H (stays H rs)) { M with things := keptTh M.things (stays H rs) }) : allTo (keepH H (stays H rs)) (keepH H (stays H rs)).seats.length = stays H rs := by
  rw [keep_all hi _ hI]
  unfold stays
  refine List.filter_congr fun q hq => ?_
  rw [Bool.eq_iff_iff, decide_eq_true_eq, decide_eq_true_eq, List.mem_filter, decide_eq_true_eq]
  exact ⟨fun h => h.2, fun h => ⟨hq, h⟩⟩
theorem keep_all_keys {words oops mark : Nat} {ks : List Key} {H : HS} {M : MS} (h : KA words oops mark ks H M) : (ks.filter fun k => decide (k.1.toNat ∈ allTo H H.seats.length)) = ks := by
  rw [List.filter_eq_self]
  intro k hk
  obtain ⟨b0, b1, -⟩ := h.at_ k hk
  exact decide_eq_true ((mem_all h.inv _).2 ⟨by omega, b1⟩)
theorem rise_filter (p : Nat → Bool) (n : Nat) : ∀ k, 0 < k → k < ((List.range n).filter p).length → ((List.range n).filter p).getD (k - 1) 0 < ((List.range n).filter p).getD k 0 := by
  intro k h0 hk
  have hp : ((List.range n).filter p).Pairwise (· < ·) := List.Pairwise.filter _ List.pairwise_lt_range
  have := List.pairwise_iff_getElem.1 hp (k - 1) k (by omega) hk (by omega)
  rw [List.getD_eq_getElem?_getD, List.getElem?_eq_getElem (by omega), List.getD_eq_getElem?_getD, List.getElem?_eq_getElem hk]
  exact this
theorem stays_eq (H : HS) (rs : List Nat) : stays H rs = (List.range H.seats.length).filter (fun o => decide (o ∈ rs) && decide (0 < (H.seats.getD o (0, 0, 0)).2.1)) := by
  unfold stays allTo
  rw [List.filter_filter]
theorem stays_rise (H : HS) (rs : List Nat) : ∀ k, 0 < k → k < (zs (stays H rs)).length → (zs (stays H rs)).getD (k - 1) 0 < (zs (stays H rs)).getD k 0 := by
  intro k h0 hk
  unfold zs at hk ⊢
  rw [List.length_map] at hk
  have h1 := rise_filter (fun o => decide (o ∈ rs) && decide (0 < (H.seats.getD o (0, 0, 0)).2.1)) H.seats.length k h0 (by rw [← stays_eq]; exact hk)
  rw [← stays_eq] at h1
  rw [List.getD_eq_getElem?_getD, List.getElem?_map, List.getElem?_eq_getElem (by omega), List.getD_eq_getElem?_getD, List.getElem?_map, List.getElem?_eq_getElem hk]
  rw [List.getD_eq_getElem?_getD, List.getElem?_eq_getElem (by omega), List.getD_eq_getElem?_getD, List.getElem?_eq_getElem hk] at h1
  simp only [Option.getD_some, Option.map_some] at h1 ⊢
  omega
theorem stays_nodup (H : HS) (rs : List Nat) : (stays H rs).Nodup := List.Pairwise.filter _ (allTo_nodup H _)
end Go.Proofs.YtdkbnnhcjaibdaaDoor

namespace Go.Proofs.YtdkbnnhcjaibdaaDoor
open Go.RowKit
set_option linter.unusedVariables false
attribute [local go_sem ↓] Go.wp_at_zero Go.wp_at_succ
/-- a list of oops of one's own, laid since w0 -/
structure Mine (w0 wr : World) (v : Value) (ls : List Nat) : Prop where
  own : wr.ownsRow w0.heap.size 3 1 v ls.length (ls.map I)
  fr : Fr [] w0 wr
theorem Mine.nil (w : World) : Mine w w (.slice none 0 0) [] := ⟨World.ownsRow_nil _ _ _ _, Fr.refl _ _⟩
theorem Mine.idle {w0 wr V : World} {v : Value} {ls : List Nat} (h : Mine w0 wr v ls) (hf : Fr [] wr V) : Mine w0 V v ls :=
  ⟨own_congr h.own fun g hg => hf.block g (h.own.lt g hg).2 (by simp), h.fr.trans hf (by simp)⟩
theorem Mine.grow {w0 wr w1 : World} {v v' : Value} {ls : List Nat} {m : Nat} {o : Obj} (h : Mine w0 wr v ls) (hown : w1.ownsRow w0.heap.size 3 1 v' (ls.length + 1) (ls.map I ++ [I m])) (hg : (wr.alloc o).grownBy w1 v.ownBlock) : Mine w0 w1 v' (ls ++ [m]) := by
  refine ⟨by simpa using hown, ?_⟩
  have h1 : Fr [] w0 (wr.alloc o) := h.fr.trans (Fr.alloc [] _ _) (by simp)
  refine ⟨hg.os.trans h1.os, hg.tape.trans h1.tape, hg.output.trans h1.output, Nat.le_trans h1.size hg.size, fun i hi hni => ?_⟩
  rw [hg.block i (Nat.lt_of_lt_of_le hi h1.size) (fun e => by have := (h.own.lt i e.symm).1; omega)]
  exact h1.block i hi hni
theorem Mine.is {w0 wr : World} {v : Value} {ls : List Nat} (h : Mine w0 wr v ls) : ∃ p c, v = .slice p ls.length c := by
  rcases h.own.2 with ⟨h2, h3⟩ | ⟨g, cap, cur, h2, h3⟩
  · exact ⟨none, 0, by rw [h2, h3]⟩
  · exact ⟨_, cap, h2⟩
theorem I_map (ls : List Nat) : ls.map I = (ls.map fun x : Nat => (x : Int)).map (Value.int .i64) := by rw [List.map_map]; rfl
theorem Mine.rd {w0 wr : World} {v : Value} {ls : List Nat} (h : Mine w0 wr v ls) (hl : ls.length ≤ 1048576) : Rd wr v (zs ls) := by
  have h1 := h.own
  rw [I_map] at h1
  have e : (zs ls).length = ls.length := by simp [zs]
  have h2 : wr.ownsRow w0.heap.size 3 1 v (zs ls).length ((zs ls).map (Value.int .i64)) := by rw [e]; exact h1
  exact own_rd h2 (by omega)
theorem Mine.cell {w0 wr : World} {v : Value} {ls : List Nat} (h : Mine w0 wr v ls) (k : Nat) (hk : k < ls.length) : ∃ g c, v = .slice (some ⟨g, 0, none⟩) ls.length c ∧ wr.cell? ⟨g, k, none⟩ = some (.int .i64 (ls.getD k 0 : Nat)) := by
  rcases h.own.2 with ⟨h2, h3⟩ | ⟨g, cap, cur, h2, h3⟩
  · omega
  · refine ⟨g, cap, h2, ?_⟩
    have h1 := h.own
    rw [h2] at h1
    rw [h1.cellAt k (by omega), List.getElem?_map, List.getD_eq_getElem?_getD, List.getElem?_eq_getElem hk]
    rfl
def addL (ls : List Nat) (m : Nat) : List Nat := if m = 0 ∨ m ∈ ls then ls else ls ++ [m]
end Go.Proofs.YtdkbnnhcjaibdaaDoor

namespace Go.Proofs.YtdkbnnhcjaibdaaDoor
open Go.RowKit
set_option linter.unusedVariables false
theorem nam_yes {H : HS} {z : Int} (h : namesB H z = true) : namN H z = (z / 4).toNat ∧ namN H z ≠ 0 := by
  have h1 := names_has h
  unfold namN
  rw [if_pos h]
  refine ⟨rfl, fun e => ?_⟩
  unfold namesB at h
  rw [Bool.and_eq_true, decide_eq_true_eq] at h
  have := (kind3 z).1 h.1
  omega
theorem seen_add (H : HS) (rs : List Nat) (t : Nat) (ht : t ≤ rs.length) (z : Int) : seen1 H (rs, rs.drop t) z = (addL rs (namN H z), (addL rs (namN H z)).drop t) := by
  unfold seen1 addL
  by_cases hn : namesB H z = true
  · obtain ⟨e1, e2⟩ := nam_yes hn
    rw [e1] at e2 ⊢
    by_cases hm : (z / 4).toNat ∈ rs
    · rw [if_neg (fun h => h.2 hm), if_pos (.inr hm)]
    · rw [if_pos ⟨hn, hm⟩, if_neg (fun h => by rcases h with h | h; exact e2 h; exact hm h)]
      rw [List.drop_append_of_le_length ht]
  · have e : namN H z = 0 := by unfold namN; rw [if_neg hn]
    rw [if_neg (fun h => hn h.1), e, if_pos (.inl rfl)]
/-- words met one after the other -/
def adds (H : HS) (rs : List Nat) (l : List Int) : List Nat := l.foldl (fun s z => addL s (namN H z)) rs
theorem addL_len (rs : List Nat) (m : Nat) : rs.length ≤ (addL rs m).length := by unfold addL; split <;> simp
theorem addL_get (rs : List Nat) (m t : Nat) (ht : t < rs.length) : (addL rs m).getD t 0 = rs.getD t 0 := by
  unfold addL
  split
  · rfl
  · rw [List.getD_eq_getElem?_getD, List.getElem?_append_left ht, ← List.getD_eq_getElem?_getD]
theorem fold_add (H : HS) (t : Nat) : ∀ (l : List Int) (rs : List Nat), t ≤ rs.length → l.foldl (seen1 H) (rs, rs.drop t) = (adds H rs l, (adds H rs l).drop t)
  | [], rs, _ => rfl
  | z :: l, rs, ht => by
    rw [List.foldl_cons, seen_add H rs t ht z]
    have := addL_len rs (namN H z)
    rw [fold_add H t l _ (by omega)]
    rfl
theorem adds_len (H : HS) : ∀ (l : List Int) (rs : List Nat), rs.length ≤ (adds H rs l).length
  | [], rs => Nat.le_refl _
  | z :: l, rs => Nat.le_trans (addL_len rs (namN H z)) (adds_len H l _)
theorem adds_get (H : HS) (t : Nat) : ∀ (l : List Int) (rs : List Nat), t < rs.length → (adds H rs l).getD t 0 = rs.getD t 0
  | [], rs, _ => rfl
  | z :: l, rs, ht => by
    have := addL_len rs (namN H z)
    show (adds H (addL rs (namN H z)) l).getD t 0 = _
    rw [adds_get H t l _ (by omega), addL_get rs _ t ht]
theorem adds_snoc (H : HS) (rs : List Nat) (l : List Int) (z : Int) : adds H rs (l ++ [z]) = addL (adds H rs l) (namN H z) := by
  unfold adds
  rw [List.foldl_append]
  rfl
theorem adds_cons (H : HS) (rs : List Nat) (l : List Int) (z : Int) : adds H rs (z :: l) = adds H (addL rs (namN H z)) l := rfl
/-- oops that are there, each once -/
structure Fnd (H : HS) (rs : List Nat) : Prop where
  nd : rs.Nodup
  th : ∀ q ∈ rs, has H (q : Int) = true
theorem Fnd.nil (H : HS) : Fnd H [] := ⟨by simp, by simp⟩
theorem Fnd.len {H : HS} {rs : List Nat} (h : Fnd H rs) : rs.length ≤ H.seats.length :=
  nodup_len _ _ h.nd fun q hq => by
    have := of_decide_eq_true (h.th q hq)
    omega
theorem Fnd.add {H : HS} {rs : List Nat} (h : Fnd H rs) (z : Int) : Fnd H (addL rs (namN H z)) := by
  unfold addL
  split
  · exact h
  · rename_i hc
    have hn : namesB H z = true := Classical.byContradiction fun hn => hc (.inl (by unfold namN; rw [if_neg hn]))
    obtain ⟨e1, e2⟩ := nam_yes hn
    refine ⟨nodup_snoc h.nd (fun hm => hc (.inr hm)), fun q hq => ?_⟩
    rcases List.mem_append.1 hq with h1 | h1
    · exact h.th q h1
    · rw [List.mem_singleton.1 h1, e1]
      exact (names_has hn).1
theorem Fnd.adds {H : HS} : ∀ (l : List Int) {rs : List Nat}, Fnd H rs → Fnd H (adds H rs l)
  | [], _, h => h
  | z :: l, _, h => Fnd.adds l (h.add z)
/-- the search, the first of those ahead taken -/
theorem Sr.pop {H : HS} {M : MS} {roots : List Int} {rs ah : List Nat} {q : Nat} (h : Sr H M roots (rs, q :: ah)) (hq : q ∈ rs) : Sr H M roots ((lk M q).foldl (seen1 H) (rs, ah)) := by
  obtain ⟨a1, a2, a3, a4⟩ := fold_all H (lk M q) (rs, ah)
  refine ⟨fun p hp => ?_, fun z hz hn => a1 _ (h.root z hz hn), fun p hp => ?_, fun X hX p hp => ?_⟩
  · rcases a3 p hp with h1 | ⟨_, z, _, h1, h2⟩
    · exact h.there p h1
    · rw [h2]; exact (names_has h1).1
  · rcases a3 p hp with h1 | ⟨h1, _⟩
    · by_cases e : p = q
      · right; intro z hz hn; rw [e] at hz; exact a4 z hz hn
      · rcases h.on p h1 with h2 | h2
        · left
          rcases List.mem_cons.1 h2 with h3 | h3
          · exact absurd h3 e
          · exact a2 p h3
        · right; intro z hz hn; exact a1 _ (h2 z hz hn)
    · exact .inl h1
  · rcases a3 p hp with h1 | ⟨_, z, hz, h1, h2⟩
    · exact h.least X hX p h1
    · rw [h2]; exact hX.on q (h.least X hX q hq) z hz h1
theorem sr_start (H : HS) (M : MS) (roots : List Int) : Sr H M roots (adds H [] roots, (adds H [] roots).drop 0) := by
  have := Sr.start H M roots
  have e := fold_add H 0 roots [] (Nat.le_refl _)
  rw [List.drop_zero] at e
  rw [e] at this
  exact this
theorem sr_step {H : HS} {M : MS} {roots : List Int} {rs : List Nat} {t : Nat} (ht : t < rs.length) (h : Sr H M roots (rs, rs.drop t)) : Sr H M roots (adds H rs (lk M (rs.getD t 0)), (adds H rs (lk M (rs.getD t 0))).drop (t + 1)) := by
  have e1 : rs.getD t 0 = rs[t] := by rw [List.getD_eq_getElem?_getD, List.getElem?_eq_getElem ht]; rfl
  rw [List.drop_eq_getElem_cons ht] at h
  have := h.pop (List.getElem_mem ht)
  rw [fold_add H (t + 1) _ rs ht] at this
  rw [e1]
  exact this
end Go.Proofs.YtdkbnnhcjaibdaaDoor

namespace Go.Proofs.YtdkbnnhcjaibdaaDoor
open Go.RowKit
set_option linter.unusedVariables false
attribute [local go_sem ↓] Go.wp_at_zero Go.wp_at_succ
theorem take_get {α : Type} (l : List α) (d : α) (k : Nat) (hk : k < l.length) : l.take (k + 1) = l.take k ++ [l.getD k d] := by
  rw [List.take_succ_eq_append_getElem hk, List.getD_eq_getElem?_getD, List.getElem?_eq_getElem hk]; rfl
end Go.Proofs.YtdkbnnhcjaibdaaDoor

namespace Go.Proofs.YtdkbnnhcjaibdaaDoor
open Go.RowKit
set_option linter.unusedVariables false
/-- an object of a state in memory of its own, marks behind its slots -/
structure HG where
  oop : Int
  cls : Int
  fmt : Int
  slots : List Int
  g : Nat
  cap : Nat
def hg4 (x : HG) : List Value := [.int .i64 x.oop, .int .i64 x.cls, .int .i64 x.fmt, .slice (some ⟨x.g, 0, none⟩) x.slots.length x.cap]
def hgCells (l : List HG) : List Value := l.flatMap hg4
def hgKey (x : HG) : Int × Int × Int × List Int := (x.oop, x.cls, x.fmt, x.slots)
theorem hgCells_append (l : List HG) (o : HG) : hgCells (l ++ [o]) = hgCells l ++ hg4 o := by simp [hgCells]
theorem hgCells_len (l : List HG) : (hgCells l).length = l.length * 4 := by
  induction l with
  | nil => rfl
  | cons x l ih =>
    show (hg4 x ++ hgCells l).length = _
    rw [List.length_append, ih]
    simp [hg4]; omega
def hgTail (x : HG) : List Value := (x.slots ++ [-77, -78]).map (Value.int .i64)
/-- a copy of the first objects of a state is being made -/
structure Hd (w W : World) (lv : Value) (gs : List HG) : Prop where
  fr : Fr [] w W
  row : W.ownsRow (w.heap.size + 2) 76 4 lv gs.length (hgCells gs)
  slots : ∀ x ∈ gs, W.ownsRow (w.heap.size + 2) 35 1 (.slice (some ⟨x.g, 0, none⟩) (x.slots.length + 2) x.cap) (x.slots.length + 2) (hgTail x)
  apart : (gs.map HG.g).Nodup
theorem Hd.idle {w W V : World} {lv : Value} {gs : List HG} (h : Hd w W lv gs) (hf : Fr [] W V) : Hd w V lv gs :=
  ⟨h.fr.trans hf (by simp), own_congr h.row fun g hg => hf.block g (h.row.lt g hg).2 (by simp), fun x hx => own_congr (h.slots x hx) fun g hg => hf.block g ((h.slots x hx).lt g hg).2 (by simp), h.apart⟩
theorem own_type {w : World} {b1 b2 : Nat} {t1 t2 : TypeId} {s1 s2 : Nat} {v1 v2 : Value} {n1 n2 : Nat} {x1 x2 : List Value} (h1 : w.ownsRow b1 t1 s1 v1 n1 x1) (h2 : w.ownsRow b2 t2 s2 v2 n2 x2) (ht : t1 ≠ t2) {g : Nat} (e1 : v1.ownBlock = some g) (e2 : v2.ownBlock = some g) : False := by
  rcases h1.2 with ⟨q1, _⟩ | ⟨g1, cap1, cur1, q1, q2, q3, _⟩
  · rw [q1] at e1; simp [Value.ownBlock] at e1
  · rcases h2.2 with ⟨r1, _⟩ | ⟨g2, cap2, cur2, r1, r2, r3, _⟩
    · rw [r1] at e2; simp [Value.ownBlock] at e2
    · rw [q1] at e1
      rw [r1] at e2
      have a1 : g1 = g := by simpa [Value.ownBlock] using e1
      have a2 : g2 = g := by simpa [Value.ownBlock] using e2
      subst a1
      subst a2
      rw [q3] at r3
      simp at r3
      exact ht r3.2
/-- one object more -/
theorem Hd.next {w W V W2 : World} {lv lv' : Value} {gs : List HG} {x : HG} (h : Hd w W lv gs) (hV : Fr [] W V) (ho : V.ownsRow W.heap.size 35 1 (.slice (some ⟨x.g, 0, none⟩) (x.slots.length + 2) x.cap) (x.slots.length + 2) (hgTail x)) (hW : w.heap.size + 2 ≤ W.heap.size)
    (hg : V.grownBy W2 lv.ownBlock) (hown : W2.ownsRow (w.heap.size + 2) 76 4 lv' (gs.length + 1) (hgCells gs ++ hg4 x)) : Hd w W2 lv' (gs ++ [x]) := by
  have h1 := h.idle hV
  have hb : ∀ b, lv.ownBlock = some b → w.heap.size + 2 ≤ b := fun b hb => (h.row.lt b hb).1
  have hsl : ∀ y : HG, V.ownsRow (w.heap.size + 2) 35 1 (.slice (some ⟨y.g, 0, none⟩) (y.slots.length + 2) y.cap) (y.slots.length + 2) (hgTail y) → W2.ownsRow (w.heap.size + 2) 35 1 (.slice (some ⟨y.g, 0, none⟩) (y.slots.length + 2) y.cap) (y.slots.length + 2) (hgTail y) := fun y hy =>
    own_congr hy fun g hgg => hg.block g (hy.lt g hgg).2 (fun e => own_type hy h1.row (by decide) hgg e.symm)
  have ho' := own_base ho (show w.heap.size + 2 ≤ W.heap.size from hW)
  refine ⟨?_, by rw [List.length_append, hgCells_append]; exact hown, fun y hy => ?_, ?_⟩
  · exact (h1.fr).trans (Fr.grown (S := (lv.ownBlock).toList) hg (fun k hk => by rw [hk]; simp)) (fun b hb' => by
      right
      have : lv.ownBlock = some b := by
        cases hl : lv.ownBlock with
        | none => rw [hl] at hb'; simp at hb'
        | some z => rw [hl] at hb'; simp at hb'; rw [hb']
      have := hb b this
      omega)
  · rcases List.mem_append.1 hy with h2 | h2
    · exact hsl y (h1.slots y h2)
    · have e : y = x := by simpa using h2
      rw [e]
      exact hsl x ho'
  · rw [List.map_append, List.nodup_append]
    refine ⟨h.apart, by simp, fun a ha b hb2 => ?_⟩
    have e : b = x.g := by simpa using hb2
    obtain ⟨y, hy, rfl⟩ := List.mem_map.1 ha
    have h3 := ((h.slots y hy).lt y.g rfl).2
    have h4 := (ho.lt x.g rfl).1
    omega
end Go.Proofs.YtdkbnnhcjaibdaaDoor


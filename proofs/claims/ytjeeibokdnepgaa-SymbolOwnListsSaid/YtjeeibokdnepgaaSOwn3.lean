import Derived.Test.YtjeeibokdnepgaaSOwn2
namespace Go.Proofs.Ytjeeibokdnepgaa
open Go.RowKit Go.Maps Go.WideMaps
set_option linter.unusedVariables false
set_option linter.unusedSimpArgs false
section
variable {w0 Wb W W' : World} {o7 o8 : Option Addr} {xs ys : List Value} {p7 p8 : Option Addr} {c7 c8 : Nat} {E : List Nat} {T : List ByteArray} {p5 p6 pw : Option Addr} {c5 c6 cw : Nat}
/-- both answers of All, and what is wanted, ahead of any writing -/
structure Q1 (w0 Wb W : World) (o7 o8 : Option Addr) (xs ys : List Value) (p7 : Option Addr) (c7 : Nat) (p8 : Option Addr) (c8 : Nat) (E : List Nat) (T : List ByteArray) (p5 : Option Addr) (c5 : Nat) (p6 : Option Addr) (c6 : Nat) (pw : Option Addr) (cw : Nat) : Prop where
  st : ST w0 Wb W o7 o8 xs ys p7 c7 p8 c8 E
  row5 : W.ownsRow Wb.heap.size 9 1 (.slice p5 T.length c5) T.length (T.map Value.string)
  row6 : W.ownsRow Wb.heap.size 9 1 (.slice p6 T.length c6) T.length (T.map Value.string)
  want : RdS W (.slice pw T.length cw) T
  in5 : ∀ g ∈ blk p5, g ∈ E
  in6 : ∀ g ∈ blk p6, g ∈ E
  inw : ∀ g ∈ blk pw, g ∈ E
  d56 : ∀ g ∈ blk p5, g ∉ blk p6
  d5w : ∀ g ∈ blk p5, g ∉ blk pw
  len : T.length ≤ 4096
theorem Q1.kept (h : Q1 w0 Wb W o7 o8 xs ys p7 c7 p8 c8 E T p5 c5 p6 c6 pw cw) {xs' ys' : List Value} {p7' p8' : Option Addr} {c7' c8' : Nat} (k : ST w0 Wb W' o7 o8 xs' ys' p7' c7' p8' c8' E) (hb : ∀ g ∈ E, W'.heap[g]? = W.heap[g]?) : Q1 w0 Wb W' o7 o8 xs' ys' p7' c7' p8' c8' E T p5 c5 p6 c6 pw cw :=
  ⟨k, own_congr h.row5 (fun g hg => hb g (h.in5 g ((blk_own _ _ _ _).1 hg))), own_congr h.row6 (fun g hg => hb g (h.in6 g ((blk_own _ _ _ _).1 hg))), h.want.congr (fun g hg => hb g (h.inw g ((blk_own _ _ _ _).1 hg))), h.in5, h.in6, h.inw, h.d56, h.d5w, h.len⟩
theorem Q1.idle (h : Q1 w0 Wb W o7 o8 xs ys p7 c7 p8 c8 E T p5 c5 p6 c6 pw cw) (hf : Fr [] W W') : Q1 w0 Wb W' o7 o8 xs ys p7 c7 p8 c8 E T p5 c5 p6 c6 pw cw := h.kept (h.st.idle hf) (fun g hg => hf.block g (h.st.eE g hg).2 (by simp))
theorem Q1.push7 (h : Q1 w0 Wb W o7 o8 xs ys p7 c7 p8 c8 E T p5 c5 p6 c6 pw cw) (x : Value) (hx : x.oneCell' = true) (hb : xs.length + 1 ≤ 8796093022208) :
    ∃ p' c' W', (Builtin.append_ #[63, 63] 63 #[.slice p7 xs.length c7, .slice (some ⟨W.heap.size, 0, none⟩) 1 1]).run Try.prog (W.alloc (.cells #[x] 22)) = .ok (.slice p' (xs.length + 1) c') W' ∧ Q1 w0 Wb W' o7 o8 (xs ++ [x]) ys p' c' p8 c8 E T p5 c5 p6 c6 pw cw := by
  obtain ⟨p', c', W', r1, r2, r3⟩ := h.st.push7 x hx hb
  exact ⟨p', c', W', r1, h.kept r2 r3⟩
/-- the first one is written full -/
structure Q2 (w0 Wb W : World) (o7 o8 : Option Addr) (xs ys : List Value) (p7 : Option Addr) (c7 : Nat) (p8 : Option Addr) (c8 : Nat) (E : List Nat) (T : List ByteArray) (p5 : Option Addr) (c5 : Nat) (p6 : Option Addr) (c6 : Nat) (pw : Option Addr) (cw : Nat) (q : Option Addr) (d : Nat) (m : ByteArray) : Prop where
  st : ST w0 Wb W o7 o8 xs ys p7 c7 p8 c8 E
  rd : RdS W (.slice p5 T.length c5) (List.replicate T.length m)
  rdy : RdS W (.slice q (T.length + 64) d) (List.replicate (T.length + 64) m)
  row6 : W.ownsRow Wb.heap.size 9 1 (.slice p6 T.length c6) T.length (T.map Value.string)
  want : RdS W (.slice pw T.length cw) T
  in5 : ∀ g ∈ blk p5, g ∈ E
  inq : ∀ g ∈ blk q, g ∈ E
  in6 : ∀ g ∈ blk p6, g ∈ E
  inw : ∀ g ∈ blk pw, g ∈ E
  d56 : ∀ g ∈ blk p5, g ∉ blk p6
  dq6 : ∀ g ∈ blk q, g ∉ blk p6
  len : T.length ≤ 4096
theorem fl_rdy {w : World} {base n c : Nat} {p : Option Addr} {m : ByteArray} {q : Option Addr} {d : Nat} (k : Fl w W base p n c m q d 64) (hn : n ≤ 4096) : RdS W (.slice q (n + 64) d) (List.replicate (n + 64) m) := by
  have := own_rd k.row (by simp; omega)
  rwa [List.length_replicate] at this
theorem Q1.fill (h : Q1 w0 Wb W o7 o8 xs ys p7 c7 p8 c8 E T p5 c5 p6 c6 pw cw) {base : Nat} {m : ByteArray} {q : Option Addr} {d : Nat} (k : Fl W W' base p5 T.length c5 m q d 64) : Q2 w0 Wb W' o7 o8 xs ys p7 c7 p8 c8 (E ++ blk q) T p5 c5 p6 c6 pw cw q d m := by
  obtain ⟨k1, k2⟩ := h.st.filled k h.in5
  have h6 : ∀ g ∈ blk p6, g ∉ blk p5 := fun g hg hm => h.d56 g hm hg
  have hw : ∀ g ∈ blk pw, g ∉ blk p5 := fun g hg hm => h.d5w g hm hg
  refine ⟨k1, k.rd, fl_rdy k h.len, own_congr h.row6 (fun g hg => k2 g (h.in6 g ((blk_own _ _ _ _).1 hg)) (h6 g ((blk_own _ _ _ _).1 hg))), h.want.congr (fun g hg => k2 g (h.inw g ((blk_own _ _ _ _).1 hg)) (hw g ((blk_own _ _ _ _).1 hg))), fun g hg => List.mem_append_left _ (h.in5 g hg), fun g hg => List.mem_append_right _ hg, fun g hg => List.mem_append_left _ (h.in6 g hg), fun g hg => List.mem_append_left _ (h.inw g hg), h.d56, fun g hg hm => ?_, h.len⟩
  rcases k.new g hg with h1 | h1
  · exact h.d56 g h1 hm
  · have := (h.st.eE g (h.in6 g hm)).2; omega
theorem Q2.kept {q : Option Addr} {d : Nat} {m : ByteArray} (h : Q2 w0 Wb W o7 o8 xs ys p7 c7 p8 c8 E T p5 c5 p6 c6 pw cw q d m) {xs' ys' : List Value} {p7' p8' : Option Addr} {c7' c8' : Nat} (k : ST w0 Wb W' o7 o8 xs' ys' p7' c7' p8' c8' E) (hb : ∀ g ∈ E, W'.heap[g]? = W.heap[g]?) : Q2 w0 Wb W' o7 o8 xs' ys' p7' c7' p8' c8' E T p5 c5 p6 c6 pw cw q d m :=
  ⟨k, h.rd.congr (fun g hg => hb g (h.in5 g ((blk_own _ _ _ _).1 hg))), h.rdy.congr (fun g hg => hb g (h.inq g ((blk_own _ _ _ _).1 hg))), own_congr h.row6 (fun g hg => hb g (h.in6 g ((blk_own _ _ _ _).1 hg))), h.want.congr (fun g hg => hb g (h.inw g ((blk_own _ _ _ _).1 hg))), h.in5, h.inq, h.in6, h.inw, h.d56, h.dq6, h.len⟩
theorem Q2.idle {q : Option Addr} {d : Nat} {m : ByteArray} (h : Q2 w0 Wb W o7 o8 xs ys p7 c7 p8 c8 E T p5 c5 p6 c6 pw cw q d m) (hf : Fr [] W W') : Q2 w0 Wb W' o7 o8 xs ys p7 c7 p8 c8 E T p5 c5 p6 c6 pw cw q d m := h.kept (h.st.idle hf) (fun g hg => hf.block g (h.st.eE g hg).2 (by simp))
theorem Q2.push7 {q : Option Addr} {d : Nat} {m : ByteArray} (h : Q2 w0 Wb W o7 o8 xs ys p7 c7 p8 c8 E T p5 c5 p6 c6 pw cw q d m) (x : Value) (hx : x.oneCell' = true) (hb : xs.length + 1 ≤ 8796093022208) :
    ∃ p' c' W', (Builtin.append_ #[63, 63] 63 #[.slice p7 xs.length c7, .slice (some ⟨W.heap.size, 0, none⟩) 1 1]).run Try.prog (W.alloc (.cells #[x] 22)) = .ok (.slice p' (xs.length + 1) c') W' ∧ Q2 w0 Wb W' o7 o8 (xs ++ [x]) ys p' c' p8 c8 E T p5 c5 p6 c6 pw cw q d m := by
  obtain ⟨p', c', W', r1, r2, r3⟩ := h.st.push7 x hx hb
  exact ⟨p', c', W', r1, h.kept r2 r3⟩
theorem Q2.push8 {q : Option Addr} {d : Nat} {m : ByteArray} (h : Q2 w0 Wb W o7 o8 xs ys p7 c7 p8 c8 E T p5 c5 p6 c6 pw cw q d m) (x : Value) (hx : x.oneCell' = true) (hb : ys.length + 1 ≤ 8796093022208) :
    ∃ p' c' W', (Builtin.append_ #[63, 63] 63 #[.slice p8 ys.length c8, .slice (some ⟨W.heap.size, 0, none⟩) 1 1]).run Try.prog (W.alloc (.cells #[x] 22)) = .ok (.slice p' (ys.length + 1) c') W' ∧ Q2 w0 Wb W' o7 o8 xs (ys ++ [x]) p7 c7 p' c' E T p5 c5 p6 c6 pw cw q d m := by
  obtain ⟨p', c', W', r1, r2, r3⟩ := h.st.push8 x hx hb
  exact ⟨p', c', W', r1, h.kept r2 r3⟩
/-- both are written full -/
structure Q3 (w0 Wb W : World) (o7 o8 : Option Addr) (xs ys : List Value) (p7 : Option Addr) (c7 : Nat) (p8 : Option Addr) (c8 : Nat) (E : List Nat) (n : Nat) (p5 : Option Addr) (c5 : Nat) (p6 : Option Addr) (c6 : Nat) (q : Option Addr) (d : Nat) (m : ByteArray) (q' : Option Addr) (d' : Nat) (m' : ByteArray) : Prop where
  st : ST w0 Wb W o7 o8 xs ys p7 c7 p8 c8 E
  rd : RdS W (.slice p5 n c5) (List.replicate n m)
  rdy : RdS W (.slice q (n + 64) d) (List.replicate (n + 64) m)
  rd' : RdS W (.slice p6 n c6) (List.replicate n m')
  rdy' : RdS W (.slice q' (n + 64) d') (List.replicate (n + 64) m')
  in5 : ∀ g ∈ blk p5 ++ blk q, g ∈ E
  in6 : ∀ g ∈ blk p6 ++ blk q', g ∈ E
  len : n ≤ 4096
theorem Q2.fill {q : Option Addr} {d : Nat} {m : ByteArray} (h : Q2 w0 Wb W o7 o8 xs ys p7 c7 p8 c8 E T p5 c5 p6 c6 pw cw q d m) {base : Nat} {m' : ByteArray} {q' : Option Addr} {d' : Nat} (k : Fl W W' base p6 T.length c6 m' q' d' 64) : Q3 w0 Wb W' o7 o8 xs ys p7 c7 p8 c8 (E ++ blk q') T.length p5 c5 p6 c6 q d m q' d' m' := by
  obtain ⟨k1, k2⟩ := h.st.filled k h.in6
  refine ⟨k1, h.rd.congr (fun g hg => k2 g (h.in5 g ((blk_own _ _ _ _).1 hg)) (h.d56 g ((blk_own _ _ _ _).1 hg))), h.rdy.congr (fun g hg => k2 g (h.inq g ((blk_own _ _ _ _).1 hg)) (h.dq6 g ((blk_own _ _ _ _).1 hg))), k.rd, fl_rdy k h.len, fun g hg => ?_, fun g hg => ?_, h.len⟩
  · rcases List.mem_append.1 hg with h1 | h1
    · exact List.mem_append_left _ (h.in5 g h1)
    · exact List.mem_append_left _ (h.inq g h1)
  · rcases List.mem_append.1 hg with h1 | h1
    · exact List.mem_append_left _ (h.in6 g h1)
    · exact List.mem_append_right _ h1
theorem Q3.push8 {n : Nat} {q q' : Option Addr} {d d' : Nat} {m m' : ByteArray} (h : Q3 w0 Wb W o7 o8 xs ys p7 c7 p8 c8 E n p5 c5 p6 c6 q d m q' d' m') (x : Value) (hx : x.oneCell' = true) (hb : ys.length + 1 ≤ 8796093022208) :
    ∃ p' c' W', (Builtin.append_ #[63, 63] 63 #[.slice p8 ys.length c8, .slice (some ⟨W.heap.size, 0, none⟩) 1 1]).run Try.prog (W.alloc (.cells #[x] 22)) = .ok (.slice p' (ys.length + 1) c') W' ∧ Q3 w0 Wb W' o7 o8 xs (ys ++ [x]) p7 c7 p' c' E n p5 c5 p6 c6 q d m q' d' m' := by
  obtain ⟨p', c', W', r1, r2, r3⟩ := h.st.push8 x hx hb
  refine ⟨p', c', W', r1, r2, h.rd.congr (fun g hg => r3 g (h.in5 g (List.mem_append_left _ ((blk_own _ _ _ _).1 hg)))), h.rdy.congr (fun g hg => r3 g (h.in5 g (List.mem_append_right _ ((blk_own _ _ _ _).1 hg)))), h.rd'.congr (fun g hg => r3 g (h.in6 g (List.mem_append_left _ ((blk_own _ _ _ _).1 hg)))), h.rdy'.congr (fun g hg => r3 g (h.in6 g (List.mem_append_right _ ((blk_own _ _ _ _).1 hg)))), h.in5, h.in6, h.len⟩
end
/-- a round's end -/
theorem ol_round {w0 Wb W : World} {sh : Nat} {v : Bool → Option Addr × Option Addr} {c : Bool → Cont} {D : List Nat} {xs ys : List Value} {o7 : Option Addr} {e7 : Nat} {o8 : Option Addr} {e8 : Nat} {p7 p8 : Option Addr} {c7 c8 : Nat} {E : List Nat} {n : Nat} {p5 p6 q q' : Option Addr} {c5 c6 d d' : Nat}
    (h : OL w0 Wb sh v c D xs ys o7 e7 o8 e8) (k : Q3 w0 Wb W o7 o8 (xs ++ [.slice p5 n c5] ++ [.slice p6 n c6]) (ys ++ [.slice q (n + 64) d] ++ [.slice q' (n + 64) d']) p7 c7 p8 c8 E n p5 c5 p6 c6 q d (mk ((xs.length : Nat) : Int)) q' d' (mk ((xs.length + 1 : Nat) : Int))) :
    OL w0 W sh v c (D ++ E) (xs ++ [.slice p5 n c5] ++ [.slice p6 n c6]) (ys ++ [.slice q (n + 64) d] ++ [.slice q' (n + 64) d']) p7 c7 p8 c8 := by
  have hl := h.len
  refine h.two k.st ⟨n, p5, c5, q, d, ?_, ?_, k.len, k.rd, k.rdy, k.in5⟩ ⟨n, p6, c6, q', d', ?_, ?_, k.len, k.rd', k.rdy', k.in6⟩
  · rw [List.append_assoc, List.getElem?_append_right (Nat.le_refl _), Nat.sub_self]; rfl
  · rw [List.append_assoc, List.getElem?_append_right (by omega), show xs.length - ys.length = 0 from by omega]; rfl
  · rw [List.append_assoc, List.getElem?_append_right (by omega), show xs.length + 1 - xs.length = 1 from by omega]; rfl
  · rw [List.append_assoc, List.getElem?_append_right (by omega), show xs.length + 1 - ys.length = 1 from by omega]; rfl
end Go.Proofs.Ytjeeibokdnepgaa

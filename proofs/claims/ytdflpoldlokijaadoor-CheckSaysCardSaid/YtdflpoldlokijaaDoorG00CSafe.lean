namespace Go.Proofs.YtdflpoldlokijaaDoor
set_option linter.unusedVariables false
/-- an instruction as the program has it -/
structure Pl where
  op : Nat
  body : Nat
  args : Nat
  fin : Nat
  nxt : Nat
  to : Nat
def noPl : Pl := ⟨0, 0, 0, 0, 0, 0⟩
structure Bn where
  fields : Int
  classes : Int
  globals : Int
  symbols : Int
/-- kind, operands, takes, on, jump -/
structure Sh where
  kind : Nat
  opd : Nat
  takes : Nat
  on : Nat
  jump : Nat
def noSh : Sh := ⟨0, 0, 0, 0, 0⟩
def tbl : List Sh := [⟨0, 0, 0, 0, 0⟩,
  ⟨1, 0, 0, 1, 0⟩, ⟨1, 0, 0, 1, 0⟩, ⟨1, 0, 0, 1, 0⟩, ⟨1, 0, 0, 1, 0⟩,
  ⟨1, 1, 0, 1, 0⟩, ⟨1, 1, 0, 1, 0⟩, ⟨1, 1, 0, 1, 0⟩, ⟨1, 1, 0, 1, 0⟩, ⟨1, 1, 0, 1, 0⟩,
  ⟨1, 2, 0, 1, 0⟩, ⟨1, 1, 0, 1, 0⟩,
  ⟨1, 1, 1, 1, 0⟩, ⟨1, 2, 1, 1, 0⟩, ⟨1, 1, 1, 1, 0⟩,
  ⟨1, 0, 1, 0, 0⟩, ⟨1, 0, 1, 2, 0⟩,
  ⟨1, 2, 1, 1, 0⟩, ⟨1, 2, 1, 1, 0⟩, ⟨2, 3, 0, 1, 0⟩,
  ⟨3, 0, 1, 0, 0⟩, ⟨3, 0, 1, 0, 0⟩, ⟨3, 0, 1, 0, 0⟩,
  ⟨4, 1, 0, 0, 0⟩, ⟨5, 1, 1, 0, 0⟩, ⟨5, 1, 1, 0, 0⟩, ⟨6, 1, 0, 0, 0⟩, ⟨5, 2, 2, 1, 0⟩, ⟨7, 2, 1, 0, 1⟩]
def shp (op : Int) : Sh := if 1 ≤ op ∧ op ≤ 28 then tbl.getD op.toNat noSh else noSh
def inR (n lo hi : Int) : Bool := decide (lo ≤ n) && decide (n ≤ hi)
def bel (n c : Int) : Bool := decide (0 ≤ n) && decide (n < c)
def scopeB (a t : Int) : Bool := inR a 0 8 && inR t a 32
def isSlotP (sc : List Nat) (out slot : Int) : Bool := inR out 0 ((sc.length : Int) - 1) && bel slot (sc.getD (sc.length - 1 - out.toNat) 0)
def mayP (sc : List Nat) (op : Nat) : Bool :=
  if op = 20 then decide (sc.length = 1) else if op = 21 ∨ op = 22 then decide (1 < sc.length) else true
/-- the operands fit -/
def fitP (b : Bn) (lits : Nat) (sc : List Nat) (op : Nat) (x y z : Int) : Bool :=
  if op = 5 then inR x (-1073741824) 1073741823
  else if op = 6 then bel x lits
  else if op = 7 then bel x b.symbols
  else if op = 8 then inR x 1 b.classes
  else if op = 9 ∨ op = 12 then bel x b.fields
  else if op = 11 ∨ op = 14 then bel x b.globals
  else if op = 10 ∨ op = 13 then isSlotP sc x y
  else if op = 27 ∨ op = 28 then isSlotP sc 0 x
  else if op = 17 ∨ op = 18 then bel x b.symbols && inR y 0 8
  else if op = 19 then scopeB x y && decide (0 < z) && decide (sc.length ≤ 24)
  else true
structure Cx where
  ws : List Int
  lits : Nat
  b : Bn
def Cx.w (C : Cx) (i : Nat) : Int := C.ws.getD i 0
/-- the instruction at a word -/
def instrP (C : Cx) (sc : List Nat) (at_ to : Nat) : Int × Pl :=
  let op := C.w at_
  let s := shp op
  let fin := at_ + 1 + s.opd
  if s.kind = 0 ∨ to < fin ∨ mayP sc op.toNat = false then (110, noPl)
  else if op = 19 ∧ (to : Int) - fin < C.w (at_ + 3) then (110, noPl)
  else if fitP C.b C.lits sc op.toNat (C.w (at_ + 1)) (C.w (at_ + 2)) (C.w (at_ + 3)) = false then (111, noPl)
  else (0, ⟨op.toNat, 0, if op = 17 ∨ op = 18 then (C.w (at_ + 2)).toNat else 0, fin, if op = 19 then fin + (C.w (at_ + 3)).toNat else fin, 0⟩)
abbrev Inf := List Nat × Nat × Nat
structure Rs where
  pls : List Pl
  inf : List Inf
def Pl.at (p : Pl) (k : Nat) : Pl := { p with body := k }
def readP (C : Cx) : Nat → List Nat → Nat → Nat → Nat → Rs → Int × Rs
  | 0, _, _, _, _, R => (0, R)
  | f + 1, sc, at_, to, k, R =>
    if at_ < to then
      if (instrP C sc at_ to).1 ≠ 0 then ((instrP C sc at_ to).1, R)
      else if (instrP C sc at_ to).2.op = 19 then
        if (readP C f (sc ++ [(C.w (at_ + 2)).toNat]) (instrP C sc at_ to).2.fin (instrP C sc at_ to).2.nxt (R.inf.length + 1) ⟨R.pls.set at_ ((instrP C sc at_ to).2.at k), R.inf ++ [(sc ++ [(C.w (at_ + 2)).toNat], (instrP C sc at_ to).2.fin, (instrP C sc at_ to).2.nxt)]⟩).1 ≠ 0 then
          readP C f (sc ++ [(C.w (at_ + 2)).toNat]) (instrP C sc at_ to).2.fin (instrP C sc at_ to).2.nxt (R.inf.length + 1) ⟨R.pls.set at_ ((instrP C sc at_ to).2.at k), R.inf ++ [(sc ++ [(C.w (at_ + 2)).toNat], (instrP C sc at_ to).2.fin, (instrP C sc at_ to).2.nxt)]⟩
        else readP C f sc (instrP C sc at_ to).2.nxt to k (readP C f (sc ++ [(C.w (at_ + 2)).toNat]) (instrP C sc at_ to).2.fin (instrP C sc at_ to).2.nxt (R.inf.length + 1) ⟨R.pls.set at_ ((instrP C sc at_ to).2.at k), R.inf ++ [(sc ++ [(C.w (at_ + 2)).toNat], (instrP C sc at_ to).2.fin, (instrP C sc at_ to).2.nxt)]⟩).2
      else readP C f sc (instrP C sc at_ to).2.nxt to k ⟨R.pls.set at_ ((instrP C sc at_ to).2.at k), R.inf⟩
    else (0, R)
/-- where a jump leads -/
def toP (C : Cx) (p : Pl) (at_ : Nat) : Option Nat :=
  if (shp p.op).kind = 4 ∨ (shp p.op).kind = 5 then
    if bel (C.w (p.fin - 1)) ((C.ws.length : Int) - p.fin) then some (p.fin + (C.w (p.fin - 1)).toNat) else none
  else if (shp p.op).kind = 6 ∨ (shp p.op).kind = 7 then
    if inR (C.w (p.fin - 1)) ((p.fin : Int) - at_ + 1) p.fin then some (p.fin - (C.w (p.fin - 1)).toNat) else none
  else none
def isJ (p : Pl) : Bool := decide (4 ≤ (shp p.op).kind)
def plD (l : List Pl) (i : Nat) : Pl := l.getD i noPl
def landP (C : Cx) (l : List Pl) (at_ : Nat) : Bool :=
  if isJ (plD l at_) then
    match toP C (plD l at_) at_ with
    | none => false
    | some t => decide ((plD l t).body = (plD l at_).body)
  else true
def Pl.goto (C : Cx) (p : Pl) (at_ : Nat) : Pl := if isJ p then { p with to := (toP C p at_).getD 0 } else p
def jumpN (C : Cx) (l : List Pl) (n : Nat) : List Pl := (l.mapIdx fun i p => if i < n then p.goto C i else p)
/-- the ways -/
structure Wk where
  dep : List Int
  come : List Nat
  ended : Bool
  uneven : Bool
def depD (l : List Int) (i : Nat) : Int := l.getD i (-1)
def meetP (s : Wk) (at_ : Nat) (d : Int) : Wk :=
  if depD s.dep at_ = d then s
  else if depD s.dep at_ = -1 then { s with dep := s.dep.set at_ d, come := s.come ++ [at_] }
  else { s with uneven := true }
def goOnP (l : List Pl) (s : Wk) (p : Pl) (d : Int) : Wk :=
  if p.nxt = l.length ∨ (plD l p.nxt).body ≠ p.body then { s with ended := true } else meetP s p.nxt d
def restP (s : Wk) (p : Pl) (at_ : Nat) : Int := depD s.dep at_ - (shp p.op).takes - p.args
def leaveP (l : List Pl) (s : Wk) (at_ : Nat) : Wk :=
  let p := plD l at_
  let h := shp p.op
  let r := restP s p at_
  let s1 : Wk := if r < 0 then { s with uneven := true } else s
  let r1 : Int := if r < 0 then 0 else r
  let s2 : Wk := if h.kind = 1 ∨ h.kind = 2 ∨ h.kind = 5 ∨ h.kind = 7 then goOnP l s1 p (r1 + h.on) else s1
  if h.kind = 2 then meetP s2 p.fin 0 else if 4 ≤ h.kind then meetP s2 p.to (r1 + h.jump) else s2
def goP (l : List Pl) : Nat → Nat → Wk → Wk
  | 0, _, s => s
  | f + 1, i, s => if i < s.come.length then goP l f (i + 1) (leaveP l s (s.come.getD i 0)) else s
def startP (n : Nat) : Wk := meetP ⟨List.replicate n (-1), [], false, false⟩ 0 0
def followP (l : List Pl) (stack : Int) : Int × List Int :=
  if l.length = 0 then (114, [])
  else if (goP l (l.length + 1) 0 (startP l.length)).ended then (114, [])
  else if (goP l (l.length + 1) 0 (startP l.length)).uneven ∨ (goP l (l.length + 1) 0 (startP l.length)).dep.foldl max (-1) ≠ stack then (113, [])
  else (0, (goP l (l.length + 1) 0 (startP l.length)).dep)
/-- the head of a code -/
structure Hd where
  args : Int
  temps : Int
  stack : Int
def startR (C : Cx) (t : Nat) : Rs := ⟨List.replicate C.ws.length noPl, [([t], 0, C.ws.length)]⟩
def wordsP (C : Cx) (h : Hd) : Int × List Int :=
  if (readP C (C.ws.length + 1) [h.temps.toNat] 0 C.ws.length 1 (startR C h.temps.toNat)).1 ≠ 0 then ((readP C (C.ws.length + 1) [h.temps.toNat] 0 C.ws.length 1 (startR C h.temps.toNat)).1, [])
  else if (List.range C.ws.length).all (landP C (readP C (C.ws.length + 1) [h.temps.toNat] 0 C.ws.length 1 (startR C h.temps.toNat)).2.pls) = false then (112, [])
  else followP (jumpN C (readP C (C.ws.length + 1) [h.temps.toNat] 0 C.ws.length 1 (startR C h.temps.toNat)).2.pls C.ws.length) h.stack
def depthsP (C : Cx) (h : Hd) (look : Int) : Int × List Int :=
  if 4096 < C.ws.length ∨ 64 < C.lits then (73, [])
  else if scopeB h.args h.temps = false ∨ inR h.stack 0 256 = false then (111, [])
  else if look ≠ 0 then (look, [])
  else wordsP C h
end Go.Proofs.YtdflpoldlokijaaDoor
namespace Go.Proofs.YtdflpoldlokijaaDoor
set_option linter.unusedVariables false
theorem plD_set_ne (l : List Pl) (i j : Nat) (p : Pl) (h : i ≠ j) : plD (l.set i p) j = plD l j := by
  unfold plD; rw [List.getD_eq_getElem?_getD, List.getD_eq_getElem?_getD, List.getElem?_set_ne h]
theorem plD_set_eq (l : List Pl) (i : Nat) (p : Pl) (h : i < l.length) : plD (l.set i p) i = p := by
  unfold plD; rw [List.getD_eq_getElem?_getD, List.getElem?_set_self h]; rfl
theorem plD_rep (n x : Nat) : plD (List.replicate n noPl) x = noPl := by
  unfold plD; rw [List.getD_eq_getElem?_getD, List.getElem?_replicate]; split <;> rfl
structure InsOk (C : Cx) (sc : List Nat) (at_ e0 : Nat) (p : Pl) : Prop where
  op : C.w at_ = p.op
  lo : 1 ≤ p.op
  hi : p.op ≤ 28
  fin : p.fin = at_ + 1 + (shp p.op).opd
  fe : p.fin ≤ e0
  may : mayP sc p.op = true
  fit : fitP C.b C.lits sc p.op (C.w (at_ + 1)) (C.w (at_ + 2)) (C.w (at_ + 3)) = true
  blk : p.op = 19 → p.nxt = p.fin + (C.w (at_ + 3)).toNat ∧ 0 < C.w (at_ + 3)
  nob : p.op ≠ 19 → p.nxt = p.fin
  ne : p.nxt ≤ e0
  snd : p.op = 17 ∨ p.op = 18 → p.args = (C.w (at_ + 2)).toNat
  nos : ¬(p.op = 17 ∨ p.op = 18) → p.args = 0
theorem shp_kind (op : Int) (h : (shp op).kind ≠ 0) : 1 ≤ op ∧ op ≤ 28 := by
  unfold shp at h
  split at h
  · assumption
  · exact absurd rfl h
theorem instrP_ok (C : Cx) (sc : List Nat) (at_ to : Nat) (h : (instrP C sc at_ to).1 = 0) : InsOk C sc at_ to (instrP C sc at_ to).2 ∧ (instrP C sc at_ to).2.body = 0 ∧ (instrP C sc at_ to).2.to = 0 := by
  unfold instrP at h ⊢
  simp only at h ⊢
  split at h
  · simp at h
  rename_i h1
  split at h
  · simp at h
  rename_i h2
  split at h
  · simp at h
  rename_i h3
  rw [if_neg h1, if_neg h2, if_neg h3]
  simp only [not_or] at h1
  obtain ⟨k1, k2, k3⟩ := h1
  obtain ⟨o1, o2⟩ := shp_kind _ k1
  generalize hop : C.w at_ = op at *
  obtain ⟨n, rfl⟩ := Int.eq_ofNat_of_zero_le (show 0 ≤ op by omega)
  simp only [Int.toNat_natCast] at *
  have hf : fitP C.b C.lits sc n (C.w (at_ + 1)) (C.w (at_ + 2)) (C.w (at_ + 3)) = true := by simpa using h3
  have n1 : 1 ≤ n := by omega
  have n2 : n ≤ 28 := by omega
  have n3 : at_ + 1 + (shp ↑n).opd ≤ to := by omega
  refine ⟨⟨hop, n1, n2, rfl, n3, by simpa using k3, hf, fun e => ?_, fun e => ?_, ?_, fun e => ?_, fun e => ?_⟩, by simp⟩
  · have e : n = 19 := e
    subst e
    refine ⟨by simp, ?_⟩
    unfold fitP at hf
    simp at hf
    exact hf.1.2
  · have e : n ≠ 19 := e
    have : ¬((n : Int) = 19) := by omega
    simp [this]
  · by_cases e : (n : Int) = 19
    · obtain rfl : n = 19 := by omega
      have h2' : ¬((to : Int) - ((at_ + 1 + (shp ↑(19 : Nat)).opd : Nat) : Int) < C.w (at_ + 3)) := fun hh => h2 ⟨rfl, hh⟩
      show (if ((19 : Nat) : Int) = 19 then at_ + 1 + (shp ↑(19 : Nat)).opd + (C.w (at_ + 3)).toNat else at_ + 1 + (shp ↑(19 : Nat)).opd) ≤ to
      rw [if_pos e]
      omega
    · simp only [e, if_false]
      omega
  · have e : n = 17 ∨ n = 18 := e
    have : (n : Int) = 17 ∨ (n : Int) = 18 := by omega
    simp [this]
  · have e : ¬(n = 17 ∨ n = 18) := e
    have : ¬((n : Int) = 17 ∨ (n : Int) = 18) := by omega
    simp [this]
theorem InsOk.at_k {C : Cx} {sc : List Nat} {at_ e0 : Nat} {p : Pl} (h : InsOk C sc at_ e0 p) (k : Nat) : InsOk C sc at_ e0 (p.at k) := ⟨h.op, h.lo, h.hi, h.fin, h.fe, h.may, h.fit, h.blk, h.nob, h.ne, h.snd, h.nos⟩
theorem InsOk.gt {C : Cx} {sc : List Nat} {at_ e0 : Nat} {p : Pl} (h : InsOk C sc at_ e0 p) : at_ < p.fin ∧ p.fin ≤ p.nxt := by
  refine ⟨by rw [h.fin]; omega, ?_⟩
  by_cases e : p.op = 19
  · rw [(h.blk e).1]; omega
  · rw [h.nob e]; omega
/-- an instruction that was read, in its body -/
def GoodI (C : Cx) (R : Rs) (x to : Nat) : Prop :=
  ∃ sc b0 e0, R.inf[(plD R.pls x).body - 1]? = some (sc, b0, e0) ∧ e0 ≤ to ∧ b0 ≤ x ∧ x < e0 ∧ InsOk C sc x e0 (plD R.pls x) ∧
    ((plD R.pls x).op = 19 → ∃ k', 1 ≤ k' ∧ R.inf[k' - 1]? = some (sc ++ [(C.w (x + 2)).toNat], (plD R.pls x).fin, (plD R.pls x).nxt) ∧ (plD R.pls (plD R.pls x).fin).body = k')
theorem GoodI.keep {C : Cx} {R R' : Rs} {x to lo : Nat} (h : GoodI C R x to) (hi : ∃ t, R'.inf = R.inf ++ t) (hp : ∀ y, x ≤ y → y < to → plD R'.pls y = plD R.pls y) {to' : Nat} (ht : to ≤ to') : GoodI C R' x to' := by
  obtain ⟨sc, b0, e0, h1, h2, h3, h4, h5, h6⟩ := h
  obtain ⟨t, hi⟩ := hi
  have ex := hp x (Nat.le_refl _) (by omega)
  have hin : ∀ {k v}, R.inf[k]? = some v → R'.inf[k]? = some v := fun {k v} hk => by
    rw [hi, List.getElem?_append_left (by obtain ⟨q, _⟩ := List.getElem?_eq_some_iff.1 hk; exact q)]; exact hk
  refine ⟨sc, b0, e0, by rw [ex]; exact hin h1, by omega, h3, h4, by rw [ex]; exact h5, fun e => ?_⟩
  rw [ex] at e ⊢
  obtain ⟨k', g1, g2, g3⟩ := h6 e
  have hb := (h5.blk e)
  have := h5.gt
  have := h5.ne
  refine ⟨k', g1, hin g2, ?_⟩
  rw [hp _ (by omega) (by omega)]
  exact g3
structure RdPost (C : Cx) (sc : List Nat) (at_ to k : Nat) (R R' : Rs) : Prop where
  len : R'.pls.length = R.pls.length
  inf : ∃ t, R'.inf = R.inf ++ t
  out : ∀ x, ¬(at_ ≤ x ∧ x < to) → plD R'.pls x = plD R.pls x
  head : at_ < to → (plD R'.pls at_).body = k
  good : ∀ x, at_ ≤ x → x < to → (plD R'.pls x).body ≠ 0 → GoodI C R' x to
theorem inf_mono {a b c : List Inf} (h : ∃ t, b = a ++ t) (g : ∃ t, c = b ++ t) : ∃ t, c = a ++ t := by
  obtain ⟨t, rfl⟩ := h
  obtain ⟨u, rfl⟩ := g
  exact ⟨t ++ u, by rw [List.append_assoc]⟩
theorem inf_get {a c : List Inf} (h : ∃ t, c = a ++ t) {k : Nat} {v : Inf} (hk : a[k]? = some v) : c[k]? = some v := by
  obtain ⟨t, rfl⟩ := h
  rw [List.getElem?_append_left (by obtain ⟨q, _⟩ := List.getElem?_eq_some_iff.1 hk; exact q)]; exact hk
theorem readP_inv (C : Cx) : ∀ (f : Nat) (sc : List Nat) (at_ to k b0 : Nat) (R : Rs), (readP C f sc at_ to k R).1 = 0 → to ≤ R.pls.length → to - at_ < f → 1 ≤ k → R.inf[k - 1]? = some (sc, b0, to) → b0 ≤ at_ → (∀ x, at_ ≤ x → x < to → (plD R.pls x).body = 0) →
    RdPost C sc at_ to k R (readP C f sc at_ to k R).2 := by
  intro f
  induction f with
  | zero => intro sc at_ to k b0 R _ _ h; omega
  | succ f ih =>
    intro sc at_ to k b0 R h hto hf hk hinf hb hz
    unfold readP at h ⊢
    by_cases hlt : at_ < to
    · rw [if_pos hlt] at h ⊢
      by_cases he : (instrP C sc at_ to).1 = 0
      · rw [if_neg (by simpa using he)] at h ⊢
        obtain ⟨hok, hb0, ht0⟩ := instrP_ok C sc at_ to he
        generalize hP : (instrP C sc at_ to).2 = p at *
        have hgt := hok.gt
        have hne := hok.ne
        by_cases h19 : p.op = 19
        · rw [if_pos h19] at h ⊢
          obtain ⟨hn1, hn2⟩ := hok.blk h19
          generalize hR1 : (⟨R.pls.set at_ (p.at k), R.inf ++ [(sc ++ [(C.w (at_ + 2)).toNat], p.fin, p.nxt)]⟩ : Rs) = R1 at *
          have l1 : R1.pls.length = R.pls.length := by rw [← hR1]; simp
          have i1 : R1.inf = R.inf ++ [(sc ++ [(C.w (at_ + 2)).toNat], p.fin, p.nxt)] := by rw [← hR1]
          have p1 : plD R1.pls at_ = p.at k := by rw [← hR1]; exact plD_set_eq _ _ _ (by omega)
          have p2 : ∀ y, y ≠ at_ → plD R1.pls y = plD R.pls y := fun y hy => by rw [← hR1]; exact plD_set_ne _ _ _ _ (Ne.symm hy)
          by_cases hin : (readP C f (sc ++ [(C.w (at_ + 2)).toNat]) p.fin p.nxt (R.inf.length + 1) R1).1 = 0
          · rw [if_neg (by simpa using hin)] at h ⊢
            have q1 := ih (sc ++ [(C.w (at_ + 2)).toNat]) p.fin p.nxt (R.inf.length + 1) p.fin R1 hin (by omega) (by omega) (by omega) (by rw [i1]; simp) (Nat.le_refl _) (fun x a1 a2 => by rw [p2 x (by omega)]; exact hz x (by omega) (by omega))
            generalize hR2 : (readP C f (sc ++ [(C.w (at_ + 2)).toNat]) p.fin p.nxt (R.inf.length + 1) R1).2 = R2 at *
            have i2 : ∃ t, R2.inf = R.inf ++ t := inf_mono ⟨_, i1⟩ q1.inf
            have l2 := q1.len
            have q2 := ih sc p.nxt to k b0 R2 h (by omega) (by omega) hk (inf_get i2 hinf) (by omega) (fun x a1 a2 => by rw [q1.out x (by omega), p2 x (by omega)]; exact hz x (by omega) (by omega))
            generalize hR3 : (readP C f sc p.nxt to k R2).2 = R3 at *
            have e1 : plD R3.pls at_ = p.at k := by rw [q2.out _ (by omega), q1.out _ (by omega), p1]
            refine ⟨by rw [q2.len]; omega, inf_mono i2 q2.inf, fun x hx => by rw [q2.out x (by omega), q1.out x (by omega), p2 x (by omega)], fun _ => by rw [e1]; rfl, fun x x1 x2 hx => ?_⟩
            by_cases c1 : x = at_
            · subst c1
              refine ⟨sc, b0, to, by rw [e1]; exact inf_get (inf_mono i2 q2.inf) hinf, Nat.le_refl _, hb, hlt, by rw [e1]; exact hok.at_k k, fun _ => ⟨R.inf.length + 1, by omega, ?_, ?_⟩⟩
              · rw [e1]
                exact inf_get (inf_mono q1.inf q2.inf) (by rw [i1]; simp [Pl.at])
              · rw [e1, q2.out _ (by simp [Pl.at]; omega)]
                exact q1.head (by omega)
            · by_cases c2 : x < p.fin
              · exfalso
                apply hx
                rw [q2.out x (by omega), q1.out x (by omega), p2 x c1]
                exact hz x x1 x2
              · by_cases c3 : x < p.nxt
                · have hx2 : (plD R2.pls x).body ≠ 0 := by rw [q2.out x (by omega)] at hx; exact hx
                  exact (q1.good x (by omega) c3 hx2).keep (lo := 0) q2.inf (fun y y1 y2 => q2.out y (by omega)) (by omega)
                · exact q2.good x (by omega) x2 hx
          · rw [if_pos (by simpa using hin)] at h
            exact absurd h hin
        · rw [if_neg h19] at h ⊢
          have hn1 := hok.nob h19
          generalize hR1 : (⟨R.pls.set at_ (p.at k), R.inf⟩ : Rs) = R1 at *
          have l1 : R1.pls.length = R.pls.length := by rw [← hR1]; simp
          have i1 : R1.inf = R.inf := by rw [← hR1]
          have p1 : plD R1.pls at_ = p.at k := by rw [← hR1]; exact plD_set_eq _ _ _ (by omega)
          have p2 : ∀ y, y ≠ at_ → plD R1.pls y = plD R.pls y := fun y hy => by rw [← hR1]; exact plD_set_ne _ _ _ _ (Ne.symm hy)
          have q2 := ih sc p.nxt to k b0 R1 h (by omega) (by omega) hk (by rw [i1]; exact hinf) (by omega) (fun x a1 a2 => by rw [p2 x (by omega)]; exact hz x (by omega) (by omega))
          generalize hR3 : (readP C f sc p.nxt to k R1).2 = R3 at *
          have e1 : plD R3.pls at_ = p.at k := by rw [q2.out _ (by omega), p1]
          have i3 : ∃ t, R3.inf = R.inf ++ t := by rw [← i1]; exact q2.inf
          refine ⟨by rw [q2.len]; omega, i3, fun x hx => by rw [q2.out x (by omega), p2 x (by omega)], fun _ => by rw [e1]; rfl, fun x x1 x2 hx => ?_⟩
          by_cases c1 : x = at_
          · subst c1
            exact ⟨sc, b0, to, by rw [e1]; exact inf_get i3 hinf, Nat.le_refl _, hb, hlt, by rw [e1]; exact hok.at_k k, fun e => by rw [e1] at e; exact absurd e h19⟩
          · by_cases c2 : x < p.nxt
            · exfalso
              apply hx
              rw [q2.out x (by omega), p2 x c1]
              exact hz x x1 x2
            · exact q2.good x (by omega) x2 hx
      · rw [if_pos (by simpa using he)] at h
        exact absurd h he
    · rw [if_neg hlt] at h ⊢
      exact ⟨rfl, ⟨[], by simp⟩, fun _ _ => rfl, fun h => absurd h hlt, fun x x1 x2 => by omega⟩
theorem readP_len (C : Cx) : ∀ (f : Nat) (sc : List Nat) (at_ to k : Nat) (R : Rs), (readP C f sc at_ to k R).2.pls.length = R.pls.length := by
  intro f
  induction f with
  | zero => intro sc at_ to k R; rfl
  | succ f ih =>
    intro sc at_ to k R
    unfold readP
    split
    · split
      · rfl
      · split
        · split
          · rw [ih]; simp
          · rw [ih, ih]; simp
        · rw [ih]; simp
    · rfl
end Go.Proofs.YtdflpoldlokijaaDoor

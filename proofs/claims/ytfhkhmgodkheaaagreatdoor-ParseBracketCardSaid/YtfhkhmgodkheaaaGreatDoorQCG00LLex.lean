import Derived.Lib.Strings
set_option linter.unusedSimpArgs false
set_option linter.unusedVariables false
namespace Go.Proofs.YtfhkhmgodkheaaaGreatDoor
abbrev Bs:=List UInt8
def hd (l:Bs):Nat:=match l with | []=>256 | c :: _=>c.toNat
def isS (n:Nat):Bool:=decide (97≤n∧n≤122)
def isL (n:Nat):Bool:=decide ((97≤n∧n≤122)∨(65≤n∧n≤90))
def isD (n:Nat):Bool:=decide (48≤n∧n≤57)
def isW (n:Nat):Bool:=isL n || isD n
def isB (n:Nat):Bool:=decide (n=32∨n=9∨n=10∨n=13)
def isO (n:Nat):Bool:=decide (n=43∨n=45∨n=42∨n=47∨n=92∨n=60∨n=62∨n=61∨n=126∨n=44∨n=37∨n=38∨n=63∨n=64)
theorem isL_iff (n:Nat):isL n=true ↔ (97≤n∧n≤122)∨(65≤n∧n≤90):=by simp [isL]
theorem isS_iff (n:Nat):isS n=true ↔ (97≤n∧n≤122):=by simp [isS]
theorem isD_iff (n:Nat):isD n=true ↔ 48≤n∧n≤57:=by simp [isD]
theorem isB_iff (n:Nat):isB n=true ↔ n=32∨n=9∨n=10∨n=13:=by simp [isB]
theorem isO_iff (n:Nat):isO n=true ↔ n=43∨n=45∨n=42∨n=47∨n=92∨n=60∨n=62∨n=61∨n=126∨n=44∨n=37∨n=38∨n=63∨n=64:=by simp [isO]
theorem isW_iff (n:Nat):isW n=true ↔ ((97≤n∧n≤122)∨(65≤n∧n≤90))∨48≤n∧n≤57:=by simp [isW,isL,isD]
def wN (c:UInt8):Bool:=isW c.toNat
def dN (c:UInt8):Bool:=isD c.toNat
def qw (l:Bs):Nat:=if isL (hd l)=true then (l.takeWhile wN).length else 0
def zT (l:Bs):Nat:=(l.takeWhile dN).length
def zL (l:Bs):Bool:=decide (hd l=58∧hd (l.drop 1)≠61)
def qT (l:Bs):Nat:=if qw l≠0∧zL (l.drop (qw l))=true then qw l+1 else 0
def kwsF:Nat→Bs→Nat
 | 0,_=>0
 | f+1,l=>if qT l=0 then 0 else qT l+kwsF f (l.drop (qT l))
def jv (l:Bs):Nat:=kwsF l.length l
def zE (l:Bs):Nat:=if isO (hd l)=true then (if isO (hd (l.drop 1))=true∧hd l≠45∧hd (l.drop 1)≠45 then 2 else 1) else 0
def zr (l:Bs):Nat:=if jv l=0 then max (qw l) (zE l) else jv l
def txt:Bs→Option (Bs × Nat)
 | []=>none
 | [c]=>if c.toNat=39 then some ([],1) else none
 | c :: d :: r=>if c.toNat=39 then (if d.toNat=39 then (txt r).map (fun x=>(c :: x.1,x.2+2)) else some ([],1)) else (txt (d :: r)).map (fun x=>(c :: x.1,x.2+1))
def cmt:Bs→Option Nat
 | []=>none
 | c :: r=>if c.toNat=34 then some 1 else (cmt r).map (·+1)
def jI (l:Bs):Nat:=l.foldl (fun n c=>10 * n+(c.toNat - 48)) 0
structure Tok where
 kind:Nat
 text:Bs
 num:Nat
deriving DecidableEq
def markK (n:Nat):Nat:=if n=40 then 8 else if n=41 then 9 else if n=91 then 10 else if n=93 then 11 else if n=124 then 12 else if n=58 then 13 else if n=94 then 15 else if n=46 then 16 else if n=59 then 17 else 0
def mk (k:Nat):Option Tok:=some ⟨k,[],0⟩
def cut (l:Bs):Option (Option Tok × Nat) :=
 match l with
 | []=>none
 | c :: r =>
  if isB c.toNat=true then some (none,1)
  else if c.toNat=34 then (cmt r).map (fun n=>(none,n+1))
  else if isL c.toNat=true then (if zL (l.drop (qw l))=true then some (some ⟨2,l.take (qw l),0⟩,qw l+1) else some (some ⟨1,l.take (qw l),0⟩,qw l))
  else if isD c.toNat=true then (if jI (l.take (zT l))≤1073741824 then some (some ⟨4,[],jI (l.take (zT l))⟩,zT l) else none)
  else if c.toNat=35 then (if zr r=0 then (if hd r=40 then some (mk 7,2) else none) else some (some ⟨5,r.take (zr r),0⟩,zr r+1))
  else if isO c.toNat=true then some (some ⟨3,l.take (zE l),0⟩,zE l)
  else if c.toNat=39 then (txt r).map (fun x=>(some ⟨6,x.1,0⟩,x.2+1))
  else if c.toNat=58∧hd r=61 then some (mk 14,2)
  else if markK c.toNat=0 then none else some (mk (markK c.toNat),1)
/-! lengths -/
theorem tw_le (p:UInt8→Bool) (l:Bs):(l.takeWhile p).length≤l.length:=by
 induction l with
 | nil=>simp
 | cons c r ih=>rw [List.takeWhile_cons]; split <;> simp_all
theorem jP (l:Bs):qw l≤l.length:=by unfold qw; split; exact tw_le _ _; omega
theorem digLen_le (l:Bs):zT l≤l.length:=tw_le _ _
theorem hd_lt {l:Bs} {n:Nat} (h:hd l=n) (hn:n < 256):0 < l.length:=by cases l with | nil=>simp [hd] at h; omega | cons=>simp
theorem kwLen_le (l:Bs):qT l≤l.length:=by
 unfold qT
 split
 ·rename_i h
  have h2:=h.2;unfold zL at h2;have:=hd_lt (of_decide_eq_true h2).1 (by omega)
  simp at this
  omega
 ·omega
theorem kwsF_le (f:Nat):∀ l:Bs,kwsF f l≤l.length:=by
 induction f with
 | zero=>intro l; simp [kwsF]
 | succ f ih =>
  intro l;unfold kwsF
  split
  ·omega
  ·have:=ih (l.drop (qT l)); have:=kwLen_le l; simp at *; omega
theorem opLen_le (l:Bs):zE l≤l.length:=by
 unfold zE
 split
 ·rename_i h
  cases l with
  | nil=>simp [hd,isO] at h
  | cons c r =>
   split
   ·rename_i h2
    cases r with
    | nil=>simp [hd,isO] at h2
    | cons=>simp
   ·simp
 ·omega
theorem symLen_le (l:Bs):zr l≤l.length:=by
 unfold zr
 split
 ·have:=jP l; have:=opLen_le l; omega
 ·exact kwsF_le _ _
theorem nameLen_pos {l:Bs} (h:isL (hd l)=true):1≤qw l:=by
 unfold qw
 rw [if_pos h]
 cases l with
 | nil=>simp [hd,isL] at h
 | cons c r =>
  have h':isL c.toNat=true:=h;rw [List.takeWhile_cons,if_pos (by unfold wN isW; simp [h'])]
  simp
theorem digLen_pos {l:Bs} (h:isD (hd l)=true):1≤zT l:=by
 cases l with
 | nil=>simp [hd,isD] at h
 | cons c r =>
  have h':isD c.toNat=true:=h;unfold zT;rw [List.takeWhile_cons,if_pos (by unfold dN; exact h')]
  simp
theorem txt_nk:∀ (k:Nat) (l:Bs) (x:Bs × Nat),l.length≤k→txt l=some x→1≤x.2∧x.2≤l.length:=by
 intro k
 induction k with
 | zero=>intro l x hk h; have:l=[]:=List.length_eq_zero_iff.1 (by omega); subst this; simp [txt] at h
 | succ k ih =>
  intro l x hk h
  cases l with
  | nil=>simp [txt] at h
  | cons c l =>
   cases l with
   | nil =>
    unfold txt at h
    by_cases hc:c.toNat=39
    ·rw [if_pos hc] at h; simp at h; subst h; simp
    ·rw [if_neg hc] at h; cases h
   | cons d r =>
    unfold txt at h
    by_cases hc:c.toNat=39
    ·rw [if_pos hc] at h
     by_cases hd':d.toNat=39
     ·rw [if_pos hd'] at h
      obtain ⟨y,hy,rfl⟩:=Option.map_eq_some_iff.1 h;have:=ih r y (by simp at hk; omega) hy
      simp; omega
     ·rw [if_neg hd'] at h; simp at h; subst h; simp
    ·rw [if_neg hc] at h
     obtain ⟨y,hy,rfl⟩:=Option.map_eq_some_iff.1 h;have:=ih (d :: r) y (by simp at hk ⊢; omega) hy
     simp at *; omega
theorem txt_n (l:Bs) (x:Bs × Nat) (h:txt l=some x):1≤x.2∧x.2≤l.length:=txt_nk l.length l x (Nat.le_refl _) h
theorem cmt_n:∀ (l:Bs) (n:Nat),cmt l=some n→1≤n∧n≤l.length:=by
 intro l
 induction l with
 | nil=>intro n h; simp [cmt] at h
 | cons c r ih =>
  intro n h;unfold cmt at h
  split at h
  ·simp at h; subst h; simp
  ·obtain ⟨y,hy,rfl⟩:=Option.map_eq_some_iff.1 h
   have:=ih y hy;simp; omega
theorem cut_n {l:Bs} {x:Option Tok} {n:Nat} (h:cut l=some (x,n)):1≤n∧n≤l.length:=by
 unfold cut at h
 split at h
 ·cases h
 ·rename_i c r
  split at h
  ·simp at h; simp [← h.2]
  split at h
  ·obtain ⟨y,hy,e⟩:=Option.map_eq_some_iff.1 h
   simp at e
   have:=cmt_n _ _ hy;simp; omega
  split at h
  ·rename_i hl
   have h1:=nameLen_pos (l:=c :: r) hl;have h2:=jP (c :: r)
   split at h
   ·rename_i hc
    unfold zL at hc;have:=hd_lt (of_decide_eq_true hc).1 (by omega)
    simp at this h h2 ⊢
    omega
   ·simp at h h2 ⊢; omega
  split at h
  ·rename_i hl
   have h1:=digLen_pos (l:=c :: r) hl;have h2:=digLen_le (c :: r)
   split at h
   ·simp at h h2 ⊢; omega
   ·cases h
  split at h
  ·split at h
   ·split at h
    ·rename_i h40
     have:=hd_lt h40 (by omega)
     simp at h ⊢; omega
    ·cases h
   ·have:=symLen_le r
    simp at h ⊢; omega
  split at h
  ·rename_i ho
   have:=opLen_le (c :: r);have h3:1≤zE (c :: r):=by unfold zE; rw [if_pos (show isO (hd (c :: r))=true from ho)]; split <;> omega
   simp at h this ⊢; omega
  split at h
  ·obtain ⟨y,hy,e⟩:=Option.map_eq_some_iff.1 h
   have:=txt_n _ _ hy;simp at e ⊢; omega
  split at h
  ·rename_i h58
   have:=hd_lt h58.2 (by omega)
   simp at h ⊢; omega
  split at h
  ·cases h
  ·simp at h ⊢; omega
/-! what follows: nothing,or a gap -/
def Gs (R:Bs):Prop:=hd R=256∨isB (hd R)=true∨hd R=34
theorem Gs.cases {R:Bs} (h:Gs R):hd R=256∨hd R=32∨hd R=9∨hd R=10∨hd R=13∨hd R=34:=by
 rcases h with h | h | h
 ·exact Or.inl h
 ·rw [isB_iff] at h; omega
 ·omega
def Nn (A B:Bs):Prop:=A.getLast?.map UInt8.toNat=some 58→hd B≠61
theorem hd_app {A:Bs} (B:Bs) (h:A≠[]):hd (A++B)=hd A:=by cases A with | nil=>exact absurd rfl h | cons=>rfl
theorem tw_ext (p:UInt8→Bool) {R:Bs} (hR:∀ c r,R=c :: r→p c=false):∀ A B:Bs,((A++B).takeWhile p).length≤A.length→(A++R).takeWhile p=(A++B).takeWhile p:=by
 intro A
 induction A with
 | nil =>
  intro B h;simp at h;rw [List.nil_append,List.nil_append,h]
  cases R with
  | nil=>rfl
  | cons c r=>rw [List.takeWhile_cons,hR c r rfl]; rfl
 | cons a A ih =>
  intro B h;rw [List.cons_append,List.cons_append,List.takeWhile_cons,List.takeWhile_cons]
  by_cases hp:p a=true
  ·rw [if_pos hp,if_pos hp]
   rw [List.cons_append,List.takeWhile_cons,if_pos hp] at h;rw [ih B (by simpa using h)]
  ·rw [if_neg hp,if_neg hp]
theorem Gs.stop {R:Bs} (h:Gs R) (p:UInt8→Bool) (hp:∀ c:UInt8,c.toNat=32∨c.toNat=9∨c.toNat=10∨c.toNat=13∨c.toNat=34→p c=false):∀ c r,R=c :: r→p c=false:=by
 rintro c r rfl
 have h1:=h.cases
 have e:hd (c :: r)=c.toNat:=rfl
 have h2:=c.toNat_lt
 rw [e] at h1
 exact hp c (by omega)
theorem Gs.w {R:Bs} (h:Gs R):∀ c r,R=c :: r→wN c=false:=h.stop wN (fun c hc=>by
 rw [Bool.eq_false_iff]; intro hw; unfold wN at hw; rw [isW_iff] at hw; omega)
theorem Gs.d {R:Bs} (h:Gs R):∀ c r,R=c :: r→dN c=false:=h.stop dN (fun c hc=>by
 rw [Bool.eq_false_iff]; intro hw; unfold dN at hw; rw [isD_iff] at hw; omega)
theorem nameLen_ext {A B R:Bs} (hG:Gs R) (hA:A≠[]) (h:qw (A++B)≤A.length):qw (A++R)=qw (A++B):=by
 unfold qw at *
 rw [hd_app B hA] at h ⊢
 rw [hd_app R hA]
 split
 ·rename_i hl
  rw [if_pos hl] at h;rw [tw_ext wN hG.w A B h]
 ·rfl
theorem tw_long (p:UInt8→Bool) {R:Bs} (hR:∀ c r,R=c :: r→p c=false):∀ A B:Bs,A.length≤((A++B).takeWhile p).length→((A++R).takeWhile p).length=A.length:=by
 intro A
 induction A with
 | nil =>
  intro B h
  cases R with
  | nil=>rfl
  | cons c r=>rw [List.nil_append,List.takeWhile_cons,hR c r rfl]; rfl
 | cons a A ih =>
  intro B h;rw [List.cons_append,List.takeWhile_cons];rw [List.cons_append,List.takeWhile_cons] at h
  by_cases hp:p a=true
  ·rw [if_pos hp] at h ⊢
   simp at h ⊢
   exact ih B h
  ·rw [if_neg hp] at h; simp at h
theorem colonAt_ext {A B R:Bs} (hG:Gs R) (hA:A≠[]) (hN:Nn A B):zL (A++R)=zL (A++B):=by
 unfold zL
 rw [hd_app R hA,hd_app B hA]
 cases A with
 | nil=>exact absurd rfl hA
 | cons a A =>
  cases A with
  | cons b A=>rfl
  | nil =>
   by_cases ha:a.toNat=58
   ·have h1:=hN (by simp [ha])
    have h2:=hG.cases;have e1:hd [a]=a.toNat:=rfl;simp [e1,ha,h1];omega
   ·have e1:hd [a]=a.toNat:=rfl
    simp [e1,ha]
theorem Nn.drop {A B:Bs} (hN:Nn A B) {k:Nat} (hk:k < A.length):Nn (A.drop k) B:=fun h=>hN (by
 rw [← h,List.getLast?_drop,if_neg (by omega)])
theorem kwLen_ext {A B R:Bs} (hG:Gs R) (hN:Nn A B) (h:qT (A++B)≤A.length):qT (A++R)=qT (A++B):=by
 have hc:=hG.cases
 by_cases hA:A=[]
 ·subst hA
  simp at h
  rw [List.nil_append,List.nil_append,h];unfold qT qw;rw [if_neg (show ¬ isL (hd R)=true from fun hl=>by rw [isL_iff] at hl; omega)]
  simp
 ·by_cases h1:qw (A++B) < A.length
  ·have e1:=nameLen_ext hG hA (Nat.le_of_lt h1)
   unfold qT;rw [e1,List.drop_append_of_le_length (Nat.le_of_lt h1),List.drop_append_of_le_length (Nat.le_of_lt h1),
    colonAt_ext hG (by intro e; have:=congrArg List.length e; simp at this; omega) (hN.drop h1)]
  ·have hz:qT (A++B)=0:=by
    unfold qT at h ⊢
    split
    ·rename_i h2; rw [if_pos h2] at h; omega
    ·rfl
   rw [hz];have e1:qw (A++R)=A.length:=by
    unfold qw at h1 ⊢;rw [hd_app B hA] at h1;rw [hd_app R hA]
    split at h1
    ·rename_i hl
     rw [if_pos hl];exact tw_long wN hG.w A B (by omega)
    ·have:0 < A.length:=List.length_pos_iff.2 hA
     omega
   unfold qT;rw [e1,List.drop_left,if_neg];rintro ⟨_,h3⟩;unfold zL at h3;have:=(of_decide_eq_true h3).1;omega
theorem kwsF_ext {R:Bs} (hG:Gs R):∀ (f g:Nat) (A B:Bs),A.length≤f→A.length≤g→Nn A B→kwsF g (A++B)≤A.length→kwsF f (A++R)=kwsF g (A++B):=by
 have hc:=hG.cases
 have hR0:∀ f,kwsF f R=0:=by
  intro f
  cases f with
  | zero=>rfl
  | succ f =>
   unfold kwsF;rw [if_pos];unfold qT qw;rw [if_neg (show ¬ isL (hd R)=true from fun hl=>by rw [isL_iff] at hl; omega)]
   simp
 intro f
 induction f with
 | zero =>
  intro g A B h0 hg hN h;have hA:A=[]:=List.length_eq_zero_iff.1 (by omega)
  subst hA;simp at h;rw [List.nil_append,List.nil_append,h];rfl
 | succ f ih =>
  intro g A B h0 hg hN h
  by_cases hA:A=[]
  ·subst hA
   simp at h
   rw [List.nil_append,List.nil_append,h,hR0]
  ·obtain ⟨g,rfl⟩:∃ g',g=g'+1:=⟨g - 1,by have:=List.length_pos_iff.2 hA; omega⟩
   unfold kwsF at h ⊢
   by_cases hk:qT (A++B)=0
   ·have e:=kwLen_ext hG hN (by omega)
    rw [if_pos hk,if_pos (by omega)]
   ·rw [if_neg hk] at h ⊢
    have e:=kwLen_ext (R:=R) hG hN (by omega)
    rw [if_neg (by omega),e]
    have hle:qT (A++B)≤A.length:=by omega
    rw [List.drop_append_of_le_length hle,List.drop_append_of_le_length hle];rw [List.drop_append_of_le_length hle] at h
    by_cases he:qT (A++B)=A.length
    ·have hz:kwsF g (A.drop (qT (A++B))++B)=0:=by omega
     rw [he,List.drop_length,List.nil_append] at hz;rw [he,List.drop_length,List.nil_append,List.nil_append,hR0,hz]
    ·rw [ih g (A.drop (qT (A++B))) B (by simp; omega) (by simp; omega) (hN.drop (by omega)) (by simp; omega)]
theorem opLen_ext {A B R:Bs} (hG:Gs R) (hA:A≠[]) (h:zE (A++B)≤A.length):zE (A++R)=zE (A++B):=by
 have hc:=hG.cases
 cases A with
 | nil=>exact absurd rfl hA
 | cons a A =>
  unfold zE at *;have e1:hd (a :: A++B)=a.toNat:=rfl;have e2:hd (a :: A++R)=a.toNat:=rfl;have e3:(a :: A++B).drop 1=A++B:=rfl;have e4:(a :: A++R).drop 1=A++R:=rfl;rw [e1,e3] at h ⊢;rw [e2,e4]
  by_cases ho:isO a.toNat=true
  ·rw [if_pos ho] at h ⊢
   rw [if_pos ho]
   cases A with
   | nil =>
    rw [List.nil_append] at *;rw [List.nil_append];have hn:¬ (isO (hd B)=true∧a.toNat≠45∧hd B≠45):=fun h2=>by rw [if_pos h2] at h; simp at h
    rw [if_neg hn,if_neg];rintro ⟨h3,_⟩;rw [isO_iff] at h3;omega
   | cons b A=>rfl
  ·rw [if_neg ho,if_neg ho]
theorem symLen_ext {A B R:Bs} (hG:Gs R) (hN:Nn A B) (hz:0 < zr (A++B)) (h:zr (A++B)≤A.length):zr (A++R)=zr (A++B):=by
 have hA:A≠[]:=by rintro rfl; rw [List.length_nil] at h; omega
 unfold zr at *
 by_cases hk:jv (A++B)=0
 ·rw [if_pos hk] at h ⊢
  have e:jv (A++R)=0:=by
   unfold jv at hk ⊢;rw [← hk];exact kwsF_ext hG _ _ A B (by simp) (by simp) hN (by omega)
  rw [if_pos e,nameLen_ext (R:=R) (B:=B) hG hA (by omega),opLen_ext (R:=R) (B:=B) hG hA (by omega)]
 ·rw [if_neg hk] at h ⊢
  have e:jv (A++R)=jv (A++B):=by
   unfold jv at *;exact kwsF_ext hG _ _ A B (by simp) (by simp) hN (by omega)
  rw [if_neg (by omega),e]
theorem txt_ext {R:Bs} (hR:hd R≠39):∀ (k:Nat) (A B:Bs) (x:Bs × Nat),A.length≤k→txt (A++B)=some x→x.2≤A.length→txt (A++R)=some x:=by
 intro k
 induction k with
 | zero =>
  intro A B x hk h hx;have:=txt_n _ _ h;omega
 | succ k ih =>
  intro A B x hk h hx;have hpos:=(txt_n _ _ h).1
  cases A with
  | nil=>simp at hx; omega
  | cons c A =>
   cases A with
   | nil =>
    rw [List.cons_append,List.nil_append] at *
    by_cases hc:c.toNat=39
    ·have e:x=([],1):=by
      cases B with
      | nil=>simp [txt,hc] at h; exact h.symm
      | cons d r =>
       unfold txt at h;rw [if_pos hc] at h
       split at h
       ·obtain ⟨y,hy,rfl⟩:=Option.map_eq_some_iff.1 h
        simp at hx
       ·simp at h; exact h.symm
     subst e
     cases R with
     | nil=>simp [txt,hc]
     | cons d r=>unfold txt; rw [if_pos hc,if_neg (show ¬ d.toNat=39 from hR)]
    ·exfalso
     cases B with
     | nil=>simp [txt,hc] at h
     | cons d r =>
      unfold txt at h;rw [if_neg hc] at h;obtain ⟨y,hy,rfl⟩:=Option.map_eq_some_iff.1 h;have:=(txt_n _ _ hy).1;simp at hx; omega
   | cons d A =>
    rw [List.cons_append,List.cons_append] at h ⊢;unfold txt at h ⊢
    split
    ·rename_i hc
     rw [if_pos hc] at h
     split
     ·rename_i hd'
      rw [if_pos hd'] at h;obtain ⟨y,hy,rfl⟩:=Option.map_eq_some_iff.1 h;rw [ih A B y (by simp at hk; omega) hy (by simp at hx; omega)]
      rfl
     ·rename_i hd'
      rw [if_neg hd'] at h;exact h
    ·rename_i hc
     rw [if_neg hc] at h;obtain ⟨y,hy,rfl⟩:=Option.map_eq_some_iff.1 h;rw [← List.cons_append,ih (d :: A) B y (by simp at hk ⊢; omega) hy (by simp at hx ⊢; omega)]
     rfl
theorem cmt_ext {R:Bs}:∀ (A B:Bs) (n:Nat),cmt (A++B)=some n→n≤A.length→cmt (A++R)=some n:=by
 intro A
 induction A with
 | nil=>intro B n h hn; have:=cmt_n _ _ h; simp at hn; omega
 | cons c A ih =>
  intro B n h hn;rw [List.cons_append] at h ⊢;unfold cmt at h ⊢
  split
  ·rename_i hc; rw [if_pos hc] at h; exact h
  ·rename_i hc
   rw [if_neg hc] at h;obtain ⟨y,hy,rfl⟩:=Option.map_eq_some_iff.1 h;rw [ih B y hy (by simp at hn; omega)]
   rfl
theorem Nn.tail {a:UInt8} {A B:Bs} (hN:Nn (a :: A) B):Nn A B:=by
 by_cases h:A=[]
 ·subst h; intro h; simp at h
 ·exact hN.drop (k:=1) (by have:=List.length_pos_iff.2 h; simp; omega)
theorem cut_ext {A B R:Bs} {x:Option Tok} {n:Nat} (hG:Gs R) (hN:Nn A B) (h:cut (A++B)=some (x,n)) (hn:n≤A.length):cut (A++R)=some (x,n):=by
 have hc:=hG.cases
 have hpos:=(cut_n h).1
 cases A with
 | nil=>simp at hn; omega
 | cons c A =>
  have hA:c :: A≠[]:=by simp
  unfold cut at h ⊢;rw [List.cons_append] at *;simp only [← List.cons_append] at *
  split
  ·rename_i hb; rw [if_pos hb] at h; exact h
  rename_i hb
  rw [if_neg hb] at h
  split
  ·rename_i hq
   rw [if_pos hq] at h;obtain ⟨y,hy,e⟩:=Option.map_eq_some_iff.1 h;simp at e;rw [cmt_ext A B y hy (by simp at hn; omega)]
   simp [e]
  rename_i hq
  rw [if_neg hq] at h
  split
  ·rename_i hl
   rw [if_pos hl] at h;have hle:qw (c :: A++B)≤(c :: A).length:=by split at h <;> (simp at h hn ⊢; omega)
   have e:=nameLen_ext (R:=R) hG hA hle;have et:(c :: A++R).take (qw (c :: A++B))=(c :: A++B).take (qw (c :: A++B)):=by
    rw [List.take_append_of_le_length hle,List.take_append_of_le_length hle]
   rw [e,et]
   by_cases hlt:qw (c :: A++B) < (c :: A).length
   ·have ec:zL ((c :: A++R).drop (qw (c :: A++B)))=zL ((c :: A++B).drop (qw (c :: A++B))):=by
     rw [List.drop_append_of_le_length hle,List.drop_append_of_le_length hle];exact colonAt_ext hG (by intro e; have:=congrArg List.length e; simp at this hlt; omega) (hN.drop hlt)
    rw [ec];exact h
   ·have hcf:¬ zL ((c :: A++B).drop (qw (c :: A++B)))=true:=fun hct=>by
     rw [if_pos hct] at h;simp at h hn hlt;omega
    rw [if_neg hcf] at h;have e2:qw (c :: A++B)=(c :: A).length:=by omega
    rw [if_neg,h];rw [e2,List.drop_left];intro h3;unfold zL at h3;have:=(of_decide_eq_true h3).1;omega
  rename_i hl
  rw [if_neg hl] at h
  split
  ·rename_i hdg
   rw [if_pos hdg] at h;have hle:zT (c :: A++B)≤(c :: A).length:=by
    split at h
    ·simp at h hn ⊢; omega
    ·cases h
   have e:zT (c :: A++R)=zT (c :: A++B):=by
    unfold zT at *;rw [tw_ext dN hG.d (c :: A) B hle]
   rw [e,List.take_append_of_le_length hle];rw [List.take_append_of_le_length hle] at h;exact h
  rename_i hdg
  rw [if_neg hdg] at h
  split
  ·rename_i hh
   rw [if_pos hh] at h
   by_cases hs:zr (A++B)=0
   ·rw [if_pos hs] at h
    split at h
    ·rename_i h40
     have hA':A≠[]:=by rintro rfl; simp at h hn; omega
     rw [hd_app B hA'] at h40;have hs2:zr (A++R)=0:=by
      have hk0:jv (A++R)=0:=by
       unfold jv
       cases (A++R).length with
       | zero=>rfl
       | succ f =>
        unfold kwsF;rw [if_pos];unfold qT qw;rw [hd_app R hA',h40,if_neg (show ¬ isL 40=true by decide)]
        simp
      unfold zr;rw [if_pos hk0];unfold qw zE;rw [hd_app R hA',h40,if_neg (show ¬ isL 40=true by decide),if_neg (show ¬ isO 40=true by decide)]
      rfl
     rw [if_pos hs2,hd_app R hA',if_pos h40];exact h
    ·cases h
   ·rw [if_neg hs] at h
    have hle:zr (A++B)≤A.length:=by simp at h hn; omega
    have e:=symLen_ext (R:=R) hG hN.tail (by omega) hle
    rw [e,if_neg hs,List.take_append_of_le_length hle];rw [List.take_append_of_le_length hle] at h;exact h
  rename_i hh
  rw [if_neg hh] at h
  split
  ·rename_i ho
   rw [if_pos ho] at h;have hle:zE (c :: A++B)≤(c :: A).length:=by simp at h hn ⊢; omega
   have e:=opLen_ext (R:=R) hG hA hle;rw [e,List.take_append_of_le_length hle];rw [List.take_append_of_le_length hle] at h;exact h
  rename_i ho
  rw [if_neg ho] at h
  split
  ·rename_i hq2
   rw [if_pos hq2] at h;obtain ⟨y,hy,e⟩:=Option.map_eq_some_iff.1 h;simp at e;rw [txt_ext (R:=R) (by omega) A.length A B y (Nat.le_refl _) hy (by simp at hn; omega)]
   simp [e]
  rename_i hq2
  rw [if_neg hq2] at h
  by_cases ha:c.toNat=58∧hd (A++B)=61
  ·rw [if_pos ha] at h
   have hA':A≠[]:=by rintro rfl; simp at h hn; omega
   rw [hd_app B hA'] at ha;rw [if_pos ⟨ha.1,by rw [hd_app R hA']; exact ha.2⟩]
   exact h
  ·rw [if_neg ha] at h
   have ha2:¬ (c.toNat=58∧hd (A++R)=61):=by
    rintro ⟨h1,h2⟩
    by_cases hA':A=[]
    ·subst hA'; simp at h2; omega
    ·rw [hd_app R hA'] at h2
     exact ha ⟨h1,by rw [hd_app B hA']; exact h2⟩
   rw [if_neg ha2];exact h
end Go.Proofs.YtfhkhmgodkheaaaGreatDoor
namespace Go.Proofs.YtfhkhmgodkheaaaGreatDoor
theorem hd_drop {l:Bs} {k:Nat} (h:k < l.length):hd (l.drop k)=l[k].toNat:=by
 rw [List.drop_eq_getElem_cons h]; rfl
theorem hd_drop_end {l:Bs} {k:Nat} (h:l.length≤k):hd (l.drop k)=256:=by rw [List.drop_eq_nil_of_le h]; rfl
theorem tw_hd (p:UInt8→Bool):∀ (l:Bs) (k:Nat),k < (l.takeWhile p).length→∃ c:UInt8,hd (l.drop k)=c.toNat∧p c=true:=by
 intro l
 induction l with
 | nil=>intro k h; simp at h
 | cons c r ih =>
  intro k h;rw [List.takeWhile_cons] at h
  by_cases hp:p c=true
  ·rw [if_pos hp] at h
   cases k with
   | zero=>exact ⟨c,rfl,hp⟩
   | succ k=>exact ih k (by simpa using h)
  ·rw [if_neg hp] at h; simp at h
theorem nameLen_last {l:Bs} (h:0 < qw l):isW (hd (l.drop (qw l - 1)))=true:=by
 unfold qw at *
 split at h
 ·rename_i hl
  rw [if_pos hl];obtain ⟨c,e,hc⟩:=tw_hd wN l ((l.takeWhile wN).length - 1) (by omega)
  rw [e]; exact hc
 ·omega
theorem cmt_last:∀ (l:Bs) (n:Nat),cmt l=some n→hd (l.drop (n - 1))=34:=by
 intro l
 induction l with
 | nil=>intro n h; simp [cmt] at h
 | cons c r ih =>
  intro n h;unfold cmt at h
  by_cases hc:c.toNat=34
  ·rw [if_pos hc] at h; simp at h; subst h; exact hc
  ·rw [if_neg hc] at h
   obtain ⟨y,hy,rfl⟩:=Option.map_eq_some_iff.1 h;have h1:=cmt_n _ _ hy;have:=ih y hy;obtain ⟨m,rfl⟩:∃ m,y=m+1:=⟨y - 1,by omega⟩
   exact this
theorem txt_last:∀ (k:Nat) (l:Bs) (x:Bs × Nat),l.length≤k→txt l=some x→hd (l.drop (x.2 - 1))=39:=by
 intro k
 induction k with
 | zero=>intro l x hk h; have:l=[]:=List.length_eq_zero_iff.1 (by omega); subst this; simp [txt] at h
 | succ k ih =>
  intro l x hk h
  cases l with
  | nil=>simp [txt] at h
  | cons c l =>
   cases l with
   | nil =>
    unfold txt at h
    by_cases hc:c.toNat=39
    ·rw [if_pos hc] at h; simp at h; subst h; exact hc
    ·rw [if_neg hc] at h; cases h
   | cons d r =>
    unfold txt at h
    by_cases hc:c.toNat=39
    ·rw [if_pos hc] at h
     by_cases hd':d.toNat=39
     ·rw [if_pos hd'] at h
      obtain ⟨y,hy,rfl⟩:=Option.map_eq_some_iff.1 h;have h1:=txt_n _ _ hy;have:=ih r y (by simp at hk; omega) hy
      obtain ⟨t,m⟩:=y;obtain ⟨m,rfl⟩:∃ m',m=m'+1:=⟨m - 1,by simp at h1; omega⟩
      exact this
     ·rw [if_neg hd'] at h; simp at h; subst h; exact hc
    ·rw [if_neg hc] at h
     obtain ⟨y,hy,rfl⟩:=Option.map_eq_some_iff.1 h;have h1:=txt_n _ _ hy;have:=ih (d :: r) y (by simp at hk ⊢; omega) hy
     obtain ⟨t,m⟩:=y;obtain ⟨m,rfl⟩:∃ m',m=m'+1:=⟨m - 1,by simp at h1; omega⟩
     exact this
theorem kwLen_next {l:Bs} (h:qT l≠0):hd (l.drop (qT l))≠61:=by
 unfold qT at *
 split at h
 ·rename_i h1
  rw [if_pos h1];have h2:=h1.2;unfold zL at h2;have:=(of_decide_eq_true h2).2;rw [List.drop_drop] at this;exact this
 ·omega
theorem kwsF_next (f:Nat):∀ l:Bs,kwsF f l≠0→hd (l.drop (kwsF f l))≠61:=by
 induction f with
 | zero=>intro l h; exact absurd rfl h
 | succ f ih =>
  intro l h;unfold kwsF at h ⊢
  by_cases hk:qT l=0
  ·rw [if_pos hk] at h; omega
  ·rw [if_neg hk]
   by_cases h2:kwsF f (l.drop (qT l))=0
   ·rw [h2]; exact kwLen_next hk
   ·have:=ih _ h2
    rw [List.drop_drop] at this;exact this
theorem opLen_last {l:Bs} (h:0 < zE l):isO (hd (l.drop (zE l - 1)))=true:=by
 unfold zE at *
 split at h
 ·rename_i ho
  rw [if_pos ho]
  split
  ·rename_i h2; exact h2.1
  ·exact ho
 ·omega
theorem cut_nn {l:Bs} {x:Option Tok} {n:Nat} (h:cut l=some (x,n)) (h58:hd (l.drop (n - 1))=58):hd (l.drop n)≠61:=by
 unfold cut at h
 split at h
 ·cases h
 ·rename_i c r
  split at h
  ·rename_i hb
   simp at h
   rw [← h.2] at h58;have e:c.toNat=58:=h58;rw [isB_iff] at hb; omega
  split at h
  ·obtain ⟨y,hy,e⟩:=Option.map_eq_some_iff.1 h
   simp at e
   have h1:=cmt_n _ _ hy;have h2:=cmt_last _ _ hy;obtain ⟨m,rfl⟩:∃ m,y=m+1:=⟨y - 1,by omega⟩
   rw [← e.2] at h58;have e3:hd (r.drop m)=58:=h58;have e4:hd (r.drop m)=34:=h2;omega
  split at h
  ·rename_i hl
   have h1:=nameLen_pos (l:=c :: r) hl
   split at h
   ·rename_i hc
    simp at h
    rw [← h.2];unfold zL at hc;have:=(of_decide_eq_true hc).2;rw [List.drop_drop] at this;exact this
   ·simp at h
    rw [← h.2] at h58;have:=nameLen_last (l:=c :: r) (by omega)
    rw [h58] at this;exact absurd this (by decide)
  split at h
  ·rename_i hl
   split at h
   ·simp at h
    have h1:=digLen_pos (l:=c :: r) hl;rw [← h.2] at h58;obtain ⟨d,e,hdd⟩:=tw_hd dN (c :: r) (zT (c :: r) - 1) (by unfold zT at *; omega)
    rw [e] at h58;unfold dN at hdd;rw [h58] at hdd;exact absurd hdd (by decide)
   ·cases h
  split at h
  ·split at h
   ·split at h
    ·rename_i h40
     simp at h
     rw [← h.2] at h58;have e:hd r=58:=h58;omega
    ·cases h
   ·rename_i hs
    simp at h
    rw [← h.2] at h58 ⊢;have e:hd (r.drop (zr r - 1))=58:=by
     obtain ⟨m,hm⟩:∃ m,zr r=m+1:=⟨zr r - 1,by omega⟩
     rw [hm] at h58 ⊢;exact h58
    show hd (r.drop (zr r))≠61
    unfold zr at *
    by_cases hk:jv r=0
    ·rw [if_pos hk] at e hs
     exfalso
     by_cases hle:qw r≤zE r
     ·rw [Nat.max_eq_right hle] at e hs
      have:=opLen_last (l:=r) (by omega)
      rw [e] at this;exact absurd this (by decide)
     ·rw [Nat.max_eq_left (by omega)] at e hs
      have:=nameLen_last (l:=r) (by omega)
      rw [e] at this;exact absurd this (by decide)
    ·rw [if_neg hk]
     exact kwsF_next _ r hk
  split at h
  ·rename_i ho
   simp at h
   have h3:1≤zE (c :: r):=by unfold zE; rw [if_pos (show isO (hd (c :: r))=true from ho)]; split <;> omega
   rw [← h.2] at h58;have:=opLen_last (l:=c :: r) (by omega)
   rw [h58] at this;exact absurd this (by decide)
  split at h
  ·obtain ⟨y,hy,e⟩:=Option.map_eq_some_iff.1 h
   simp at e
   have h1:=txt_n _ _ hy;have h2:=txt_last _ _ _ (Nat.le_refl _) hy;obtain ⟨t,y⟩:=y;obtain ⟨m,rfl⟩:∃ m,y=m+1:=⟨y - 1,by simp at h1; omega⟩
   rw [← e.2] at h58;have e3:hd (r.drop m)=58:=h58;have e4:hd (r.drop m)=39:=h2;omega
  split at h
  ·rename_i h2
   simp at h
   rw [← h.2] at h58;have e:hd r=58:=h58;omega
  split at h
  ·cases h
  ·rename_i h2 _
   simp at h
   rw [← h.2] at h58 ⊢;intro h61;exact h2 ⟨h58,h61⟩
theorem nn_of {l:Bs} {k:Nat} (h1:1≤k) (h2:k≤l.length) (h:hd (l.drop (k - 1))=58→hd (l.drop k)≠61):Nn (l.take k) (l.drop k):=by
 intro h3
 apply h
 rw [hd_drop (by omega)]
 rw [List.getLast?_take,if_neg (by omega)] at h3
 rw [List.getElem?_eq_getElem (by omega)] at h3
 simpa using h3
/-! sources as tokens,with their places; an error,with its place -/
inductive Lx:Nat→Bs→List (Tok × Nat)→Option Nat→Prop
 | stop (p:Nat):Lx p [] [] none
 | bad (p:Nat) (l:Bs):l≠[]→cut l=none→Lx p l [] (some p)
 | pass (p:Nat) (l:Bs) (n:Nat) (ts:List (Tok × Nat)) (e:Option Nat):cut l=some (none,n)→Lx (p+n) (l.drop n) ts e→Lx p l ts e
 | tok (p:Nat) (l:Bs) (t:Tok) (n:Nat) (ts:List (Tok × Nat)) (e:Option Nat):cut l=some (some t,n)→Lx (p+n) (l.drop n) ts e→Lx p l ((t,p) :: ts) e
namespace Lx
theorem inv {p:Nat} {l:Bs} {ts:List (Tok × Nat)} {e:Option Nat} (h:Lx p l ts e):(l=[]∧ts=[]∧e=none)∨(l≠[]∧cut l=none∧ts=[]∧e=some p)∨(∃ n,cut l=some (none,n)∧Lx (p+n) (l.drop n) ts e)∨(∃ t n ts',cut l=some (some t,n)∧ts=(t,p) :: ts'∧Lx (p+n) (l.drop n) ts' e):=by
 cases h
 ·exact Or.inl ⟨rfl,rfl,rfl⟩
 ·rename_i h1 h2; exact Or.inr (Or.inl ⟨h1,h2,rfl,rfl⟩)
 ·rename_i n h1 h2; exact Or.inr (Or.inr (Or.inl ⟨n,h1,h2⟩))
 ·rename_i t n ts h1 h2; exact Or.inr (Or.inr (Or.inr ⟨t,n,ts,h1,rfl,h2⟩))
theorem unique {p:Nat} {l:Bs} {ts:List (Tok × Nat)} {e:Option Nat} (h:Lx p l ts e):∀ {ts':List (Tok × Nat)} {e':Option Nat},Lx p l ts' e'→ts'=ts∧e'=e:=by
 induction h with
 | stop p =>
  intro ts' e' h'
  rcases h'.inv with ⟨_,h1,h2⟩ | ⟨h1,_⟩ | ⟨n,h1,_⟩ | ⟨t,n,ts2,h1,_⟩
  ·exact ⟨h1,h2⟩
  ·exact absurd rfl h1
  ·cases h1
  ·cases h1
 | bad p l g1 g2 =>
  intro ts' e' h'
  rcases h'.inv with ⟨h1,_⟩ | ⟨_,_,h1,h2⟩ | ⟨n,h1,_⟩ | ⟨t,n,ts2,h1,_⟩
  ·exact absurd h1 g1
  ·exact ⟨h1,h2⟩
  ·rw [g2] at h1; cases h1
  ·rw [g2] at h1; cases h1
 | pass p l n ts e g1 g2 ih =>
  intro ts' e' h'
  rcases h'.inv with ⟨h1,_⟩ | ⟨_,h1,_⟩ | ⟨m,h1,h2⟩ | ⟨t,m,ts2,h1,_⟩
  ·subst h1; cases g1
  ·rw [g1] at h1; cases h1
  ·rw [g1] at h1; cases h1; exact ih h2
  ·rw [g1] at h1; cases h1
 | tok p l t n ts e g1 g2 ih =>
  intro ts' e' h'
  rcases h'.inv with ⟨h1,_⟩ | ⟨_,h1,_⟩ | ⟨m,h1,h2⟩ | ⟨t',m,ts2,h1,h2,h3⟩
  ·subst h1; cases g1
  ·rw [g1] at h1; cases h1
  ·rw [g1] at h1; cases h1
  ·rw [g1] at h1; cases h1; obtain ⟨rfl,rfl⟩:=ih h3; exact ⟨h2,rfl⟩
theorem total:∀ (k:Nat) (p:Nat) (l:Bs),l.length≤k→∃ ts e,Lx p l ts e:=by
 intro k
 induction k with
 | zero=>intro p l hk; have:l=[]:=List.length_eq_zero_iff.1 (by omega); subst this; exact ⟨_,_,.stop p⟩
 | succ k ih =>
  intro p l hk
  by_cases hl:l=[]
  ·subst hl; exact ⟨_,_,.stop p⟩
  ·cases hc:cut l with
   | none=>exact ⟨_,_,.bad p l hl hc⟩
   | some x =>
    obtain ⟨x,n⟩:=x;have hn:=cut_n hc;obtain ⟨ts,e,h⟩:=ih (p+n) (l.drop n) (by simp; omega)
    cases x with
    | none=>exact ⟨_,_,.pass p l n ts e hc h⟩
    | some t=>exact ⟨_,_,.tok p l t n ts e hc h⟩
theorem places {p:Nat} {l:Bs} {ts:List (Tok × Nat)} {e:Option Nat} (h:Lx p l ts e):(∀ x∈ts,p≤x.2∧x.2 < p+l.length)∧ts.length≤l.length∧∀ q,e=some q→p≤q∧q < p+l.length:=by
 induction h with
 | stop p=>simp
 | bad p l h1 h2 =>
  have:=List.length_pos_iff.2 h1;refine ⟨by simp,by simp,?_⟩
  rintro q e
  cases e;omega
 | pass p l n ts e h1 h2 ih =>
  have:=cut_n h1;simp only [List.length_drop] at ih;exact ⟨fun x hx=>by have:=ih.1 x hx; omega,by omega,fun q hq=>by have:=ih.2.2 q hq; omega⟩
 | tok p l t n ts e h1 h2 ih =>
  have:=cut_n h1;simp only [List.length_drop] at ih;refine ⟨fun x hx=>?_,by simp; omega,fun q hq=>by have:=ih.2.2 q hq; omega⟩
  rcases List.mem_cons.1 hx with rfl | hx
  ·simp; omega
  ·have:=ih.1 x hx; omega
def sh (d:Nat) (ts:List (Tok × Nat)):List (Tok × Nat):=ts.map fun x=>(x.1,x.2+d)
theorem shift {p:Nat} {l:Bs} {ts:List (Tok × Nat)} {e:Option Nat} (d:Nat) (h:Lx p l ts e):Lx (p+d) l (sh d ts) (e.map (·+d)):=by
 induction h with
 | stop p=>exact .stop _
 | bad p l h1 h2=>exact .bad _ _ h1 h2
 | pass p l n ts e h1 h2 ih=>exact .pass _ _ n _ _ h1 (by rw [show p+d+n=p+n+d by omega]; exact ih)
 | tok p l t n ts e h1 h2 ih=>exact .tok _ _ t n _ _ h1 (by rw [show p+d+n=p+n+d by omega]; exact ih)
theorem join {p:Nat} {A R:Bs} {ts ts':List (Tok × Nat)} {e e':Option Nat} (hG:Gs R) (h:Lx p A ts e) (he:e=none) (h':Lx (p+A.length) R ts' e'):Lx p (A++R) (ts++ts') e':=by
 have hN:∀ A:Bs,Nn A []:=fun A _=>by simp [hd]
 induction h with
 | stop p=>simpa using h'
 | bad p l h1 h2=>cases he
 | pass p l n ts e h1 h2 ih =>
  have hn:=cut_n h1;refine .pass _ _ n _ _ (cut_ext (B:=[]) hG (hN _) (by simpa using h1) hn.2) ?_
  rw [List.drop_append_of_le_length hn.2];exact ih he (by rw [List.length_drop,show p+n+(l.length - n)=p+l.length by omega]; exact h')
 | tok p l t n ts e h1 h2 ih =>
  have hn:=cut_n h1;refine .tok _ _ t n _ _ (cut_ext (B:=[]) hG (hN _) (by simpa using h1) hn.2) ?_
  rw [List.drop_append_of_le_length hn.2];exact ih he (by rw [List.length_drop,show p+n+(l.length - n)=p+l.length by omega]; exact h')
theorem split {p:Nat} {l:Bs} {ts:List (Tok × Nat)} {e:Option Nat} (h:Lx p l ts e) (he:e=none):∀ (pre post:List (Tok × Nat)) (k:Nat),ts=pre++post→k≤l.length→((post=[]∧k=l.length)∨∃ t rest,post=(t,p+k) :: rest) →
  Nn (l.take k) (l.drop k)∧Lx p (l.take k) pre none∧Lx (p+k) (l.drop k) post none:=by
 have hG0:Gs []:=Or.inl rfl
 induction h with
 | stop p =>
  intro pre post k h1 hk h2;have e0:pre=[]∧post=[]:=by simpa using h1.symm
  obtain ⟨rfl,rfl⟩:=e0;simp at hk;subst hk;exact ⟨fun h=>by simp at h,.stop _,.stop _⟩
 | bad p l h1 h2=>cases he
 | pass p l n ts e h1 h2 ih =>
  intro pre post k e1 hk h3;subst he;have hn:=cut_n h1;have hpl:=h2.places
  by_cases hk0:k=0
  ·subst hk0
   exfalso
   rcases h3 with ⟨rfl,h3⟩ | ⟨t,rest,rfl⟩
   ·omega
   ·have:=hpl.1 (t,p+0) (by rw [e1]; simp)
    simp at this
    omega
  ·have hnk:n≤k:=by
    rcases h3 with ⟨rfl,h3⟩ | ⟨t,rest,rfl⟩
    ·omega
    ·have:=(hpl.1 (t,p+k) (by rw [e1]; simp)).1
     simp at this
     omega
   obtain ⟨g1,g2,g3⟩:=ih rfl pre post (k - n) e1 (by simp; omega) (by
    rcases h3 with ⟨rfl,h3⟩ | ⟨t,rest,rfl⟩
    ·exact Or.inl ⟨rfl,by simp; omega⟩
    ·exact Or.inr ⟨t,rest,by rw [show p+n+(k - n)=p+k by omega]⟩)
   rw [List.drop_drop,show n+(k - n)=k by omega] at g1 g3
   rw [show p+n+(k - n)=p+k by omega] at g3
   have hN:Nn (l.take k) (l.drop k):=nn_of (by omega) hk (fun h58=>by
    by_cases hkn:k=n
    ·subst hkn; exact cut_nn h1 h58
    ·refine g1 ?_
     rw [List.getLast?_take,if_neg (by omega),List.getElem?_drop,List.getElem?_eq_getElem (by omega)]
     rw [hd_drop (by omega)] at h58
     simp [show n+(k - n - 1)=k - 1 by omega,h58])
   refine ⟨hN,.pass _ _ n _ _ ?_ ?_,g3⟩
   ·have:=cut_ext (A:=l.take k) (B:=l.drop k) (R:=[]) hG0 hN (by rw [List.take_append_drop]; exact h1) (by simp; omega)
    simpa using this
   ·rw [List.drop_take]
    exact g2
 | tok p l t n ts e h1 h2 ih =>
  intro pre post k e1 hk h3;subst he;have hn:=cut_n h1;have hpl:=h2.places
  cases pre with
  | nil =>
   rw [List.nil_append] at e1
   rcases h3 with ⟨rfl,h3⟩ | ⟨t',rest,rfl⟩
   ·cases e1
   ·injection e1 with e1 e2
    injection e1 with e1 e3
    have:k=0:=by omega
    subst this;refine ⟨fun h=>by simp at h,.stop _,?_⟩
    subst e1 e2;exact .tok _ _ t n _ _ h1 h2
  | cons x pre =>
   rw [List.cons_append] at e1;injection e1 with e0 e1
   subst e0;have hnk:n≤k:=by
    rcases h3 with ⟨rfl,h3⟩ | ⟨t',rest,rfl⟩
    ·omega
    ·have:=(hpl.1 (t',p+k) (by rw [e1]; simp)).1
     simp at this
     omega
   obtain ⟨g1,g2,g3⟩:=ih rfl pre post (k - n) e1 (by simp; omega) (by
    rcases h3 with ⟨rfl,h3⟩ | ⟨t',rest,rfl⟩
    ·exact Or.inl ⟨rfl,by simp; omega⟩
    ·exact Or.inr ⟨t',rest,by rw [show p+n+(k - n)=p+k by omega]⟩)
   rw [List.drop_drop,show n+(k - n)=k by omega] at g1 g3
   rw [show p+n+(k - n)=p+k by omega] at g3
   have hN:Nn (l.take k) (l.drop k):=nn_of (by omega) hk (fun h58=>by
    by_cases hkn:k=n
    ·subst hkn; exact cut_nn h1 h58
    ·refine g1 ?_
     rw [List.getLast?_take,if_neg (by omega),List.getElem?_drop,List.getElem?_eq_getElem (by omega)]
     rw [hd_drop (by omega)] at h58
     simp [show n+(k - n - 1)=k - 1 by omega,h58])
   refine ⟨hN,.tok _ _ t n _ _ ?_ ?_,g3⟩
   ·have:=cut_ext (A:=l.take k) (B:=l.drop k) (R:=[]) hG0 hN (by rw [List.take_append_drop]; exact h1) (by simp; omega)
    simpa using this
   ·rw [List.drop_take]
    exact g2
end Lx
end Go.Proofs.YtfhkhmgodkheaaaGreatDoor

import Derived.Test.YtnachbjhhpnadaaGreatDoorBcA
import Derived.Laws.OwnMore
import Derived.Laws.AppendOwnNone
import Derived.StillTailTactics
set_option linter.unusedVariables false
set_option linter.unusedSimpArgs false
set_option maxHeartbeats 8000000
set_option maxRecDepth 100000
namespace Go.Proofs.YtnachbjhhpnadaaGreatDoor
section
namespace HufM
open Go.RowKit
def sumN {α:Type} (f:α->Nat):List α->Nat
 | []=>0
 | x::t=>f x+sumN f t
theorem Za1 {α:Type} (f:α->Nat) {a b:List α} (h:a.Perm b):sumN f a=sumN f b:=by
 induction h with
 | nil=>rfl
 | cons x _ ih=>simp only [sumN,ih]
 | swap x y l=>simp only [sumN];omega
 | trans _ _ ih1 ih2=>exact ih1.trans ih2
abbrev WL:=Nat×Nat
def cost (P:List WL):Nat:=sumN (fun p=>p.1*p.2) P
theorem Zh2 {α:Type} {P:List α} {p:α} (h:p∈P):∃Q,P.Perm (p::Q):=by
 obtain⟨s,t,rfl⟩:=List.append_of_mem h;exact⟨s++t,List.perm_middle⟩
inductive Huff:List Nat->Nat->Prop
 | one (w:Nat):Huff [w] 0
 | step (l:List Nat) (x y:Nat) (r:List Nat) (c:Nat):l.Perm (x::y::r)->x<=y->(∀a∈r,y<=a)->Huff ((x+y)::r) c->Huff l (c+(x+y))
abbrev Tr:=Nat×Nat
def lt (a b:Tr):Prop:=a.1<b.1\/(a.1=b.1/\a.2<b.2)
theorem Zl6 (a b:Tr) (h:a.2≠b.2):lt a b\/lt b a:=by unfold lt;omega
theorem Zcu {a b:Tr} (h:lt a b):¬lt b a:=by unfold lt at *;omega
theorem ZbE {a b c:Tr} (h:lt a b) (k:lt b c):lt a c:=by unfold lt at *;omega
theorem Zez {a b:Tr} (h:lt a b):a.1<=b.1:=by unfold lt at h;omega
inductive Run:Nat->List Tr->(Nat->Nat)->Prop
 | one (k:Nat) (t:Tr) (d:Nat->Nat):d t.2=0->Run k [t] d
 | step (k:Nat) (l:List Tr) (x y:Tr) (r:List Tr) (d:Nat->Nat):l.Perm (x::y::r)->lt x y->(∀t∈r,lt y t)->Run (k+1) ((x.1+y.1,k)::r) d->d x.2=d k+1->d y.2=d k+1->Run k l d
theorem Run.perm {k:Nat} {l l2:List Tr} {d:Nat->Nat} (h:Run k l d) (hp:l.Perm l2):Run k l2 d:=by
 cases h with
 | one _ t _ h0=>
  obtain rfl:l2=[t]:=List.perm_singleton.1 hp.symm;exact .one _ _ _ h0
 | step _ _ x y r _ h1 h2 h3 h4 h5 h6=>exact .step _ _ x y r _ (hp.symm.trans h1) h2 h3 h4 h5 h6
theorem Run.cost {k:Nat} {l:List Tr} {d:Nat->Nat} (h:Run k l d):Huff (l.map (·.1)) (sumN (fun t=>t.1*d t.2) l):=by
 induction h with
 | one k t d h0=>
  simp only [List.map_cons,List.map_nil,sumN,h0,Nat.mul_zero,Nat.add_zero];exact .one _
 | step k l x y r d hp hxy hr _ hx hy ih=>
  rw [Za1 _ hp];simp only [sumN,hx,hy];simp only [sumN,List.map_cons] at ih
  have:=Huff.step (l.map (·.1)) x.1 y.1 (r.map (·.1)) _ (by simpa using hp.map (·.1)) (Zez hxy) (fun a ha=>by
   obtain⟨t,ht,rfl⟩:=List.mem_map.1 ha;exact Zez (hr t ht)) ih
  have e:(x.1+y.1)*d k+sumN (fun t=>t.1*d t.2) r+(x.1+y.1)=x.1*(d k+1)+(y.1*(d k+1)+sumN (fun t=>t.1*d t.2) r):=by
   simp only [Nat.mul_add,Nat.add_mul,Nat.mul_one];omega
  rw [e] at this;exact this
theorem Run.whole {k:Nat} {l:List Tr} {d:Nat->Nat} (h:Run k l d):∀K,(∀t∈l,d t.2<=K)->sumN (fun t=>2^(K-d t.2)) l=2^K:=by
 induction h with
 | one k t d h0=>intro K _;simp only [sumN,h0,Nat.sub_zero,Nat.add_zero]
 | step k l x y r d hp hxy hr _ hx hy ih=>
  intro K hK;rw [Za1 _ hp];have h1:=hK x (hp.mem_iff.2 (List.mem_cons_self ..));rw [hx] at h1
  have h2:=ih K (fun t ht=>by
   rcases List.mem_cons.1 ht with rfl|ht
   ·simp only;omega
   ·exact hK t (hp.mem_iff.2 (List.mem_cons_of_mem _ (List.mem_cons_of_mem _ ht))))
  simp only [sumN] at h2 ⊢;rw [hx,hy]
  have e:2^(K-d k)=2^(K-(d k+1))+2^(K-(d k+1)):=by
   rw [show K-d k=K-(d k+1)+1 by omega,Nat.pow_succ];omega
  omega
theorem Run.order {k:Nat} {l:List Tr} {d:Nat->Nat} (h:Run k l d):(∀t∈l,t.2<k) ->
  (∀t∈l,∀u∈l,lt t u->d u.2<=d t.2)/\∀m,(∀t∈l,m<=t.1)->∀u∈l,∀t∈l,lt u t->t.1<=u.1+m->d u.2<=d t.2+1:=by
 induction h with
 | one k t d h0=>
  intro _;refine⟨fun a ha b hb h=>?_,fun m _ a ha b hb h _=>?_⟩
  ·rw [List.mem_singleton] at ha hb;subst ha;subst hb;exact Nat.le_refl _
  ·rw [List.mem_singleton] at ha hb;subst ha;subst hb;exact Nat.le_succ _
 | step k l x y r d hp hxy hr _ hx hy ih=>
  intro hn;have hxl:x∈l:=hp.mem_iff.2 (List.mem_cons_self ..);have hyl:y∈l:=hp.mem_iff.2 (List.mem_cons_of_mem _ (List.mem_cons_self ..));have hrl:∀t∈r,t∈l:=fun t ht=>hp.mem_iff.2 (List.mem_cons_of_mem _ (List.mem_cons_of_mem _ ht))
  have hin:∀t∈l,t=x\/t=y\/t∈r:=fun t ht=>by
   rcases List.mem_cons.1 (hp.mem_iff.1 ht) with h|h
   ·exact Or.inl h
   ·rcases List.mem_cons.1 h with h|h
    ·exact Or.inr (Or.inl h)
    ·exact Or.inr (Or.inr h)
  obtain⟨hA,hB⟩:=ih (fun t ht=>by
   rcases List.mem_cons.1 ht with rfl|ht
   ·exact Nat.lt_succ_self _
   ·exact Nat.lt_succ_of_lt (hn t (hrl t ht)))
  have hzm:((x.1+y.1,k):Tr)∈((x.1+y.1,k):Tr)::r:=List.mem_cons_self ..;have hrm:∀t∈r,t∈((x.1+y.1,k):Tr)::r:=fun t ht=>List.mem_cons_of_mem _ ht
  have hxw:=Zez hxy
  have hone:∀u∈r,d u.2<=d k+1:=fun u hu=>by
   have huw:=Zez (hr u hu);rcases Zl6 u (x.1+y.1,k) (by have:=hn u (hrl u hu);simp only;omega) with h|h
   ·have:=hB x.1 (fun t ht=>by
     rcases List.mem_cons.1 ht with rfl|ht
     ·simp only;omega
     ·have:=Zez (hr t ht);omega) u (hrm u hu) _ hzm h (by simp only;omega)
    exact this
   ·have:=hA _ hzm u (hrm u hu) h;simp only at this;omega
  refine⟨fun t ht u hu h=>?_,fun m hm u hu t ht h hw=>?_⟩
  ·rcases hin t ht with rfl|rfl|ht
   ·rcases hin u hu with rfl|rfl|hu
    ·exact Nat.le_refl _
    ·rw [hx,hy];exact Nat.le_refl _
    ·rw [hx];exact hone u hu
   ·rcases hin u hu with rfl|rfl|hu
    ·rw [hx,hy];exact Nat.le_refl _
    ·exact Nat.le_refl _
    ·rw [hy];exact hone u hu
   ·rcases hin u hu with rfl|rfl|hu
    ·exact absurd (ZbE hxy (hr t ht)) (Zcu h)
    ·exact absurd (hr t ht) (Zcu h)
    ·exact hA t (hrm t ht) u (hrm u hu) h
  ·rcases hin u hu with rfl|rfl|hu
   ·rcases hin t ht with rfl|rfl|ht
    ·exact Nat.le_succ _
    ·rw [hx,hy];exact Nat.le_succ _
    ·have hmy:=hm y hyl;have hk:=hn t (hrl t ht);have hlt:lt t (u.1+y.1,k):=by unfold lt;simp only;omega
     have:=hA t (hrm t ht) _ hzm hlt;simp only at this;omega
   ·rcases hin t ht with rfl|rfl|ht
    ·rw [hx,hy];exact Nat.le_succ _
    ·exact Nat.le_succ _
    ·have hmx:=hm x hxl;have hk:=hn t (hrl t ht);have hlt:lt t (x.1+u.1,k):=by unfold lt;simp only;omega
     have:=hA t (hrm t ht) _ hzm hlt;simp only at this;omega
   ·rcases hin t ht with rfl|rfl|ht
    ·exact absurd (ZbE hxy (hr u hu)) (Zcu h)
    ·exact absurd (hr u hu) (Zcu h)
    ·exact hB m (fun q hq=>by
      rcases List.mem_cons.1 hq with rfl|hq
      ·have:=hm x hxl;simp only;omega
      ·exact hm q (hrl q hq)) u (hrm u hu) t (hrm t ht) h hw
def wt (t:Tr):Nat:=t.1
def grow:Nat->Nat->Nat->Nat
 | 0,a,_=>a
 | D+1,a,m=>grow D (a+m) (max a m)
theorem Zdn:∀(D a b m n:Nat),a<=b->m<=n->grow D a m<=grow D b n
 | 0,a,b,m,n,h,_=>h
 | D+1,a,b,m,n,h,k=>Zdn D _ _ _ _ (by omega) (by omega)
theorem Run.deep {k:Nat} {l:List Tr} {d:Nat->Nat} (h:Run k l d):∀(t:Tr) (r:List Tr) (m:Nat),l.Perm (t::r)->(∀u∈r,m<=u.1)->grow (d t.2) t.1 m<=sumN wt l:=by
 induction h with
 | one k t d h0=>
  intro u r m hp hm;have:=List.perm_singleton.1 hp.symm;simp only [List.cons.injEq] at this;obtain⟨rfl,rfl⟩:=this;rw [h0];simp [grow,sumN,wt]
 | step k l x y r d hp hxy hr _ hx hy ih=>
  intro t q m hq hm
  have hs:sumN wt l=sumN wt (((x.1+y.1,k):Tr)::r):=by
   rw [Za1 _ hp];simp only [sumN,wt];omega
  have hpq:=hp.symm.trans hq;have hxw:=Zez hxy;rw [hs];by_cases htx:t=x
  ·subst htx;have hqq:=hpq.cons_inv;have hmy:=hm y (hqq.mem_iff.1 (List.mem_cons_self ..))
   have h1:=ih (t.1+y.1,k) r (max t.1 m) (List.Perm.refl _) (fun u hu=>by
    have h2:=Zez (hr u hu);omega)
   rw [hx];exact Nat.le_trans (Zdn (d k) (t.1+m) (t.1+y.1) (max t.1 m) (max t.1 m) (by omega) (Nat.le_refl _)) h1
  ·by_cases hty:t=y
   ·subst hty;have hqq:=((List.Perm.swap x t r).trans hpq).cons_inv;have hmx:=hm x (hqq.mem_iff.1 (List.mem_cons_self ..))
    have h1:=ih (x.1+t.1,k) r (max t.1 m) (List.Perm.refl _) (fun u hu=>by
     have h2:=Zez (hr u hu);have h3:=hm u (hqq.mem_iff.1 (List.mem_cons_of_mem _ hu));omega)
    rw [hy];have h2:grow (d k) (t.1+m) (max t.1 m)<=grow (d k) (x.1+t.1) (max t.1 m):=Zdn _ _ _ _ _ (by omega) (Nat.le_refl _);exact Nat.le_trans h2 h1
   ·have htr:t∈r:=by
     have:t∈x::y::r:=hpq.mem_iff.2 (List.mem_cons_self ..);rcases List.mem_cons.1 this with h|h
     ·exact absurd h htx
     ·rcases List.mem_cons.1 h with h|h
      ·exact absurd h hty
      ·exact h
    obtain⟨r2,hr2⟩:=Zh2 htr
    have hqq:(x::y::r2).Perm q:=by
     have h1:(x::y::r).Perm (t::x::y::r2):=
      ((hr2.cons y).cons x).trans (((List.Perm.swap t y r2).cons x).trans (List.Perm.swap t x (y::r2)))
     exact(h1.symm.trans hpq).cons_inv
    refine ih t (((x.1+y.1,k):Tr)::r2) m ((hr2.cons _).trans (List.Perm.swap _ _ _)) (fun u hu=>?_);rcases List.mem_cons.1 hu with rfl|hu
    ·have:=hm x (hqq.mem_iff.1 (List.mem_cons_self ..));simp only;omega
    ·exact hm u (hqq.mem_iff.1 (List.mem_cons_of_mem _ (List.mem_cons_of_mem _ hu)))
end HufM
end
section
namespace HufM
open Go.RowKit
def Dis (l:List Tr):Prop:=l.Pairwise (fun a b=>a.2≠b.2)
theorem Dis.perm {l m:List Tr} (h:Dis l) (p:l.Perm m):Dis m:=(p.pairwise_iff (fun h=>fun e=>h e.symm)).1 h
theorem Run.congr {k:Nat} {l:List Tr} {d:Nat->Nat} (h:Run k l d):∀d':Nat->Nat,(∀t∈l,d' t.2=d t.2)->(∀n,k<=n->d' n=d n)->Run k l d':=by
 induction h with
 | one k t d h0=>intro d' h1 _;exact .one _ _ _ (by rw [h1 t (List.mem_cons_self ..),h0])
 | step k l x y r d hp hxy hr _ hx hy ih=>
  intro d' h1 h2;refine .step _ _ x y r _ hp hxy hr (ih d' (fun t ht=>?_) (fun n hn=>h2 n (by omega))) ?_ ?_
  ·rcases List.mem_cons.1 ht with rfl|ht
   ·exact h2 k (Nat.le_refl _)
   ·exact h1 t (hp.mem_iff.2 (List.mem_cons_of_mem _ (List.mem_cons_of_mem _ ht)))
  ·rw [h1 x (hp.mem_iff.2 (List.mem_cons_self ..)),h2 k (Nat.le_refl _),hx]
  ·rw [h1 y (hp.mem_iff.2 (List.mem_cons_of_mem _ (List.mem_cons_self ..))),h2 k (Nat.le_refl _),hy]
theorem Zdo:∀(l:List Tr),l≠[]->Dis l->∃x r,l.Perm (x::r)/\∀t∈r,lt x t
 | [],h,_=>absurd rfl h
 | [a],_,_=>⟨a,[],List.Perm.refl _,fun t h=>(by cases h)⟩
 | a::b::t,_,hd=>by
  obtain⟨ha,hd2⟩:=List.pairwise_cons.1 hd;obtain⟨x,r,hp,hx⟩:=Zdo (b::t) (by simp) hd2;have hxm:x∈b::t:=hp.mem_iff.2 (List.mem_cons_self ..);rcases Zl6 a x (ha x hxm) with h|h
  ·exact⟨a,x::r,hp.cons a,fun u hu=>by
    rcases List.mem_cons.1 hu with rfl|hu
    ·exact h
    ·exact ZbE h (hx u hu)⟩
  ·exact⟨x,a::r,(hp.cons a).trans (List.Perm.swap x a r),fun u hu=>by
    rcases List.mem_cons.1 hu with rfl|hu
    ·exact h
    ·exact hx u hu⟩
theorem Znm (l:List Tr) (h:2<=l.length) (hd:Dis l):∃x y r,l.Perm (x::y::r)/\lt x y/\∀t∈r,lt y t:=by
 obtain⟨x,q,hp,hx⟩:=Zdo l (by rintro rfl;simp at h) hd;have hl:=hp.length_eq;have hq:=(List.pairwise_cons.1 (hd.perm hp)).2;obtain⟨y,r,hp2,hy⟩:=Zdo q (by rintro rfl;simp at hl;omega) hq;exact⟨x,y,r,hp.trans (hp2.cons x),hx y (hp2.mem_iff.2 (List.mem_cons_self ..)),hy⟩
theorem Run.exists:∀(n k:Nat) (l:List Tr),l.length=n+1->Dis l->(∀t∈l,t.2<k)->∃d,Run k l d
 | 0,k,l,hl,_,_=>by
  obtain⟨t,rfl⟩:=List.length_eq_one_iff.1 hl;exact⟨fun _=>0,.one _ _ _ rfl⟩
 | n+1,k,l,hl,hd,hk=>by
  obtain⟨x,y,r,hp,hxy,hr⟩:=Znm l (by omega) hd;have hlen:=hp.length_eq;have hdp:=hd.perm hp;obtain⟨hdx,hd2⟩:=List.pairwise_cons.1 hdp;obtain⟨hdy,hd3⟩:=List.pairwise_cons.1 hd2;have hkr:∀t∈r,t.2<k:=fun t ht=>hk t (hp.mem_iff.2 (List.mem_cons_of_mem _ (List.mem_cons_of_mem _ ht)))
  have hkx:=hk x (hp.mem_iff.2 (List.mem_cons_self ..));have hky:=hk y (hp.mem_iff.2 (List.mem_cons_of_mem _ (List.mem_cons_self ..)))
  obtain⟨d,hrun⟩:=Run.exists n (k+1) (((x.1+y.1,k):Tr)::r) (by simp at hlen ⊢;omega)
   (List.pairwise_cons.2 ⟨fun t ht=>by have:=hkr t ht;simp only;omega,hd3⟩)
   (fun t ht=>by
    rcases List.mem_cons.1 ht with rfl|ht
    ·exact Nat.lt_succ_self _
    ·exact Nat.lt_succ_of_lt (hkr t ht))
  refine⟨fun i=>if i=x.2\/i=y.2 then d k+1 else d i,.step _ _ x y r _ hp hxy hr (hrun.congr _ (fun t ht=>?_) (fun i hi=>if_neg (by omega))) ?_ ?_⟩
  ·refine if_neg ?_;rcases List.mem_cons.1 ht with rfl|ht
   ·simp only;omega
   ·have h1:=hdx t (List.mem_cons_of_mem _ ht);have h2:=hdy t ht;omega
  ·show(if x.2=x.2\/x.2=y.2 then _ else _)=(if k=x.2\/k=y.2 then _ else _)+1;rw [if_pos (Or.inl rfl),if_neg (by omega)]
  ·show(if y.2=x.2\/y.2=y.2 then _ else _)=(if k=x.2\/k=y.2 then _ else _)+1;rw [if_pos (Or.inr rfl),if_neg (by omega)]
theorem Zh3 {x x':Tr} {r r':List Tr} (hp:(x::r).Perm (x'::r')) (h:∀t∈r,lt x t) (h':∀t∈r',lt x' t):x=x'/\r.Perm r':=by
 have hx:x'∈x::r:=hp.mem_iff.2 (List.mem_cons_self ..);have hx':x∈x'::r':=hp.mem_iff.1 (List.mem_cons_self ..)
 have e:x=x':=by
  rcases List.mem_cons.1 hx with e|hx
  ·exact e.symm
  ·rcases List.mem_cons.1 hx' with e|hx'
   ·exact e
   ·exact absurd (h x' hx) (Zcu (h' x hx'))
 subst e;exact⟨rfl,hp.cons_inv⟩
theorem Run.next {k:Nat} {l:List Tr} {d:Nat->Nat} (h:Run k l d) {x y:Tr} {r:List Tr} (hp:l.Perm (x::y::r)) (hxy:lt x y) (hr:∀t∈r,lt y t) :
  Run (k+1) ((x.1+y.1,k)::r) d/\d x.2=d k+1/\d y.2=d k+1:=by
 cases h with
 | one _ t _ h0=>
  have:=hp.length_eq;simp at this
 | step _ _ a b q _ hq hab hb hrun ha hb2=>
  obtain⟨rfl,h2⟩:=Zh3 (hq.symm.trans hp) (fun t ht=>by
   rcases List.mem_cons.1 ht with rfl|ht
   ·exact hab
   ·exact ZbE hab (hb t ht)) (fun t ht=>by
   rcases List.mem_cons.1 ht with rfl|ht
   ·exact hxy
   ·exact ZbE hxy (hr t ht))
  obtain⟨rfl,h3⟩:=Zh3 h2 hb hr;exact⟨hrun.perm (h3.cons _),ha,hb2⟩
theorem Run.end_ {k:Nat} {t:Tr} {d:Nat->Nat} (h:Run k [t] d):d t.2=0:=by
 cases h with
 | one _ _ _ h0=>exact h0
 | step _ _ a b q _ hq _ _ _ _ _=>
  have:=hq.length_eq;simp at this
structure Two (n k:Nat) (A B:List Tr):Prop where
 a:A.Pairwise lt
 b:B.Pairwise lt
 an:∀t∈A,t.2<n
 bn:∀t∈B,n<=t.2/\t.2<k
 low:∃m,(∀t∈A,m<=t.1)/\(∀t∈B,m<=t.1)/\∀t∈B,t.1<=2*m
def pick:List Tr->List Tr->Option (Tr×List Tr×List Tr)
 | [],[]=>none
 | a::A,[]=>some (a,A,[])
 | [],b::B=>some (b,[],B)
 | a::A,b::B=>if a.1<=b.1 then some (a,A,b::B) else some (b,a::A,B)
theorem Zgk {n k:Nat} {A B:List Tr} (h:Two n k A B) {x:Tr} {A' B':List Tr} (hp:pick A B=some (x,A',B')) :
  (A++B).Perm (x::(A'++B'))/\(∀t∈A'++B',lt x t)/\Two n k A' B':=by
 obtain⟨ha,hb,han,hbn,m,hm1,hm2,hm3⟩:=h;cases A with
 | nil=>
  cases B with
  | nil=>simp [pick] at hp
  | cons b B=>
   simp only [pick,Option.some.injEq,Prod.mk.injEq] at hp;obtain⟨rfl,rfl,rfl⟩:=hp;obtain⟨h1,h2⟩:=List.pairwise_cons.1 hb;exact⟨List.Perm.refl _,h1,⟨List.Pairwise.nil,h2,fun t h=>(by cases h),fun t ht=>hbn t (List.mem_cons_of_mem _ ht),m,fun t h=>(by cases h),fun t ht=>hm2 t (List.mem_cons_of_mem _ ht),fun t ht=>hm3 t (List.mem_cons_of_mem _ ht)⟩⟩
 | cons a A=>
  obtain⟨h1,h2⟩:=List.pairwise_cons.1 ha;cases B with
  | nil=>
   simp only [pick,Option.some.injEq,Prod.mk.injEq] at hp;obtain⟨rfl,rfl,rfl⟩:=hp;exact⟨List.Perm.refl _,fun t ht=>h1 t (by simpa using ht),⟨h2,List.Pairwise.nil,fun t ht=>han t (List.mem_cons_of_mem _ ht),fun t h=>(by cases h),m,fun t ht=>hm1 t (List.mem_cons_of_mem _ ht),fun t h=>(by cases h),fun t h=>(by cases h)⟩⟩
  | cons b B=>
   obtain⟨h3,h4⟩:=List.pairwise_cons.1 hb;have hna:=han a (List.mem_cons_self ..);have hnb:=(hbn b (List.mem_cons_self ..)).1;simp only [pick] at hp;split at hp
   ·rename_i hle;simp only [Option.some.injEq,Prod.mk.injEq] at hp;obtain⟨rfl,rfl,rfl⟩:=hp;have hab:lt a b:=by unfold lt;omega
    refine⟨List.Perm.refl _,fun t ht=>?_,⟨h2,hb,fun t ht=>han t (List.mem_cons_of_mem _ ht),hbn,m,fun t ht=>hm1 t (List.mem_cons_of_mem _ ht),hm2,hm3⟩⟩;rcases List.mem_append.1 ht with ht|ht
    ·exact h1 t ht
    ·rcases List.mem_cons.1 ht with rfl|ht
     ·exact hab
     ·exact ZbE hab (h3 t ht)
   ·rename_i hle;simp only [Option.some.injEq,Prod.mk.injEq] at hp;obtain⟨rfl,rfl,rfl⟩:=hp;have hba:lt b a:=by unfold lt;omega
    refine⟨List.perm_middle,fun t ht=>?_,⟨ha,h4,han,fun t ht=>hbn t (List.mem_cons_of_mem _ ht),m,hm1,fun t ht=>hm2 t (List.mem_cons_of_mem _ ht),fun t ht=>hm3 t (List.mem_cons_of_mem _ ht)⟩⟩;rcases List.mem_append.1 ht with ht|ht
    ·rcases List.mem_cons.1 ht with rfl|ht
     ·exact hba
     ·exact ZbE hba (h1 t ht)
    ·exact h3 t ht
theorem Two.join {n k:Nat} {A B A1 B1 A2 B2:List Tr} {x y:Tr} (h:Two n k A B) (hnk:n<=k) (h1:pick A B=some (x,A1,B1)) (h2:pick A1 B1=some (y,A2,B2)) :
  Two n (k+1) A2 (B2++[(x.1+y.1,k)])/\(A++B).Perm (x::y::(A2++B2))/\lt x y/\∀t∈A2++B2,lt y t:=by
 obtain⟨p1,l1,t1⟩:=Zgk h h1;obtain⟨p2,l2,t2⟩:=Zgk t1 h2;have hxy:lt x y:=l1 y (p2.mem_iff.2 (List.mem_cons_self ..));have hp:(A++B).Perm (x::y::(A2++B2)):=p1.trans (p2.cons x);refine⟨?_,hp,hxy,l2⟩;obtain⟨m,hm1,hm2,hm3⟩:=h.low
 have hsub:∀t∈B2,t∈B:=fun t ht=>by
  have h3:t∈A++B:=hp.mem_iff.2 (List.mem_cons_of_mem _ (List.mem_cons_of_mem _ (List.mem_append_right _ ht)));rcases List.mem_append.1 h3 with h4|h4
  ·have h5:=h.an t h4;have h6:=(t2.bn t ht).1;omega
  ·exact h4
 have hmx:m<=x.1:=by
  have h3:x∈A++B:=hp.mem_iff.2 (List.mem_cons_self ..);rcases List.mem_append.1 h3 with h4|h4
  ·exact hm1 x h4
  ·exact hm2 x h4
 have hxyw:=Zez hxy;refine⟨t2.a,?_,t2.an,fun t ht=>?_,y.1,fun t ht=>Zez (l2 t (List.mem_append_left _ ht)),fun t ht=>?_,fun t ht=>?_⟩
 ·refine List.pairwise_append.2 ⟨t2.b,List.pairwise_singleton _ _,fun a ha b hb=>?_⟩;rw [List.mem_singleton] at hb;subst hb;have h3:=hm3 a (hsub a ha);have h4:=(t2.bn a ha).2;unfold lt;simp only;omega
 ·rcases List.mem_append.1 ht with ht|ht
  ·have:=t2.bn t ht;omega
  ·rw [List.mem_singleton] at ht;subst ht;simp only;omega
 ·rcases List.mem_append.1 ht with ht|ht
  ·exact Zez (l2 t (List.mem_append_right _ ht))
  ·rw [List.mem_singleton] at ht;subst ht;simp only;omega
 ·rcases List.mem_append.1 ht with ht|ht
  ·have:=hm3 t (hsub t ht);omega
  ·rw [List.mem_singleton] at ht;subst ht;simp only;omega
theorem Two.start {n:Nat} {A:List Tr} (ha:A.Pairwise lt) (hn:∀t∈A,t.2<n):Two n n A []:=
 ⟨ha,List.Pairwise.nil,hn,fun t h=>(by cases h),0,fun t _=>Nat.zero_le _,fun t h=>(by cases h),fun t h=>(by cases h)⟩
end HufM
end
section
namespace HufM
open Go.RowKit
theorem Run.unique {k:Nat} {l:List Tr} {d:Nat->Nat} (h:Run k l d):∀d',Run k l d'->∀t∈l,d t.2=d' t.2:=by
 induction h with
 | one k t d h0=>
  intro d' h' u hu;rw [List.mem_singleton] at hu;subst hu;rw [h0,h'.end_]
 | step k l x y r d hp hxy hr hrun hx hy ih=>
  intro d' h' u hu;obtain⟨h1,h2,h3⟩:=h'.next hp hxy hr;have key:=ih d' h1;have hk:d k=d' k:=key ((x.1+y.1,k):Tr) (List.mem_cons_self ..);rcases List.mem_cons.1 (hp.mem_iff.1 hu) with rfl|hu
  ·rw [hx,h2,hk]
  ·rcases List.mem_cons.1 hu with rfl|hu
   ·rw [hy,h3,hk]
   ·exact key u (List.mem_cons_of_mem _ hu)
theorem Run.pos {k:Nat} {l:List Tr} {d:Nat->Nat} (h:Run k l d):2<=l.length->∀t∈l,1<=d t.2:=by
 induction h with
 | one k t d h0=>intro h;simp at h
 | step k l x y r d hp hxy hr hrun hx hy ih=>
  intro _ u hu;rcases List.mem_cons.1 (hp.mem_iff.1 hu) with rfl|hu
  ·omega
  ·rcases List.mem_cons.1 hu with rfl|hu
   ·omega
   ·refine ih ?_ u (List.mem_cons_of_mem _ hu);cases r with
    | nil=>cases hu
    | cons a b=>simp
theorem Run.short {k:Nat} {l:List Tr} {d:Nat->Nat} (h:Run k l d):∀t∈l,d t.2+1<=l.length:=by
 induction h with
 | one k t d h0=>
  intro u hu;rw [List.mem_singleton] at hu;subst hu;rw [h0];simp
 | step k l x y r d hp hxy hr hrun hx hy ih=>
  intro u hu;have hl:=hp.length_eq;simp only [List.length_cons] at hl ih;have hk:=ih ((x.1+y.1,k):Tr) (List.mem_cons_self ..);simp only at hk;rcases List.mem_cons.1 (hp.mem_iff.1 hu) with rfl|hu
  ·omega
  ·rcases List.mem_cons.1 hu with rfl|hu
   ·omega
   ·have:=ih u (List.mem_cons_of_mem _ hu);omega
theorem Zbb {α β:Type} (f:β->Nat) (g:α->β) (l:List α):sumN f (l.map g)=sumN (fun x=>f (g x)) l:=by
 induction l with
 | nil=>rfl
 | cons x t ih=>simp only [List.map_cons,sumN,ih]
theorem ZaL {α:Type} (f:α->Nat) (a b:List α):sumN f (a++b)=sumN f a+sumN f b:=by
 induction a with
 | nil=>simp [sumN]
 | cons x t ih=>simp only [List.cons_append,sumN,ih];omega
theorem ZcP (f:Nat->Nat) (k:Nat):sumN f (List.range (k+1))=sumN f (List.range k)+f k:=by
 rw [List.range_succ,ZaL];simp [sumN]
theorem Zbp {α:Type} {f g:α->Nat} {l:List α} (h:∀x∈l,f x=g x):sumN f l=sumN g l:=by
 induction l with
 | nil=>rfl
 | cons x t ih=>simp only [sumN];rw [h x (List.mem_cons_self ..),ih (fun y hy=>h y (List.mem_cons_of_mem _ hy))]
theorem Zca {α:Type} {f:α->Nat} {l:List α} {c:Nat} (h:∀x∈l,f x<=c):sumN f l<=c*l.length:=by
 induction l with
 | nil=>simp [sumN]
 | cons x t ih=>
  have h1:=h x (List.mem_cons_self ..);have h2:=ih (fun y hy=>h y (List.mem_cons_of_mem _ hy));simp only [sumN,List.length_cons,Nat.mul_add];omega
def ini (w:List Int):List Tr:=(List.range w.length).map fun i=>((w.getD i 0).toNat,i)
theorem Zcb (w:List Int):(ini w).length=w.length:=by simp [ini]
theorem Za6 {w:List Int} {t:Tr} (h:t∈ini w):t.2<w.length/\t.1=(w.getD t.2 0).toNat:=by
 obtain⟨i,hi,rfl⟩:=List.mem_map.1 h;exact⟨List.mem_range.1 hi,rfl⟩
theorem Ze5 {w:List Int} {i:Nat} (h:i<w.length):((w.getD i 0).toNat,i)∈ini w:=List.mem_map.2 ⟨i,List.mem_range.2 h,rfl⟩
theorem Zc5 (w:List Int):Dis (ini w):=by
 unfold Dis ini;rw [List.pairwise_map];exact List.pairwise_lt_range.imp (fun h=>by simp only;omega)
def DepP (w zs:List Int):Prop:=∃d,Run w.length (ini w) d/\zs=(List.range w.length).map fun i=>(d i:Int)
theorem DepP.exists {w:List Int} (h:1<=w.length):∃zs,DepP w zs:=by
 obtain⟨d,hd⟩:=Run.exists (w.length-1) w.length (ini w) (by rw [Zcb];omega) (Zc5 w) (fun t ht=>(Za6 ht).1);exact⟨_,d,hd,rfl⟩
theorem DepP.same {w zs ys:List Int} (h:DepP w zs) (k:DepP w ys):zs=ys:=by
 obtain⟨d,hd,rfl⟩:=h;obtain⟨e,he,rfl⟩:=k;apply List.map_congr_left;intro i hi;rw [hd.unique e he _ (Ze5 (List.mem_range.1 hi))]
theorem DepP.len {w zs:List Int} (h:DepP w zs):zs.length=w.length:=by
 obtain⟨d,_,rfl⟩:=h;simp
theorem ZkY (d:Nat->Nat) {n i:Nat} (h:i<n):((List.range n).map fun i=>(d i:Int)).getD i 0=(d i:Int):=by
 rw [List.getD_eq_getElem?_getD,List.getElem?_map,List.getElem?_range h];rfl
theorem DepP.bound {w zs:List Int} (h:DepP w zs) (h2:2<=w.length):∀z∈zs,1<=z/\z+1<=(w.length:Int):=by
 obtain⟨d,hd,rfl⟩:=h;intro z hz;obtain⟨i,hi,rfl⟩:=List.mem_map.1 hz;have hm:=Ze5 (w:=w) (List.mem_range.1 hi);have h1:=hd.pos (by rw [Zcb];exact h2) _ hm;have h3:=hd.short _ hm;rw [Zcb] at h3;simp only at h1 h3;omega
theorem DepP.order {w zs:List Int} (h:DepP w zs) {i k:Nat} (hi:i<w.length) (hk:k<w.length) (h0:0<=w.getD k 0) (hlt:w.getD k 0<w.getD i 0):zs.getD i 0<=zs.getD k 0:=by
 obtain⟨d,hd,rfl⟩:=h;rw [ZkY d hi,ZkY d hk];have:=(hd.order (fun t ht=>(Za6 ht).1)).1 _ (Ze5 hk) _ (Ze5 hi) (Or.inl (by simp only;omega));simp only at this;omega
def shr (l:List Int):Nat:=sumN (fun x=>2^(20-x.toNat)) l
theorem DepP.whole {w zs:List Int} (h:DepP w zs) (h20:∀z∈zs,z<=20):shr zs=2^20:=by
 obtain⟨d,hd,rfl⟩:=h
 have hK:∀t∈ini w,d t.2<=20:=fun t ht=>by
  have h1:=(Za6 ht).1;have h2:=h20 (d t.2:Int) (List.mem_map.2 ⟨t.2,List.mem_range.2 h1,rfl⟩);omega
 have:=hd.whole 20 hK;unfold shr;rw [Zbb];unfold ini at this;rw [Zbb] at this;simpa using this
theorem Znn:∀(D a m:Nat),grow D a m<=grow (D+1) a m
 | 0,a,m=>by simp [grow]
 | D+1,a,m=>Znn D (a+m) (max a m)
theorem Zno:∀(e D a m:Nat),grow D a m<=grow (D+e) a m
 | 0,D,a,m=>Nat.le_refl _
 | e+1,D,a,m=>Nat.le_trans (Zno e D a m) (Znn (D+e) a m)
theorem DepP.deep {w zs:List Int} (h:DepP w zs) (h2:∀x∈w,1<=x/\x<=2) (hn:w.length<=1000):∀z∈zs,z<=20:=by
 obtain⟨d,hd,rfl⟩:=h;intro z hz;obtain⟨i,hi,rfl⟩:=List.mem_map.1 hz;have hi':=List.mem_range.1 hi
 have hw:∀j,j<w.length->1<=w.getD j 0/\w.getD j 0<=2:=fun j hj=>h2 _ (by
  rw [List.getD_eq_getElem?_getD,List.getElem?_eq_getElem hj];exact List.getElem_mem hj)
 obtain⟨r,hr⟩:=Zh2 (Ze5 hi')
 have h3:=hd.deep _ r 1 hr (fun u hu=>by
  obtain⟨h4,h5⟩:=Za6 (hr.mem_iff.2 (List.mem_cons_of_mem _ hu));have:=hw u.2 h4;omega)
 have h4:sumN wt (ini w)<=2*(ini w).length:=Zca (fun t ht=>by
  obtain⟨h4,h5⟩:=Za6 ht;have:=hw t.2 h4;unfold wt;omega)
 rw [Zcb] at h4;by_cases hd20:d i<=20
 ·omega
 ·exfalso
  have h5:=Zno (d i-21) 21 1 1;rw [show 21+(d i-21)=d i by omega] at h5;have h6:=hw i hi';have h7:=Zdn (d i) 1 (w.getD i 0).toNat 1 1 (by omega) (Nat.le_refl _);have h8:grow 21 1 1=28657:=by decide
  simp only at h3;omega
def hv (x:Int):Int:=(if x<0 then 0 else x) / 2+1
def hvs (w:List Int):List Int:=w.map hv
theorem Zcc (w:List Int):(hvs w).length=w.length:=by simp [hvs]
def Bd (j:Nat) (w:List Int):Prop:=∀x∈w,1<=x/\x<=((2^j+1:Nat):Int)
theorem Bd.half {j:Nat} {w:List Int} (h:Bd (j+1) w):Bd j (hvs w):=by
 intro y hy;obtain⟨x,hx,rfl⟩:=List.mem_map.1 hy;obtain⟨h1,h2⟩:=h x hx;rw [Nat.pow_succ] at h2;unfold hv;rw [if_neg (by omega)];omega
inductive OfR:Nat->List Int->List Int->Prop
 | now (w zs:List Int):DepP w zs->(∀z∈zs,z<=20)->OfR 0 w zs
 | later (n:Nat) (w ys zs:List Int):DepP w ys->¬(∀y∈ys,y<=20)->OfR n (hvs w) zs->OfR (n+1) w zs
theorem OfR.same {n:Nat} {w zs:List Int} (h:OfR n w zs):∀m ys,OfR m w ys->zs=ys/\n=m:=by
 induction h with
 | now w zs h1 h2=>
  intro m ys h;cases h with
  | now _ _ k1 k2=>exact⟨h1.same k1,rfl⟩
  | later _ _ y2 _ k1 k2 k3=>rw [<-h1.same k1] at k2;exact absurd h2 k2
 | later n w y zs h1 h2 _ ih=>
  intro m ys h;cases h with
  | now _ _ k1 k2=>rw [<-h1.same k1] at k2;exact absurd k2 h2
  | later _ _ y2 _ k1 k2 k3=>
   obtain⟨h3,rfl⟩:=ih _ _ k3;exact⟨h3,rfl⟩
theorem OfR.exists:∀(j:Nat) (w:List Int),Bd j w->1<=w.length->w.length<=1000->∃n zs,n<=j/\OfR n w zs
 | 0,w,hb,h1,h2=>by
  obtain⟨zs,hz⟩:=DepP.exists h1
  exact⟨0,zs,Nat.le_refl _,.now _ _ hz (hz.deep (fun x hx=>by
   have:=hb x hx;simp at this;omega) h2)⟩
 | j+1,w,hb,h1,h2=>by
  obtain⟨ys,hy⟩:=DepP.exists h1;by_cases h:∀y∈ys,y<=20
  ·exact⟨0,ys,Nat.zero_le _,.now _ _ hy h⟩
  ·obtain⟨n,zs,hn,ho⟩:=OfR.exists j (hvs w) hb.half (by rw [Zcc];exact h1) (by rw [Zcc];exact h2);exact⟨n+1,zs,by omega,.later _ _ ys _ hy h ho⟩
theorem OfR.whole {n:Nat} {w zs:List Int} (h:OfR n w zs):2<=w.length->zs.length=w.length/\(∀z∈zs,1<=z/\z<=20)/\shr zs=2^20:=by
 induction h with
 | now w zs h1 h2=>intro hl;exact⟨h1.len,fun z hz=>⟨(h1.bound hl z hz).1,h2 z hz⟩,h1.whole h2⟩
 | later n w y zs h1 h2 _ ih=>
  intro hl;have:=ih (by rw [Zcc];exact hl);rw [Zcc] at this;exact this
end HufM
end
section
namespace CanM
open Go.RowKit HufM BitM
def sz (n:Nat):Nat:=2^(20-n)
def ent (l:List Int):List Tr:=ini l
theorem Zdp:∀(n:Nat) (l:List Tr),l.length=n->Dis l->∃os,l.Perm os/\os.Pairwise lt
 | 0,l,hl,_=>⟨[],by rw [List.eq_nil_of_length_eq_zero hl],List.Pairwise.nil⟩
 | n+1,l,hl,hd=>by
  obtain⟨x,r,hp,hx⟩:=Zdo l (by rintro rfl;simp at hl) hd;have hlr:=hp.length_eq;obtain⟨os,h1,h2⟩:=Zdp n r (by simp at hlr;omega) (List.pairwise_cons.1 (hd.perm hp)).2;exact⟨x::os,hp.trans (h1.cons x),List.pairwise_cons.2 ⟨fun t ht=>hx t (h1.mem_iff.2 ht),h2⟩⟩
instance (a b:Tr):Decidable (lt a b):=by unfold lt;exact inferInstance
def frm (l:List Int) (x:Tr):Nat:=sumN (fun y:Tr=>if lt y x then sz y.1 else 0) (ent l)
def siz (y:Tr):Nat:=sz y.1
theorem Zdq {l:List Int} {os s t:List Tr} {x:Tr} (hp:(ent l).Perm os) (hs:os.Pairwise lt) (he:os=s++x::t):frm l x=sumN siz s:=by
 unfold frm;rw [Za1 _ hp,he,ZaL];subst he;obtain⟨h1,h2,h3⟩:=List.pairwise_append.1 hs;obtain⟨h4,h5⟩:=List.pairwise_cons.1 h2
 have e1:sumN (fun y:Tr=>if lt y x then sz y.1 else 0) s=sumN siz s:=Zbp (fun y hy=>by
  rw [if_pos (h3 y hy x (List.mem_cons_self ..))];rfl)
 have e2:sumN (fun y:Tr=>if lt y x then sz y.1 else 0) (x::t)=0:=by
  have:∀y∈x::t,(fun y:Tr=>if lt y x then sz y.1 else 0) y=(fun _=>0) y:=fun y hy=>by
   simp only;refine if_neg ?_;rcases List.mem_cons.1 hy with rfl|hy
   ·unfold lt;omega
   ·exact Zcu (h4 y hy)
  rw [Zbp this];have:=Zca (f:=fun _:Tr=>0) (l:=x::t) (c:=0) (fun _ _=>Nat.le_refl _);omega
 rw [e1,e2];omega
theorem Zjq (l:List Int):sumN siz (ent l)=shr l:=by
 unfold ent ini shr;rw [Zbb]
 have e:l=(List.range l.length).map fun i=>l.getD i 0:=by
  apply List.ext_getElem
  ·simp
  ·intro j h1 h2;rw [List.getElem_map,List.getElem_range,List.getD_eq_getElem?_getD,List.getElem?_eq_getElem h1];rfl
 conv=>rhs;rw [e,Zbb]
 rfl
theorem find:∀(os:List Tr) (a v:Nat),a<=v->v<a+sumN siz os->∃s x t,os=s++x::t/\a+sumN siz s<=v/\v<a+sumN siz s+siz x
 | [],a,v,h1,h2=>by simp [sumN] at h2;omega
 | x::t,a,v,h1,h2=>by
  by_cases h:v<a+siz x
  ·exact⟨[],x,t,rfl,by simpa [sumN] using h1,by simpa [sumN] using h⟩
  ·obtain⟨s,y,u,he,h3,h4⟩:=find t (a+siz x) v (by omega) (by simp only [sumN] at h2;omega);exact⟨x::s,y,u,by rw [he];rfl,by simp only [sumN];omega,by simp only [sumN];omega⟩
theorem cover {l:List Int} {v:Nat} (hv:v<shr l):∃i,i<l.length/\frm l ((l.getD i 0).toNat,i)<=v/\v<frm l ((l.getD i 0).toNat,i)+sz (l.getD i 0).toNat:=by
 obtain⟨os,hp,hs⟩:=Zdp (ent l).length (ent l) rfl (Zc5 l);rw [<-Zjq,Za1 _ hp] at hv;obtain⟨s,x,t,he,h1,h2⟩:=find os 0 v (Nat.zero_le _) (by omega);have hf:=Zdq hp hs he;have hx:x∈ent l:=hp.mem_iff.2 (by rw [he];exact List.mem_append_right _ (List.mem_cons_self ..));obtain⟨h3,h4⟩:=Za6 hx;have ex:((l.getD x.2 0).toNat,x.2)=x:=by rw [<-h4]
 refine⟨x.2,h3,?_,?_⟩
 ·rw [ex,hf];omega
 ·have h6:siz x=sz x.1:=rfl;rw [ex,hf,<-h4];omega
theorem apart {l:List Int} {x y:Tr} (hx:x∈ent l) (hy:y∈ent l) (h:lt x y):frm l x+siz x<=frm l y:=by
 obtain⟨os,hp,hs⟩:=Zdp (ent l).length (ent l) rfl (Zc5 l);obtain⟨s,t,he⟩:=List.append_of_mem (hp.mem_iff.1 hy);rw [Zdq hp hs he]
 have hxs:x∈s:=by
  have h1:x∈s++y::t:=by rw [<-he];exact hp.mem_iff.1 hx
  rcases List.mem_append.1 h1 with h2|h2
  ·exact h2
  ·exfalso
   rcases List.mem_cons.1 h2 with rfl|h2
   ·unfold lt at h;omega
   ·rw [he] at hs;obtain⟨_,h3,_⟩:=List.pairwise_append.1 hs;exact Zcu h ((List.pairwise_cons.1 h3).1 x h2)
 obtain⟨s1,s2,hse⟩:=List.append_of_mem hxs;have he2:os=s1++x::(s2++y::t):=by rw [he,hse];simp
 rw [Zdq hp hs he2,hse,ZaL];simp only [sumN];omega
theorem within {l:List Int} {x:Tr} (hx:x∈ent l):frm l x+siz x<=shr l:=by
 obtain⟨os,hp,hs⟩:=Zdp (ent l).length (ent l) rfl (Zc5 l);obtain⟨s,t,he⟩:=List.append_of_mem (hp.mem_iff.1 hx);rw [Zdq hp hs he,<-Zjq,Za1 _ hp,he,ZaL];simp only [sumN];omega
theorem Znp {α:Type} {f:α->Nat} {c:Nat} {l:List α} (h:∀x∈l,c ∣ f x):c ∣ sumN f l:=by
 induction l with
 | nil=>exact Nat.dvd_zero _
 | cons x t ih=>exact Nat.dvd_add (h x (List.mem_cons_self ..)) (ih (fun y hy=>h y (List.mem_cons_of_mem _ hy)))
theorem ZrZ (l:List Int) (x:Tr):sz x.1 ∣ frm l x:=by
 refine Znp (fun y hy=>?_);split
 ·rename_i h;have:=Zez h;exact Nat.pow_dvd_pow 2 (by omega)
 ·exact Nat.dvd_zero _
def cod (l:List Int) (x:Tr):Nat:=frm l x / sz x.1
theorem Zgl (n:Nat):0<sz n:=Nat.pow_pos (by decide)
theorem Znq (l:List Int) (x:Tr):cod l x*sz x.1=frm l x:=Nat.div_mul_cancel (ZrZ l x)
theorem Zh4 {l:List Int} {x:Tr} (hx:x∈ent l) (hw:shr l=2^20) (hn:x.1<=20):cod l x<2^x.1:=by
 have h1:=within hx;rw [hw,<-Znq l x] at h1;have e:(2:Nat)^20=2^x.1*sz x.1:=by unfold sz;rw [<-Nat.pow_add];congr 1;omega
 rw [e] at h1;have h2:=Zgl x.1;unfold siz at h1;have h3:(cod l x+1)*sz x.1<=2^x.1*sz x.1:=by rw [Nat.add_mul];omega
 exact Nat.le_of_mul_le_mul_right h3 h2
def Begins (l:List Int) (x:Tr) (q:List Bool):Prop:=x.1<=q.length/\num (q.take x.1)=cod l x
theorem ZdV {l:List Int} {x:Tr} {q r:List Bool} (h:Begins l x q) (h20:(q++r).length=20) (hx:x.1<=20):frm l x<=num (q++r)/\num (q++r)<frm l x+siz x:=by
 obtain⟨h1,h2⟩:=h;have e:q++r=q.take x.1++(q.drop x.1++r):=by rw [<-List.append_assoc,List.take_append_drop]
 have hl:(q.drop x.1++r).length=20-x.1:=by
  rw [List.length_append,List.length_drop];rw [List.length_append] at h20;omega
 have h3:=ZaB (q.drop x.1++r);rw [e,ZaE,h2,hl,<-Znq l x];rw [hl] at h3;unfold siz sz;unfold sz at *;omega
theorem Zl7 {l:List Int} {x y:Tr} {q:List Bool} (hx:x∈ent l) (hy:y∈ent l) (hx2:x.1<=20) (hy2:y.1<=20) (h:Begins l x q) (k:Begins l y q):x=y:=by
 have trim:∀z:Tr,z.1<=20->Begins l z q->Begins l z (q.take 20):=fun z hz hb=>⟨by rw [List.length_take];have:=hb.1;omega,by rw [List.take_take,Nat.min_eq_left hz];exact hb.2⟩
 have hlen:(q.take 20++List.replicate (20-(q.take 20).length) false).length=20:=by simp;omega
 obtain⟨h1,h2⟩:=ZdV (trim x hx2 h) hlen hx2;obtain⟨k1,k2⟩:=ZdV (trim y hy2 k) hlen hy2;by_cases e:x.2=y.2
 ·obtain⟨_,hxw⟩:=Za6 hx;obtain⟨_,hyw⟩:=Za6 hy;exact Prod.ext (by rw [hxw,hyw,e]) e
 ·exfalso
  rcases Zl6 x y e with h5|h5
  ·have:=apart hx hy h5;omega
  ·have:=apart hy hx h5;omega
def fst_ (l:List Int) (n:Nat):Nat:=sumN (fun y:Tr=>if y.1<n then sz y.1 else 0) (ent l)
def rank (l:List Int) (n i:Nat):Nat:=sumN (fun j=>if (l.getD j 0).toNat=n then 1 else 0) (List.range i)
theorem Zbh (l:List Int) (n i:Nat):rank l n (i+1)=rank l n i+if (l.getD i 0).toNat=n then 1 else 0:=ZcP _ _
theorem ZeH {α:Type} (f g:α->Nat) (l:List α):sumN (fun x=>f x+g x) l=sumN f l+sumN g l:=by
 induction l with
 | nil=>rfl
 | cons x t ih=>simp only [sumN,ih];omega
theorem ZgZ (l:List Int) (n i:Nat):∀e:Nat,sumN (fun j=>if (l.getD j 0).toNat=n/\j<i then sz n else 0) (List.range (i+e))=rank l n i*sz n
 | 0=>by
  unfold rank;rw [Nat.add_zero]
  have h:∀k,k<=i->sumN (fun j=>if (l.getD j 0).toNat=n/\j<i then sz n else 0) (List.range k)=sumN (fun j=>if (l.getD j 0).toNat=n then 1 else 0) (List.range k)*sz n:=by
   intro k
   induction k with
   | zero=>intro _;simp [sumN]
   | succ k ih=>
    intro hk;rw [ZcP,ZcP,ih (by omega),Nat.add_mul];by_cases e:(l.getD k 0).toNat=n
    ·rw [if_pos ⟨e,by omega⟩,if_pos e,Nat.one_mul]
    ·rw [if_neg (fun h=>e h.1),if_neg e,Nat.zero_mul]
  exact h i (Nat.le_refl _)
 | e+1=>by
  rw [<-Nat.add_assoc,ZcP,ZgZ l n i e,if_neg (by omega)];rfl
theorem ZkZ {l:List Int} {i:Nat} (hi:i<l.length) (n:Nat) (hn:(l.getD i 0).toNat=n):frm l (n,i)=fst_ l n+rank l n i*sz n:=by
 unfold frm fst_ ent ini;rw [Zbb,Zbb];have h:=ZgZ l n i (l.length-i);rw [show i+(l.length-i)=l.length by omega] at h;rw [<-h,<-ZeH];refine Zbp (fun j hj=>?_);have e:lt ((l.getD j 0).toNat,j) (n,i)↔(l.getD j 0).toNat<n\/((l.getD j 0).toNat=n/\j<i):=Iff.rfl;by_cases h1:(l.getD j 0).toNat<n
 ·rw [if_pos (e.2 (Or.inl h1)),if_pos h1,if_neg (by omega)];rfl
 ·by_cases h2:(l.getD j 0).toNat=n/\j<i
  ·rw [if_pos (e.2 (Or.inr h2)),if_neg h1,if_pos h2,h2.1];exact(Nat.zero_add _).symm
  ·rw [if_neg (fun h=>by rcases e.1 h with h|h;exact h1 h;exact h2 h),if_neg h1,if_neg h2]
theorem Zjr (l:List Int) (n:Nat):sz n ∣ fst_ l n:=by
 refine Znp (fun y hy=>?_);split
 ·exact Nat.pow_dvd_pow 2 (by omega)
 ·exact Nat.dvd_zero _
def fcod (l:List Int) (n:Nat):Nat:=fst_ l n / sz n
theorem ZeI {l:List Int} {i:Nat} (hi:i<l.length) (n:Nat) (hn:(l.getD i 0).toNat=n):cod l (n,i)=fcod l n+rank l n i:=by
 unfold cod fcod;rw [ZkZ hi n hn,Nat.add_mul_div_right _ _ (Zgl n)]
theorem Zcv (l:List Int) {n:Nat} (hn:n<20):fcod l (n+1)=2*(fcod l n+rank l n l.length):=by
 have h1:fst_ l (n+1)=fst_ l n+rank l n l.length*sz n:=by
  have h:=ZgZ l n l.length 0;rw [Nat.add_zero] at h;rw [<-h];unfold fst_ ent ini;rw [Zbb,Zbb,<-ZeH];refine Zbp (fun j hj=>?_);have hj':=List.mem_range.1 hj;by_cases h1:(l.getD j 0).toNat<n
  ·rw [if_pos (by simp only;omega),if_pos h1,if_neg (by omega)];rfl
  ·by_cases h2:(l.getD j 0).toNat=n
   ·rw [if_pos (by simp only;omega),if_neg h1,if_pos ⟨h2,hj'⟩];simp only [h2];omega
   ·rw [if_neg (by simp only;omega),if_neg h1,if_neg (fun h=>h2 h.1)]
 have e:sz n=2*sz (n+1):=by
  unfold sz;rw [show 20-n=20-(n+1)+1 by omega,Nat.pow_succ];omega
 have h2:=Nat.div_mul_cancel (Zjr l n)
 have h3:fst_ l (n+1)=2*(fcod l n+rank l n l.length)*sz (n+1):=by
  rw [h1]
  conv=>lhs;rw [<-h2]
  show fcod l n*sz n+rank l n l.length*sz n=_;rw [<-Nat.add_mul,e,<-Nat.mul_assoc,Nat.mul_comm (fcod l n+rank l n l.length) 2]
 unfold fcod at h3 ⊢;rw [h3,Nat.mul_div_cancel _ (Zgl _)]
theorem Ze6 (l:List Int) (n:Nat):∀(i e:Nat),rank l n i<=rank l n (i+e)
 | i,0=>Nat.le_refl _
 | i,e+1=>by
  rw [<-Nat.add_assoc,Zbh];have:=Ze6 l n i e;omega
end CanM
end
section
namespace CanM
open Go.RowKit HufM BitM
def ln (l:List Int) (i:Nat):Nat:=(l.getD i 0).toNat
def cl (l:List Int) (m:Nat):Nat:=sumN (fun j=>if ln l j<m then 1 else 0) (List.range l.length)
theorem ZdW (l:List Int) (m:Nat):cl l (m+1)=cl l m+rank l m l.length:=by
 unfold cl rank;rw [<-ZeH];refine Zbp (fun j _=>?_);unfold ln;by_cases h1:(l.getD j 0).toNat<m
 ·rw [if_pos h1,if_pos (by omega),if_neg (by omega)]
 ·by_cases h2:(l.getD j 0).toNat=m
  ·rw [if_pos (by omega),if_neg h1,if_pos h2]
  ·rw [if_neg (by omega),if_neg h1,if_neg h2]
theorem Znr (l:List Int):∀(e m:Nat),cl l m<=cl l (m+e)
 | 0,m=>Nat.le_refl _
 | e+1,m=>by
  rw [<-Nat.add_assoc,ZdW];have:=Znr l e m;omega
theorem Zr0 (l:List Int) (m:Nat):cl l m<=l.length:=by
 have:=Zca (f:=fun j=>if ln l j<m then 1 else 0) (l:=List.range l.length) (c:=1) (fun x _=>by split<;>omega);rw [List.length_range] at this;unfold cl;omega
def plc (l:List Int) (i:Nat):Nat:=cl l (ln l i)+rank l (ln l i) i
theorem Zg0 (l:List Int) {i N:Nat} (h:i<N):rank l (ln l i) i<rank l (ln l i) N:=by
 have h1:=Zbh l (ln l i) i;rw [if_pos (show(l.getD i 0).toNat=ln l i from rfl)] at h1;have h2:=Ze6 l (ln l i) (i+1) (N-(i+1));rw [show i+1+(N-(i+1))=N by omega] at h2;omega
theorem plc_lt (l:List Int) {i j:Nat} (hj:j<l.length) (h:ln l j<ln l i\/(ln l j=ln l i/\j<i)):plc l j<plc l i:=by
 rcases h with h|⟨h1,h2⟩
 ·have h1:=Zg0 l hj;have h2:=ZdW l (ln l j);have h3:=Znr l (ln l i-(ln l j+1)) (ln l j+1);rw [show ln l j+1+(ln l i-(ln l j+1))=ln l i by omega] at h3;unfold plc;omega
 ·have h3:=Zg0 l h2;unfold plc;rw [<-h1];omega
theorem Zbi (l:List Int) {i:Nat} (hi:i<l.length):plc l i<l.length:=by
 have h1:=Zg0 l hi;have h2:=ZdW l (ln l i);have h3:=Zr0 l (ln l i+1);unfold plc;omega
theorem Ztc (l:List Int) {i j:Nat} (hi:i<l.length) (hj:j<l.length) (h:i≠j):plc l i≠plc l j:=by
 intro e;by_cases h1:ln l i<ln l j\/(ln l i=ln l j/\i<j)
 ·have:=plc_lt l hi h1;omega
 ·have:=plc_lt l hj (i:=i) (by omega);omega
theorem Zk0 (l:List Int) (m:Nat) (hm:m<=20):(fcod l m+rank l m l.length)*sz m=sumN (fun y:Tr=>if y.1<m+1 then sz y.1 else 0) (ent l):=by
 have h1:fst_ l (m+1)=fst_ l m+rank l m l.length*sz m:=by
  have h:=ZgZ l m l.length 0;rw [Nat.add_zero] at h;rw [<-h];unfold fst_ ent ini;rw [Zbb,Zbb,<-ZeH];refine Zbp (fun j hj=>?_);have hj':=List.mem_range.1 hj;by_cases h1:(l.getD j 0).toNat<m
  ·rw [if_pos (by simp only;omega),if_pos h1,if_neg (by omega)];rfl
  ·by_cases h2:(l.getD j 0).toNat=m
   ·rw [if_pos (by simp only;omega),if_neg h1,if_pos ⟨h2,hj'⟩];simp only [h2];omega
   ·rw [if_neg (by simp only;omega),if_neg h1,if_neg (fun h=>h2 h.1)]
 have h2:=Nat.div_mul_cancel (Zjr l m);show _=fst_ l (m+1);rw [h1,Nat.add_mul];unfold fcod;rw [h2]
theorem Zgm (l:List Int) (m:Nat) (hm:m<=20):(fcod l m+rank l m l.length)*sz m<=shr l:=by
 rw [Zk0 l m hm,<-Zjq]
 have:∀(t:List Tr),sumN (fun y:Tr=>if y.1<m+1 then sz y.1 else 0) t<=sumN siz t:=by
  intro t
  induction t with
  | nil=>exact Nat.le_refl _
  | cons x t ih=>
   simp only [sumN];have h1:siz x=sz x.1:=rfl;split<;>omega
 exact this _
theorem Ze7 (l:List Int):fcod l 0=0:=by
 unfold fcod fst_
 have:sumN (fun y:Tr=>if y.1<0 then sz y.1 else 0) (ent l)=0:=by
  have h:=Zca (f:=fun y:Tr=>if y.1<0 then sz y.1 else 0) (l:=ent l) (c:=0) (fun y _=>by rw [if_neg (by omega)];exact Nat.le_refl 0);omega
 rw [this,Nat.zero_div]
theorem Zdr {l:List Int} (h:∀z∈l,1<=z):rank l 0 l.length=0:=by
 unfold rank
 have h2:=Zca (f:=fun j=>if (l.getD j 0).toNat=0 then 1 else 0) (l:=List.range l.length) (c:=0) (fun j hj=>by
  have hj:=List.mem_range.1 hj;have h3:=h (l.getD j 0) (by rw [List.getD_eq_getElem?_getD,List.getElem?_eq_getElem hj];exact List.getElem_mem hj);rw [if_neg (by omega)];exact Nat.le_refl 0)
 omega
theorem Ztd {l:List Int} (h:∀z∈l,1<=z):cl l 1=0:=by
 have h1:=ZdW l 0;rw [Zdr h] at h1
 have h2:cl l 0=0:=by
  have h:=Zca (f:=fun j=>if ln l j<0 then 1 else 0) (l:=List.range l.length) (c:=0) (fun j _=>by rw [if_neg (by omega)];exact Nat.le_refl 0);unfold cl;omega
 rw [h1,h2]
end CanM
end
section
open Go.RowKit
structure Touch (S:Nat->Prop) (w w':World):Prop where
 os:w'.os=w.os
 tape:w'.tape=w.tape
 output:w'.output=w.output
 size:w.heap.size<=w'.heap.size
 block:∀k,k<w.heap.size->¬S k->w'.heap[k]?=w.heap[k]?
namespace Touch
variable {S T : Nat -> Prop} {a b c : World}
theorem refl (S:Nat->Prop) (w:World):Touch S w w:=⟨rfl,rfl,rfl,Nat.le_refl _,fun _ _ _=>rfl⟩
theorem trans (h:Touch S a b) (k:Touch T b c) (hT:∀i,T i->S i\/a.heap.size<=i):Touch S a c:=
 ⟨k.os.trans h.os,k.tape.trans h.tape,k.output.trans h.output,Nat.le_trans h.size k.size,fun i hi hS=>
  (k.block i (Nat.lt_of_lt_of_le hi h.size) (fun ht=>by rcases hT i ht with g|g;exact hS g;omega)).trans (h.block i hi hS)⟩
theorem mono (h:Touch S a b) (hS:∀i,S i->T i):Touch T a b:=⟨h.os,h.tape,h.output,h.size,fun i hi ht=>h.block i hi (fun hs=>ht (hS i hs))⟩
theorem drew (h:Touch S a b):Touch S a b.drew:=⟨h.os,h.tape,h.output,h.size,h.block⟩
theorem alloc (h:Touch S a b) (o:Obj):Touch S a (b.alloc o):=
 ⟨h.os,h.tape,h.output,by have:=h.size;simp;omega,fun i hi hs=>(Below.heap_alloc b o i (Nat.lt_of_lt_of_le hi h.size)).trans (h.block i hi hs)⟩
theorem setCell (h:Touch S a b) {p:Addr} (hp:S p.block\/a.heap.size<=p.block) (v:Value):Touch S a (b.setCell p v):=
 ⟨h.os,h.tape,h.output,by simpa [World.setCell] using h.size,fun i hi hs=>(heap_setCell_other b p i v (fun e=>by rcases hp with g|g;exact hs (e▸g);omega)).trans (h.block i hi hs)⟩
theorem grown (h:Touch S a b) {r:Option Nat} (hg:b.grownBy c r) (hr:∀i,r=some i->S i\/a.heap.size<=i):Touch S a c:=
 ⟨hg.os.trans h.os,hg.tape.trans h.tape,hg.output.trans h.output,Nat.le_trans h.size hg.size,fun i hi hs=>
  (hg.block i (Nat.lt_of_lt_of_le hi h.size) (fun e=>by rcases hr i e.symm with g|g;exact hs g;omega)).trans (h.block i hi hs)⟩
theorem ofBelow (h:Below a.heap.size a b):Touch S a b:=⟨h.os,h.tape,h.output,h.size,fun i hi _=>h.block i hi⟩
theorem below {B:Nat} (h:Touch S a b) (hB:B<=a.heap.size) (hS:∀i,S i->B<=i):Below B a b:=
 ⟨h.os,h.tape,h.output,h.size,fun i hi=>h.block i (by omega) (fun hs=>by have:=hS i hs;omega)⟩
end Touch
theorem Zad (S:Nat->Prop) (w:World) (n:Nat):Touch S w (w.drewN n):=⟨rfl,rfl,rfl,Nat.le_refl _,fun _ _ _=>rfl⟩
theorem Zaa {b i:Nat} {w0 w:World} {v:Value} (h:Touch (·=b) w0 w):Touch (·=b) w0 (w.setCell ⟨b,i,none⟩ v):=Touch.setCell (S:=(·=b)) (p:=⟨b,i,none⟩) h (Or.inl rfl) v
def u8v (x:UInt8):Value:=.int .u8 (x.toNat:Int)
theorem Zr1:(Tryz.prog.info? 5).map (fun i=>(i.zero,i.size,i.bytes))=some (some (.int .u8 0),1,1):=by kernel_rfl
def foot (b:Nat) (v:Value) (k:Nat):Prop:=k=b\/v.ownBlock=some k
theorem Zcw {P:Program} (w:World) (base:Nat) (t ty e:TypeId) (i:TypeInfo) (z:Value) (size bytes:Nat) (ht:P.underlying t=some (.slice e)) (hi:P.info? e=some i) (hz:i.zero=some z)
  (hsize:i.size=size) (hby:i.bytes=bytes) (hzs:z.cells.size=size) (hsz:0<size)
  (v:Value) (n:Nat) (xs:List Value) (hown:w.ownsRow base e size v n xs)
  (a:Addr) (m c:Nat) (news:List Value) (hl:news.length=m*size) (hnews:∀j u,news[j]?=some u->w.cell? (a.add j)=some u) (h1:∀u∈news,u.oneCell'=true)
  (h63:n+m<=maxLen) (hbytes:(n+m)*bytes<=140737488355328) (hbase:base<=w.heap.size) :
  ∃v' w',(Builtin.append_ #[t,t] ty #[v,.slice (some a) m c]).run P w=.ok v' w'/\w'.ownsRow base e size v' (n+m) (xs++news)/\w.grownBy w' v.ownBlock /\
   (∀k,v'.ownBlock=some k->v.ownBlock=some k\/w.heap.size<=k):=by
 obtain⟨v',w',hr,h2,h3,h4⟩:=run_append_own (P:=P) w base t ty e i z size bytes ht hi hz hsize hby hzs hsz v n xs hown a m c news hl hnews h1 h63 hbytes hbase;refine⟨v',w',hr,h2,h3,fun k hk=>?_⟩;have hsmall:n+m<=9223372036854775807:=by simp only [maxLen] at h63;omega
 subst hsize;subst hby;rcases hown.2 with⟨rfl,rfl⟩|⟨g,cap,cur,rfl,_,hg,hnc,hcm,hcs,htake⟩
 ·by_cases hm:m=0
  ·rw [(h4.2 ⟨rfl,hm⟩)] at hk;simp [Value.ownBlock] at hk
  ·have hr2:=run_append_nil (P:=P) w t ty e i z ht hi hz a m c news hl hnews (by omega) (by omega) (by have hb:=hbytes;simp only [Nat.zero_add] at hb;omega);rw [hr] at hr2;simp only [Result.ok.injEq] at hr2;rw [hr2.1] at hk;simp [Value.ownBlock] at hk;exact Or.inr (by omega)
 ·by_cases hroom:n+m<=cap
  ·have hfit:n*i.size+news.length<=cur.size:=by rw [hl,hcs,<-Nat.add_mul];exact Nat.mul_le_mul_right _ hroom
   have hr2:=run_append_room (P:=P) w t ty e i ht hi g n cap cur hg a m c news hl hnews h1 hroom hfit;rw [hr] at hr2;simp only [Result.ok.injEq] at hr2;rw [hr2.1] at hk;exact Or.inl hk
  ·have holds:∀j u,xs[j]?=some u->w.cell? ((⟨g,0,none⟩:Addr).add j)=some u:=hown.cells (g:=g) rfl;have hr2:=run_append_grow (P:=P) w t ty e i z ht hi hz ⟨g,0,none⟩ n cap xs hown.1 holds a m c news hl hnews (by omega) (by omega) (growslice_fits (by omega) hbytes);rw [hr] at hr2;simp only [Result.ok.injEq] at hr2;rw [hr2.1] at hk;simp [Value.ownBlock] at hk;exact Or.inr (by omega)
theorem ZaS {P:Program} {ops:Array Oper} {o:Oper} {a:Act} {w:World} {K:Act->World->Prop} {Q:Exit->Act->World->Prop} {E:Prop} (hg:o.guard=none) (s x:Operand) (t:TypeId)
  (ho:o.op=.call { callee:=.builtin .append,args:=#[s,x],argTypes:=#[t,t] })
  (base:Nat) (e:TypeId) (i:TypeInfo) (z:Value) (size bytes:Nat) (ht:P.underlying t=some (.slice e)) (hi:P.info? e=some i) (hz:i.zero=some z)
  (hsize:i.size=size) (hby:i.bytes=bytes) (hzs:z.cells.size=size) (hsz:0<size)
  (v:Value) (n:Nat) (xs:List Value) (hs:a.eval s=v) (hown:w.ownsRow base e size v n xs)
  (ad:Addr) (m c:Nat) (news:List Value) (hx:a.eval x=.slice (some ad) m c) (hl:news.length=m*size) (hnews:∀j u,news[j]?=some u->w.cell? (ad.add j)=some u) (h1:∀u∈news,u.oneCell'=true)
  (h63:n+m<=maxLen) (hbytes:(n+m)*bytes<=140737488355328) (hbase:base<=w.heap.size)
  (h:∀v' w',w'.ownsRow base e size v' (n+m) (xs++news)->w.grownBy w' v.ownBlock->(∀k,v'.ownBlock=some k->v.ownBlock=some k\/w.heap.size<=k)->K (a.put o.dst v') w') :
  if Region.wanted o (yielded ops a.tmps)=true then Oper.wp P o a w K Q else E:=by
 have hw:Region.wanted o (yielded ops a.tmps)=true:=by simp [Region.wanted,hg]
 rw [if_pos hw];obtain⟨v',w',hr,h2,h3,h4⟩:=Zcw (P:=P) w base t o.type e i z size bytes ht hi hz hsize hby hzs hsz v n xs hown ad m c news hl hnews h1 h63 hbytes hbase;unfold Oper.wp execOp;simp only [ho,resolve,invoke,builtin,Sem.run_bind,Sem.run_pure,Result.andThen_ok,List.map_toArray,List.map_cons,List.map_nil,hs,hx,hr];exact h v' w' h2 h3 h4
end
section
open Go.RowKit
theorem iv {a b:Int} {k:IntKind} (h:a=b):Value.int k a=Value.int k b:=by rw [h]
theorem Zax {w:World} {base e size:Nat} {v:Value} {n:Nat} {xs:List Value} (h:w.ownsRow base e size v n xs):∃a cap,v=.slice a n cap:=by
 rcases h.2 with⟨rfl,rfl⟩|⟨g,cap,cur,rfl,_⟩
 ·exact⟨none,0,rfl⟩
 ·exact⟨_,cap,rfl⟩
theorem Zah {w w':World} {base e size:Nat} {v:Value} {n:Nat} {xs:List Value} (h:w.ownsRow base e size v n xs) (he:∀k,v.ownBlock=some k->w'.heap[k]?=w.heap[k]?):w'.ownsRow base e size v n xs:=by
 refine⟨h.1,?_⟩;rcases h.2 with hn|⟨g,cap,cur,rfl,hb,hg,r⟩
 ·exact Or.inl hn
 ·exact Or.inr ⟨g,cap,cur,rfl,hb,(he g rfl).trans hg,r⟩
theorem ZaD (w:World) (cs:Array Value) (t:TypeId) (n:Nat) (hn:n=w.heap.size):∀(j:Nat) u,cs.toList[j]?=some u->(w.alloc (.cells cs t)).cell? ((⟨n,0,none⟩:Addr).add j)=some u:=by
 subst hn;intro j u hj;rw [Addr.add_lit,cell_of_row _ _ _ _ _ _ (heap_alloc_new w (.cells cs t)),Nat.zero_add];simpa using hj
theorem ZeJ {W:World} {base:Nat} {v:Value} {n:Nat} {l:List UInt8} (h:W.ownsRow base 5 1 v n (l.map u8v)) :
  (convert 71 9 v).run Tryz.prog W=.ok (.string ⟨l.toArray⟩) W:=by
 have hl:l.length=n:=by simpa using h.1
 rcases h.2 with⟨rfl,rfl⟩|⟨g,cap,cur,rfl,_,hg,_⟩
 ·obtain rfl:l=[]:=List.eq_nil_of_length_eq_zero hl;exact run_convert_bytes_nil W 71 5 Tryz.underlying71 Tryz.underlying5 0 0 9 Tryz.underlying9
 ·subst hl;refine run_convert_bytes_back W 71 9 5 ⟨g,0,none⟩ cap l Tryz.underlying71 Tryz.underlying5 Tryz.underlying9 (fun j hj=>?_);rw [Addr.add_lit,Nat.zero_add,h.cellAt j (by omega)];simp [hj,u8v]
theorem Zav (a:List UInt8):(⟨a.toArray⟩:ByteArray).size=a.length:=by show a.toArray.size=_;simp
theorem Zh5 (w:World) (m n:Nat):(w.drewN m).drewN n=w.drewN (m+n):=by simp [World.drewN,Nat.add_assoc]
theorem Zai (w:World) (n:Nat):Below w.heap.size w (w.drewN n):=⟨rfl,rfl,rfl,Nat.le_refl _,fun _ _=>rfl⟩
def IsInts (w:World) (v:Value) (zs:List Int):Prop:=∃a cap,v=.slice a zs.length cap/\∀i x,zs[i]?=some x->∃b off,a=some ⟨b,off,none⟩/\w.cell? ⟨b,off+i,none⟩=some (.int .i64 x)
theorem ZaG {w:World} {p:Addr} {v:Value} (h:w.cell? p=some v):p.block<w.heap.size:=by
 by_cases hlt:p.block<w.heap.size
 ·exact hlt
 ·exfalso
  unfold World.cell? at h;rw [Array.getElem?_eq_none (by omega)] at h;cases h
theorem IsInts.below {w w':World} {v:Value} {zs:List Int} (h:IsInts w v zs) (hb:Below w.heap.size w w'):IsInts w' v zs:=by
 obtain⟨a,cap,hv,hc⟩:=h;refine⟨a,cap,hv,fun i x hx=>?_⟩;obtain⟨b,off,ha,hcell⟩:=hc i x hx;exact⟨b,off,ha,(hb.cell (ZaG hcell)).trans hcell⟩
theorem IsInts.nil (w:World):IsInts w (.slice none 0 0) []:=⟨none,0,rfl,fun i x hx=>by simp at hx⟩
def iv64 (x:Int):Value:=.int .i64 x
theorem Zc6 {w:World} {g N cap:Nat} {zs:List Int} {rest:List Value} {t:TypeId} (h:w.heap[g]?=some (.cells (zs.map iv64++rest).toArray t (0,0))) (hN:N=zs.length):IsInts w (.slice (some ⟨g,0,none⟩) N cap) zs:=by
 subst hN;refine⟨_,cap,rfl,fun i x hx=>⟨g,0,rfl,?_⟩⟩;have hi:=(List.getElem?_eq_some_iff.1 hx).1;rw [cell_of_row _ _ _ _ _ _ h,Nat.zero_add,List.getElem?_toArray,List.getElem?_append_left (by simpa using hi),List.getElem?_map,hx];rfl
theorem Zr2 (n k:Nat) (zs:List Int) (x:Int) (hk:k<n) (hz:zs.length=k):((zs.map iv64++List.replicate (n-k) (iv64 0)).toArray).setIfInBounds k (.int .i64 x)=((zs++[x]).map iv64++List.replicate (n-(k+1)) (iv64 0)).toArray:=by
 apply Array.toList_inj.1;rw [Array.toList_setIfInBounds];have e:n-k=(n-(k+1))+1:=by omega
 show(zs.map iv64++List.replicate (n-k) (iv64 0)).set k (.int .i64 x)=(zs++[x]).map iv64++List.replicate (n-(k+1)) (iv64 0);rw [List.set_append_right _ _ (by simp [hz]),e,List.replicate_succ];simp [hz,iv64]
theorem Zk1 (n:Nat):madeCells #[Value.int .i64 0] n=(([]:List Int).map iv64++List.replicate (n-0) (iv64 0)).toArray:=by
 apply Array.toList_inj.1;rw [toList_madeCells_one];rfl
theorem Za2 (n:Nat) (hn:n<=1000000) (W:World):(Instr.makeSlice 79 (.int .i64 (n:Int)) (.int .i64 (n:Int))).run Tryz.prog W=.ok (.slice (some ⟨W.heap.size,0,none⟩) n n) (W.alloc (.cells (madeCells #[Value.int .i64 0] n) 3)):=by
 obtain⟨i0,hi,hz0,hz1,hz2⟩:=info_parts (show(Tryz.prog.info? 3).map (fun i=>(i.zero,i.size,i.bytes))=some (some (.int .i64 0),1,8) by kernel_rfl);have:=run_make (P:=Tryz.prog) W 79 3 i0 (.int .i64 0) Tryz.underlying79 hi hz0 .i64 .i64 (n:Int) (n:Int) (by omega) (by omega) (by rw [hz2];omega) (by omega);rw [hz1] at this;simpa [Value.cells] using this
theorem IsInts.cell {w:World} {v:Value} {zs:List Int} (h:IsInts w v zs) {k:Nat} (hk:k<zs.length):∃b off cap,v=.slice (some ⟨b,off,none⟩) zs.length cap/\w.cell? ⟨b,off+k,none⟩=some (.int .i64 (zs.getD k 0)):=by
 obtain⟨a,cap,rfl,hc⟩:=h;obtain⟨b,off,rfl,hcell⟩:=hc k zs[k] (List.getElem?_eq_getElem hk);refine⟨b,off,cap,rfl,?_⟩;rw [hcell,List.getD_eq_getElem?_getD,List.getElem?_eq_getElem hk];rfl
theorem Zc7 {w:World} {base e n:Nat} {v:Value} {zs:List Int} (h:w.ownsRow base e 1 v n (zs.map iv64)):IsInts w v zs:=by
 have hl:zs.length=n:=by simpa using h.1
 rcases h.2 with⟨rfl,h0⟩|⟨g,cap,cur,rfl,_,hg,_⟩
 ·obtain rfl:zs=[]:=List.eq_nil_of_length_eq_zero (by omega);exact IsInts.nil w
 ·subst hl;refine⟨_,cap,rfl,fun i x hx=>⟨g,0,rfl,?_⟩⟩;have hi:=(List.getElem?_eq_some_iff.1 hx).1;rw [Nat.zero_add,h.cellAt i (by omega)];rw [List.getElem?_map,hx];rfl
theorem ZbF:(Tryz.prog.info? 3).map (fun i=>(i.zero,i.size,i.bytes))=some (some (.int .i64 0),1,8):=by kernel_rfl
def OwnI (w:World) (base:Nat) (v:Value) (zs:List Int):Prop:=w.ownsRow base 3 1 v zs.length (zs.map iv64)
theorem OwnI.ints {w:World} {base:Nat} {v:Value} {zs:List Int} (h:OwnI w base v zs):IsInts w v zs:=Zc7 h
theorem OwnI.nil (w:World) (base:Nat):OwnI w base (.slice none 0 0) []:=World.ownsRow_nil _ _ _ _
theorem OwnI.slice {w:World} {base:Nat} {v:Value} {zs:List Int} (h:OwnI w base v zs):∃a cap,v=.slice a zs.length cap:=Zax h
theorem OwnI.drewN {w:World} {base:Nat} {v:Value} {zs:List Int} (h:OwnI w base v zs) (n:Nat):OwnI (w.drewN n) base v zs:=h
theorem OwnI.below {w w':World} {base:Nat} {v:Value} {zs:List Int} (h:OwnI w base v zs) (hb:Below w.heap.size w w'):OwnI w' base v zs:=
 Zah h fun k hk=>hb.block k (World.ownsRow.lt h k hk).2
theorem Zar {ops:Array Oper} {rest:List Oper} {o:Oper} {a:Act} {Q:Exit->Act->World->Prop} (W:World) (hgd:o.guard=none) (s x:Operand)
  (ho:o.op=.call { callee:=.builtin .append,args:=#[s,x],argTypes:=#[79,79] })
  (base:Nat) (v:Value) (zs:List Int) (c:Int) (hown:OwnI W base v zs) (hs:a.eval s=v) (hx:a.eval x=.slice (some ⟨W.heap.size,0,none⟩) 1 1)
  (hlen:zs.length+1<=17592186044416) (hb:base<=W.heap.size)
  (h:∀v' w',OwnI w' base v' (zs++[c])->Below base W w'->wpList Tryz.prog ops Q rest (a.put o.dst v') w') :
  wpList Tryz.prog ops Q (o::rest) a (W.alloc (.cells #[.int .i64 c] 3)):=by
 obtain⟨i0,hi,hz0,hz1,hz2⟩:=info_parts ZbF;refine wpList_append_own _ hgd s x 79 ho base 3 i0 (.int .i64 0) 1 8 Tryz.underlying79 hi hz0 hz1 hz2 rfl (by decide) v zs.length (zs.map iv64) hs (World.ownsRow.alloc hown _) ⟨W.heap.size,0,none⟩ 1 1 [.int .i64 c] hx rfl ?_ ?_ ?_ ?_ ?_ ?_
 ·exact ZaD _ _ _ _ rfl
 ·intro u hu;simp at hu;subst hu;rfl
 ·unfold maxLen;omega
 ·omega
 ·simp;omega
 ·intro v' w' hown' hg _;refine h v' w' ?_ (Below.grown ((Below.refl base W).alloc hb _) hg (by simp;omega) (fun j hj=>(World.ownsRow.lt hown j hj).1));unfold OwnI;rw [List.length_append,List.map_append];exact hown'
def RowI (w:World) (g:Nat) (zs:List Int):Prop:=w.heap[g]?=some (.cells (zs.map iv64).toArray 3 (0,0))
theorem RowI.lt {w:World} {g:Nat} {zs:List Int} (h:RowI w g zs):g<w.heap.size:=(Array.getElem?_eq_some_iff.1 h).1
theorem RowI.below {w w':World} {g:Nat} {zs:List Int} (h:RowI w g zs) (hb:Below w.heap.size w w'):RowI w' g zs:=(hb.block g h.lt).trans h
theorem RowI.other {w w':World} {g:Nat} {zs:List Int} (h:RowI w g zs) {S:Nat->Prop} (ht:Touch S w w') (hS:¬S g):RowI w' g zs:=(ht.block g h.lt hS).trans h
theorem RowI.ints {w:World} {g:Nat} {zs:List Int} (h:RowI w g zs) (N cap:Nat) (hN:N=zs.length):IsInts w (.slice (some ⟨g,0,none⟩) N cap) zs:=
 Zc6 (rest:=[]) (by rw [List.append_nil];exact h) hN
theorem RowI.made (w:World) (n:Nat):RowI (w.alloc (.cells (madeCells #[Value.int .i64 0] n) 3)) w.heap.size (List.replicate n 0):=by
 have:=Zk1 n;simp only [List.map_nil,List.nil_append,Nat.sub_zero] at this;unfold RowI;rw [List.map_replicate,<-this];exact heap_alloc_new _ _
theorem RowI.cell {w:World} {g:Nat} {zs:List Int} (h:RowI w g zs) {i:Nat} (hi:i<zs.length):w.cell? ⟨g,i,none⟩=some (.int .i64 (zs.getD i 0))/\w.frozen? ⟨g,i,none⟩=false /\
  ∀x:Int,RowI (w.setCell ⟨g,i,none⟩ (.int .i64 x)) g (zs.set i x):=by
 refine⟨?_,frozen_of_row _ _ _ _ _ h,fun x=>?_⟩
 ·rw [cell_of_row _ _ _ _ _ _ h,List.getElem?_toArray,List.getElem?_map,List.getD_eq_getElem?_getD,List.getElem?_eq_getElem hi];rfl
 ·have:=heap_setCell_same w g i _ _ (.int .i64 x) h;unfold RowI;rw [this];congr 2;apply Array.toList_inj.1;rw [Array.toList_setIfInBounds,List.map_set];rfl
theorem Zk2 (l:List Int) (m:Nat) (x:Int):(l++List.replicate (m+1) 0).set l.length x=l++[x]++List.replicate m 0:=by
 rw [List.set_append_right _ _ (Nat.le_refl _),Nat.sub_self,List.replicate_succ];simp
theorem Zas {P:Program} {w:World} {ops:Array Oper} {rest:List Oper} {o:Oper} {a:Act} {Q:Exit->Act->World->Prop} (hgd:o.guard=none) (s x:Operand) (t:TypeId)
  (ho:o.op=.call { callee:=.builtin .append,args:=#[s,x],argTypes:=#[t,t] })
  (base:Nat) (e:TypeId) (i:TypeInfo) (z:Value) (size bytes:Nat) (ht:P.underlying t=some (.slice e)) (hi:P.info? e=some i) (hz:i.zero=some z)
  (hsize:i.size=size) (hby:i.bytes=bytes) (hzs:z.cells.size=size) (hsz:0<size)
  (v:Value) (n:Nat) (xs:List Value) (hown:w.ownsRow base e size v n xs) (hs:a.eval s=v)
  (ad:Addr) (m c:Nat) (news:List Value) (hx:a.eval x=.slice (some ad) m c) (hl:news.length=m*size) (hnews:∀j u,news[j]?=some u->w.cell? (ad.add j)=some u) (h1:∀u∈news,u.oneCell'=true)
  (h63:n+m<=maxLen) (hbytes:(n+m)*bytes<=140737488355328) (hbase:base<=w.heap.size)
  (h:∀v' w',w'.ownsRow base e size v' (n+m) (xs++news)->w.grownBy w' v.ownBlock->(∀k,v'.ownBlock=some k->v.ownBlock=some k\/w.heap.size<=k)->wpList P ops Q rest (a.put o.dst v') w'):wpList P ops Q (o::rest) a w:=
 wpList_plain hgd fun _ hK=>by
  obtain⟨v',w',hr,h2,h3,h4⟩:=Zcw (P:=P) w base t o.type e i z size bytes ht hi hz hsize hby hzs hsz v n xs hown ad m c news hl hnews h1 h63 hbytes hbase;unfold Oper.wp execOp;simp only [ho,resolve,invoke,builtin,Sem.run_bind,Sem.run_pure,Result.andThen_ok,List.map_toArray,List.map_cons,List.map_nil,hs,hx,hr];exact hK _ _ (h v' w' h2 h3 h4)
theorem Zam {w:World} {o:Obj} {k:Nat} (hk:k<w.heap.size):(w.alloc o).heap[k]?=w.heap[k]?:=Below.heap_alloc w o k hk
theorem OwnI.lower {w:World} {base b2:Nat} {v:Value} {zs:List Int} (h:OwnI w base v zs) (hb:b2<=base):OwnI w b2 v zs:=by
 refine⟨h.1,?_⟩;rcases h.2 with h2|⟨g,cap,cur,rfl,hb2,r⟩
 ·exact Or.inl h2
 ·exact Or.inr ⟨g,cap,cur,rfl,Nat.le_trans hb hb2,r⟩
theorem OwnI.same {w w':World} {base:Nat} {v:Value} {zs:List Int} (h:OwnI w base v zs) (he:∀k,v.ownBlock=some k->w'.heap[k]?=w.heap[k]?):OwnI w' base v zs:=Zah h he
theorem OwnI.lt {w:World} {base:Nat} {v:Value} {zs:List Int} (h:OwnI w base v zs):∀k,v.ownBlock=some k->base<=k/\k<w.heap.size:=World.ownsRow.lt h
theorem OwnI.lit (w:World) (base:Nat) (hb:base<=w.heap.size):OwnI (w.alloc (.cells #[] 3)) base (.slice (some ⟨w.heap.size,0,none⟩) 0 0) []:=
 World.ownsRow_lit w #[] 0 hb (by decide) rfl
theorem Zg1 {ops:Array Oper} {rest:List Oper} {o:Oper} {a:Act} {Q:Exit->Act->World->Prop} (W:World) (hgd:o.guard=none) (s x:Operand)
  (ho:o.op=.call { callee:=.builtin .append,args:=#[s,x],argTypes:=#[79,79] })
  (base:Nat) (v:Value) (zs:List Int) (b off m c:Nat) (ys:List Int) (hown:OwnI W base v zs) (hsrc:IsInts W (.slice (some ⟨b,off,none⟩) m c) ys) (hs:a.eval s=v) (hx:a.eval x=.slice (some ⟨b,off,none⟩) m c)
  (hlen:zs.length+ys.length<=17592186044416) (hb:base<=W.heap.size)
  (h:∀v' w',OwnI w' base v' (zs++ys)->Below base W w'->wpList Tryz.prog ops Q rest (a.put o.dst v') w') :
  wpList Tryz.prog ops Q (o::rest) a W:=by
 obtain⟨i0,hi,hz0,hz1,hz2⟩:=info_parts ZbF;obtain⟨a1,cap1,he,hc⟩:=hsrc;simp only [Value.slice.injEq] at he;obtain⟨rfl,rfl,rfl⟩:=he;refine wpList_append_own _ hgd s x 79 ho base 3 i0 (.int .i64 0) 1 8 Tryz.underlying79 hi hz0 hz1 hz2 rfl (by decide) v zs.length (zs.map iv64) hs hown ⟨b,off,none⟩ ys.length c (ys.map iv64) hx (by simp) ?_ ?_ ?_ ?_ ?_ ?_
 ·intro j u hu;rw [List.getElem?_map] at hu;cases hj:ys[j]? with
  | none=>rw [hj] at hu;cases hu
  | some y=>
   rw [hj] at hu;cases hu;obtain⟨b',off',e,hcell⟩:=hc j y hj;simp only [Option.some.injEq,Addr.mk.injEq,and_true] at e;obtain⟨rfl,rfl⟩:=e;rw [Addr.add_lit];exact hcell
 ·intro u hu;obtain⟨y,_,rfl⟩:=List.mem_map.1 hu;rfl
 ·unfold maxLen;omega
 ·omega
 ·exact hb
 ·intro v' w' hown' hgr _;refine h v' w' ?_ (Below.grown (Below.refl base W) hgr hb (fun j hj=>(World.ownsRow.lt hown j hj).1));unfold OwnI;rw [List.length_append,List.map_append];exact hown'
theorem IsInts.alloc {w:World} {v:Value} {zs:List Int} (h:IsInts w v zs) (o:Obj):IsInts (w.alloc o) v zs:=h.below ((Below.refl _ _).alloc (Nat.le_refl _) _)
theorem IsInts.part {w:World} {b off m c:Nat} {zs:List Int} (h:IsInts w (.slice (some ⟨b,off,none⟩) m c) zs) (i n c2:Nat) (hn:n<=m-i):IsInts w (.slice (some ⟨b,off+i,none⟩) n c2) ((zs.drop i).take n):=by
 obtain⟨a,cap,he,hc⟩:=h;simp only [Value.slice.injEq] at he;obtain⟨rfl,rfl,rfl⟩:=he;refine⟨_,c2,by rw [List.length_take,List.length_drop,Nat.min_eq_left hn],fun j x hx=>⟨b,off+i,rfl,?_⟩⟩;have hj:=(List.getElem?_eq_some_iff.1 hx).1;rw [List.getElem?_take,List.getElem?_drop] at hx;split at hx
 ·obtain⟨b',off',e,hcell⟩:=hc (i+j) x hx;simp only [Option.some.injEq,Addr.mk.injEq,and_true] at e;obtain⟨rfl,rfl⟩:=e;rw [Nat.add_assoc];exact hcell
 ·cases hx
end
end Go.Proofs.YtnachbjhhpnadaaGreatDoor

import Derived.Test.YtlfpbcadcfaboaaGreatDoorTcB
import Derived.Test.YtlfpbcadcfaboaaGreatDoorTcC
import Derived.BigRegion
import Derived.BigQuiet
import Derived.IntWalk
set_option linter.unusedVariables false
set_option linter.unusedSimpArgs false
set_option maxHeartbeats 8000000
set_option maxRecDepth 100000
namespace Go.Proofs.YtlfpbcadcfaboaaGreatDoor
section
namespace HufM
open Go.RowKit
def Dis (l:List Tr):Prop:=l.Pairwise (fun a b=>a.2≠b.2)
theorem Dis.perm {l m:List Tr} (h:Dis l) (p:l.Perm m):Dis m:=(p.pairwise_iff (fun h=>fun e=>h e.symm)).1 h
theorem Run.congr {k:Nat} {l:List Tr} {d:Nat->Nat} (h:Run k l d):∀d':Nat->Nat,(∀t∈l,d' t.2=d t.2)->(∀n,k<=n->d' n=d n)->Run k l d':=by
 induction h with
 | one k t d h0=>intro d' h1 _;exact .one _ _ _ (by rw [h1 t (List.mem_cons_self ..),h0])
 | step k l x y r d hp hxy hr _ hx hy ih=>
  intro d' h1 h2;refine .step _ _ x y r _ hp hxy hr (ih d' (fun t ht=>?_) (fun n hn=>h2 n (by omega))) ?_ ?_
  ·rcases List.mem_cons.1 ht with rfl|ht
   ·exact h2 k (Nat.le_refl _)
   ·exact h1 t (hp.mem_iff.2 (List.mem_cons_of_mem _ (List.mem_cons_of_mem _ ht)))
  ·rw [h1 x (hp.mem_iff.2 (List.mem_cons_self ..)),h2 k (Nat.le_refl _),hx]
  ·rw [h1 y (hp.mem_iff.2 (List.mem_cons_of_mem _ (List.mem_cons_self ..))),h2 k (Nat.le_refl _),hy]
theorem Zg4:∀(l:List Tr),l≠[]->Dis l->∃x r,l.Perm (x::r)/\∀t∈r,lt x t
 | [],h,_=>absurd rfl h
 | [a],_,_=>⟨a,[],List.Perm.refl _,fun t h=>(by cases h)⟩
 | a::b::t,_,hd=>by
  obtain⟨ha,hd2⟩:=List.pairwise_cons.1 hd;obtain⟨x,r,hp,hx⟩:=Zg4 (b::t) (by simp) hd2;have hxm:x∈b::t:=hp.mem_iff.2 (List.mem_cons_self ..);rcases Zii a x (ha x hxm) with h|h
  ·exact⟨a,x::r,hp.cons a,fun u hu=>by
    rcases List.mem_cons.1 hu with rfl|hu
    ·exact h
    ·exact lt_trans h (hx u hu)⟩
  ·exact⟨x,a::r,(hp.cons a).trans (List.Perm.swap x a r),fun u hu=>by
    rcases List.mem_cons.1 hu with rfl|hu
    ·exact h
    ·exact hx u hu⟩
theorem ZoM (l:List Tr) (h:2<=l.length) (hd:Dis l):∃x y r,l.Perm (x::y::r)/\lt x y/\∀t∈r,lt y t:=by
 obtain⟨x,q,hp,hx⟩:=Zg4 l (by rintro rfl;simp at h) hd;have hl:=hp.length_eq;have hq:=(List.pairwise_cons.1 (hd.perm hp)).2;obtain⟨y,r,hp2,hy⟩:=Zg4 q (by rintro rfl;simp at hl;omega) hq;exact⟨x,y,r,hp.trans (hp2.cons x),hx y (hp2.mem_iff.2 (List.mem_cons_self ..)),hy⟩
theorem Run.exists:∀(n k:Nat) (l:List Tr),l.length=n+1->Dis l->(∀t∈l,t.2<k)->∃d,Run k l d
 | 0,k,l,hl,_,_=>by
  obtain⟨t,rfl⟩:=List.length_eq_one_iff.1 hl;exact⟨fun _=>0,.one _ _ _ rfl⟩
 | n+1,k,l,hl,hd,hk=>by
  obtain⟨x,y,r,hp,hxy,hr⟩:=ZoM l (by omega) hd;have hlen:=hp.length_eq;have hdp:=hd.perm hp;obtain⟨hdx,hd2⟩:=List.pairwise_cons.1 hdp;obtain⟨hdy,hd3⟩:=List.pairwise_cons.1 hd2;have hkr:∀t∈r,t.2<k:=fun t ht=>hk t (hp.mem_iff.2 (List.mem_cons_of_mem _ (List.mem_cons_of_mem _ ht)))
  have hkx:=hk x (hp.mem_iff.2 (List.mem_cons_self ..));have hky:=hk y (hp.mem_iff.2 (List.mem_cons_of_mem _ (List.mem_cons_self ..)))
  obtain⟨d,hrun⟩:=Run.exists n (k+1) (((x.1+y.1,k):Tr)::r) (by simp at hlen ⊢;omega)
   (List.pairwise_cons.2 ⟨fun t ht=>by have:=hkr t ht;simp only;omega,hd3⟩)
   (fun t ht=>by
    rcases List.mem_cons.1 ht with rfl|ht
    ·exact Nat.lt_succ_self _
    ·exact Nat.lt_succ_of_lt (hkr t ht))
  refine⟨fun i=>if i=x.2\/i=y.2 then d k+1 else d i,.step _ _ x y r _ hp hxy hr (hrun.congr _ (fun t ht=>?_) (fun i hi=>if_neg (by omega))) ?_ ?_⟩
  ·refine if_neg ?_;rcases List.mem_cons.1 ht with rfl|ht
   ·simp only;omega
   ·have h1:=hdx t (List.mem_cons_of_mem _ ht);have h2:=hdy t ht;omega
  ·show(if x.2=x.2\/x.2=y.2 then _ else _)=(if k=x.2\/k=y.2 then _ else _)+1;rw [if_pos (Or.inl rfl),if_neg (by omega)]
  ·show(if y.2=x.2\/y.2=y.2 then _ else _)=(if k=x.2\/k=y.2 then _ else _)+1;rw [if_pos (Or.inr rfl),if_neg (by omega)]
theorem Zkz {x x':Tr} {r r':List Tr} (hp:(x::r).Perm (x'::r')) (h:∀t∈r,lt x t) (h':∀t∈r',lt x' t):x=x'/\r.Perm r':=by
 have hx:x'∈x::r:=hp.mem_iff.2 (List.mem_cons_self ..);have hx':x∈x'::r':=hp.mem_iff.1 (List.mem_cons_self ..)
 have e:x=x':=by
  rcases List.mem_cons.1 hx with e|hx
  ·exact e.symm
  ·rcases List.mem_cons.1 hx' with e|hx'
   ·exact e
   ·exact absurd (h x' hx) (ZdU (h' x hx'))
 subst e;exact⟨rfl,hp.cons_inv⟩
theorem Run.next {k:Nat} {l:List Tr} {d:Nat->Nat} (h:Run k l d) {x y:Tr} {r:List Tr} (hp:l.Perm (x::y::r)) (hxy:lt x y) (hr:∀t∈r,lt y t) :
  Run (k+1) ((x.1+y.1,k)::r) d/\d x.2=d k+1/\d y.2=d k+1:=by
 cases h with
 | one _ t _ h0=>
  have:=hp.length_eq;simp at this
 | step _ _ a b q _ hq hab hb hrun ha hb2=>
  obtain⟨rfl,h2⟩:=Zkz (hq.symm.trans hp) (fun t ht=>by
   rcases List.mem_cons.1 ht with rfl|ht
   ·exact hab
   ·exact lt_trans hab (hb t ht)) (fun t ht=>by
   rcases List.mem_cons.1 ht with rfl|ht
   ·exact hxy
   ·exact lt_trans hxy (hr t ht))
  obtain⟨rfl,h3⟩:=Zkz h2 hb hr;exact⟨hrun.perm (h3.cons _),ha,hb2⟩
theorem Run.end_ {k:Nat} {t:Tr} {d:Nat->Nat} (h:Run k [t] d):d t.2=0:=by
 cases h with
 | one _ _ _ h0=>exact h0
 | step _ _ a b q _ hq _ _ _ _ _=>
  have:=hq.length_eq;simp at this
structure Two (n k:Nat) (A B:List Tr):Prop where
 a:A.Pairwise lt
 b:B.Pairwise lt
 an:∀t∈A,t.2<n
 bn:∀t∈B,n<=t.2/\t.2<k
 low:∃m,(∀t∈A,m<=t.1)/\(∀t∈B,m<=t.1)/\∀t∈B,t.1<=2*m
def pick:List Tr->List Tr->Option (Tr×List Tr×List Tr)
 | [],[]=>none
 | a::A,[]=>some (a,A,[])
 | [],b::B=>some (b,[],B)
 | a::A,b::B=>if a.1<=b.1 then some (a,A,b::B) else some (b,a::A,B)
theorem Zjk {n k:Nat} {A B:List Tr} (h:Two n k A B) {x:Tr} {A' B':List Tr} (hp:pick A B=some (x,A',B')) :
  (A++B).Perm (x::(A'++B'))/\(∀t∈A'++B',lt x t)/\Two n k A' B':=by
 obtain⟨ha,hb,han,hbn,m,hm1,hm2,hm3⟩:=h;cases A with
 | nil=>
  cases B with
  | nil=>simp [pick] at hp
  | cons b B=>
   simp only [pick,Option.some.injEq,Prod.mk.injEq] at hp;obtain⟨rfl,rfl,rfl⟩:=hp;obtain⟨h1,h2⟩:=List.pairwise_cons.1 hb;exact⟨List.Perm.refl _,h1,⟨List.Pairwise.nil,h2,fun t h=>(by cases h),fun t ht=>hbn t (List.mem_cons_of_mem _ ht),m,fun t h=>(by cases h),fun t ht=>hm2 t (List.mem_cons_of_mem _ ht),fun t ht=>hm3 t (List.mem_cons_of_mem _ ht)⟩⟩
 | cons a A=>
  obtain⟨h1,h2⟩:=List.pairwise_cons.1 ha;cases B with
  | nil=>
   simp only [pick,Option.some.injEq,Prod.mk.injEq] at hp;obtain⟨rfl,rfl,rfl⟩:=hp;exact⟨List.Perm.refl _,fun t ht=>h1 t (by simpa using ht),⟨h2,List.Pairwise.nil,fun t ht=>han t (List.mem_cons_of_mem _ ht),fun t h=>(by cases h),m,fun t ht=>hm1 t (List.mem_cons_of_mem _ ht),fun t h=>(by cases h),fun t h=>(by cases h)⟩⟩
  | cons b B=>
   obtain⟨h3,h4⟩:=List.pairwise_cons.1 hb;have hna:=han a (List.mem_cons_self ..);have hnb:=(hbn b (List.mem_cons_self ..)).1;simp only [pick] at hp;split at hp
   ·rename_i hle;simp only [Option.some.injEq,Prod.mk.injEq] at hp;obtain⟨rfl,rfl,rfl⟩:=hp;have hab:lt a b:=by unfold lt;omega
    refine⟨List.Perm.refl _,fun t ht=>?_,⟨h2,hb,fun t ht=>han t (List.mem_cons_of_mem _ ht),hbn,m,fun t ht=>hm1 t (List.mem_cons_of_mem _ ht),hm2,hm3⟩⟩;rcases List.mem_append.1 ht with ht|ht
    ·exact h1 t ht
    ·rcases List.mem_cons.1 ht with rfl|ht
     ·exact hab
     ·exact lt_trans hab (h3 t ht)
   ·rename_i hle;simp only [Option.some.injEq,Prod.mk.injEq] at hp;obtain⟨rfl,rfl,rfl⟩:=hp;have hba:lt b a:=by unfold lt;omega
    refine⟨List.perm_middle,fun t ht=>?_,⟨ha,h4,han,fun t ht=>hbn t (List.mem_cons_of_mem _ ht),m,hm1,fun t ht=>hm2 t (List.mem_cons_of_mem _ ht),fun t ht=>hm3 t (List.mem_cons_of_mem _ ht)⟩⟩;rcases List.mem_append.1 ht with ht|ht
    ·rcases List.mem_cons.1 ht with rfl|ht
     ·exact hba
     ·exact lt_trans hba (h1 t ht)
    ·exact h3 t ht
theorem Two.join {n k:Nat} {A B A1 B1 A2 B2:List Tr} {x y:Tr} (h:Two n k A B) (hnk:n<=k) (h1:pick A B=some (x,A1,B1)) (h2:pick A1 B1=some (y,A2,B2)) :
  Two n (k+1) A2 (B2++[(x.1+y.1,k)])/\(A++B).Perm (x::y::(A2++B2))/\lt x y/\∀t∈A2++B2,lt y t:=by
 obtain⟨p1,l1,t1⟩:=Zjk h h1;obtain⟨p2,l2,t2⟩:=Zjk t1 h2;have hxy:lt x y:=l1 y (p2.mem_iff.2 (List.mem_cons_self ..));have hp:(A++B).Perm (x::y::(A2++B2)):=p1.trans (p2.cons x);refine⟨?_,hp,hxy,l2⟩;obtain⟨m,hm1,hm2,hm3⟩:=h.low
 have hsub:∀t∈B2,t∈B:=fun t ht=>by
  have h3:t∈A++B:=hp.mem_iff.2 (List.mem_cons_of_mem _ (List.mem_cons_of_mem _ (List.mem_append_right _ ht)));rcases List.mem_append.1 h3 with h4|h4
  ·have h5:=h.an t h4;have h6:=(t2.bn t ht).1;omega
  ·exact h4
 have hmx:m<=x.1:=by
  have h3:x∈A++B:=hp.mem_iff.2 (List.mem_cons_self ..);rcases List.mem_append.1 h3 with h4|h4
  ·exact hm1 x h4
  ·exact hm2 x h4
 have hxyw:=Zi3 hxy;refine⟨t2.a,?_,t2.an,fun t ht=>?_,y.1,fun t ht=>Zi3 (l2 t (List.mem_append_left _ ht)),fun t ht=>?_,fun t ht=>?_⟩
 ·refine List.pairwise_append.2 ⟨t2.b,List.pairwise_singleton _ _,fun a ha b hb=>?_⟩;rw [List.mem_singleton] at hb;subst hb;have h3:=hm3 a (hsub a ha);have h4:=(t2.bn a ha).2;unfold lt;simp only;omega
 ·rcases List.mem_append.1 ht with ht|ht
  ·have:=t2.bn t ht;omega
  ·rw [List.mem_singleton] at ht;subst ht;simp only;omega
 ·rcases List.mem_append.1 ht with ht|ht
  ·exact Zi3 (l2 t (List.mem_append_right _ ht))
  ·rw [List.mem_singleton] at ht;subst ht;simp only;omega
 ·rcases List.mem_append.1 ht with ht|ht
  ·have:=hm3 t (hsub t ht);omega
  ·rw [List.mem_singleton] at ht;subst ht;simp only;omega
theorem Two.start {n:Nat} {A:List Tr} (ha:A.Pairwise lt) (hn:∀t∈A,t.2<n):Two n n A []:=
 ⟨ha,List.Pairwise.nil,hn,fun t h=>(by cases h),0,fun t _=>Nat.zero_le _,fun t h=>(by cases h),fun t h=>(by cases h)⟩
end HufM
end
section
namespace HufM
open Go.RowKit
theorem Run.unique {k:Nat} {l:List Tr} {d:Nat->Nat} (h:Run k l d):∀d',Run k l d'->∀t∈l,d t.2=d' t.2:=by
 induction h with
 | one k t d h0=>
  intro d' h' u hu;rw [List.mem_singleton] at hu;subst hu;rw [h0,h'.end_]
 | step k l x y r d hp hxy hr hrun hx hy ih=>
  intro d' h' u hu;obtain⟨h1,h2,h3⟩:=h'.next hp hxy hr;have key:=ih d' h1;have hk:d k=d' k:=key ((x.1+y.1,k):Tr) (List.mem_cons_self ..);rcases List.mem_cons.1 (hp.mem_iff.1 hu) with rfl|hu
  ·rw [hx,h2,hk]
  ·rcases List.mem_cons.1 hu with rfl|hu
   ·rw [hy,h3,hk]
   ·exact key u (List.mem_cons_of_mem _ hu)
theorem Run.pos {k:Nat} {l:List Tr} {d:Nat->Nat} (h:Run k l d):2<=l.length->∀t∈l,1<=d t.2:=by
 induction h with
 | one k t d h0=>intro h;simp at h
 | step k l x y r d hp hxy hr hrun hx hy ih=>
  intro _ u hu;rcases List.mem_cons.1 (hp.mem_iff.1 hu) with rfl|hu
  ·omega
  ·rcases List.mem_cons.1 hu with rfl|hu
   ·omega
   ·refine ih ?_ u (List.mem_cons_of_mem _ hu);cases r with
    | nil=>cases hu
    | cons a b=>simp
theorem Run.short {k:Nat} {l:List Tr} {d:Nat->Nat} (h:Run k l d):∀t∈l,d t.2+1<=l.length:=by
 induction h with
 | one k t d h0=>
  intro u hu;rw [List.mem_singleton] at hu;subst hu;rw [h0];simp
 | step k l x y r d hp hxy hr hrun hx hy ih=>
  intro u hu;have hl:=hp.length_eq;simp only [List.length_cons] at hl ih;have hk:=ih ((x.1+y.1,k):Tr) (List.mem_cons_self ..);simp only at hk;rcases List.mem_cons.1 (hp.mem_iff.1 hu) with rfl|hu
  ·omega
  ·rcases List.mem_cons.1 hu with rfl|hu
   ·omega
   ·have:=ih u (List.mem_cons_of_mem _ hu);omega
theorem Zdo {α β:Type} (f:β->Nat) (g:α->β) (l:List α):sumN f (l.map g)=sumN (fun x=>f (g x)) l:=by
 induction l with
 | nil=>rfl
 | cons x t ih=>simp only [List.map_cons,sumN,ih]
theorem Za6 {α:Type} (f:α->Nat) (a b:List α):sumN f (a++b)=sumN f a+sumN f b:=by
 induction a with
 | nil=>simp [sumN]
 | cons x t ih=>simp only [List.cons_append,sumN,ih];omega
theorem Zf3 (f:Nat->Nat) (k:Nat):sumN f (List.range (k+1))=sumN f (List.range k)+f k:=by
 rw [List.range_succ,Za6];simp [sumN]
theorem ZdI {α:Type} {f g:α->Nat} {l:List α} (h:∀x∈l,f x=g x):sumN f l=sumN g l:=by
 induction l with
 | nil=>rfl
 | cons x t ih=>simp only [sumN];rw [h x (List.mem_cons_self ..),ih (fun y hy=>h y (List.mem_cons_of_mem _ hy))]
theorem ZdA {α:Type} {f:α->Nat} {l:List α} {c:Nat} (h:∀x∈l,f x<=c):sumN f l<=c*l.length:=by
 induction l with
 | nil=>simp [sumN]
 | cons x t ih=>
  have h1:=h x (List.mem_cons_self ..);have h2:=ih (fun y hy=>h y (List.mem_cons_of_mem _ hy));simp only [sumN,List.length_cons,Nat.mul_add];omega
def ini (w:List Int):List Tr:=(List.range w.length).map fun i=>((w.getD i 0).toNat,i)
theorem ZbN (w:List Int):(ini w).length=w.length:=by simp [ini]
theorem ZbO {w:List Int} {t:Tr} (h:t∈ini w):t.2<w.length/\t.1=(w.getD t.2 0).toNat:=by
 obtain⟨i,hi,rfl⟩:=List.mem_map.1 h;exact⟨List.mem_range.1 hi,rfl⟩
theorem Zgj {w:List Int} {i:Nat} (h:i<w.length):((w.getD i 0).toNat,i)∈ini w:=List.mem_map.2 ⟨i,List.mem_range.2 h,rfl⟩
theorem ZdB (w:List Int):Dis (ini w):=by
 unfold Dis ini;rw [List.pairwise_map];exact List.pairwise_lt_range.imp (fun h=>by simp only;omega)
def DepP (w zs:List Int):Prop:=∃d,Run w.length (ini w) d/\zs=(List.range w.length).map fun i=>(d i:Int)
theorem DepP.exists {w:List Int} (h:1<=w.length):∃zs,DepP w zs:=by
 obtain⟨d,hd⟩:=Run.exists (w.length-1) w.length (ini w) (by rw [ZbN];omega) (ZdB w) (fun t ht=>(ZbO ht).1);exact⟨_,d,hd,rfl⟩
theorem DepP.same {w zs ys:List Int} (h:DepP w zs) (k:DepP w ys):zs=ys:=by
 obtain⟨d,hd,rfl⟩:=h;obtain⟨e,he,rfl⟩:=k;apply List.map_congr_left;intro i hi;rw [hd.unique e he _ (Zgj (List.mem_range.1 hi))]
theorem DepP.len {w zs:List Int} (h:DepP w zs):zs.length=w.length:=by
 obtain⟨d,_,rfl⟩:=h;simp
theorem ZmD (d:Nat->Nat) {n i:Nat} (h:i<n):((List.range n).map fun i=>(d i:Int)).getD i 0=(d i:Int):=by
 rw [List.getD_eq_getElem?_getD,List.getElem?_map,List.getElem?_range h];rfl
theorem DepP.bound {w zs:List Int} (h:DepP w zs) (h2:2<=w.length):∀z∈zs,1<=z/\z+1<=(w.length:Int):=by
 obtain⟨d,hd,rfl⟩:=h;intro z hz;obtain⟨i,hi,rfl⟩:=List.mem_map.1 hz;have hm:=Zgj (w:=w) (List.mem_range.1 hi);have h1:=hd.pos (by rw [ZbN];exact h2) _ hm;have h3:=hd.short _ hm;rw [ZbN] at h3;simp only at h1 h3;omega
theorem DepP.order {w zs:List Int} (h:DepP w zs) {i k:Nat} (hi:i<w.length) (hk:k<w.length) (h0:0<=w.getD k 0) (hlt:w.getD k 0<w.getD i 0):zs.getD i 0<=zs.getD k 0:=by
 obtain⟨d,hd,rfl⟩:=h;rw [ZmD d hi,ZmD d hk];have:=(hd.order (fun t ht=>(ZbO ht).1)).1 _ (Zgj hk) _ (Zgj hi) (Or.inl (by simp only;omega));simp only at this;omega
def shr (l:List Int):Nat:=sumN (fun x=>2^(20-x.toNat)) l
theorem DepP.whole {w zs:List Int} (h:DepP w zs) (h20:∀z∈zs,z<=20):shr zs=2^20:=by
 obtain⟨d,hd,rfl⟩:=h
 have hK:∀t∈ini w,d t.2<=20:=fun t ht=>by
  have h1:=(ZbO ht).1;have h2:=h20 (d t.2:Int) (List.mem_map.2 ⟨t.2,List.mem_range.2 h1,rfl⟩);omega
 have:=hd.whole 20 hK;unfold shr;rw [Zdo];unfold ini at this;rw [Zdo] at this;simpa using this
theorem ZoN:∀(D a m:Nat),grow D a m<=grow (D+1) a m
 | 0,a,m=>by simp [grow]
 | D+1,a,m=>ZoN D (a+m) (max a m)
theorem ZoO:∀(e D a m:Nat),grow D a m<=grow (D+e) a m
 | 0,D,a,m=>Nat.le_refl _
 | e+1,D,a,m=>Nat.le_trans (ZoO e D a m) (ZoN (D+e) a m)
theorem DepP.deep {w zs:List Int} (h:DepP w zs) (h2:∀x∈w,1<=x/\x<=2) (hn:w.length<=1000):∀z∈zs,z<=20:=by
 obtain⟨d,hd,rfl⟩:=h;intro z hz;obtain⟨i,hi,rfl⟩:=List.mem_map.1 hz;have hi':=List.mem_range.1 hi
 have hw:∀j,j<w.length->1<=w.getD j 0/\w.getD j 0<=2:=fun j hj=>h2 _ (by
  rw [List.getD_eq_getElem?_getD,List.getElem?_eq_getElem hj];exact List.getElem_mem hj)
 obtain⟨r,hr⟩:=Zky (Zgj hi')
 have h3:=hd.deep _ r 1 hr (fun u hu=>by
  obtain⟨h4,h5⟩:=ZbO (hr.mem_iff.2 (List.mem_cons_of_mem _ hu));have:=hw u.2 h4;omega)
 have h4:sumN wt (ini w)<=2*(ini w).length:=ZdA (fun t ht=>by
  obtain⟨h4,h5⟩:=ZbO ht;have:=hw t.2 h4;unfold wt;omega)
 rw [ZbN] at h4;by_cases hd20:d i<=20
 ·omega
 ·exfalso
  have h5:=ZoO (d i-21) 21 1 1;rw [show 21+(d i-21)=d i by omega] at h5;have h6:=hw i hi';have h7:=Zg3 (d i) 1 (w.getD i 0).toNat 1 1 (by omega) (Nat.le_refl _);have h8:grow 21 1 1=28657:=by decide
  simp only at h3;omega
def hv (x:Int):Int:=(if x<0 then 0 else x) / 2+1
def hvs (w:List Int):List Int:=w.map hv
theorem Zck (w:List Int):(hvs w).length=w.length:=by simp [hvs]
def Bd (j:Nat) (w:List Int):Prop:=∀x∈w,1<=x/\x<=((2^j+1:Nat):Int)
theorem Bd.half {j:Nat} {w:List Int} (h:Bd (j+1) w):Bd j (hvs w):=by
 intro y hy;obtain⟨x,hx,rfl⟩:=List.mem_map.1 hy;obtain⟨h1,h2⟩:=h x hx;rw [Nat.pow_succ] at h2;unfold hv;rw [if_neg (by omega)];omega
inductive OfR:Nat->List Int->List Int->Prop
 | now (w zs:List Int):DepP w zs->(∀z∈zs,z<=20)->OfR 0 w zs
 | later (n:Nat) (w ys zs:List Int):DepP w ys->¬(∀y∈ys,y<=20)->OfR n (hvs w) zs->OfR (n+1) w zs
theorem OfR.same {n:Nat} {w zs:List Int} (h:OfR n w zs):∀m ys,OfR m w ys->zs=ys/\n=m:=by
 induction h with
 | now w zs h1 h2=>
  intro m ys h;cases h with
  | now _ _ k1 k2=>exact⟨h1.same k1,rfl⟩
  | later _ _ y2 _ k1 k2 k3=>rw [<-h1.same k1] at k2;exact absurd h2 k2
 | later n w y zs h1 h2 _ ih=>
  intro m ys h;cases h with
  | now _ _ k1 k2=>rw [<-h1.same k1] at k2;exact absurd k2 h2
  | later _ _ y2 _ k1 k2 k3=>
   obtain⟨h3,rfl⟩:=ih _ _ k3;exact⟨h3,rfl⟩
theorem OfR.exists:∀(j:Nat) (w:List Int),Bd j w->1<=w.length->w.length<=1000->∃n zs,n<=j/\OfR n w zs
 | 0,w,hb,h1,h2=>by
  obtain⟨zs,hz⟩:=DepP.exists h1
  exact⟨0,zs,Nat.le_refl _,.now _ _ hz (hz.deep (fun x hx=>by
   have:=hb x hx;simp at this;omega) h2)⟩
 | j+1,w,hb,h1,h2=>by
  obtain⟨ys,hy⟩:=DepP.exists h1;by_cases h:∀y∈ys,y<=20
  ·exact⟨0,ys,Nat.zero_le _,.now _ _ hy h⟩
  ·obtain⟨n,zs,hn,ho⟩:=OfR.exists j (hvs w) hb.half (by rw [Zck];exact h1) (by rw [Zck];exact h2);exact⟨n+1,zs,by omega,.later _ _ ys _ hy h ho⟩
theorem OfR.whole {n:Nat} {w zs:List Int} (h:OfR n w zs):2<=w.length->zs.length=w.length/\(∀z∈zs,1<=z/\z<=20)/\shr zs=2^20:=by
 induction h with
 | now w zs h1 h2=>intro hl;exact⟨h1.len,fun z hz=>⟨(h1.bound hl z hz).1,h2 z hz⟩,h1.whole h2⟩
 | later n w y zs h1 h2 _ ih=>
  intro hl;have:=ih (by rw [Zck];exact hl);rw [Zck] at this;exact this
end HufM
end
section
namespace CanM
open Go.RowKit HufM BitM
def sz (n:Nat):Nat:=2^(20-n)
def ent (l:List Int):List Tr:=ini l
theorem Zij:∀(n:Nat) (l:List Tr),l.length=n->Dis l->∃os,l.Perm os/\os.Pairwise lt
 | 0,l,hl,_=>⟨[],by rw [List.eq_nil_of_length_eq_zero hl],List.Pairwise.nil⟩
 | n+1,l,hl,hd=>by
  obtain⟨x,r,hp,hx⟩:=Zg4 l (by rintro rfl;simp at hl) hd;have hlr:=hp.length_eq;obtain⟨os,h1,h2⟩:=Zij n r (by simp at hlr;omega) (List.pairwise_cons.1 (hd.perm hp)).2;exact⟨x::os,hp.trans (h1.cons x),List.pairwise_cons.2 ⟨fun t ht=>hx t (h1.mem_iff.2 ht),h2⟩⟩
instance (a b:Tr):Decidable (lt a b):=by unfold lt;exact inferInstance
def frm (l:List Int) (x:Tr):Nat:=sumN (fun y:Tr=>if lt y x then sz y.1 else 0) (ent l)
def siz (y:Tr):Nat:=sz y.1
theorem Zik {l:List Int} {os s t:List Tr} {x:Tr} (hp:(ent l).Perm os) (hs:os.Pairwise lt) (he:os=s++x::t):frm l x=sumN siz s:=by
 unfold frm;rw [Zcf _ hp,he,Za6];subst he;obtain⟨h1,h2,h3⟩:=List.pairwise_append.1 hs;obtain⟨h4,h5⟩:=List.pairwise_cons.1 h2
 have e1:sumN (fun y:Tr=>if lt y x then sz y.1 else 0) s=sumN siz s:=ZdI (fun y hy=>by
  rw [if_pos (h3 y hy x (List.mem_cons_self ..))];rfl)
 have e2:sumN (fun y:Tr=>if lt y x then sz y.1 else 0) (x::t)=0:=by
  have:∀y∈x::t,(fun y:Tr=>if lt y x then sz y.1 else 0) y=(fun _=>0) y:=fun y hy=>by
   simp only;refine if_neg ?_;rcases List.mem_cons.1 hy with rfl|hy
   ·unfold lt;omega
   ·exact ZdU (h4 y hy)
  rw [ZdI this];have:=ZdA (f:=fun _:Tr=>0) (l:=x::t) (c:=0) (fun _ _=>Nat.le_refl _);omega
 rw [e1,e2];omega
theorem ZoP (l:List Int):sumN siz (ent l)=shr l:=by
 unfold ent ini shr;rw [Zdo]
 have e:l=(List.range l.length).map fun i=>l.getD i 0:=by
  apply List.ext_getElem
  ·simp
  ·intro j h1 h2;rw [List.getElem_map,List.getElem_range,List.getD_eq_getElem?_getD,List.getElem?_eq_getElem h1];rfl
 conv=>rhs;rw [e,Zdo]
 rfl
theorem apart {l:List Int} {x y:Tr} (hx:x∈ent l) (hy:y∈ent l) (h:lt x y):frm l x+siz x<=frm l y:=by
 obtain⟨os,hp,hs⟩:=Zij (ent l).length (ent l) rfl (ZdB l);obtain⟨s,t,he⟩:=List.append_of_mem (hp.mem_iff.1 hy);rw [Zik hp hs he]
 have hxs:x∈s:=by
  have h1:x∈s++y::t:=by rw [<-he];exact hp.mem_iff.1 hx
  rcases List.mem_append.1 h1 with h2|h2
  ·exact h2
  ·exfalso
   rcases List.mem_cons.1 h2 with rfl|h2
   ·unfold lt at h;omega
   ·rw [he] at hs;obtain⟨_,h3,_⟩:=List.pairwise_append.1 hs;exact ZdU h ((List.pairwise_cons.1 h3).1 x h2)
 obtain⟨s1,s2,hse⟩:=List.append_of_mem hxs;have he2:os=s1++x::(s2++y::t):=by rw [he,hse];simp
 rw [Zik hp hs he2,hse,Za6];simp only [sumN];omega
theorem within {l:List Int} {x:Tr} (hx:x∈ent l):frm l x+siz x<=shr l:=by
 obtain⟨os,hp,hs⟩:=Zij (ent l).length (ent l) rfl (ZdB l);obtain⟨s,t,he⟩:=List.append_of_mem (hp.mem_iff.1 hx);rw [Zik hp hs he,<-ZoP,Zcf _ hp,he,Za6];simp only [sumN];omega
theorem ZoQ {α:Type} {f:α->Nat} {c:Nat} {l:List α} (h:∀x∈l,c ∣ f x):c ∣ sumN f l:=by
 induction l with
 | nil=>exact Nat.dvd_zero _
 | cons x t ih=>exact Nat.dvd_add (h x (List.mem_cons_self ..)) (ih (fun y hy=>h y (List.mem_cons_of_mem _ hy)))
theorem Zr7 (l:List Int) (x:Tr):sz x.1 ∣ frm l x:=by
 refine ZoQ (fun y hy=>?_);split
 ·rename_i h;have:=Zi3 h;exact Nat.pow_dvd_pow 2 (by omega)
 ·exact Nat.dvd_zero _
def cod (l:List Int) (x:Tr):Nat:=frm l x / sz x.1
theorem ZmE (n:Nat):0<sz n:=Nat.pow_pos (by decide)
theorem ZoR (l:List Int) (x:Tr):cod l x*sz x.1=frm l x:=Nat.div_mul_cancel (Zr7 l x)
theorem Zjl {l:List Int} {x:Tr} (hx:x∈ent l) (hw:shr l=2^20) (hn:x.1<=20):cod l x<2^x.1:=by
 have h1:=within hx;rw [hw,<-ZoR l x] at h1;have e:(2:Nat)^20=2^x.1*sz x.1:=by unfold sz;rw [<-Nat.pow_add];congr 1;omega
 rw [e] at h1;have h2:=ZmE x.1;unfold siz at h1;have h3:(cod l x+1)*sz x.1<=2^x.1*sz x.1:=by rw [Nat.add_mul];omega
 exact Nat.le_of_mul_le_mul_right h3 h2
def Begins (l:List Int) (x:Tr) (q:List Bool):Prop:=x.1<=q.length/\num (q.take x.1)=cod l x
theorem Zjm {l:List Int} {x:Tr} {q r:List Bool} (h:Begins l x q) (h20:(q++r).length=20) (hx:x.1<=20):frm l x<=num (q++r)/\num (q++r)<frm l x+siz x:=by
 obtain⟨h1,h2⟩:=h;have e:q++r=q.take x.1++(q.drop x.1++r):=by rw [<-List.append_assoc,List.take_append_drop]
 have hl:(q.drop x.1++r).length=20-x.1:=by
  rw [List.length_append,List.length_drop];rw [List.length_append] at h20;omega
 have h3:=Zbg (q.drop x.1++r);rw [e,ZaZ,h2,hl,<-ZoR l x];rw [hl] at h3;unfold siz sz;unfold sz at *;omega
theorem Znk {l:List Int} {x y:Tr} {q:List Bool} (hx:x∈ent l) (hy:y∈ent l) (hx2:x.1<=20) (hy2:y.1<=20) (h:Begins l x q) (k:Begins l y q):x=y:=by
 have trim:∀z:Tr,z.1<=20->Begins l z q->Begins l z (q.take 20):=fun z hz hb=>⟨by rw [List.length_take];have:=hb.1;omega,by rw [List.take_take,Nat.min_eq_left hz];exact hb.2⟩
 have hlen:(q.take 20++List.replicate (20-(q.take 20).length) false).length=20:=by simp;omega
 obtain⟨h1,h2⟩:=Zjm (trim x hx2 h) hlen hx2;obtain⟨k1,k2⟩:=Zjm (trim y hy2 k) hlen hy2;by_cases e:x.2=y.2
 ·obtain⟨_,hxw⟩:=ZbO hx;obtain⟨_,hyw⟩:=ZbO hy;exact Prod.ext (by rw [hxw,hyw,e]) e
 ·exfalso
  rcases Zii x y e with h5|h5
  ·have:=apart hx hy h5;omega
  ·have:=apart hy hx h5;omega
def fst_ (l:List Int) (n:Nat):Nat:=sumN (fun y:Tr=>if y.1<n then sz y.1 else 0) (ent l)
def rank (l:List Int) (n i:Nat):Nat:=sumN (fun j=>if (l.getD j 0).toNat=n then 1 else 0) (List.range i)
theorem ZbK (l:List Int) (n i:Nat):rank l n (i+1)=rank l n i+if (l.getD i 0).toNat=n then 1 else 0:=Zf3 _ _
theorem Zh1 {α:Type} (f g:α->Nat) (l:List α):sumN (fun x=>f x+g x) l=sumN f l+sumN g l:=by
 induction l with
 | nil=>rfl
 | cons x t ih=>simp only [sumN,ih];omega
theorem Zj1 (l:List Int) (n i:Nat):∀e:Nat,sumN (fun j=>if (l.getD j 0).toNat=n/\j<i then sz n else 0) (List.range (i+e))=rank l n i*sz n
 | 0=>by
  unfold rank;rw [Nat.add_zero]
  have h:∀k,k<=i->sumN (fun j=>if (l.getD j 0).toNat=n/\j<i then sz n else 0) (List.range k)=sumN (fun j=>if (l.getD j 0).toNat=n then 1 else 0) (List.range k)*sz n:=by
   intro k
   induction k with
   | zero=>intro _;simp [sumN]
   | succ k ih=>
    intro hk;rw [Zf3,Zf3,ih (by omega),Nat.add_mul];by_cases e:(l.getD k 0).toNat=n
    ·rw [if_pos ⟨e,by omega⟩,if_pos e,Nat.one_mul]
    ·rw [if_neg (fun h=>e h.1),if_neg e,Nat.zero_mul]
  exact h i (Nat.le_refl _)
 | e+1=>by
  rw [<-Nat.add_assoc,Zf3,Zj1 l n i e,if_neg (by omega)];rfl
theorem ZqJ {l:List Int} {i:Nat} (hi:i<l.length) (n:Nat) (hn:(l.getD i 0).toNat=n):frm l (n,i)=fst_ l n+rank l n i*sz n:=by
 unfold frm fst_ ent ini;rw [Zdo,Zdo];have h:=Zj1 l n i (l.length-i);rw [show i+(l.length-i)=l.length by omega] at h;rw [<-h,<-Zh1];refine ZdI (fun j hj=>?_);have e:lt ((l.getD j 0).toNat,j) (n,i)↔(l.getD j 0).toNat<n\/((l.getD j 0).toNat=n/\j<i):=Iff.rfl;by_cases h1:(l.getD j 0).toNat<n
 ·rw [if_pos (e.2 (Or.inl h1)),if_pos h1,if_neg (by omega)];rfl
 ·by_cases h2:(l.getD j 0).toNat=n/\j<i
  ·rw [if_pos (e.2 (Or.inr h2)),if_neg h1,if_pos h2,h2.1];exact(Nat.zero_add _).symm
  ·rw [if_neg (fun h=>by rcases e.1 h with h|h;exact h1 h;exact h2 h),if_neg h1,if_neg h2]
theorem ZoS (l:List Int) (n:Nat):sz n ∣ fst_ l n:=by
 refine ZoQ (fun y hy=>?_);split
 ·exact Nat.pow_dvd_pow 2 (by omega)
 ·exact Nat.dvd_zero _
def fcod (l:List Int) (n:Nat):Nat:=fst_ l n / sz n
theorem Zg5 {l:List Int} {i:Nat} (hi:i<l.length) (n:Nat) (hn:(l.getD i 0).toNat=n):cod l (n,i)=fcod l n+rank l n i:=by
 unfold cod fcod;rw [ZqJ hi n hn,Nat.add_mul_div_right _ _ (ZmE n)]
theorem ZcR (l:List Int) {n:Nat} (hn:n<20):fcod l (n+1)=2*(fcod l n+rank l n l.length):=by
 have h1:fst_ l (n+1)=fst_ l n+rank l n l.length*sz n:=by
  have h:=Zj1 l n l.length 0;rw [Nat.add_zero] at h;rw [<-h];unfold fst_ ent ini;rw [Zdo,Zdo,<-Zh1];refine ZdI (fun j hj=>?_);have hj':=List.mem_range.1 hj;by_cases h1:(l.getD j 0).toNat<n
  ·rw [if_pos (by simp only;omega),if_pos h1,if_neg (by omega)];rfl
  ·by_cases h2:(l.getD j 0).toNat=n
   ·rw [if_pos (by simp only;omega),if_neg h1,if_pos ⟨h2,hj'⟩];simp only [h2];omega
   ·rw [if_neg (by simp only;omega),if_neg h1,if_neg (fun h=>h2 h.1)]
 have e:sz n=2*sz (n+1):=by
  unfold sz;rw [show 20-n=20-(n+1)+1 by omega,Nat.pow_succ];omega
 have h2:=Nat.div_mul_cancel (ZoS l n)
 have h3:fst_ l (n+1)=2*(fcod l n+rank l n l.length)*sz (n+1):=by
  rw [h1]
  conv=>lhs;rw [<-h2]
  show fcod l n*sz n+rank l n l.length*sz n=_;rw [<-Nat.add_mul,e,<-Nat.mul_assoc,Nat.mul_comm (fcod l n+rank l n l.length) 2]
 unfold fcod at h3 ⊢;rw [h3,Nat.mul_div_cancel _ (ZmE _)]
theorem Zil (l:List Int) (n:Nat):∀(i e:Nat),rank l n i<=rank l n (i+e)
 | i,0=>Nat.le_refl _
 | i,e+1=>by
  rw [<-Nat.add_assoc,ZbK];have:=Zil l n i e;omega
end CanM
end
section
namespace CanM
open Go.RowKit HufM BitM
def ln (l:List Int) (i:Nat):Nat:=(l.getD i 0).toNat
def cl (l:List Int) (m:Nat):Nat:=sumN (fun j=>if ln l j<m then 1 else 0) (List.range l.length)
theorem Zhs (l:List Int) (m:Nat):cl l (m+1)=cl l m+rank l m l.length:=by
 unfold cl rank;rw [<-Zh1];refine ZdI (fun j _=>?_);unfold ln;by_cases h1:(l.getD j 0).toNat<m
 ·rw [if_pos h1,if_pos (by omega),if_neg (by omega)]
 ·by_cases h2:(l.getD j 0).toNat=m
  ·rw [if_pos (by omega),if_neg h1,if_pos h2]
  ·rw [if_neg (by omega),if_neg h1,if_neg h2]
theorem ZoT (l:List Int):∀(e m:Nat),cl l m<=cl l (m+e)
 | 0,m=>Nat.le_refl _
 | e+1,m=>by
  rw [<-Nat.add_assoc,Zhs];have:=ZoT l e m;omega
theorem Zr8 (l:List Int) (m:Nat):cl l m<=l.length:=by
 have:=ZdA (f:=fun j=>if ln l j<m then 1 else 0) (l:=List.range l.length) (c:=1) (fun x _=>by split<;>omega);rw [List.length_range] at this;unfold cl;omega
def plc (l:List Int) (i:Nat):Nat:=cl l (ln l i)+rank l (ln l i) i
theorem ZlA (l:List Int) {i N:Nat} (h:i<N):rank l (ln l i) i<rank l (ln l i) N:=by
 have h1:=ZbK l (ln l i) i;rw [if_pos (show(l.getD i 0).toNat=ln l i from rfl)] at h1;have h2:=Zil l (ln l i) (i+1) (N-(i+1));rw [show i+1+(N-(i+1))=N by omega] at h2;omega
theorem ZrL (l:List Int) {i j:Nat} (hj:j<l.length) (h:ln l j<ln l i\/(ln l j=ln l i/\j<i)):plc l j<plc l i:=by
 rcases h with h|⟨h1,h2⟩
 ·have h1:=ZlA l hj;have h2:=Zhs l (ln l j);have h3:=ZoT l (ln l i-(ln l j+1)) (ln l j+1);rw [show ln l j+1+(ln l i-(ln l j+1))=ln l i by omega] at h3;unfold plc;omega
 ·have h3:=ZlA l h2;unfold plc;rw [<-h1];omega
theorem Zey (l:List Int) {i:Nat} (hi:i<l.length):plc l i<l.length:=by
 have h1:=ZlA l hi;have h2:=Zhs l (ln l i);have h3:=Zr8 l (ln l i+1);unfold plc;omega
theorem ZsZ (l:List Int) {i j:Nat} (hi:i<l.length) (hj:j<l.length) (h:i≠j):plc l i≠plc l j:=by
 intro e;by_cases h1:ln l i<ln l j\/(ln l i=ln l j/\i<j)
 ·have:=ZrL l hi h1;omega
 ·have:=ZrL l hj (i:=i) (by omega);omega
theorem ZqK (l:List Int) (m:Nat) (hm:m<=20):(fcod l m+rank l m l.length)*sz m=sumN (fun y:Tr=>if y.1<m+1 then sz y.1 else 0) (ent l):=by
 have h1:fst_ l (m+1)=fst_ l m+rank l m l.length*sz m:=by
  have h:=Zj1 l m l.length 0;rw [Nat.add_zero] at h;rw [<-h];unfold fst_ ent ini;rw [Zdo,Zdo,<-Zh1];refine ZdI (fun j hj=>?_);have hj':=List.mem_range.1 hj;by_cases h1:(l.getD j 0).toNat<m
  ·rw [if_pos (by simp only;omega),if_pos h1,if_neg (by omega)];rfl
  ·by_cases h2:(l.getD j 0).toNat=m
   ·rw [if_pos (by simp only;omega),if_neg h1,if_pos ⟨h2,hj'⟩];simp only [h2];omega
   ·rw [if_neg (by simp only;omega),if_neg h1,if_neg (fun h=>h2 h.1)]
 have h2:=Nat.div_mul_cancel (ZoS l m);show _=fst_ l (m+1);rw [h1,Nat.add_mul];unfold fcod;rw [h2]
theorem Zjn (l:List Int) (m:Nat) (hm:m<=20):(fcod l m+rank l m l.length)*sz m<=shr l:=by
 rw [ZqK l m hm,<-ZoP]
 have:∀(t:List Tr),sumN (fun y:Tr=>if y.1<m+1 then sz y.1 else 0) t<=sumN siz t:=by
  intro t
  induction t with
  | nil=>exact Nat.le_refl _
  | cons x t ih=>
   simp only [sumN];have h1:siz x=sz x.1:=rfl;split<;>omega
 exact this _
theorem ZfA (l:List Int):fcod l 0=0:=by
 unfold fcod fst_
 have:sumN (fun y:Tr=>if y.1<0 then sz y.1 else 0) (ent l)=0:=by
  have h:=ZdA (f:=fun y:Tr=>if y.1<0 then sz y.1 else 0) (l:=ent l) (c:=0) (fun y _=>by rw [if_neg (by omega)];exact Nat.le_refl 0);omega
 rw [this,Nat.zero_div]
theorem Zez {l:List Int} (h:∀z∈l,1<=z):rank l 0 l.length=0:=by
 unfold rank
 have h2:=ZdA (f:=fun j=>if (l.getD j 0).toNat=0 then 1 else 0) (l:=List.range l.length) (c:=0) (fun j hj=>by
  have hj:=List.mem_range.1 hj;have h3:=h (l.getD j 0) (by rw [List.getD_eq_getElem?_getD,List.getElem?_eq_getElem hj];exact List.getElem_mem hj);rw [if_neg (by omega)];exact Nat.le_refl 0)
 omega
theorem Zs0 {l:List Int} (h:∀z∈l,1<=z):cl l 1=0:=by
 have h1:=Zhs l 0;rw [Zez h] at h1
 have h2:cl l 0=0:=by
  have h:=ZdA (f:=fun j=>if ln l j<0 then 1 else 0) (l:=List.range l.length) (c:=0) (fun j _=>by rw [if_neg (by omega)];exact Nat.le_refl 0);unfold cl;omega
 rw [h1,h2]
end CanM
end
section
open Go.RowKit CanM HufM
def Obj838 (w:World) (b:Nat) (F:Nat->Value):Prop:=w.heap[b]?=some (.cells (cellsF 838 F) 214 (0,0))
theorem Obj838.cell {w:World} {b:Nat} {F:Nat->Value} (h:Obj838 w b F) {i:Nat} (hi:i<838):w.cell? ⟨b,i,none⟩=some (F i)/\w.frozen? ⟨b,i,none⟩=false:=
 ⟨(cell_of_row _ _ _ _ _ _ h).trans (Zc6 838 F hi),frozen_of_row _ _ _ _ _ h⟩
theorem Obj838.set {w:World} {b:Nat} {F:Nat->Value} (h:Obj838 w b F) (i:Nat) (x:Value):Obj838 (w.setCell ⟨b,i,none⟩ x) b (upd F i x):=by
 have:=heap_setCell_same w b i _ _ x h;rw [ZdG] at this;exact this
theorem Obj838.other {w w':World} {b:Nat} {F:Nat->Value} (h:Obj838 w b F) {S:Nat->Prop} (ht:Touch S w w') (hS:¬S b):Obj838 w' b F:=
 (ht.block b (Array.getElem?_eq_some_iff.1 h).1 hS).trans h
theorem Obj838.drewN {w:World} {b:Nat} {F:Nat->Value} (h:Obj838 w b F) (n:Nat):Obj838 (w.drewN n) b F:=h
structure CF (zs:List Int) (F:Nat->Value) (n i k1 k2:Nat):Prop where
 size:F 0=.int .i64 (zs.length:Int)
 sym:∀j,j<zs.length->(ln zs j<n\/(ln zs j=n/\j<i))->F (1+j)=.int .i64 (ln zs j:Int)/\F (259+j)=.int .u32 ((fcod zs (ln zs j)+rank zs (ln zs j) j:Nat):Int)/\F (517+plc zs j)=.int .i64 (j:Int)
 fst:∀m,1<=m->m<k1->F (775+m)=.int .u32 (fcod zs m:Int)/\F (796+m)=.int .i64 (cl zs m:Int)
 end_ : ∀ m, 1 <= m -> m < k2 -> F (817 + m) = .int .u32 (((fcod zs m + rank zs m zs.length) * sz m : Nat) : Int)
theorem CF.first {zs:List Int} {F:Nat->Value} {n k2:Nat} (h:CF zs F n 0 n k2) (hz:zs.length<=258) (h1:1<=n) (h20:n<=20) (hk2:k2<=21) :
  CF zs (upd (upd F (775+n) (.int .u32 (fcod zs n:Int))) (796+n) (.int .i64 (cl zs n:Int))) n 0 (n+1) k2:=by
 obtain⟨a,b,c,d⟩:=h;refine⟨?_,fun j hj hh=>?_,fun m hm hmk=>?_,fun m hm hmk=>?_⟩
 ·rw [Zad _ _ (by omega),Zad _ _ (by omega)];exact a
 ·have hp:=Zey zs hj;obtain⟨b1,b2,b3⟩:=b j hj hh;rw [Zad _ _ (by omega),Zad _ _ (by omega),Zad _ _ (by omega),Zad _ _ (by omega),Zad _ _ (by omega),Zad _ _ (by omega)];exact⟨b1,b2,b3⟩
 ·by_cases e:m=n
  ·subst e;rw [ZaO,Zad _ _ (by omega),ZaO];exact⟨rfl,rfl⟩
  ·rw [Zad _ _ (by omega),Zad _ _ (by omega),Zad _ _ (by omega),Zad _ _ (by omega)];exact c m hm (by omega)
 ·rw [Zad _ _ (by omega),Zad _ _ (by omega)];exact d m hm hmk
theorem CF.push {zs:List Int} {F:Nat->Value} {n i k1 k2:Nat} (h:CF zs F n i k1 k2) (hz:zs.length<=258) (hi:i<zs.length) (hn:ln zs i=n) (C P:Nat) (hC:C=fcod zs n+rank zs n i) (hP:P=cl zs n+rank zs n i) :
  CF zs (upd (upd (upd F (1+i) (.int .i64 (n:Int))) (259+i) (.int .u32 (C:Int))) (517+P) (.int .i64 (i:Int))) n (i+1) k1 k2:=by
 obtain⟨a,b,c,d⟩:=h;have hPp:P=plc zs i:=by unfold plc;rw [hn];exact hP
 have hpi:=Zey zs hi;refine⟨?_,fun j hj hh=>?_,fun m hm hmk=>?_,fun m hm hmk=>?_⟩
 ·rw [Zad _ _ (by omega),Zad _ _ (by omega),Zad _ _ (by omega)];exact a
 ·have hp:=Zey zs hj;by_cases e:j=i
  ·subst e;refine⟨?_,?_,?_⟩
   ·rw [Zad _ _ (by omega),Zad _ _ (by omega),ZaO,hn]
   ·rw [Zad _ _ (by omega),ZaO,hn,hC]
   ·rw [hPp,ZaO]
  ·obtain⟨b1,b2,b3⟩:=b j hj (by omega);have hne:=ZsZ zs hj hi e;rw [Zad _ _ (by omega),Zad _ _ (by omega),Zad _ _ (by omega),Zad _ _ (by omega),Zad _ _ (by omega),Zad _ _ (by omega),Zad _ _ (by omega),Zad _ _ (by omega),Zad _ _ (by omega)];exact⟨b1,b2,b3⟩
 ·rw [Zad _ _ (by omega),Zad _ _ (by omega),Zad _ _ (by omega),Zad _ _ (by omega),Zad _ _ (by omega),Zad _ _ (by omega)];exact c m hm hmk
 ·rw [Zad _ _ (by omega),Zad _ _ (by omega),Zad _ _ (by omega)];exact d m hm hmk
theorem CF.skip {zs:List Int} {F:Nat->Value} {n i k1 k2:Nat} (h:CF zs F n i k1 k2) (hn:¬ln zs i=n):CF zs F n (i+1) k1 k2:=
 ⟨h.size,fun j hj hh=>h.sym j hj (by
  rcases hh with h1|⟨h1,h2⟩
  ·exact Or.inl h1
  ·by_cases e:j=i
   ·subst e;exact absurd h1 hn
   ·exact Or.inr ⟨h1,by omega⟩),h.fst,h.end_⟩
theorem CF.last {zs:List Int} {F:Nat->Value} {n k1:Nat} (h:CF zs F n zs.length k1 n) (hz:zs.length<=258) (h1:1<=n) (h20:n<=20) (hk1:k1<=21) (V:Nat) (hV:V=(fcod zs n+rank zs n zs.length)*sz n) :
  CF zs (upd F (817+n) (.int .u32 (V:Int))) (n+1) 0 k1 (n+1):=by
 obtain⟨a,b,c,d⟩:=h;refine⟨?_,fun j hj hh=>?_,fun m hm hmk=>?_,fun m hm hmk=>?_⟩
 ·rw [Zad _ _ (by omega)];exact a
 ·have hp:=Zey zs hj;obtain⟨b1,b2,b3⟩:=b j hj (by omega);rw [Zad _ _ (by omega),Zad _ _ (by omega),Zad _ _ (by omega)];exact⟨b1,b2,b3⟩
 ·rw [Zad _ _ (by omega),Zad _ _ (by omega)];exact c m hm hmk
 ·by_cases e:m=n
  ·subst e;rw [ZaO,hV]
  ·rw [Zad _ _ (by omega)];exact d m hm (by omega)
def IsCode (w:World) (b:Nat) (zs:List Int):Prop:=∃F,Obj838 w b F/\CF zs F 21 0 21 21
theorem IsCode.other {w w':World} {b:Nat} {zs:List Int} (h:IsCode w b zs) {S:Nat->Prop} (ht:Touch S w w') (hS:¬S b):IsCode w' b zs:=by
 obtain⟨F,h1,h2⟩:=h;exact⟨F,h1.other ht hS,h2⟩
theorem ZlB {zs:List Int} (hs:shr zs=1048576) {n:Nat} (hn:n<=20):fcod zs n+rank zs n zs.length<=1048576:=by
 have h1:=Zjn zs n hn;have h2:=ZmE n;rw [hs] at h1;exact Nat.le_trans (Nat.le_mul_of_pos_right _ h2) h1
theorem ZqL (b:Nat) (v:Value) (zs:List Int) (w0 w:World) (F0:Nat->Value) (hF:Obj838 w b F0) (h0:F0 0=.int .i64 (zs.length:Int)) (hv:IsInts w0 v zs) (hb0:w0.heap.size<=b) (hB:Below w0.heap.size w0 w)
  (hz:zs.length<=258) (hw:∀z∈zs,1<=z/\z<=20) (hs:shr zs=1048576) :
  Calls Tryz.prog 146 #[.pointer (some ⟨b,0,none⟩),v] w fun e w'=>e=.returned (.tuple #[])/\IsCode w' b zs/\Touch (·=b) w w':=by
 have HV:=zh hv;have HB0:=zh hB;have HW:=zh hw;have HS:=zh hs;have HF0:=zh hF;obtain⟨a,cap,rfl,_⟩:=hv;obtain⟨N,hN⟩:∃N,zs.length=N:=⟨_,rfl⟩
 have HN:=zh hN
 have hstart:Hid (CF zs F0 1 0 1 1):=zh ⟨h0,fun j hj hh=>by
  have h3:=hw (zs.getD j 0) (by rw [List.getD_eq_getElem?_getD,List.getElem?_eq_getElem hj];exact List.getElem_mem hj);unfold ln at hh;omega,fun m h1 h2=>by omega,fun m h1 h2=>by omega⟩
 have hc0:Hid (fcod zs 0+rank zs 0 zs.length=0/\cl zs 1=0):=zh ⟨by rw [ZfA,Zez (fun z h=>(hw z h).1)],Zs0 (fun z h=>(hw z h).1)⟩;rw [hN] at hz ⊢;have hgb:Hid (w0.heap.size<=b):=zh hb0;clear hB hw hs hF h0 hN hb0;go_enter Tryz.func146,Tryz.ntmps146;go_wp2_with fail
 go_loopw [4,5,6] (fun vp vc vn wr=>∃(n P C:Nat) (F:Nat->Value),vn=.int .i64 (n:Int)/\vp=.int .i64 (P:Int)/\vc=.int .u32 (C:Int)/\1<=n/\n<=21/\P=cl zs n/\C=fcod zs (n-1)+rank zs (n-1) N/\Obj838 wr b F/\CF zs F n 0 n n/\Touch (·=b) w wr) (fun _ _ vn _=>21-(intOf vn).toNat)
 case atStart=>exact⟨1,0,0,F0,rfl,rfl,rfl,by omega,by omega,hc0.out.2.symm,by have:=hc0.out.1;rw [HN.out] at this;exact this.symm,HF0.out,hstart.out,Touch.refl _ _⟩
 case round=>
  obtain⟨n,P,C,F,rfl,rfl,rfl,hn1,hn2,hP,hC,hO,hF,hT⟩:=hrel;have HO:=zh hO;have HF:=zh hF;have HT:=zh hT;have HP:=zh hP;have HC:=zh hC;have hPb:P<=258:=by have:=Zr8 zs n;rw [HN.out] at this;omega
  have hCb:C<=1048576:=by
   have:=ZlB HS.out (n:=n-1) (by omega);rw [HN.out] at this;omega
  clear hO hF hT hP hC;by_cases hn:n<=20
  ·have hni:(n:Int)<=20:=by omega
   obtain⟨A1,hA1⟩:∃A1,775+n=A1:=⟨_,rfl⟩
   obtain⟨A2,hA2⟩:∃A2,796+n=A2:=⟨_,rfl⟩
   have hn21:(n:Int)<21:=by omega
   obtain⟨c1,f1⟩:=HO.out.cell (i:=A1) (by omega);obtain⟨c2,f2⟩:=HO.out.cell (i:=A2) (by omega);have c3:=fun v=>((HO.out.set A1 v).cell (i:=A2) (by omega)).1
   have f3:=fun v=>((HO.out.set A1 v).cell (i:=A2) (by omega)).2
   obtain⟨C2,hC2⟩:∃C2,C*2=C2:=⟨_,rfl⟩
   have hC2I:(C:Int)*2=(C2:Int):=by omega
   have HFC:Hid (C2=fcod zs n):=zh (by
    have h1:=ZcR zs (n:=n-1) (by omega);rw [show n-1+1=n by omega,HN.out,<-HC.out] at h1;omega)
   have HO5:Hid (Obj838 (((wr.setCell ⟨b,A1,none⟩ (.int .u32 (C2:Int))).setCell ⟨b,A2,none⟩ (.int .i64 (P:Int))).drew) b (upd (upd F A1 (.int .u32 (C2:Int))) A2 (.int .i64 (P:Int)))):=zh (((HO.out.set _ _).set _ _).drewN 1)
   have HF5:Hid (CF zs (upd (upd F A1 (.int .u32 (C2:Int))) A2 (.int .i64 (P:Int))) n 0 (n+1) n):=zh (by
    have:=HF.out.first (by rw [HN.out];exact hz) hn1 hn (by omega);rw [hA1,hA2,<-HFC.out,<-HP.out] at this;exact this)
   have HT5:Hid (Touch (·=b) w (((wr.setCell ⟨b,A1,none⟩ (.int .u32 (C2:Int))).setCell ⟨b,A2,none⟩ (.int .i64 (P:Int))).drew)):=zh (Zae (Zae HT.out)).drew;have HA1:=zh hA1;have HA2:=zh hA2
   have hC2b:C2<=1048576:=by
    have h1:=ZlB HS.out (n:=n) hn;have h2:=HFC.out;omega
   clear hC2;go_wp2_with fail
   go_region
   generalize (((wr.setCell ⟨b,A1,none⟩ (.int .u32 (C2:Int))).setCell ⟨b,A2,none⟩ (.int .i64 (P:Int))).drew)=w5 at *;generalize upd (upd F A1 (.int .u32 (C2:Int))) A2 (.int .i64 (P:Int))=F5 at *;clear c1 f1 c2 f2 c3 f3 hA1 hA2;go_wp2_with fail
   go_loopw [4,5,29] (fun vp vc vj w6=>∃(j P' C':Nat) (F':Nat->Value),vj=.int .i64 (j:Int)/\vp=.int .i64 (P':Int)/\vc=.int .u32 (C':Int)/\j<=N/\P'=cl zs n+rank zs n j/\C'=fcod zs n+rank zs n j/\Obj838 w6 b F'/\CF zs F' n j (n+1) n/\Touch (·=b) w w6) (fun _ _ vj _=>N-(intOf vj).toNat)
   case atStart=>exact⟨0,P,C2,F5,rfl,rfl,rfl,by omega,by have h1:=HP.out;have:rank zs n 0=0:=rfl;omega,by have h1:=HFC.out;have:rank zs n 0=0:=rfl;omega,HO5.out,HF5.out,HT5.out⟩
   case round=>
    obtain⟨j,P',C',F',rfl,rfl,rfl,hj,hP',hC',hO',hF',hT'⟩:=hrel;have HO':=zh hO';have HF':=zh hF';have HT':=zh hT';have HP':=zh hP';have HC':=zh hC';have hrk:=Zil zs n j (N-j);rw [show j+(N-j)=N by omega] at hrk;have hcn:=Zhs zs n;have hcl:=Zr8 zs (n+1);rw [HN.out] at hcn hcl;have hPb':P'<=258:=by omega
    have hCb':C'<=1048576:=by
     have h1:=ZlB HS.out (n:=n) hn;rw [HN.out] at h1;omega
    clear hO' hF' hT' hP' hC' hrk hcn hcl;by_cases hlj:j<N
    ·have hji:(j:Int)<(N:Int):=by omega
     have hlz:j<zs.length:=by rw [HN.out];exact hlj
     obtain⟨b1,o1,k1,he1,c1⟩:=HV.out.cell hlz;rw [HN.out] at he1;simp only [Value.slice.injEq] at he1;obtain⟨rfl,_,rfl⟩:=he1;have hB6:Below w0.heap.size w0 wr:=HB0.out.trans (HT'.out.below (B:=w0.heap.size) HB0.out.size (fun i hi=>by have e:i=b:=hi;have:=hgb.out;omega));have c1:=(hB6.cell (ZaE c1)).trans c1;have hx2:=HW.out (zs.getD j 0) (by rw [List.getD_eq_getElem?_getD,List.getElem?_eq_getElem hlz];exact List.getElem_mem hlz);obtain⟨X,hX⟩:∃X,ln zs j=X:=⟨_,rfl⟩
     have hXI:zs.getD j 0=(X:Int):=by unfold ln at hX;omega
     rw [hXI] at c1;have HX:=zh hX;clear hB6 hXI hX;by_cases hxn:X=n
     ·have hxe:((X:Int)==(n:Int))=true:=by rw [beq_iff_eq];omega
      have HXN:=zh hxn;have hxa:X<=n:=by omega
      have hxb:n<=X:=by omega
      have hj258:(j:Int)<258:=by omega
      have hPlt:P'<258:=by
       have h1:=Zey zs hlz;unfold plc at h1;rw [HX.out,hxn,<-HP'.out,HN.out] at h1;omega
      have hPi:(P':Int)<258:=by omega
      obtain⟨B1,hB1⟩:∃B1,1+j=B1:=⟨_,rfl⟩
      obtain⟨B2,hB2⟩:∃B2,259+j=B2:=⟨_,rfl⟩
      obtain⟨B3,hB3⟩:∃B3,517+P'=B3:=⟨_,rfl⟩
      obtain⟨d1,g1⟩:=HO'.out.cell (i:=B1) (by omega);obtain⟨d2,g2⟩:=HO'.out.cell (i:=B2) (by omega);obtain⟨d3,g3⟩:=HO'.out.cell (i:=B3) (by omega);have d4:=fun v=>((HO'.out.set B1 v).cell (i:=B2) (by omega)).1
      have g4:=fun v=>((HO'.out.set B1 v).cell (i:=B2) (by omega)).2
      have d5:=fun v u=>(((HO'.out.set B1 v).set B2 u).cell (i:=B3) (by omega)).1
      have g5:=fun v u=>(((HO'.out.set B1 v).set B2 u).cell (i:=B3) (by omega)).2
      have HB1:=zh hB1;have HB2:=zh hB2;have HB3:=zh hB3;have HO7:Hid (Obj838 ((((wr.setCell ⟨b,B1,none⟩ (.int .i64 (n:Int))).setCell ⟨b,B2,none⟩ (.int .u32 (C':Int))).setCell ⟨b,B3,none⟩ (.int .i64 (j:Int))).drew) b (upd (upd (upd F' B1 (.int .i64 (n:Int))) B2 (.int .u32 (C':Int))) B3 (.int .i64 (j:Int)))):=zh ((((HO'.out.set _ _).set _ _).set _ _).drewN 1);have HT7:Hid (Touch (·=b) w ((((wr.setCell ⟨b,B1,none⟩ (.int .i64 (n:Int))).setCell ⟨b,B2,none⟩ (.int .u32 (C':Int))).setCell ⟨b,B3,none⟩ (.int .i64 (j:Int))).drew)):=zh (Zae (Zae (Zae HT'.out))).drew
      have HF7:Hid (CF zs (upd (upd (upd F' B1 (.int .i64 (n:Int))) B2 (.int .u32 (C':Int))) B3 (.int .i64 (j:Int))) n (j+1) (n+1) n):=zh (by
       rw [<-hB1,<-hB2,<-hB3];exact HF'.out.push (by rw [HN.out];exact hz) hlz (by rw [HX.out,hxn]) C' P' HC'.out HP'.out)
      have hrs:Hid (rank zs n (j+1)=rank zs n j+1):=zh (by
       have:=ZbK zs n j;rw [if_pos (show(zs.getD j 0).toNat=n by have:=HX.out;unfold ln at this;omega)] at this;exact this)
      clear hxn;go_wp2_with fail
      go_region
      generalize ((((wr.setCell ⟨b,B1,none⟩ (.int .i64 (n:Int))).setCell ⟨b,B2,none⟩ (.int .u32 (C':Int))).setCell ⟨b,B3,none⟩ (.int .i64 (j:Int))).drew)=w7 at *;generalize upd (upd (upd F' B1 (.int .i64 (n:Int))) B2 (.int .u32 (C':Int))) B3 (.int .i64 (j:Int))=F7 at *;clear d1 g1 d2 g2 d3 g3 d4 g4 d5 g5 hB1 hB2 hB3;go_wp2_with fail;go_roundw
      case rel=>exact⟨j+1,P'+1,C'+1,F7,by go_num,by go_num,by go_num,by omega,by have h1:=HP'.out;have h2:=hrs.out;omega,by have h1:=HC'.out;have h2:=hrs.out;omega,HO7.out,HF7.out,HT7.out⟩
      case measure=>simp [intOf];omega
     ·have hxe:((X:Int)==(n:Int))=false:=by rw [beq_eq_false_iff_ne];omega
      have HF7:Hid (CF zs F' n (j+1) (n+1) n):=zh (HF'.out.skip (by rw [HX.out];exact hxn))
      have hrs:Hid (rank zs n (j+1)=rank zs n j):=zh (by
       have:=ZbK zs n j;rw [if_neg (show ¬(zs.getD j 0).toNat=n by have:=HX.out;unfold ln at this;omega)] at this;exact this)
      go_wp2_with fail;go_roundw
      case rel=>exact⟨j+1,P',C',F',by go_num,rfl,rfl,by omega,by have h1:=HP'.out;have h2:=hrs.out;omega,by have h1:=HC'.out;have h2:=hrs.out;omega,HO'.out,HF7.out,HT'.out⟩
      case measure=>simp [intOf];omega
    ·have hji:¬(j:Int)<(N:Int):=by omega
     obtain rfl:N=j:=by omega
     obtain⟨D1,hD1⟩:∃D1,817+n=D1:=⟨_,rfl⟩
     obtain⟨d1,g1⟩:=HO'.out.cell (i:=D1) (by omega);obtain⟨S,hS⟩:∃S:Nat,20-n=S:=⟨_,rfl⟩
     have hSI:(20:Int)-(n:Int)=(S:Int):=by omega
     have hS0:¬(20:Int)-(n:Int)<0:=by omega
     have hSb:S<=20:=by omega
     obtain⟨V,hV⟩:∃V,C'*2^S=V:=⟨_,rfl⟩
     have hVb:V<=1048576:=by
      have h1:=Zjn zs n hn;rw [HS.out,HN.out,<-HC'.out] at h1;unfold sz at h1;rw [hS,hV] at h1;exact h1
     have HVV:Hid (V=(fcod zs n+rank zs n zs.length)*sz n):=zh (by
      rw [HN.out,<-HC'.out];unfold sz;rw [hS,hV])
     have HV2:Hid ((C':Int)*2^S=(V:Int)):=zh (by rw [<-hV];rw [Int.natCast_mul,Int.natCast_pow];rfl)
     have HF8:Hid (CF zs (upd F' D1 (.int .u32 (V:Int))) (n+1) 0 (n+1) (n+1)):=zh (by
      rw [<-hD1];have h1:=HF'.out;rw [<-HN.out] at h1;exact h1.last (by rw [HN.out];exact hz) hn1 hn (by omega) V HVV.out)
     have hcl:Hid (P'=cl zs (n+1)):=zh (by rw [Zhs,HN.out];exact HP'.out);have HD1:=zh hD1;have HVm:(C':Int)*2^S % 4294967296=(V:Int):=by rw [HV2.out];omega
     have HO8:Hid (Obj838 ((wr.setCell ⟨b,D1,none⟩ (.int .u32 (V:Int))).drew) b (upd F' D1 (.int .u32 (V:Int)))):=zh ((HO'.out.set _ _).drewN 1);have HT8:Hid (Touch (·=b) w ((wr.setCell ⟨b,D1,none⟩ (.int .u32 (V:Int))).drew)):=zh (Zae HT'.out).drew;clear hS hV;go_wp2_with fail
     go_region
     generalize ((wr.setCell ⟨b,D1,none⟩ (.int .u32 (V:Int))).drew)=w8 at *;generalize upd F' D1 (.int .u32 (V:Int))=F8 at *;clear HVm hD1;go_wp2_with fail;go_roundw
     case rel=>exact⟨n+1,P',C',F8,by go_num,rfl,rfl,by omega,by omega,hcl.out,by rw [Nat.add_sub_cancel];exact HC'.out,HO8.out,HF8.out,HT8.out⟩
     case measure=>simp [intOf];omega
  ·have hni:¬(n:Int)<=20:=by omega
   obtain rfl:n=21:=by omega
   go_wp2_with fail;go_end0;exact⟨rfl,⟨F,HO.out,HF.out⟩,HT.out⟩
end
section
open Go.RowKit
def Within (a b:Int) (zs:List Int):Prop:=∀z∈zs,a<=z/\z<=b
theorem getD_mem {zs:List Int} {k:Nat} (h:k<zs.length):zs.getD k 0∈zs:=by
 rw [List.getD_eq_getElem?_getD,List.getElem?_eq_getElem h];exact List.getElem_mem h
theorem ZeA {a b:Int} {zs:List Int} (h:∀j,j<zs.length->a<=zs.getD j 0/\zs.getD j 0<=b):Within a b zs:=fun z hz=>by
 obtain⟨j,hj,rfl⟩:=List.mem_iff_getElem.1 hz;have:=h j hj;rw [List.getD_eq_getElem?_getD,List.getElem?_eq_getElem hj] at this;exact this
theorem ZdE (v:Value) (zs:List Int) (a b:Int) (r:Bool) (w:World) (hv:IsInts w v zs) (hr:r=true↔Within a b zs) (hz:zs.length<=9223372036854775807) :
  Calls Tryz.prog 205 #[v,.int .i64 a,.int .i64 b] w fun e w'=>e=.returned (.bool r)/\w'=w:=by
 have HV:=zh hv;have HRR:=zh hr;obtain⟨ad,cap,rfl,_⟩:=hv;clear hr;go_enter Tryz.func205,Tryz.ntmps205;go_wp2_with fail
 go_loopw [11] (fun i wr=>∃k:Nat,k<=zs.length/\i=.int .i64 k/\wr=w/\∀j,j<k->a<=zs.getD j 0/\zs.getD j 0<=b) (fun i _=>zs.length-(intOf i).toNat)
 case atStart=>exact⟨0,by omega,rfl,rfl,fun j hj=>by omega⟩
 case round=>
  obtain⟨k,hk,rfl,rfl,hA⟩:=hrel;have HA:=zh hA;clear hA;by_cases hlk:k<zs.length
  ·have hki:(k:Int)<(zs.length:Int):=by omega
   obtain⟨b1,o1,k1,he1,c1⟩:=HV.out.cell hlk;simp only [Value.slice.injEq] at he1;obtain⟨rfl,_,rfl⟩:=he1;obtain⟨x,hx⟩:∃x,zs.getD k 0=x:=⟨_,rfl⟩
   rw [hx] at c1;have HX:=zh hx;clear hx;by_cases h1:x<a
   ·have hrf:r=false:=by
     rw [Bool.eq_false_iff,Ne,HRR.out];intro h;have:=h _ (getD_mem hlk);rw [HX.out] at this;omega
    subst hrf;go_wp2_with fail;go_ret;exact⟨rfl,rfl⟩
   ·have hd:decide (x<a)=false:=by simp only [decide_eq_false_iff_not];exact h1
    by_cases h2:b<x
    ·have hrf:r=false:=by
      rw [Bool.eq_false_iff,Ne,HRR.out];intro h;have:=h _ (getD_mem hlk);rw [HX.out] at this;omega
     subst hrf;go_wp2_with fail;go_ret;exact⟨rfl,rfl⟩
    ·have hd2:decide (b<x)=false:=by simp only [decide_eq_false_iff_not];exact h2
     go_wp2_with fail;go_roundw
     case rel=>exact⟨k+1,by omega,by go_num,(by first|rfl|trivial),fun j hj=>by
      by_cases e:j=k
      ·subst e;rw [HX.out];omega
      ·exact HA.out j (by omega)⟩
     case measure=>simp [intOf];omega
  ·have hki:¬(k:Int)<(zs.length:Int):=by omega
   have hrt:r=true:=by
    rw [HRR.out];exact ZeA (fun j hj=>HA.out j (by omega))
   subst hrt;go_wp2_with fail;go_ret;exact⟨rfl,rfl⟩
end
section
open Go.RowKit HufM
theorem Znl (v:Value) (zs:List Int) (w:World) (hv:IsInts w v zs) (hz:zs.length<=1000000) (hb:∀z∈zs,z<=9223372036854775807) :
  Calls Tryz.prog 220 #[v] w fun e w'=>∃r,e=.returned r/\IsInts w' r (hvs zs)/\Below w.heap.size w w':=by
 have HV:=zh hv;have HBD:=zh hb;obtain⟨a,cap,rfl,_⟩:=hv;obtain⟨N,hN⟩:∃N,zs.length=N:=⟨_,rfl⟩
 have HN:=zh hN;have hmk:=ZbS N (by omega) w;have HR0:=zh (RowI.made w N);have hb0:Hid (Below w.heap.size w (w.alloc (.cells (madeCells #[Value.int .i64 0] N) 3))):=zh ((Below.refl _ w).alloc (Nat.le_refl _) _);obtain⟨g,hg⟩:∃g,w.heap.size=g:=⟨_,rfl⟩
 have HG:=zh hg;rw [hg] at hmk HR0;rw [hN] at hz ⊢;clear hb hg hN;go_enter Tryz.func220,Tryz.ntmps220;go_wp2_with fail;generalize w.alloc (.cells (madeCells #[Value.int .i64 0] N) 3)=w1 at *;go_wp2_with fail
 go_loopw [11] (fun i wr=>∃k:Nat,k<=N/\i=.int .i64 k/\RowI wr g ((zs.take k).map hv++List.replicate (N-k) 0)/\Below w.heap.size w wr) (fun i _=>N-(intOf i).toNat)
 case atStart=>exact⟨0,Nat.zero_le _,rfl,by simpa using HR0.out,hb0.out⟩
 case round=>
  obtain⟨k,hk,rfl,hR,hB⟩:=hrel;have HR:=zh hR;have HB:=zh hB;have hlen:((zs.take k).map hv).length=k:=by rw [List.length_map,List.length_take,HN.out];omega
  by_cases hlk:k<N
  ·have hki:(k:Int)<(N:Int):=by omega
   obtain⟨b1,o1,k1,he1,c1⟩:=HV.out.cell (show k<zs.length by rw [HN.out];exact hlk);simp only [Value.slice.injEq] at he1;obtain⟨rfl,_,rfl⟩:=he1;have c1:=(HB.out.cell (ZaE c1)).trans c1;obtain⟨x,hx⟩:∃x,zs.getD k 0=x:=⟨_,rfl⟩
   rw [hx] at c1;have hxb:x<=9223372036854775807:=by rw [<-hx];exact HBD.out _ (getD_mem (by rw [HN.out];exact hlk))
   obtain⟨c2,f2,hset⟩:=RowI.cell hR (i:=k) (by rw [List.length_append,hlen,List.length_replicate];omega);generalize ((zs.take k).map hv++List.replicate (N-k) 0).getD k 0=y at c2;obtain⟨M,hM⟩:∃M,(if x<0 then 0 else x)=M:=⟨_,rfl⟩
   have hM0:0<=M:=by rw [<-hM];split<;>omega
   have hMb:M<=9223372036854775807:=by rw [<-hM];split<;>omega
   have hq:IntKind.i64.wrap (M / 2)=M / 2:=IntWalk.i64_in _ (by omega)
   have hnext:Hid (RowI (wr.setCell ⟨g,k,none⟩ (.int .i64 (M / 2+1))) g ((zs.take (k+1)).map hv++List.replicate (N-(k+1)) 0)):=zh (by
    have h1:=hset (M / 2+1);have h2:=Zmx ((zs.take k).map hv) (N-(k+1)) (M / 2+1);rw [hlen,show N-(k+1)+1=N-k by omega] at h2;rw [h2] at h1
    have h3:(zs.take (k+1)).map hv=(zs.take k).map hv++[M / 2+1]:=by
     rw [List.take_add_one,List.map_append,List.getElem?_eq_getElem (show k<zs.length by rw [HN.out];exact hlk)];congr 1;have hx2:zs[k]'(by rw [HN.out];exact hlk)=x:=by rw [<-hx,List.getD_eq_getElem?_getD,List.getElem?_eq_getElem (show k<zs.length by rw [HN.out];exact hlk)];rfl
     simp only [Option.toList_some,List.map_cons,List.map_nil,hx2];unfold hv;rw [hM]
    rw [h3];exact h1)
   have hbn:Hid (Below w.heap.size w (wr.setCell ⟨g,k,none⟩ (.int .i64 (M / 2+1)))):=zh (HB.out.setCell (p:=⟨g,k,none⟩) (by rw [HG.out];exact Nat.le_refl g) _);have HM:=zh hM;clear hR hB hset hx hM hlen;go_wp2_with fail;go_roundw
   case rel=>exact⟨k+1,by omega,by go_num,by rw [HM.out];exact hnext.out,by rw [HM.out];exact hbn.out⟩
   case measure=>simp [intOf];omega
  ·have hki:¬(k:Int)<(N:Int):=by omega
   obtain rfl:N=k:=by omega
   go_wp2_with fail;go_ret;have h:=HR.out.ints N N (by rw [List.length_append,hlen];simp)
   have e:(zs.take N).map hv++List.replicate (N-N) 0=hvs zs:=by
    rw [Nat.sub_self,List.replicate_zero,List.append_nil,List.take_of_length_le (Nat.le_of_eq HN.out)];rfl
   rw [e] at h;exact⟨_,rfl,h,HB.out⟩
def lg (zs:List Int):Int:=zs.foldl (fun m x=>if m<x then x else m) 0
theorem Zr9 (zs:List Int) {k:Nat} (h:k<zs.length):lg (zs.take (k+1))=if lg (zs.take k)<zs.getD k 0 then zs.getD k 0 else lg (zs.take k):=by
 unfold lg;rw [List.take_add_one,List.foldl_append,List.getD_eq_getElem?_getD,List.getElem?_eq_getElem h];rfl
theorem Znm (zs:List Int):∀m:Int,m<=zs.foldl (fun m x=>if m<x then x else m) m/\(∀z∈zs,z<=zs.foldl (fun m x=>if m<x then x else m) m)/\(zs.foldl (fun m x=>if m<x then x else m) m=m\/zs.foldl (fun m x=>if m<x then x else m) m∈zs):=by
 induction zs with
 | nil=>intro m;exact⟨Int.le_refl _,fun z h=>(by cases h),Or.inl rfl⟩
 | cons x t ih=>
  intro m;obtain⟨h1,h2,h3⟩:=ih (if m<x then x else m);simp only [List.foldl_cons];have hm:m<=(if m<x then x else m)/\x<=(if m<x then x else m):=by split<;>omega
  refine⟨by omega,fun z hz=>?_,?_⟩
  ·rcases List.mem_cons.1 hz with rfl|hz
   ·omega
   ·exact h2 z hz
  ·rcases h3 with h|h
   ·rw [h];split
    ·exact Or.inr (List.mem_cons_self ..)
    ·exact Or.inl rfl
   ·exact Or.inr (List.mem_cons_of_mem _ h)
theorem Zs1 {zs:List Int} {b:Int} (h0:0<=b):lg zs<=b↔∀z∈zs,z<=b:=by
 obtain⟨h1,h2,h3⟩:=Znm zs 0;constructor
 ·intro h z hz;exact Int.le_trans (h2 z hz) h
 ·intro h;rcases h3 with e|e
  ·unfold lg;rw [e];exact h0
  ·exact h _ e
theorem ZlC (v:Value) (zs:List Int) (w:World) (hv:IsInts w v zs) (hz:zs.length<=9223372036854775807) :
  Calls Tryz.prog 219 #[v] w fun e w'=>e=.returned (.int .i64 (lg zs))/\w'=w:=by
 have HV:=zh hv;obtain⟨ad,cap,rfl,_⟩:=hv;go_enter Tryz.func219,Tryz.ntmps219;go_wp2_with fail
 go_loopw [3,8] (fun m i wr=>∃k:Nat,k<=zs.length/\i=.int .i64 k/\m=.int .i64 (lg (zs.take k))/\wr=w) (fun _ i _=>zs.length-(intOf i).toNat)
 case atStart=>exact⟨0,by omega,rfl,rfl,rfl⟩
 case round=>
  obtain⟨k,hk,rfl,rfl,rfl⟩:=hrel;by_cases hlk:k<zs.length
  ·have hki:(k:Int)<(zs.length:Int):=by omega
   obtain⟨b1,o1,k1,he1,c1⟩:=HV.out.cell hlk;simp only [Value.slice.injEq] at he1;obtain⟨rfl,_,rfl⟩:=he1;have ht:=Zr9 zs hlk;obtain⟨x,hx⟩:∃x,zs.getD k 0=x:=⟨_,rfl⟩
   rw [hx] at c1 ht;have HT:=zh ht;obtain⟨m,hm⟩:∃m,lg (zs.take k)=m:=⟨_,rfl⟩
   rw [hm] at ht;have HT2:=zh ht;rw [hm];clear hx ht HT;go_wp2_with fail;go_roundw
   case rel=>exact⟨k+1,by omega,by go_num,by rw [HT2.out],(by first|rfl|trivial)⟩
   case measure=>simp [intOf];omega
  ·have hki:¬(k:Int)<(zs.length:Int):=by omega
   have e:zs.take k=zs:=List.take_of_length_le (by omega);rw [e];clear e;go_wp2_with fail;go_ret;exact⟨rfl,rfl⟩
theorem ZqM (zs:List Int) {k:Nat} (h:k<zs.length):shr (zs.take (k+1))=shr (zs.take k)+2^(20-(zs.getD k 0).toNat):=by
 unfold shr;rw [List.take_add_one,Za6,List.getD_eq_getElem?_getD,List.getElem?_eq_getElem h];simp [sumN]
theorem ZoU (zs:List Int):shr zs<=1048576*zs.length:=ZdA (fun x _=>Nat.pow_le_pow_right (by decide) (show 20-x.toNat<=20 by omega))
def ShareP (zs:List Int) (n:Int) (err:Nat):Prop:=(¬(zs.length<=258/\Within 0 20 zs)/\n=0/\err=1)\/((zs.length<=258/\Within 0 20 zs)/\n=(shr zs:Int)/\err=0)
theorem ZoV (v:Value) (zs:List Int) (w:World) (hv:IsInts w v zs) (hz:zs.length<=9223372036854775807) :
  Calls Tryz.prog 174 #[v] w fun e w'=>∃(n:Int) (err:Nat),e=.returned (.tuple #[.int .i64 n,.int .i64 (err:Int)])/\ShareP zs n err/\w'=w:=by
 have HV:=zh hv;obtain⟨ad,cap,rfl,_⟩:=hv;by_cases hl:zs.length<=258
 ·have hlb:(zs.length:Int)<=258:=by omega
  have hnl:decide (258<(zs.length:Int))=false:=by simp only [decide_eq_false_iff_not];omega
  by_cases hw:Within 0 20 zs
  ·have HW:=zh hw;have HA:=zh (ZdE _ zs 0 20 true w HV.out ⟨fun _=>hw,fun _=>rfl⟩ hz);clear hw;go_enter Tryz.func174,Tryz.ntmps174;go_wp2_with fail;refine HA.out.mono ?_;rintro e w1 ⟨rfl,rfl⟩;go_wp2_with fail
   go_loopw [4,17] (fun m i wr=>∃k s:Nat,k<=zs.length/\i=.int .i64 k/\m=.int .i64 s/\s=shr (zs.take k)/\wr=w1) (fun _ i _=>zs.length-(intOf i).toNat)
   case atStart=>exact⟨0,0,by omega,rfl,rfl,rfl,rfl⟩
   case round=>
    obtain⟨k,s,hk,rfl,rfl,hs,rfl⟩:=hrel;by_cases hlk:k<zs.length
    ·have hki:(k:Int)<(zs.length:Int):=by omega
     obtain⟨b1,o1,k1,he1,c1⟩:=HV.out.cell hlk;simp only [Value.slice.injEq] at he1;obtain⟨rfl,_,rfl⟩:=he1;have ht:=ZqM zs hlk;have hx2:=HW.out _ (getD_mem hlk)
     have hsb:s<=1048576*258:=by
      have:=ZoU (zs.take k);rw [<-hs,List.length_take] at this;have h3:1048576*min k zs.length<=1048576*258:=Nat.mul_le_mul_left _ (by omega);omega
     obtain⟨x,hx⟩:∃x,zs.getD k 0=x:=⟨_,rfl⟩
     rw [hx] at c1 ht hx2;obtain⟨e,he⟩:∃e,20-x.toNat=e:=⟨_,rfl⟩
     have hxe:(20:Int)-x=(e:Int):=by omega
     have hxe2:¬(20:Int)-x<0:=by omega
     have hpe:2^e<=1048576:=Nat.pow_le_pow_right (by decide) (show e<=20 by omega);rw [he,<-hs] at ht;have HT:=zh ht;obtain⟨P,hP⟩:∃P,2^e=P:=⟨_,rfl⟩
     rw [hP] at hpe ht;have HTP:=zh ht;have HP:=zh hP;clear hs hx ht HT hP
     have hwv:Hid (wrap64 ((s:Int)+wrap64 (2^e))=((s+P:Nat):Int)):=zh (by
      have h1:(2:Int)^e=(P:Int):=by rw [<-HP.out];exact(Int.natCast_pow 2 e).symm
      rw [h1,IntWalk.wrap64_in (P:Int) (by omega),IntWalk.wrap64_in ((s:Int)+(P:Int)) (by omega)];omega)
     go_wp2_with fail;go_roundw
     case rel=>exact⟨k+1,s+P,by omega,by go_num,by rw [hwv.out],HTP.out.symm,(by first|rfl|trivial)⟩
     case measure=>simp [intOf];omega
    ·have hki:¬(k:Int)<(zs.length:Int):=by omega
     have e:zs.take k=zs:=List.take_of_length_le (by omega);rw [e] at hs;have HS:=zh hs;clear e hs;go_wp2_with fail;go_ret2;exact⟨_,0,rfl,Or.inr ⟨⟨hl,HW.out⟩,by rw [HS.out],rfl⟩,rfl⟩
  ·have HW:=zh hw;have HA:=zh (ZdE _ zs 0 20 false w HV.out ⟨fun h=>(by cases h),fun h=>absurd h hw⟩ hz);clear hw;go_enter Tryz.func174,Tryz.ntmps174;go_wp2_with fail;refine HA.out.mono ?_;rintro e w1 ⟨rfl,rfl⟩;go_wp2_with fail;go_ret2;exact⟨0,1,rfl,Or.inl ⟨fun h=>HW.out h.2,rfl,rfl⟩,rfl⟩
 ·have hlb:258<(zs.length:Int):=by omega
  go_enter Tryz.func174,Tryz.ntmps174;go_wp2_with fail;go_ret2;exact⟨0,1,rfl,Or.inl ⟨fun h=>hl h.1,rfl,rfl⟩,rfl⟩
end
end Go.Proofs.YtlfpbcadcfaboaaGreatDoor

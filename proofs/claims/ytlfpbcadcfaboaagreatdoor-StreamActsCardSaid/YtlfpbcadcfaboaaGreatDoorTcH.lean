import Derived.Test.YtlfpbcadcfaboaaGreatDoorTcA
import Derived.Test.YtlfpbcadcfaboaaGreatDoorTcC
import Derived.Test.YtlfpbcadcfaboaaGreatDoorTcE
import Derived.Test.YtlfpbcadcfaboaaGreatDoorTcG
import Derived.Deep.RegionHeld3
import Derived.StillTailTactics
import Derived.Lib.BufferWrite
import Derived.Laws.StandIn
import Derived.Laws.OwnMore
set_option linter.unusedVariables false
set_option linter.unusedSimpArgs false
set_option maxHeartbeats 8000000
set_option maxRecDepth 100000
namespace Go.Proofs.YtlfpbcadcfaboaaGreatDoor
section
namespace TabM
open Go.RowKit FreqM HufM
def nTab (n:Int):Nat:=if n<200 then 2 else if n<600 then 3 else if n<1200 then 4 else if n<2400 then 5 else 6
theorem Zc8 (n:Int):2<=nTab n/\nTab n<=6:=by unfold nTab;split<;>(try split)<;>(try split)<;>(try split)<;>omega
def nB (n:Int) (k:Nat):Nat:=2+(if 0<k/\200<=n then 1 else 0)+(if 1<k/\600<=n then 1 else 0)+(if 2<k/\1200<=n then 1 else 0)+(if 3<k/\2400<=n then 1 else 0)
theorem Zsg (n:Int):nB n 0=2:=by simp [nB]
theorem Zs9 (n:Int):nB n 4=nTab n:=by
 unfold nB nTab;simp only [show(0:Nat)<4 by omega,show(1:Nat)<4 by omega,show(2:Nat)<4 by omega,show(3:Nat)<4 by omega,true_and];split<;>split<;>split<;>split<;>(try split)<;>(try split)<;>(try split)<;>(try split)<;>omega
def bnd (k:Nat):Int:=if k=0 then 200 else if k=1 then 600 else if k=2 then 1200 else 2400
theorem Zsh (n:Int) (k:Nat) (hk:k<4):nB n (k+1)=nB n k+if bnd k<=n then 1 else 0:=by
 rcases(by omega:k=0\/k=1\/k=2\/k=3) with rfl|rfl|rfl|rfl<;>simp [nB,bnd]<;>omega
theorem Zts (n:Int) (k:Nat):nB n k<=6:=by
 unfold nB;split<;>split<;>split<;>split<;>omega
def sm (cs:List Int) (k:Nat):Int:=sumF (cs.take k)
theorem Zhw (cs:List Int):sm cs 0=0:=rfl
theorem Zhx (cs:List Int) {k:Nat} (hk:k<cs.length):sm cs (k+1)=sm cs k+cs.getD k 0:=by
 unfold sm;rw [List.take_succ_eq_append_getElem hk,Zf4,List.getD_eq_getElem?_getD,List.getElem?_eq_getElem hk];simp [sumF]
theorem Zns {cs:List Int} (h:∀x∈cs,0<=x) (k:Nat):0<=sm cs k:=Zhu _ (fun x hx=>h x (List.mem_of_mem_take hx))
theorem Zta {cs:List Int} (h:Nums cs):∀{k:Nat},k<=cs.length->sm cs k<=1099511627776*(k:Int)
 | 0,_=>by rw [Zhw];omega
 | k+1,hk=>by
  have h1:=Zta h (k:=k) (by omega);have h2:=(h _ (FreqM.getD_mem cs k (by omega))).2;rw [Zhx cs (by omega)];omega
def tb (cs:List Int) (n:Int) (k:Nat):Nat:=(min (sm cs k) (n-1)*(nTab n:Int) / n).toNat
theorem Znt {cs:List Int} {n:Int} (h:∀x∈cs,0<=x) (hn:1<=n) (k:Nat):min (sm cs k) (n-1)*(nTab n:Int) / n=(tb cs n k:Int)/\tb cs n k<nTab n:=by
 have h0:=Zns h k;have h1:=Zc8 n;have h2:0<=min (sm cs k) (n-1):=by omega
 have h3:min (sm cs k) (n-1)<=n-1:=by omega
 have h4:0<=min (sm cs k) (n-1)*(nTab n:Int):=Int.mul_nonneg h2 (by omega);have h5:0<=min (sm cs k) (n-1)*(nTab n:Int) / n:=Int.ediv_nonneg h4 (by omega)
 have h6:min (sm cs k) (n-1)*(nTab n:Int) / n<(nTab n:Int):=by
  rw [Int.ediv_lt_iff_lt_mul (by omega)];have:min (sm cs k) (n-1)*(nTab n:Int)<=(n-1)*(nTab n:Int):=Int.mul_le_mul_of_nonneg_right h3 (by omega);have e:(n-1)*(nTab n:Int)=(nTab n:Int)*n-(nTab n:Int):=by rw [Int.sub_mul,Int.mul_comm];omega
  omega
 unfold tb;omega
def fRow (cs:List Int) (n:Int) (k p:Nat):List Int:=(List.range cs.length).map fun j=>if j<k/\tb cs n j=p then 0 else 15
def firstK (cs:List Int) (n:Int) (k:Nat):List (List Int):=(List.range (nTab n)).map (fRow cs n k)
def firstM (cs:List Int) (n:Int):List (List Int):=firstK cs n cs.length
theorem ZdF (cs:List Int) (n:Int) (k p:Nat):(fRow cs n k p).length=cs.length:=by simp [fRow]
theorem Zca (cs:List Int) (n:Int) (k:Nat):(firstK cs n k).length=nTab n:=by simp [firstK]
theorem Zo7 (cs:List Int) (n:Int) (p:Nat):fRow cs n 0 p=List.replicate cs.length 15:=by
 unfold fRow;apply List.ext_getElem
 ·simp
 ·intro i h1 h2;simp
theorem ZqZ (cs:List Int) (n:Int) (k:Nat) (hk:k<cs.length):fRow cs n (k+1) (tb cs n k)=(fRow cs n k (tb cs n k)).set k 0:=by
 unfold fRow;apply List.ext_getElem
 ·simp
 ·intro i h1 h2;rw [List.getElem_set];simp only [List.getElem_map,List.getElem_range];by_cases e:k=i
  ·subst e;simp
  ·rw [if_neg e];by_cases hi:i<k
   ·have h3:i<k+1:=by omega
    simp [hi,h3]
   ·have h3:¬i<k+1:=by omega
    simp [hi,h3]
theorem Znu (cs:List Int) (n:Int) (k p:Nat) (hp:p≠tb cs n k):fRow cs n (k+1) p=fRow cs n k p:=by
 unfold fRow;apply List.map_congr_left;intro i hi;by_cases e:i=k
 ·subst e;have h1:¬(i<i+1/\tb cs n i=p):=fun h=>hp h.2.symm
  have h2:¬(i<i/\tb cs n i=p):=fun h=>by omega
  rw [if_neg h1,if_neg h2]
 ·have h3:(i<k+1/\tb cs n i=p)↔(i<k/\tb cs n i=p):=by omega
  simp only [h3]
theorem ZlL (cs:List Int) (n:Int) (k:Nat) (hk:k<cs.length) (ht:tb cs n k<nTab n):firstK cs n (k+1)=(firstK cs n k).set (tb cs n k) (((firstK cs n k).getD (tb cs n k) []).set k 0):=by
 apply List.ext_getElem
 ·simp [firstK]
 ·intro p h1 h2;rw [List.getElem_set]
  have hg:(firstK cs n k).getD (tb cs n k) []=fRow cs n k (tb cs n k):=by
   rw [List.getD_eq_getElem?_getD,List.getElem?_eq_getElem (by rw [Zca];exact ht)];simp [firstK]
  by_cases e:tb cs n k=p
  ·rw [if_pos e,hg,<-ZqZ cs n k hk];subst e;simp [firstK]
  ·rw [if_neg e];simp only [firstK,List.getElem_map,List.getElem_range];exact Znu cs n k p (fun h=>e h.symm)
theorem Zsi (cs:List Int) (n:Int) (k p:Nat):Within 0 20 (fRow cs n k p):=by
 intro z hz;unfold fRow at hz;obtain⟨i,_,rfl⟩:=List.mem_map.1 hz;split<;>omega
def rw_ (rows:List (List Int)) (p:Nat):List Int:=rows.getD p []
def pk (g:List Int) (rows:List (List Int)):Nat->Nat
 | 0=>0
 | k+1=>if costS g (rw_ rows k)<costS g (rw_ rows (pk g rows k)) then k else pk g rows k
def pickM (g:List Int) (rows:List (List Int)):Nat:=pk g rows rows.length
theorem ZlM (g:List Int) (rows:List (List Int)):∀k,pk g rows k<=k-1
 | 0=>Nat.le_refl _
 | k+1=>by
  have:=ZlM g rows k;rw [pk];split<;>omega
theorem ZmJ (g:List Int) {rows:List (List Int)} (h:1<=rows.length):pickM g rows<rows.length:=by
 have:=ZlM g rows rows.length;unfold pickM;omega
open Classical in
noncomputable def lensF (zs:List Int):List Int:=if h:∃rs,∃n,n<=40/\OfR n (ups zs) rs then h.choose else[]
theorem ZmK {zs rs:List Int} {n:Nat} (hn:n<=40) (h:OfR n (ups zs) rs):lensF zs=rs:=by
 have hx:∃rs,∃n,n<=40/\OfR n (ups zs) rs:=⟨rs,n,hn,h⟩
 unfold lensF;rw [dif_pos hx];obtain⟨m,_,hm⟩:=hx.choose_spec;exact(hm.same n rs h).1
theorem ZeF {zs:List Int} (h:OfOk zs):∃n,n<=40/\OfR n (ups zs) (lensF zs):=by
 obtain⟨n,rs,hn,ho⟩:=OfR.exists 40 (ups zs) (ZrN h.2.2) (by rw [Zcd];have:=h.1;omega) (by rw [Zcd];have:=h.2.1;omega);exact⟨n,hn,by rw [ZmK hn ho];exact ho⟩
theorem Zcl {zs:List Int} (h:OfOk zs):(lensF zs).length=zs.length/\Within 1 20 (lensF zs)/\shr (lensF zs)=1048576:=by
 obtain⟨n,hn,ho⟩:=ZeF h;have:=ho.whole (by rw [Zcd];have:=h.1;omega);rw [Zcd] at this;exact⟨this.1,this.2.1,this.2.2⟩
theorem OfP.fun {zs rs:List Int} {err:Nat} (hp:OfP zs rs err) (h:OfOk zs):rs=lensF zs/\err=0:=by
 rcases hp with⟨h1,_⟩|⟨_,⟨n,hn,ho⟩,e⟩
 ·exact absurd h h1
 ·exact⟨(ZmK hn ho).symm,e⟩
def took (zs:List Int) (rows:List (List Int)) (p:Nat):Nat->List Int
 | 0=>[]
 | q+1=>took zs rows p q++(if pickM (grp zs q) rows=p then grp zs q else[])
def picksM (zs:List Int) (rows:List (List Int)) (q:Nat):List Int:=(List.range q).map fun i=>(pickM (grp zs i) rows:Int)
theorem ZdW (zs:List Int) (rows:List (List Int)) (q:Nat):picksM zs rows (q+1)=picksM zs rows q++[(pickM (grp zs q) rows:Int)]:=by simp [picksM,List.range_succ]
theorem ZaC (zs:List Int) (rows:List (List Int)) (q:Nat):(picksM zs rows q).length=q:=by simp [picksM]
theorem Zj4 (zs:List Int) (rows:List (List Int)) (p:Nat):∀q,(took zs rows p q).length<=50*q
 | 0=>Nat.le_refl _
 | q+1=>by
  have h1:=Zj4 zs rows p q;have h2:=Zc7 zs q;rw [took,List.length_append];split
  ·omega
  ·simp only [List.length_nil];omega
theorem ZbV (zs:List Int) (rows:List (List Int)) (p:Nat):∀q,(took zs rows p q).length<=zs.length-(zs.length-50*q)
 | 0=>Nat.zero_le _
 | q+1=>by
  have h1:=ZbV zs rows p q;have h2:=Zc7 zs q;rw [took,List.length_append];split
  ·omega
  ·simp only [List.length_nil];omega
theorem Zf8 {zs:List Int} {n:Int} (h:Syms zs n) (i:Nat):Syms (grp zs i) n:=fun x hx=>h x (List.mem_of_mem_drop (List.mem_of_mem_take hx))
noncomputable def roundM (zs:List Int) (N:Nat) (rows:List (List Int)):List (List Int):=(List.range rows.length).map fun p=>lensF (counts (took zs rows p (ng zs.length)) N)
theorem Za1 (zs:List Int) (N:Nat) (rows:List (List Int)):(roundM zs N rows).length=rows.length:=by simp [roundM]
def TabOk (N:Nat) (rows:List (List Int)):Prop:=2<=rows.length/\rows.length<=6/\∀r∈rows,r.length=N/\Within 0 20 r
theorem Zir {zs:List Int} {N:Nat} (h3:3<=N) (h258:N<=258) (hz:zs.length<=2000000):OfOk (counts zs N):=by
 refine⟨by rw [Zaq];exact h3,by rw [Zaq];exact h258,fun z hx=>?_⟩;have:=ZdV zs N z hx;omega
theorem Zo8 {zs:List Int} {N:Nat} {rows:List (List Int)} (h3:3<=N) (h258:N<=258) (hz:zs.length<=2000000) (h:TabOk N rows):TabOk N (roundM zs N rows):=by
 refine⟨by rw [Za1];exact h.1,by rw [Za1];exact h.2.1,fun r hr=>?_⟩;unfold roundM at hr;obtain⟨p,_,rfl⟩:=List.mem_map.1 hr;have h1:=Zcl (Zir (zs:=took zs rows p (ng zs.length)) h3 h258 (by have:=ZbV zs rows p (ng zs.length);omega));rw [Zaq] at h1;exact⟨h1.1,fun z hz=>by have:=h1.2.1 z hz;omega⟩
theorem Zo9 (cs:List Int) (n:Int):TabOk cs.length (firstM cs n):=by
 have h:=Zc8 n;refine⟨by rw [firstM,Zca];exact h.1,by rw [firstM,Zca];exact h.2,fun r hr=>?_⟩;unfold firstM firstK at hr;obtain⟨p,_,rfl⟩:=List.mem_map.1 hr;exact⟨ZdF _ _ _ _,Zsi _ _ _ _⟩
noncomputable def rnd (zs:List Int) (N:Nat):Nat->List (List Int)
 | 0=>firstM (counts zs N) (zs.length:Int)
 | i+1=>roundM zs N (rnd zs N i)
theorem Zjv {zs:List Int} {N:Nat} (h3:3<=N) (h258:N<=258) (hz:zs.length<=2000000):∀i,TabOk N (rnd zs N i)
 | 0=>by
  have:=Zo9 (counts zs N) (zs.length:Int);rw [Zaq] at this;exact this
 | i+1=>Zo8 h3 h258 hz (Zjv h3 h258 hz i)
theorem ZeQ (zs:List Int) (N:Nat):∀i,(rnd zs N i).length=nTab (zs.length:Int)
 | 0=>by rw [rnd,firstM,Zca]
 | i+1=>by rw [rnd,Za1,ZeQ zs N i]
theorem TabOk.at_ {N:Nat} {rows:List (List Int)} (h:TabOk N rows) {p:Nat} (hp:p<rows.length):(rw_ rows p).length=N/\Within 0 20 (rw_ rows p):=
 h.2.2 _ (by unfold rw_;rw [List.getD_eq_getElem?_getD,List.getElem?_eq_getElem hp];exact List.getElem_mem hp)
theorem Zg9 {g ls:List Int} {N:Nat} (hs:Syms g (N:Int)) (hl:ls.length=N) (hw:Within 0 20 ls):0<=costS g ls/\costS g ls<=20*(g.length:Int):=by
 induction g with
 | nil=>exact⟨Int.le_refl _,Int.le_refl _⟩
 | cons x t ih=>
  have h1:=ih (fun y hy=>hs y (List.mem_cons_of_mem _ hy));have h2:=hs x (List.mem_cons_self);have h3:=hw (ls.getD x.toNat 0) (FreqM.getD_mem ls x.toNat (by omega));have e:costS (x::t) ls=ls.getD x.toNat 0+costS t ls:=rfl;rw [e,List.length_cons];omega
end TabM
end
section
namespace CodM
open Go.RowKit BitM HufM CanM
def tb (rows:List (List Int)) (ps:List Nat) (n:Nat):List Int:=rows.getD (ps.getD (n / 50) 0) []
end CodM
end
section
namespace CodM
open Go.RowKit BitM HufM CanM
def Whs (N:Nat) (gs:List (List Int)):Prop:=∀g∈gs,g.length=N/\WholeP g
end CodM
end
section
namespace CodM
open Go.RowKit BitM HufM CanM FreqM
def symT (gs:List (List Int)) (ps:List Nat):Nat->List Int->List Bool
 | _,[]=>[]
 | n,z::t=>code (tb gs ps n) z.toNat++symT gs ps (n+1) t
theorem ZmL (gs:List (List Int)) (ps:List Nat):∀(a b:List Int) (n:Nat),symT gs ps n (a++b)=symT gs ps n a++symT gs ps (n+a.length) b
 | [],b,n=>rfl
 | z::t,b,n=>by
  show _++symT gs ps (n+1) (t++b)=(_++symT gs ps (n+1) t)++_;rw [ZmL gs ps t b (n+1),List.append_assoc,List.length_cons,show n+1+t.length=n+(t.length+1) by omega]
def symB (gs:List (List Int)) (ps:List Nat) (zs:List Int) (k:Nat):List Bool:=symT gs ps 0 (zs.take k)
theorem ZcS (gs:List (List Int)) (ps:List Nat) (zs:List Int) {k:Nat} (h:k<zs.length):symB gs ps zs (k+1)=symB gs ps zs k++code (tb gs ps k) (zs.getD k 0).toNat:=by
 unfold symB;rw [List.take_succ_eq_append_getElem h,ZmL,List.length_take,Nat.min_eq_left (by omega),Nat.zero_add,List.getD_eq_getElem?_getD,List.getElem?_eq_getElem h];show _++(code _ _++[])=_;rw [List.append_nil];rfl
def gsB (gs:List (List Int)):List Bool:=gs.flatMap DelM.allB
theorem Zsj (a b:List (List Int)):gsB (a++b)=gsB a++gsB b:=by simp [gsB]
theorem Zha (gs:List (List Int)) {k:Nat} (h:k<gs.length):gsB (gs.take (k+1))=gsB (gs.take k)++DelM.allB (gs.getD k []):=by
 rw [List.take_succ_eq_append_getElem h,Zsj,List.getD_eq_getElem?_getD,List.getElem?_eq_getElem h];simp [gsB]
def allC (gs:List (List Int)) (ps:List Nat) (zs:List Int):List Bool:=PkM.allB ps gs.length++gsB gs++symB gs ps zs zs.length
def Tbs (N:Nat) (gs:List (List Int)) (ps:List Nat) (m:Nat):Prop:=∀n,n<m->n / 50<ps.length/\(tb gs ps n).length=N/\WholeP (tb gs ps n)
theorem ZeR {gs:List (List Int)} {ps:List Nat} {N m:Nat} (hT:Tbs N gs ps m):∀(t:List Int) (n:Nat),Syms t (N:Int)->n+t.length<=m->t.length<=(symT gs ps n t).length/\(symT gs ps n t).length<=20*t.length
 | [],n,_,_=>⟨Nat.le_refl _,Nat.le_refl _⟩
 | z::t,n,hS,hm=>by
  rw [List.length_cons] at hm ⊢;obtain⟨hp,hN,hw⟩:=hT n (by omega);have h1:=hS z List.mem_cons_self;have h2:=Zht hw.1 (show z.toNat<(tb gs ps n).length by omega);have h3:=ZeR hT t (n+1) (fun x hx=>hS x (List.mem_cons_of_mem _ hx)) (by omega);show _<=(code _ _++_).length/\(code _ _++_).length<=_;rw [List.length_append,ZaL];omega
theorem ZfD {N:Nat} (h3:3<=N) (h258:N<=258):∀(gs:List (List Int)),Whs N gs->(gsB gs).length<=10100*gs.length
 | [],_=>Nat.le_refl _
 | g::t,h=>by
  obtain⟨hN,hw⟩:=h g List.mem_cons_self;have hM:DelM.May g:=⟨by omega,by omega,hw.1⟩
  have h1:=DelM.encK_le hM (Nat.le_refl _);have h2:=DelM.allB_length g;have e2:(gsB (g::t)).length=(DelM.allB g).length+(gsB t).length:=List.length_append;have:=ZfD h3 h258 t (fun x hx=>h x (List.mem_cons_of_mem _ hx));rw [e2,List.length_cons];omega
end CodM
end
section
namespace CodM
open Go.RowKit BitM HufM CanM
end CodM
end
section
namespace ZerM
open Go.RowKit
def rowC (m:Nat):List Int:=if _h:m=0 then[] else(if m % 2=1 then 0 else 1)::rowC ((m-1) / 2)
termination_by m
decreasing_by omega
theorem ZdX:rowC 0=[]:=by rw [rowC];rfl
theorem Zh2 (m:Nat) (h:0<m):rowC m=(if m % 2=1 then 0 else 1)::rowC ((m-1) / 2):=by
 rw [rowC,dif_neg (by omega)]
theorem Zhb (m:Nat) (h:m % 2=1):rowC m=0::rowC ((m-1) / 2):=by
 rw [Zh2 m (by omega),if_pos h]
theorem ZfE (m:Nat) (h0:0<m) (h:m % 2=0):rowC m=1::rowC ((m-1) / 2):=by
 rw [Zh2 m h0,if_neg (by omega)]
def val:List Int->Nat
 | []=>0
 | c::t=>1+c.toNat+2*val t
def Bin (l:List Int):Prop:=∀c∈l,c=0\/c=1
theorem Bin.nil:Bin []:=fun c h=>by cases h
theorem Zq0 (m:Nat):val (rowC m)=m:=by
 induction m using Nat.strongRecOn with
 | _ m ih=>
  by_cases h0:m=0
  ·subst h0;rw [ZdX];rfl
  ·rw [Zh2 m (by omega)];unfold val;rw [ih ((m-1) / 2) (by omega)];by_cases h1:m % 2=1
   ·rw [if_pos h1];simp;omega
   ·rw [if_neg h1];simp;omega
theorem bin_rowC (m:Nat):Bin (rowC m):=by
 induction m using Nat.strongRecOn with
 | _ m ih=>
  by_cases h0:m=0
  ·subst h0;rw [ZdX];exact Bin.nil
  ·rw [Zh2 m (by omega)];intro c hc;rcases List.mem_cons.1 hc with h|h
   ·rw [h];by_cases h1:m % 2=1
    ·rw [if_pos h1];exact Or.inl rfl
    ·rw [if_neg h1];exact Or.inr rfl
   ·exact ih _ (by omega) c h
theorem Zsl (a:List Int):a.length<=val a:=by
 induction a with
 | nil=>simp [val]
 | cons c t ih=>
  show t.length+1<=1+c.toNat+2*val t;omega
theorem Zbn (m:Nat):(rowC m).length<=m:=by
 have:=Zsl (rowC m);rw [Zq0] at this;exact this
def encS (s:List Int×Nat) (p:Int):List Int×Nat:=if p=0 then(s.1,s.2+1) else(s.1++rowC s.2++[p+1],0)
def encF (l:List Int):List Int×Nat:=l.foldl encS ([],0)
def enc (l:List Int) (n:Int):List Int:=(encF l).1++rowC (encF l).2++[n+1]
theorem ZfF (l:List Int) (k:Nat) (h:k<l.length):encF (l.take (k+1))=encS (encF (l.take k)) (l.getD k 0):=by
 unfold encF;rw [List.take_succ_eq_append_getElem h,List.foldl_append,List.getD_eq_getElem?_getD,List.getElem?_eq_getElem h];rfl
theorem ZmM:∀(l:List Int) (s:List Int×Nat),(l.foldl encS s).1.length+(l.foldl encS s).2<=s.1.length+s.2+l.length
 | [],s=>by simp
 | p::t,s=>by
  have ih:=ZmM t (encS s p);simp only [List.foldl_cons,List.length_cons]
  have:(encS s p).1.length+(encS s p).2<=s.1.length+s.2+1:=by
   unfold encS;by_cases h:p=0
   ·rw [if_pos h];simp;omega
   ·rw [if_neg h];have:=Zbn s.2;simp;omega
  omega
theorem Zhy (l:List Int):(encF l).1.length+(encF l).2<=l.length:=by
 have:=ZmM l ([],0);simpa [encF] using this
theorem enc_len (l:List Int) (n:Int):(enc l n).length<=l.length+1:=by
 have h1:=Zhy l;have h2:=Zbn (encF l).2;unfold enc;simp;omega
def EncOk (l:List Int) (n:Int):Prop:=1<=n/\n<=256/\∀p∈l,0<=p/\p<n
def EncP (l:List Int) (n:Int) (zs:List Int) (err:Nat):Prop:=(¬EncOk l n/\zs=[]/\err=1)\/(EncOk l n/\zs=enc l n/\err=0)
def encR (n:Int):Nat->List Int->List Int
 | z,[]=>rowC z++[n+1]
 | z,p::t=>if p=0 then encR n (z+1) t else rowC z++(p+1)::encR n 0 t
theorem ZmN (n:Int):∀(l:List Int) (s:List Int×Nat),(l.foldl encS s).1++rowC (l.foldl encS s).2++[n+1]=s.1++encR n s.2 l
 | [],s=>by simp [encR]
 | p::t,s=>by
  rw [List.foldl_cons,ZmN n t (encS s p)];unfold encS;by_cases h:p=0
  ·rw [if_pos h];show s.1++encR n (s.2+1) t=s.1++(if p=0 then _ else _);rw [if_pos h]
  ·rw [if_neg h];show s.1++rowC s.2++[p+1]++encR n 0 t=s.1++(if p=0 then _ else _);rw [if_neg h];simp
theorem enc_eq (l:List Int) (n:Int):enc l n=encR n 0 l:=by
 have:=ZmN n l ([],0);simpa [enc,encF] using this
end ZerM
end
section
open Go.RowKit BitM UsedM
def arr (S:Nat->Bool):Array Value:=((List.range 16).map fun i=>Value.int .u32 (fld S i:Int)).toArray
theorem ZeS (S:Nat->Bool):(arr S).size=16:=by simp [arr]
theorem Zj5 (S:Nat->Bool) (i:Nat) (h:i<16):(arr S)[i]?=some (.int .u32 (fld S i:Int)):=by
 simp [arr,h]
theorem ZkJ (S:Nat->Bool):(arr S).all (·.oneCell')=true:=by
 rw [Array.all_eq_true];intro i h;simp [arr,Value.oneCell']
theorem Zpd (cs:Array Value) (S:Nat->Bool) (hs:cs.size=16) (h:∀i,i<16->cs[i]?=some (.int .u32 (fld S i:Int))):cs=arr S:=by
 apply Array.ext_getElem?;intro i;by_cases hi:i<16
 ·rw [h i hi,Zj5 S i hi]
 ·rw [Array.getElem?_eq_none (by omega),Array.getElem?_eq_none (by rw [ZeS];omega)]
theorem Ztd:(#[.int .u32 0,.int .u32 0,.int .u32 0,.int .u32 0,.int .u32 0,.int .u32 0,.int .u32 0,.int .u32 0,.int .u32 0,.int .u32 0,.int .u32 0,.int .u32 0,.int .u32 0,.int .u32 0,.int .u32 0,.int .u32 0]:Array Value)=arr (fun _=>false):=Zpd _ _ rfl (fun i hi=>by
 rw [Zkv]
 have:∀i:Fin 16,(#[.int .u32 0,.int .u32 0,.int .u32 0,.int .u32 0,.int .u32 0,.int .u32 0,.int .u32 0,.int .u32 0,.int .u32 0,.int .u32 0,.int .u32 0,.int .u32 0,.int .u32 0,.int .u32 0,.int .u32 0,.int .u32 0]:Array Value)[i.val]?=some (.int .u32 ((0:Nat):Int)):=by
  intro i;rcases i with⟨i,h⟩
  iterate 16 (rcases i with _|i;· rfl)
  omega
 exact this ⟨i,hi⟩)
theorem ZmO (S:Nat->Bool):(Tryz.prog.info? 143).map (·.size)=some (arr S).size:=by rw [ZeS];kernel_rfl
theorem Zsm (S:Nat->Bool) (b:Nat) (hb:b<256) (X:Int) (hX:X=((fld S (b / 16) ||| 2^(15-b % 16):Nat):Int)):(arr S).setIfInBounds (b / 16) (.int .u32 X)=arr (put S b):=by
 subst hX;apply Zpd
 ·simp [ZeS]
 ·intro i hi;rw [Array.getElem?_setIfInBounds];by_cases e:b / 16=i
  ·subst e;rw [if_pos rfl,if_pos (by rw [ZeS];omega),ZhJ S (b / 16) (b % 16) (by omega),show 16*(b / 16)+b % 16=b by omega]
  ·rw [if_neg e,Zj5 S i hi,ZjZ S i b e]
theorem Zj6 (J:Int) (j Z:Nat) (w:World) (hJ:J=(j:Int)) (hj:j<=15) (hZ:2^(15-j)=Z):Calls Tryz.prog 133 #[.int .i64 J] w fun e w'=>e=.returned (.int .u32 (Z:Int))/\w=w':=by
 subst hJ;subst hZ;have e:(15:Int)-(j:Int)=((15-j:Nat):Int):=by omega
 go_enter Tryz.func133,Tryz.ntmps133;go_wp2_with fail;go_ret;have h15:2^(15-j)<=2^15:=Nat.pow_le_pow_right (by omega) (by omega);have e2:(2:Int)^(15-j)=((2^(15-j):Nat):Int):=by simp
 refine⟨?_,rfl⟩;show Ending.returned (Value.int IntKind.u32 (2^(15-j) % 4294967296))=_;rw [e2];generalize 2^(15-j)=Z at *;rw [Int.emod_eq_of_lt (by omega) (by omega)]
def Made (N:Nat) (S:Nat->Bool) (w wr:World):Prop:=
 Below N w wr/\wr.heap.size=N+2/\wr.heap[N]?=some (.cells (arr (fun _=>false)) 143 (0,0))/\wr.heap[N+1]?=some (.cells (arr S) 143 (0,0))
theorem Made.start (w:World):Made w.heap.size (fun _=>false) w ((w.alloc (.cells #[.int .u32 0,.int .u32 0,.int .u32 0,.int .u32 0,.int .u32 0,.int .u32 0,.int .u32 0,.int .u32 0,.int .u32 0,.int .u32 0,.int .u32 0,.int .u32 0,.int .u32 0,.int .u32 0,.int .u32 0,.int .u32 0] 143)).alloc (.cells #[.int .u32 0,.int .u32 0,.int .u32 0,.int .u32 0,.int .u32 0,.int .u32 0,.int .u32 0,.int .u32 0,.int .u32 0,.int .u32 0,.int .u32 0,.int .u32 0,.int .u32 0,.int .u32 0,.int .u32 0,.int .u32 0] 143)):=by
 rw [Ztd];exact⟨((Below.refl _ _).alloc (Nat.le_refl _) _).alloc (by simp) _,by simp,heap_alloc2_old _ _ _,heap_alloc2_new _ _ _⟩
theorem Made.drew {N:Nat} {S:Nat->Bool} {w wr:World} (h:Made N S w wr):Made N S w wr.drew:=⟨h.1.drew,h.2⟩
theorem Made.cell {N:Nat} {S:Nat->Bool} {w wr:World} (h:Made N S w wr) (i:Nat) (hi:i<16):wr.cell? ⟨N+1,i,none⟩=some (.int .u32 (fld S i:Int))/\wr.frozen? ⟨N+1,i,none⟩=false:=by
 obtain⟨_,_,_,h⟩:=h;refine⟨?_,frozen_of_row wr _ i _ _ h⟩;rw [cell_of_row wr _ i _ _ _ h,Zj5 S i hi]
theorem Made.step {N:Nat} {S:Nat->Bool} {w wr:World} (h:Made N S w wr) (b:Nat) (hb:b<256) (X:Int) (hX:X=((fld S (b / 16) ||| 2^(15-b % 16):Nat):Int)):Made N (put S b) w (wr.setCell ⟨N+1,b / 16,none⟩ (.int .u32 X)):=by
 obtain⟨h1,h2,h3,h4⟩:=h;refine⟨h1.setCell (by simp) _,by simpa [World.setCell] using h2,?_,?_⟩
 ·rw [heap_setCell_other wr _ N _ (by simp)];exact h3
 ·rw [<-Zsm S b hb X hX];exact heap_setCell_same wr _ (b / 16) _ _ _ h4
theorem ZmP (s:ByteArray) (w:World) (hs:s.size<=maxLen) :
  Calls Tryz.prog 93 #[.string s] w fun e w'=>e=.returned (.agg (arr (has s.data.toList)))/\Below w.heap.size w w':=by
 have H0:=zh (Made.start w);have hs2:s.size<=9223372036854775807:=by unfold maxLen at hs;omega
 go_enter Tryz.func93,Tryz.ntmps93;go_wp2_with fail
 go_loopw [4,7] (fun _ i wr=>∃k:Nat,k<=s.size/\i=.int .i64 k/\Made w.heap.size (has (s.data.toList.take k)) w wr) (fun _ i _=>s.size-(intOf i).toNat)
 case atStart=>exact⟨0,by omega,rfl,H0.out⟩
 case round=>
  obtain⟨k,hk,rfl,hM⟩:=hrel;by_cases hlt:k<s.size
  ·have hc:=s[k].toNat_lt;have hq:((s[k].toNat:Int)) / 16=((s[k].toNat / 16:Nat):Int):=by omega
   have hr:((s[k].toNat:Int)) % 16=((s[k].toNat % 16:Nat):Int):=by omega
   have hql:s[k].toNat / 16<16:=by omega
   obtain⟨c0,f0⟩:=hM.cell (s[k].toNat / 16) hql;have hZ:∃Z,2^(15-s[k].toNat % 16)=Z:=⟨_,rfl⟩
   obtain⟨Z,hZ⟩:=hZ
   have hZl:Z<=32768:=by
    have:2^(15-s[k].toNat % 16)<=2^15:=Nat.pow_le_pow_right (by omega) (by omega);omega
   have hor:bits BinOp.or IntKind.u32 (fld (has (s.data.toList.take k)) (s[k].toNat / 16):Int) (Z:Int)=((fld (has (s.data.toList.take k)) (s[k].toNat / 16) ||| 2^(15-s[k].toNat % 16):Nat):Int):=by
    rw [hZ];exact u32_or_nat _ _ (by have:=Zjh (has (s.data.toList.take k)) (s[k].toNat / 16);omega) (by omega)
   have HST:=zh (hM.step s[k].toNat (by omega) _ hor)
   have HH:Hid (has (s.data.toList.take (k+1))=put (has (s.data.toList.take k)) s[k].toNat):=zh (by
    rw [List.take_succ_eq_append_getElem (by simpa using hlt),Zg1];rfl)
   have HR:=zh (show s[k].toNat % 16<=15 by omega)
   have hrt:IntKind.i64.wrap ((s[k].toNat:Int).tmod 16)=((s[k].toNat % 16:Nat):Int):=by
    rw [Int.tmod_eq_emod_of_nonneg (by omega),hr];exact IntWalk.i64_in _ (by omega)
   have HZ:=zh hZ;clear hM hor H0 hZ;generalize fld (has (s.data.toList.take k)) (s[k].toNat / 16)=F at *;generalize has (s.data.toList.take k)=S at *;go_wp2_with fail;generalize s[k].toNat / 16=q at *;generalize s[k].toNat % 16=r at *;obtain⟨N,hN⟩:∃N,w.heap.size=N:=⟨_,rfl⟩
   rw [hN] at c0 f0 HST;simp only [hN];have hq0:(0:Int)<=(q:Int):=by omega
   have hq1:(q:Int)<16:=by omega
   have hq2:IntKind.u8.wrap (q:Int)=(q:Int):=IntWalk.u8_in _ (by omega);have hr2:IntKind.u8.wrap (r:Int)=(r:Int):=IntWalk.u8_in _ (by have:=HR.out;omega)
   go_region_with (first|(go_at_call 133;refine(Zj6 _ r Z _ (by omega) HR.out HZ.out).mono ?_;rintro e w' ⟨rfl,rfl⟩))
   all_goals
    subst hN;go_wp2_with fail;go_roundw
    case rel=>exact⟨k+1,by omega,by go_num,by rw [HH.out];exact HST.out.drew⟩
    case measure=>simp [intOf];omega
  ·obtain rfl:k=s.size:=by omega
   rw [List.take_of_length_le (by simp)] at hM;obtain⟨hb,hz,h0,hc⟩:=hM;generalize hA:arr (has s.data.toList)=A at *;have hi:(Tryz.prog.info? 143).map (·.size)=some A.size:=hA▸ZmO _;have ha:A.all (·.oneCell')=true:=hA▸ZkJ _;have h16:(arr (fun _=>false)).size=A.size:=by rw [<-hA,ZeS,ZeS]
   generalize arr (fun _=>false)=Z0 at *;go_wp2_with (first|(refine wpList_load_row rfl 143 _ rfl (w.heap.size+1) rfl 143 A (0,0) _ hc Tryz.underlying143 rfl hi ?_)|(refine wpList_store_row rfl 143 _ _ rfl w.heap.size A rfl rfl 143 Z0 h0 hi h16 ha ?_));refine bodyPost_ret (v:=.agg A) (results_cell_row rfl _ _ w.heap.size 143 A (0,0) _ rfl (setRow_heap wr _ Z0 A 143 _ h0) Tryz.underlying143 rfl hi) rfl ⟨by rw [hA],?_⟩;exact hb.trans ⟨rfl,rfl,rfl,by simp [World.setRow],fun j hj=>setRow_other wr _ j _ (by omega)⟩
theorem Zis (S:Nat->Bool) (k F:Nat) (hk:k<16) (hF:fld S k=F) (W:World):(Instr.index 143 (.agg (arr S)) (.int .i64 (k:Int))).run Tryz.prog W=.ok (.int .u32 (F:Int)) W:=by
 subst hF;have hu:=Tryz.underlying143;have hg:=Zj5 S k hk;simp [Instr.index,run_underlying hu,asIntOf,go_sem,hg];intro h;omega
theorem Zpe (S:Nat->Bool) (w:World) :
  Calls Tryz.prog 101 #[.agg (arr S)] w fun e w'=>e=.returned (.int .u32 (num (which S):Int))/\Below w.heap.size w w':=by
 have hix:=fun k (hk:k<16) F (hF:fld S k=F)=>Zis S k F hk hF
 have hi:=ZmO S;have hg:(w.alloc (.cells (arr S) 143)).heap[w.heap.size]?=some (.cells (arr S) 143 (0,0)):=heap_alloc_new _ _;have HX:=zh hix;generalize arr S=A at *;have h0:(0:Int)=(fld (upto S 0) 0:Int):=by rw [ZoH,Zkv];rfl
 have H0:=zh h0;clear h0 hix;go_enter Tryz.func101,Tryz.ntmps101;go_wp2_with (refine wpList_load_row rfl 143 _ rfl w.heap.size rfl 143 A (0,0) _ hg Tryz.underlying143 rfl hi ?_);clear hg hi
 go_loopw [3,7] (fun v i wr=>∃k:Nat,k<=16/\i=.int .i64 k/\v=.int .u32 (fld (upto S k) 0:Int)/\wr=w.alloc (.cells A 143)) (fun _ i _=>16-(intOf i).toNat)
 case atStart=>exact⟨0,by omega,rfl,iv H0.out,rfl⟩
 case round=>
  obtain⟨k,hk,rfl,rfl,rfl⟩:=hrel;by_cases hlt:k<16
  ·have hk2:(k:Int)<16:=by omega
   have hxk:=HX.out k hlt _ rfl;have HU:=zh (ZoI S k);by_cases hsome:Zbz S k=true
   ·have hne:((fld S k:Int) != 0)=true:=by
     rw [bne_iff_ne];intro e;rw [(Zg0 S k).1 (by omega)] at hsome;cases hsome
    have hor:bits BinOp.or IntKind.u32 (fld (upto S k) 0:Int) ((2^(15-k):Nat):Int)=(fld (upto S (k+1)) 0:Int):=by
     rw [u32_or_nat _ _ (by have:=Zjh (upto S k) 0;omega) (by have:2^(15-k)<=2^15:=Nat.pow_le_pow_right (by omega) (by omega);omega),ZhJ _ 0 k hlt,HU.out,if_pos hsome];simp
    have HOR:=zh hor;obtain⟨Z,hZ⟩:∃Z,2^(15-k)=Z:=⟨_,rfl⟩
    rw [hZ] at HOR;have HZ:=zh hZ;clear hor hZ hsome;generalize fld S k=F at *;generalize fld (upto S k) 0=V at *;go_wp2_with fail;refine(Zj6 _ k Z _ rfl (by omega) HZ.out).mono ?_;rintro e w' ⟨rfl,rfl⟩;go_wp2_with fail;go_roundw
    case rel=>exact⟨k+1,by omega,by go_num,iv HOR.out,by first|rfl|trivial⟩
    case measure=>simp [intOf];omega
   ·have hsf:Zbz S k=false:=by simpa using hsome
    have hz:(fld S k:Int)=0:=by rw [(Zg0 S k).2 hsf];rfl
    have HV:Hid ((fld (upto S (k+1)) 0:Int)=(fld (upto S k) 0:Int)):=zh (by rw [HU.out,hsf];rfl);rw [hz] at hxk;clear hz hsome hsf;generalize fld (upto S k) 0=V at *;go_wp2_with fail;go_roundw
    case rel=>exact⟨k+1,by omega,by go_num,iv HV.out.symm,by first|rfl|trivial⟩
    case measure=>simp [intOf];omega
  ·obtain rfl:k=16:=by omega
   have HF:=zh (ZqF S);generalize fld (upto S 16) 0=V at *;go_wp2_with fail;go_ret;rw [HF.out];exact⟨rfl,(Below.refl _ _).alloc (Nat.le_refl _) _⟩
theorem Zpf (F Z:Nat) (b:Bool) (hF:F<65536) (hZ:Z<=32768) (h0:0<Z) (h:F &&& Z=if b then Z else 0):(bits BinOp.and IntKind.u32 (F:Int) (Z:Int) != 0)=b:=by
 rw [u32_and_nat _ _ (by omega) (by omega),h];cases b
 ·rfl
 ·rw [bne_iff_ne];simp only [if_true];omega
theorem Znv (s:ByteArray):(!s.toList.isEmpty)=decide (s.size≠0):=by
 rw [<-decide_eq_emptyBytes s,<-decide_not];congr 1;rw [eq_iff_iff];constructor
 ·intro h e;exact h (ByteArray.ext (Array.eq_empty_of_size_eq_zero e))
 ·rintro h rfl;exact h rfl
theorem ZrP (s:ByteArray) (r:Bool) (w:World) (hs:s.size<=9223372036854775807) (hr:r=true↔IsSyms s.data.toList) :
  Calls Tryz.prog 100 #[.string s] w fun e w'=>e=.returned (.bool r)/\∃n,w'=w.drewN n:=by
 have hsz:s.data.toList.length=s.size:=rfl;have H:=zh hr;clear hr;go_enter Tryz.func100,Tryz.ntmps100;go_wp2_with fail
 go_loopw [3] (fun i wr=>∃k:Nat,1<=k/\k<=max 1 s.size/\i=.int .i64 k/\(∃n,wr=w.drewN n)/\∀(j:Nat) (x y:UInt8),j+1<k->s.data.toList[j]?=some x->s.data.toList[j+1]?=some y->x.toNat<y.toNat) (fun i _=>s.size-(intOf i).toNat)
 case atStart=>exact⟨1,by omega,by omega,rfl,⟨0,rfl⟩,fun j x y h=>by omega⟩
 case round=>
  obtain⟨k,hk1,hk2,rfl,⟨n,rfl⟩,hR⟩:=hrel;have HR:=zh hR;clear hR;obtain⟨j,hj⟩:∃j,j+1=k:=⟨k-1,by omega⟩
  by_cases hlt:k<s.size
  ·have hk3:(1:Int)<=(k:Int):=by omega
   have h1:(k:Int)-1=(j:Int):=by omega
   have h2:IntKind.i64.wrap (j:Int)=(j:Int):=IntWalk.i64_in _ (by omega);have hjl:j<s.size:=by omega
   have hx1:s.data.toList[j]?=some s[j]:=List.getElem?_eq_getElem (l:=s.data.toList) (by simpa using hjl);have hx2:s.data.toList[j+1]?=some s[k]:=by rw [hj];exact List.getElem?_eq_getElem (l:=s.data.toList) (by simpa using hlt)
   have HX1:=zh hx1;have HX2:=zh hx2;clear hx1 hx2;by_cases hge:s[k].toNat<=s[j].toNat
   ·have hr:r=false:=by
     rw [Bool.eq_false_iff];intro hr;have:=(H.out.1 hr).1 j _ _ HX1.out HX2.out;omega
    have hd:((s[k].toNat:Int)<=(s[j].toNat:Int)):=by omega
    subst hr;go_wp2_with fail
    go_quiet (fail)
    go_wp2_with fail;go_ret;exact⟨rfl,_,Zor _ _ _⟩
   ·have hd:decide ((s[k].toNat:Int)<=(s[j].toNat:Int))=false:=by simp only [decide_eq_false_iff_not];omega
    go_wp2_with fail
    go_quiet (fail)
    go_wp2_with fail;go_roundw
    case rel=>
     refine⟨k+1,by omega,by omega,by go_num,⟨_,rfl⟩,fun i x y hi hx hy=>?_⟩;by_cases e:i=j
     ·subst e;rw [HX1.out] at hx;rw [HX2.out] at hy;cases hx;cases hy;omega
     ·exact HR.out i x y (by omega) hx hy
    case measure=>simp [intOf];omega
  ·have hr:r=decide (s.size≠0):=by
    rw [Bool.eq_iff_iff,H.out];simp only [decide_eq_true_eq];constructor
    ·intro h e;exact h.2 (List.eq_nil_of_length_eq_zero (hsz.trans e))
    ·intro h;refine⟨fun i x y hx hy=>HR.out i x y ?_ hx hy,fun e=>h (by rw [<-hsz,e];rfl)⟩;have:=(List.getElem?_eq_some_iff.1 hy).1;omega
   have he:=Znv s;rw [<-hr] at he;have HE:=zh he;clear hr he;go_wp2_with fail;go_ret;exact⟨congrArg (fun b=>Ending.returned (Value.bool b)) HE.out,_,rfl⟩
theorem ZrQ (s:ByteArray) (w:World) (hs:s.size<=9223372036854775807) (h:IsSyms s.data.toList) :
  Calls Tryz.prog 100 #[.string s] w fun e w'=>e=.returned (.bool true)/\∃n,w'=w.drewN n:=ZrP s true w hs ⟨fun _=>h,fun _=>rfl⟩
theorem Ztt (s:ByteArray) (w:World) (hs:s.size<=9223372036854775807) (h:¬IsSyms s.data.toList) :
  Calls Tryz.prog 100 #[.string s] w fun e w'=>e=.returned (.bool false)/\∃n,w'=w.drewN n:=ZrP s false w hs ⟨fun e=>(by cases e),fun e=>absurd e h⟩
end
section
open Go.RowKit UsedM MtfM
theorem ZfG {P:Program} {ops:Array Oper} {rest:List Oper} {o:Oper} {a:Act} {w:World} {Q:Exit->Act->World->Prop} (hgd:o.guard=none) (d s:Operand) (t t':TypeId)
  (ho:o.op=.call { callee:=.builtin .copy,args:=#[d,s],argTypes:=#[t,t'] }) (v u:Value) (hd:a.eval d=v) (hs:a.eval s=u) {v':Value} {w':World}
  (hr:(Builtin.copy_ #[t,t'] o.type #[v,u]).run P w=.ok v' w') (h:wpList P ops Q rest (a.put o.dst v') w'):wpList P ops Q (o::rest) a w:=
 wpList_plain hgd fun K hK=>by
  unfold Oper.wp execOp;simp only [ho,resolve,invoke,builtin,Sem.run_bind,Sem.run_pure,Result.andThen_ok,List.map_toArray,List.map_cons,List.map_nil,hd,hs,hr];exact hK _ _ h
def z8:Value:=.int .u8 0
def lcells (l:List UInt8):Array Value:=(l.map u8v++List.replicate (256-l.length) z8++[Value.int .i64 (l.length:Int)]).toArray
theorem ZeT (l:List UInt8) (h:l.length<=256):(lcells l).size=257:=by
 simp [lcells];omega
theorem Znw (l:List UInt8) (i:Nat) (x:UInt8) (h:l[i]?=some x):(lcells l)[i]?=some (u8v x):=by
 have hi:=(List.getElem?_eq_some_iff.1 h).1;unfold lcells;rw [List.getElem?_toArray,List.append_assoc,List.getElem?_append_left (by simpa using hi),List.getElem?_map,h];rfl
theorem Znx (l:List UInt8) (h:l.length<=256):(lcells l)[256]?=some (.int .i64 (l.length:Int)):=by
 unfold lcells;rw [List.getElem?_toArray,List.getElem?_append_right (by simp;omega)];have:256-(l.map u8v++List.replicate (256-l.length) z8).length=0:=by simp;omega
 rw [this];rfl
def IsList (w:World) (b:Nat) (l:List UInt8):Prop:=l.length<=256/\w.heap[b]?=some (.cells (lcells l) 200 (0,0))
theorem IsList.lt {w:World} {b:Nat} {l:List UInt8} (h:IsList w b l):b<w.heap.size:=(Array.getElem?_eq_some_iff.1 h.2).1
theorem IsList.cells {w:World} {b:Nat} {l:List UInt8} (h:IsList w b l):w.cell? ⟨b,256,none⟩=some (.int .i64 (l.length:Int))/\∀i x,l[i]?=some x->w.cell? ⟨b,i,none⟩=some (.int .u8 (x.toNat:Int)):=
 ⟨by rw [cell_of_row _ _ _ _ _ _ h.2,Znx l h.1],fun i x hx=>by rw [cell_of_row _ _ _ _ _ _ h.2,Znw l i x hx];rfl⟩
theorem IsList.other {w w':World} {b:Nat} {l:List UInt8} {S:Nat->Prop} (h:IsList w b l) (ht:Touch S w w') (hS:¬S b):IsList w' b l:=⟨h.1,(ht.block b h.lt hS).trans h.2⟩
theorem IsList.below {w w':World} {b B:Nat} {l:List UInt8} (h:IsList w b l) (ht:Below B w w') (hB:b<B):IsList w' b l:=⟨h.1,(ht.block b hB).trans h.2⟩
theorem IsList.drewN {w:World} {b:Nat} {l:List UInt8} (h:IsList w b l) (n:Nat):IsList (w.drewN n) b l:=h
theorem ZkK (b:Nat) (l:List UInt8) (w:World) (h:IsList w b l):Calls Tryz.prog 137 #[.pointer (some ⟨b,0,none⟩)] w fun e w'=>e=.returned (.slice (some ⟨b,0,none⟩) l.length 256)/\∃n,w'=w.drewN n:=by
 have c0:=h.cells.1;have hl:=h.1;have hl2:(l.length:Int)<=256:=by omega
 have hl0:(0:Int)<=(l.length:Int):=by omega
 clear h;go_enter Tryz.func137,Tryz.ntmps137;go_wp2_with fail
 go_quiet (fail)
 go_wp2_with fail;go_ret;exact⟨rfl,_,rfl⟩
theorem ZkL (b cap:Nat) (l:List UInt8) (c:UInt8) (w:World) (h:∀i x,l[i]?=some x->w.cell? ⟨b,i,none⟩=some (.int .u8 (x.toNat:Int))) :
  Calls Tryz.prog 136 #[.slice (some ⟨b,0,none⟩) l.length cap,.int .u8 (c.toNat:Int)] w fun e w'=>e=.returned (.int .i64 (Lib.indexByte l c))/\w=w':=by
 have hb:Lib.bytesOf (l.map fun x=>(x.toNat:Int))=l:=by
  unfold Lib.bytesOf;rw [List.map_map]
  conv=>rhs;rw [<-List.map_id l]
  apply List.map_congr_left;intro x _;simp
 have hc:(c.toNat:Int).toNat.toUInt8=c:=by simp
 have hr:=Lib.run_indexByteSlice (P:=Tryz.prog) w b 0 l.length cap (l.map fun x=>(x.toNat:Int)) (by simp) (fun i hi=>by
  rw [Nat.zero_add,h i l[i] (List.getElem?_eq_getElem hi)];simp [hi]) (c.toNat:Int)
 rw [hb,hc] at hr
 have hcall:(callFunc 165 #[.slice (some ⟨b,0,none⟩) l.length cap,.int .u8 (c.toNat:Int)]).run Tryz.prog w=.ok (.value (.int .i64 (Lib.indexByte l c))) w:=by
  rw [run_callFunc_indexByte Tryz.func165 (by kernel_rfl) (by kernel_rfl) (by kernel_rfl) (by kernel_rfl),hr];rfl
 clear h hr hb hc;generalize Lib.indexByte l c=I at *;go_enter Tryz.func136,Tryz.ntmps136;go_wp2_with fail;go_ret;exact⟨rfl,rfl⟩
theorem ZlN (l:List UInt8) (i:Nat) (x:UInt8) (hl:l.length<=256) (hx:l[i]?=some x) :
  ((lcells l).toList.take 1++(l.take i).map u8v++(lcells l).toList.drop (1+i)).toArray.setIfInBounds 0 (u8v x)=lcells (touch l i):=by
 obtain⟨hi,he⟩:=List.getElem?_eq_some_iff.1 hx;have ht:=Zfy l i hi;rw [Zjj l i hi,he] at *;have hlist:(lcells l).toList=l.map u8v++List.replicate (256-l.length) z8++[Value.int .i64 (l.length:Int)]:=rfl;obtain⟨y,r,rfl⟩:∃y r,l=y::r:=List.exists_cons_of_ne_nil (by rintro rfl;simp at hi);apply Array.toList_inj.1;rw [Array.toList_setIfInBounds,hlist];unfold lcells;rw [ht];have e1:((y::r).map u8v++List.replicate (256-(y::r).length) z8++[Value.int .i64 ((y::r).length:Int)]).take 1=[u8v y]:=rfl;rw [e1,List.append_assoc,List.append_assoc,List.drop_append_of_le_length (by simp at hi ⊢;omega),<-List.map_drop,Nat.add_comm 1 i];simp
theorem Zny (w:World) (b i ty:Nat) (l:List UInt8) (h:IsList w b l) (hi:i<l.length) :
  (Builtin.copy_ #[73,73] ty #[.slice (some ⟨b,1,none⟩) 255 255,.slice (some ⟨b,0,none⟩) i 256]).run Tryz.prog w=.ok (goInt i) (w.setRow b ((lcells l).toList.take 1++(l.take i).map u8v++(lcells l).toList.drop (1+i)).toArray):=by
 have hlen:((l.take i).map u8v).length=i:=by rw [List.length_map,List.length_take];omega
 have hm:Nat.min i 255=i:=Nat.min_eq_left (by have:=h.1;omega)
 have:=run_copy_row (P:=Tryz.prog) w 73 73 ty 5 b 1 255 255 ⟨b,0,none⟩ i 256 (lcells l) 200 ((l.take i).map u8v) Tryz.underlying73 (by kernel_rfl) h.2 (by rw [hlen,hm]) (fun j v hj=>by
  rw [List.getElem?_map] at hj;obtain⟨x,hx,rfl⟩:=Option.map_eq_some_iff.1 hj;rw [Addr.add_lit,Nat.zero_add];rw [List.getElem?_take] at hx;split at hx
  ·exact h.cells.2 j x hx
  ·cases hx) (by rw [hlen,ZeT l h.1];have:=h.1;omega) (fun v hv=>by
  obtain⟨x,_,rfl⟩:=List.mem_map.1 hv;rfl)
 rw [hlen] at this;exact this
theorem Zpg (b i:Nat) (x:UInt8) (l:List UInt8) (w:World) (h:IsList w b l) (hx:l[i]?=some x) :
  Calls Tryz.prog 138 #[.pointer (some ⟨b,0,none⟩),.int .i64 (i:Int)] w fun e w'=>e=.returned (.int .u8 (x.toNat:Int))/\IsList w' b (touch l i)/\Touch (·=b) w w':=by
 obtain⟨hi,he⟩:=List.getElem?_eq_some_iff.1 hx;have hl:=h.1;have c0:=h.cells.2 i x hx;have hi2:(i:Int)<256:=by omega
 have hi3:(i:Int)<=256:=by omega
 have hi0:(0:Int)<=(i:Int):=by omega
 have H:=zh h;have HT:=zh (ZlN l i x hl hx);have HL:=zh (Zfy l i hi);have hcp:=fun(n:Nat) (ty:Nat)=>Zny (w.drewN n) b i ty l (h.drewN n) hi
 have HCP:=zh hcp;generalize hR:((lcells l).toList.take 1++(l.take i).map u8v++(lcells l).toList.drop (1+i)).toArray=R at *;clear h hcp hR;go_enter Tryz.func138,Tryz.ntmps138;go_wp2_with fail
 go_still_tail 9,(by kernel_rfl)
 refine ZfG rfl _ _ 73 73 rfl _ _ rfl rfl (HCP.out 1 _) ?_;have hset:((w.drewN 1).setRow b R).heap[b]?=some (.cells R 200 (0,0)):=setRow_heap _ _ _ _ _ _ (H.out.drewN 1).2
 have hRs:R.size=257:=by
  have:=congrArg Array.size HT.out;rw [Array.size_setIfInBounds,ZeT _ (by rw [HL.out];exact hl)] at this;exact this
 have hT1:Touch (·=b) w ((w.drewN 1).setRow b R):=⟨rfl,rfl,rfl,by simp [World.setRow,World.drewN],fun j _ hj=>setRow_other (w.drewN 1) b j _ hj⟩
 generalize (w.drewN 1).setRow b R=W1 at *
 have d0:W1.cell? ⟨b,0,none⟩=some (R[0]'(by omega)):=by
  rw [cell_of_row _ _ _ _ _ _ hset,Array.getElem?_eq_getElem (by omega)]
 have d1:=frozen_of_row W1 b 0 _ _ hset;have hst:=heap_setCell_same W1 b 0 _ _ (u8v x) hset;rw [HT.out] at hst;have HST:=zh hst;have HT1:=zh hT1;clear hset hst hT1 HCP;go_wp2_with fail;go_ret;refine⟨rfl,⟨by rw [HL.out];exact hl,HST.out⟩,HT1.out.setCell (Or.inl rfl) _⟩
theorem Zph (b:Nat) (c:UInt8) (l:List UInt8) (w:World) (h:IsList w b l) (hn:Lib.indexByte l c=-1) :
  Calls Tryz.prog 96 #[.pointer (some ⟨b,0,none⟩),.int .u8 (c.toNat:Int)] w fun e w'=>e=.returned (.tuple #[.int .i64 0,.int .i64 6])/\∃n,w'=w.drewN n:=by
 have H:=zh h;have HI:=zh (fun n=>ZkL b 256 l c (w.drewN n) (h.drewN n).cells.2);have HN:=zh hn;clear h hn;go_enter Tryz.func96,Tryz.ntmps96;go_wp2_with fail;refine(ZkK b l w H.out).mono ?_;rintro e w' ⟨rfl,n,rfl⟩;go_wp2_with fail;refine(HI.out n).mono ?_;rintro e w' ⟨rfl,rfl⟩;rw [HN.out];go_wp2_with fail;go_ret2;exact⟨rfl,n,rfl⟩
theorem Zpi (b o:Nat) (c:UInt8) (l:List UInt8) (w:World) (h:IsList w b l) (hn:Lib.indexByte l c=(o:Int)) (hx:l[o]?=some c) :
  Calls Tryz.prog 96 #[.pointer (some ⟨b,0,none⟩),.int .u8 (c.toNat:Int)] w fun e w'=>e=.returned (.tuple #[.int .i64 (o:Int),.int .i64 0])/\IsList w' b (touch l o)/\Touch (·=b) w w':=by
 have H:=zh h;have HI:=zh (fun n=>ZkL b 256 l c (w.drewN n) (h.drewN n).cells.2);have HN:=zh hn;have HX:=zh hx;clear h hn hx;go_enter Tryz.func96,Tryz.ntmps96;go_wp2_with fail;refine(ZkK b l w H.out).mono ?_;rintro e w' ⟨rfl,n,rfl⟩;go_wp2_with fail;refine(HI.out n).mono ?_;rintro e w' ⟨rfl,rfl⟩;rw [HN.out];go_wp2_with fail;refine(Zpg b o c l _ (H.out.drewN n) HX.out).mono ?_;rintro e w' ⟨rfl,h1,h2⟩;have H1:=zh h1;have H2:=zh h2;clear h1 h2;go_wp2_with fail;go_ret2;exact⟨rfl,H1.out,⟨H2.out.os,H2.out.tape,H2.out.output,H2.out.size,H2.out.block⟩⟩
theorem Zsn:Tryz.prog.built 200 []=some (lcells []):=by kernel_rfl
theorem Zso {α:Type} (N n:Nat) (l:List α) (z v0 v:α) (hl:l.length=n) (h:n<=N):(l++(List.replicate N z++[v0]).drop n).set N v=l++List.replicate (N-n) z++[v]:=by
 subst hl;rw [List.drop_append_of_le_length (by rw [List.length_replicate];exact h),List.drop_replicate,<-List.append_assoc,List.set_append_right _ _ (by rw [List.length_append,List.length_replicate];omega)];have:N-(l++List.replicate (N-l.length) z).length=0:=by rw [List.length_append,List.length_replicate];omega
 rw [this];rfl
theorem Zpj (s:ByteArray) (h:s.size<=256) :
  ((lcells []).toList.take 0++Lib.byteCells s.data.toList++(lcells []).toList.drop (0+s.size)).toArray.setIfInBounds 256 (.int .i64 (s.size:Int))=lcells s.data.toList:=by
 have hz:(lcells []).toList=List.replicate 256 z8++[Value.int .i64 0]:=rfl;have hl:s.data.toList.length=s.size:=rfl;have hb:Lib.byteCells s.data.toList=s.data.toList.map u8v:=rfl;have hbl:(s.data.toList.map u8v).length=s.size:=by rw [List.length_map];exact hl
 have he:=Zso 256 s.size (s.data.toList.map u8v) z8 (Value.int .i64 0) (.int .i64 (s.size:Int)) hbl h;apply Array.toList_inj.1;rw [Array.toList_setIfInBounds,hz,hb,Nat.zero_add,List.take_zero,List.nil_append];unfold lcells;rw [hl];exact he
theorem Zq1 (s:ByteArray) (w:World) (hs:s.size<=9223372036854775807) (h:¬IsSyms s.data.toList) :
  Calls Tryz.prog 95 #[.string s] w fun e w'=>e=.returned (.tuple #[.pointer none,.int .i64 1])/\∃n,w'=w.drewN n:=by
 go_enter Tryz.func95,Tryz.ntmps95;go_wp2_with fail;refine(Ztt s w hs h).mono ?_;rintro e w' ⟨rfl,n,rfl⟩;go_wp2_with fail;go_ret2;exact⟨rfl,n,rfl⟩
theorem Zpk (s:ByteArray) (w:World) (hs:s.size<=256) (h:IsSyms s.data.toList) :
  Calls Tryz.prog 95 #[.string s] w fun e w'=>e=.returned (.tuple #[.pointer (some ⟨w.heap.size,0,none⟩),.int .i64 0])/\IsList w' w.heap.size s.data.toList/\Below w.heap.size w w':=by
 have HC:=zh (Zpj s hs);have hb:=Zsn;have hZs:=ZeT [] (by simp);generalize lcells []=Z at *;have hcp:=fun(W:World) (ty:Nat) (hg:W.heap[w.heap.size]?=some (.cells Z 200 (0,0)))=>Lib.run_copy_row_string (P:=Tryz.prog) W 73 9 ty 5 w.heap.size 0 256 256 s Z 200 Tryz.underlying73 (by kernel_rfl) hg hs (by rw [hZs];omega)
 generalize hR:(Z.toList.take 0++Lib.byteCells s.data.toList++Z.toList.drop (0+s.size)).toArray=R at *
 have hRs:R.size=257:=by
  have:=congrArg Array.size HC.out;rw [Array.size_setIfInBounds,ZeT _ (by exact hs)] at this;exact this
 have HCP:=zh hcp;have HY:=zh h;clear hcp hR h;go_enter Tryz.func95,Tryz.ntmps95;go_wp2_with fail;refine(ZrQ s w (by omega) HY.out).mono ?_;rintro e w' ⟨rfl,n,rfl⟩;have hg:((w.drewN n).alloc (.cells Z 200)).heap[w.heap.size]?=some (.cells Z 200 (0,0)):=heap_alloc_new (w.drewN n) _;have hset:=setRow_heap _ _ _ R _ _ hg;have hbel:Below w.heap.size w (((w.drewN n).alloc (.cells Z 200)).setRow w.heap.size R):=Zal (((Below.refl w.heap.size w).trans (Zas w n)).alloc (by exact Nat.le_refl _) _) (Nat.le_refl _) R;have hcp1:=fun ty=>HCP.out ((w.drewN n).alloc (.cells Z 200)) ty hg
 have HCP1:=zh hcp1;generalize hW1:((w.drewN n).alloc (.cells Z 200)).setRow w.heap.size R=W1 at *
 have d0:W1.cell? ⟨w.heap.size,256,none⟩=some (R[256]'(by omega)):=by
  rw [cell_of_row _ _ _ _ _ _ hset,Array.getElem?_eq_getElem (by omega)]
 have d1:=frozen_of_row W1 w.heap.size 256 _ _ hset;have hst:=heap_setCell_same W1 w.heap.size 256 _ _ (.int .i64 (s.size:Int)) hset;rw [HC.out] at hst;have HST:=zh hst;have HB:=zh hbel;clear hg hset hbel hcp1 hst;go_wp2_with (first|(refine Zig rfl 200 rfl Z hb ?_)|(refine ZfG rfl _ _ 73 9 rfl _ _ rfl rfl (HCP1.out _) ?_));go_ret2;exact⟨rfl,⟨hs,HST.out⟩,HB.out.setCell (Nat.le_refl _) _⟩
def mtencK (l:List UInt8) (s:List UInt8):Nat->Option (List Int×List UInt8)
 | 0=>some ([],l)
 | k+1=>match mtencK l s k with
  | none=>none
  | some (zs,m)=>if Lib.indexByte m (s.getD k 0)<0 then none else some (zs++[Lib.indexByte m (s.getD k 0)],touch m (Lib.indexByte m (s.getD k 0)).toNat)
theorem ZtL (l s:List UInt8) (k:Nat):mtencK l s (k+1)=match mtencK l s k with
  | none=>none
  | some (zs,m)=>if Lib.indexByte m (s.getD k 0)<0 then none else some (zs++[Lib.indexByte m (s.getD k 0)],touch m (Lib.indexByte m (s.getD k 0)).toNat):=rfl
theorem ZtN (l s:List UInt8):∀(d k:Nat),mtencK l s k=none->mtencK l s (k+d)=none
 | 0,k,h=>h
 | d+1,k,h=>by rw [<-Nat.add_assoc,ZtL,ZtN l s d k h]
theorem ZtM (l s:List UInt8):∀(k:Nat) zs m,mtencK l s k=some (zs,m)->zs.length=k/\m.length=l.length
 | 0,zs,m,h=>by cases h;exact⟨rfl,rfl⟩
 | k+1,zs,m,h=>by
  rw [ZtL] at h;split at h
  ·cases h
  ·rename_i ys o ho;have ih:=ZtM l s k ys o ho;split at h
   ·cases h
   ·rename_i hlt;cases h;rcases ZbU o (s.getD k 0) with h1|⟨p,h1,h2,_⟩
    ·rw [h1] at hlt;omega
    ·rw [h1,Zfy o _ (by simpa using h2)];simp [ih.1,ih.2]
def mtEncP (s l:List UInt8) (zs:List Int) (err:Nat):Prop:=
 (¬IsSyms l/\zs=[]/\err=1)\/(IsSyms l/\mtencK l s s.length=none/\zs=[]/\err=6)\/(IsSyms l/\(∃m,mtencK l s s.length=some (zs,m))/\err=0)
theorem Znz (s t:ByteArray) (w:World) (hs:s.size<=300) (ht:t.size<=9223372036854775807) :
  Calls Tryz.prog 63 #[.string s,.string t] w fun e w'=>∃(v:Value) (zs:List Int) (err:Nat),e=.returned (.tuple #[v,.int .i64 (err:Int)])/\IsInts w' v zs/\Below w.heap.size w w'/\mtEncP s.data.toList t.data.toList zs err:=by
 by_cases hy:IsSyms t.data.toList
 ·have htz:t.size<=256:=Zfx hy;have HNEW:=zh (fun w=>Zpk t w htz hy);have hlt:t.data.toList.length=t.size:=rfl;have hls:s.data.toList.length=s.size:=rfl;have HMK:=zh (fun W=>ZbS s.size (by omega) W);have hsi:(s.size:Int)<=300:=by omega
  go_enter Tryz.func63,Tryz.ntmps63;go_wp2_with fail;refine(HNEW.out w).mono ?_;rintro e w1 ⟨rfl,hL,hB⟩;have hmk:=HMK.out w1
  have hrow:(w1.alloc (.cells (madeCells #[Value.int .i64 0] s.size) 3)).heap[w1.heap.size]?=some (.cells (([]:List Int).map iv64++List.replicate (s.size-0) (iv64 0)).toArray 3 (0,0)):=by
   rw [<-Zmw];exact heap_alloc_new _ _
  have hL1:IsList (w1.alloc (.cells (madeCells #[Value.int .i64 0] s.size) 3)) w.heap.size t.data.toList:=hL.below ((Below.refl w1.heap.size w1).alloc (Nat.le_refl _) _) hL.lt;have hB1:Below w.heap.size w (w1.alloc (.cells (madeCells #[Value.int .i64 0] s.size) 3)):=hB.alloc hB.size _;have hlw:=hL.lt;generalize hg:w1.heap.size=g at *;have HL1:=zh hL1;have HB1:=zh hB1;have HR1:=zh hrow;generalize w1.alloc (.cells (madeCells #[Value.int .i64 0] s.size) 3)=w2 at *;clear hL hB hrow hL1 hB1;have hgw:w.heap.size<g:=hlw;go_wp2_with fail
  go_loopw [7,23] (fun e i wr=>∃(k:Nat) (zs:List Int) (m:List UInt8),k<=s.size/\i=.int .i64 k/\e=.int .i64 0/\mtencK t.data.toList s.data.toList k=some (zs,m)/\IsList wr w.heap.size m/\Below w.heap.size w wr/\wr.heap[g]?=some (.cells (zs.map iv64++List.replicate (s.size-k) (iv64 0)).toArray 3 (0,0))) (fun _ i _=>s.size-(intOf i).toNat)
  case atStart=>exact⟨0,[],_,by omega,rfl,rfl,rfl,HL1.out,HB1.out,HR1.out⟩
  case round=>
   clear HL1 HB1 HR1;obtain⟨k,zs,m,hk,rfl,rfl,he,hL,hB,hR⟩:=hrel;have HE:=zh he;have HL:=zh hL;have HB:=zh hB;have HR:=zh hR;clear he hL hB hR;by_cases hlk:k<s.size
   ·have hki:(k:Int)<(s.size:Int):=by omega
    have hgd:s.data.toList.getD k 0=s[k]:=by
     rw [List.getD_eq_getElem?_getD,List.getElem?_eq_getElem (by simpa using hlk)];rfl
    have hzl:=(ZtM _ _ _ _ _ HE.out).1;have hstep:=ZtL t.data.toList s.data.toList k;rw [HE.out,hgd] at hstep;have HST:=zh hstep;clear hstep hgd;have hxk:=s[k].toNat_lt
    have HCL:Hid (∀W:World,W.heap[g]?=some (.cells (zs.map iv64++List.replicate (s.size-k) (iv64 0)).toArray 3 (0,0))->W.cell? ⟨g,k,none⟩=some (.int .i64 0)/\W.frozen? ⟨g,k,none⟩=false /\
      ∀x:Int,(W.setCell ⟨g,k,none⟩ (.int .i64 x)).heap[g]?=some (.cells ((zs++[x]).map iv64++List.replicate (s.size-(k+1)) (iv64 0)).toArray 3 (0,0))):=zh (fun W hW=>by
     refine⟨?_,frozen_of_row _ _ _ _ _ hW,fun x=>?_⟩
     ·rw [cell_of_row _ _ _ _ _ _ hW,List.getElem?_toArray,List.getElem?_append_right (by simp [hzl])];have hkk:k-(zs.map iv64).length=0:=by rw [List.length_map,hzl];omega
      rw [hkk,List.getElem?_replicate,if_pos (by omega)];rfl
     ·rw [<-Zr3 s.size k zs x hlk hzl];exact heap_setCell_same _ _ k _ _ _ hW)
    rcases ZbU m s[k] with hp|⟨o,hp,ho,hx⟩
    ·have hnone:mtencK t.data.toList s.data.toList (k+1)=none:=by rw [HST.out];simp only [hp];rfl
     have hfin:mtencK t.data.toList s.data.toList s.size=none:=by
      have:=ZtN t.data.toList s.data.toList (s.size-(k+1)) (k+1) hnone
      rwa [show k+1+(s.size-(k+1))=s.size by omega] at this
     have HF:=zh hfin;have HP:=zh hp;clear hnone hfin hp hzl;go_wp2_with fail;refine(Zph w.heap.size s[k] m wr HL.out HP.out).mono ?_;rintro e w' ⟨rfl,n,rfl⟩;obtain⟨d0,d1,_⟩:=HCL.out (wr.drewN n) HR.out;go_wp2_with fail;go_ret2;exact⟨_,[],6,rfl,IsInts.nil _,(HB.out.trans ((Zas wr n).mono HB.out.size)).setCell (by show w.heap.size<=g;omega) _,Or.inr (Or.inl ⟨hy,HF.out,rfl,rfl⟩)⟩
    ·have hsome:mtencK t.data.toList s.data.toList (k+1)=some (zs++[(o:Int)],touch m o):=by
      rw [HST.out];simp only [hp];rw [if_neg (by omega)];rfl
     have HS:=zh hsome;have HP:=zh hp;have HX:=zh hx;clear hsome hp hx hzl;go_wp2_with fail;refine(Zpi w.heap.size o s[k] m wr HL.out HP.out HX.out).mono ?_;rintro e w3 ⟨rfl,h1,h2⟩;have hlg:g<wr.heap.size:=(Array.getElem?_eq_some_iff.1 HR.out).1;have hr3:w3.heap[g]?=some (.cells (zs.map iv64++List.replicate (s.size-k) (iv64 0)).toArray 3 (0,0)):=(h2.block g hlg (fun e=>by have e':g=w.heap.size:=e;omega)).trans HR.out;obtain⟨d0,d1,d2⟩:=HCL.out w3 hr3;have HL3:=zh (h1.other ((Touch.refl (·=g) w3).setCell (p:=⟨g,k,none⟩) (Or.inl rfl) (.int .i64 (o:Int))) (fun e=>by have e':w.heap.size=g:=e;omega));have HB3:=zh ((HB.out.trans (h2.below HB.out.size (fun i hi=>by have hi':i=w.heap.size:=hi;omega))).setCell (p:=⟨g,k,none⟩) (by show w.heap.size<=g;omega) (.int .i64 (o:Int)));have HD2:=zh (d2 (o:Int));clear h1 h2 hr3 d2;go_wp2_with fail;go_roundw
     case rel=>exact⟨k+1,_,_,by omega,by go_num,rfl,HS.out,HL3.out,HB3.out,HD2.out⟩
     case measure=>simp [intOf];omega
   ·obtain rfl:k=s.size:=by omega
    have hzl:=(ZtM _ _ _ _ _ HE.out).1;go_wp2_with fail;go_ret2;exact⟨_,zs,0,rfl,Zgw HR.out hzl.symm,HB.out,Or.inr (Or.inr ⟨hy,⟨m,HE.out⟩,rfl⟩)⟩
 ·have HNEW:=zh (fun w=>Zq1 t w ht hy);go_enter Tryz.func63,Tryz.ntmps63;go_wp2_with fail;refine(HNEW.out w).mono ?_;rintro e w' ⟨rfl,n,rfl⟩;go_wp2_with fail;go_ret2;exact⟨_,[],1,rfl,IsInts.nil _,Zas w n,Or.inl ⟨hy,rfl,rfl⟩⟩
end
end Go.Proofs.YtlfpbcadcfaboaaGreatDoor

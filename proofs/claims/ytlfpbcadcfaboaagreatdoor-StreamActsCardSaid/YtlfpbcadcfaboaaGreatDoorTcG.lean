import Derived.Test.YtlfpbcadcfaboaaGreatDoorTcD
import Derived.Test.YtlfpbcadcfaboaaGreatDoorTcE
import Derived.Test.YtlfpbcadcfaboaaGreatDoorTcF
import Derived.Laws.CopyRow
import Derived.Deep.Cut
import Derived.Shelf.Abstract
import Derived.Lib.SliceRun
import Derived.Deep.LoopGhost
set_option linter.unusedVariables false
set_option linter.unusedSimpArgs false
set_option maxHeartbeats 8000000
set_option maxRecDepth 100000
namespace Go.Proofs.YtlfpbcadcfaboaaGreatDoor
section
namespace HufM
open Go.RowKit SymM
def tr (wf:Row) (t:Nat):Tr:=((wf t).toNat,t)
def qA (wf D:Row) (n S:Nat):List Tr:=(List.range (n-S)).map fun i=>tr wf (D (S+i)).toNat
def qB (wf:Row) (K J:Nat):List Tr:=(List.range (K-J)).map fun i=>tr wf (J+i)
theorem Zgm {α:Type} (f:Nat->α) (m:Nat):(List.range (m+1)).map f=f 0::(List.range m).map (fun i=>f (i+1)):=by
 rw [List.range_succ_eq_map,List.map_cons,List.map_map];rfl
theorem Zo4 (wf D:Row) {n S:Nat} (h:S<n):qA wf D n S=tr wf (D S).toNat::qA wf D n (S+1):=by
 unfold qA;rw [show n-S=(n-(S+1))+1 by omega,Zgm];congr 1;apply List.map_congr_left;intro i _;rw [show S+(i+1)=S+1+i by omega]
theorem ZrM (wf D:Row) {n S:Nat} (h:n<=S):qA wf D n S=[]:=by
 unfold qA;rw [show n-S=0 by omega];rfl
theorem ZlI (wf:Row) {K J:Nat} (h:J<K):qB wf K J=tr wf J::qB wf K (J+1):=by
 unfold qB;rw [show K-J=(K-(J+1))+1 by omega,Zgm];congr 1;apply List.map_congr_left;intro i _;rw [show J+(i+1)=J+1+i by omega]
theorem Zo5 (wf:Row) {K J:Nat} (h:K<=J):qB wf K J=[]:=by
 unfold qB;rw [show K-J=0 by omega];rfl
theorem Zsd (wf:Row) {K J:Nat} (h:J<=K):qB wf (K+1) J=qB wf K J++[tr wf K]:=by
 unfold qB;rw [show K+1-J=(K-J)+1 by omega,List.range_succ,List.map_append,List.map_cons,List.map_nil,show J+(K-J)=K by omega]
def TookM (n:Nat) (D wf:Row) (S J K:Nat) (t:Int) (S1 J1:Nat):Prop:=
 (((J=K/\S<n)\/(S<n/\wf (D S).toNat<=wf J))/\t=D S/\S1=S+1/\J1=J) \/
 (¬J=K/\¬(S<n/\wf (D S).toNat<=wf J)/\t=(J:Int)/\S1=S/\J1=J+1)
theorem Zip {n:Nat} {D wf:Row} {S J K:Nat} {t:Int} {S1 J1:Nat} (hS:S<=n) (hJK:J<=K) (h0:J=K->S<n) (hD:∀k,k<n->0<=D k/\D k<(n:Int)) (hnJ:n<=J)
  (hpos:∀i,i<K->0<=wf i) (h:TookM n D wf S J K t S1 J1) :
  ∃t',t=((t':Nat):Int)/\t'<K/\pick (qA wf D n S) (qB wf K J)=some (tr wf t',qA wf D n S1,qB wf K J1)/\S1<=n/\J1<=K/\S<=S1/\J<=J1/\S1+J1=S+J+1 /\
   ((S1=S+1/\J1=J/\(D S).toNat=t'/\S<n)\/(S1=S/\J1=J+1/\t'=J/\J<K)):=by
 rcases h with⟨hc,rfl,hs,hj⟩|⟨h1,h2,rfl,hs,hj⟩
 ·obtain rfl:=hs.symm;obtain rfl:=hj.symm;have hSn:S<n:=by rcases hc with h|h;exact h.2;exact h.1
  have hd:=hD S hSn;refine⟨(D S).toNat,by omega,by omega,?_,hSn,hJK,by omega,by omega,by omega,Or.inl ⟨rfl,rfl,rfl,hSn⟩⟩;rw [Zo4 wf D hSn];by_cases e:J=K
  ·rw [Zo5 wf (by omega)];rfl
  ·rw [ZlI wf (show J<K by omega)];have hle:wf (D S).toNat<=wf J:=by rcases hc with h|h;exact absurd h.1 e;exact h.2
   have:=hpos (D S).toNat (by omega);simp only [pick];rw [if_pos (show(tr wf (D S).toNat).1<=(tr wf J).1 by unfold tr;simp only;omega)]
 ·obtain rfl:=hs.symm;obtain rfl:=hj.symm;refine⟨J,rfl,by omega,?_,hS,by omega,by omega,by omega,by omega,Or.inr ⟨rfl,rfl,rfl,by omega⟩⟩;rw [ZlI wf (show J<K by omega)];by_cases hSn:S<n
  ·rw [Zo4 wf D hSn];have hd:=hD S hSn;have p1:=hpos (D S).toNat (by omega);have p2:=hpos J (by omega);have h3:¬wf (D S).toNat<=wf J:=fun h=>h2 ⟨hSn,h⟩
   simp only [pick];rw [if_neg (show ¬(tr wf (D S).toNat).1<=(tr wf J).1 by unfold tr;simp only;omega)]
  ·rw [ZrM wf D (by omega)];rfl
structure JS (zs:List Int) (D wf ab:Row) (d:Nat->Nat) (S J K:Nat):Prop where
 run0:Run zs.length (ini zs) d
 rng:∀k,k<zs.length->0<=D k/\D k<(zs.length:Int)
 all:∀t,t<zs.length->∃i,i<zs.length/\D i=(t:Int)
 hS:S<=zs.length
 hJ:zs.length<=J
 hJK:J<=K
 hK:K+1<=2*zs.length
 cnt:2*K=zs.length+S+J
 pos:∀i,i<K->0<=wf i
 run:Run K (qA wf D zs.length S++qB wf K J) d
 two:Two zs.length K (qA wf D zs.length S) (qB wf K J)
 tot:sumN wt (qA wf D zs.length S++qB wf K J)=sumN wt (ini zs)
 doneA:∀i,i<S->∃u,ab (D i).toNat=((u:Nat):Int)/\(D i).toNat<u/\u<K/\d (D i).toNat=d u+1
 doneB:∀t,zs.length<=t->t<J->∃u,ab t=((u:Nat):Int)/\t<u/\u<K/\d t=d u+1
theorem ZqV {wf wf' D:Row} {n S:Nat} (hD:∀k,k<n->0<=D k/\D k<(n:Int)) (h:∀i,i<n->wf' i=wf i):qA wf' D n S=qA wf D n S:=by
 unfold qA;apply List.map_congr_left;intro i hi;have:=List.mem_range.1 hi;have hd:=hD (S+i) (by omega);unfold tr;rw [h _ (by omega)]
theorem ZqW {wf wf':Row} {K J:Nat} (h:∀i,i<K->wf' i=wf i):qB wf' K J=qB wf K J:=by
 unfold qB;apply List.map_congr_left;intro i hi;have:=List.mem_range.1 hi;unfold tr;rw [h _ (by omega)]
theorem JS.step {zs:List Int} {D wf ab:Row} {d:Nat->Nat} {S J K S1 J1 S2 J2:Nat} {a b:Int} (h:JS zs D wf ab d S J K) (hK:K+1<2*zs.length)
  (h1:TookM zs.length D wf S J K a S1 J1) (h2:TookM zs.length D wf S1 J1 K b S2 J2) :
  ∃x y:Nat,a=x/\b=y/\x<K/\y<K/\x≠y/\(wf x).toNat+(wf y).toNat<=sumN wt (ini zs) /\
   JS zs D (fun k=>if k=K then wf x+wf y else wf k) (fun k=>if k=y then(K:Int) else(fun k=>if k=x then(K:Int) else ab k) k) d S2 J2 (K+1):=by
 obtain⟨run0,rng,all,hS,hJ,hJK,hK1,cnt,pos,run,two,tot,doneA,doneB⟩:=h;obtain⟨x,ex,hxK,p1,q1,q2,q3,q4,q5,q6⟩:=Zip hS hJK (fun e=>by omega) rng hJ pos h1;obtain⟨y,ey,hyK,p2,r1,r2,r3,r4,r5,r6⟩:=Zip q1 q2 (fun e=>by omega) rng (by omega) pos h2;obtain⟨t2,hp,hxy,hr⟩:=Two.join two (by omega) p1 p2;obtain⟨run',dx,dy⟩:=run.next hp hxy hr;have hne:x≠y:=fun e=>by subst e;unfold lt tr at hxy;simp only at hxy;omega
 have hsum:sumN wt (qA wf D zs.length S++qB wf K J)=(wf x).toNat+((wf y).toNat+sumN wt (qA wf D zs.length S2++qB wf K J2)):=by
  rw [Zcf wt hp];rfl
 have px:=pos x hxK;have py:=pos y hyK;have ew:(wf x+wf y).toNat=(wf x).toNat+(wf y).toNat:=by omega
 have eA:qA (fun k=>if k=K then wf x+wf y else wf k) D zs.length S2=qA wf D zs.length S2:=ZqV rng (fun i hi=>if_neg (by omega))
 have eB:qB (fun k=>if k=K then wf x+wf y else wf k) (K+1) J2=qB wf K J2++[((wf x).toNat+(wf y).toNat,K)]:=by
  rw [Zsd _ r2,ZqW (wf:=wf) (fun i hi=>if_neg (by omega))];unfold tr;simp only [if_true];rw [ew]
 have hdx:d x=d K+1:=dx;have hdy:d y=d K+1:=dy;refine⟨x,y,ex,ey,hxK,hyK,hne,by omega,⟨run0,rng,all,r1,by omega,by omega,by omega,by omega,fun i hi=>?_,?_,?_,?_,fun i hi=>?_,fun t ht1 ht2=>?_⟩⟩
 ·show(0:Int)<=if i=K then wf x+wf y else wf i
  split
  ·omega
  ·exact pos i (by omega)
 ·rw [eA,eB,<-List.append_assoc];exact run'.perm (List.perm_append_singleton _ _).symm
 ·rw [eA,eB];exact t2
 ·rw [eA,eB,<-List.append_assoc,Za6,<-tot,hsum];simp only [sumN,wt];omega
 ·have hd:=rng i (by omega);by_cases e1:(D i).toNat=y
  ·exact⟨K,by simp only [e1,if_true],by omega,by omega,by rw [e1];exact hdy⟩
  ·by_cases e2:(D i).toNat=x
   ·exact⟨K,by simp only [e2,if_true];split<;>rfl,by omega,by omega,by rw [e2];exact hdx⟩
   ·have hi2:i<S:=by
     rcases Nat.lt_or_ge i S with g|g
     ·exact g
     ·exfalso
      rcases q6 with⟨a1,a2,a3,a4⟩|⟨a1,a2,a3,a4⟩
      ·rcases r6 with⟨b1,b2,b3,b4⟩|⟨b1,b2,b3,b4⟩
       ·rcases Nat.lt_or_ge i (S+1) with g2|g2
        ·have:i=S:=by omega
         subst this;exact e2 a3
        ·have:i=S1:=by omega
         subst this;exact e1 b3
       ·have:i=S:=by omega
        subst this;exact e2 a3
      ·rcases r6 with⟨b1,b2,b3,b4⟩|⟨b1,b2,b3,b4⟩
       ·have:i=S1:=by omega
        subst this;exact e1 b3
       ·omega
    obtain⟨u,u1,u2,u3,u4⟩:=doneA i hi2;exact⟨u,by simp only [e1,e2,if_false];exact u1,u2,by omega,u4⟩
 ·by_cases e1:t=y
  ·subst e1;exact⟨K,by simp only [if_true],by omega,by omega,hdy⟩
  ·by_cases e2:t=x
   ·subst e2;exact⟨K,by simp only [if_true];split<;>rfl,by omega,by omega,hdx⟩
   ·have ht3:t<J:=by
     rcases Nat.lt_or_ge t J with g|g
     ·exact g
     ·exfalso
      rcases q6 with⟨a1,a2,a3,a4⟩|⟨a1,a2,a3,a4⟩
      ·rcases r6 with⟨b1,b2,b3,b4⟩|⟨b1,b2,b3,b4⟩<;>omega
      ·rcases r6 with⟨b1,b2,b3,b4⟩|⟨b1,b2,b3,b4⟩<;>omega
    obtain⟨u,u1,u2,u3,u4⟩:=doneB t ht1 ht3;exact⟨u,by simp only [e1,e2,if_false];exact u1,u2,by omega,u4⟩
def JoinP (zs:List Int) (ab:Row):Prop:=∃d,Run zs.length (ini zs) d/\d (2*zs.length-2)=0/\∀t,t<2*zs.length-2->∃u:Nat,ab t=(u:Int)/\t<u/\u<=2*zs.length-2/\d t=d u+1
theorem JS.end_ {zs:List Int} {D wf ab:Row} {d:Nat->Nat} {S J K:Nat} (h:JS zs D wf ab d S J K) (hn2:2<=zs.length) (hK:2*zs.length<=K+1):JoinP zs ab:=by
 obtain⟨run0,rng,all,hS,hJ,hJK,hK1,cnt,pos,run,two,tot,doneA,doneB⟩:=h
 have hJ2:J<K:=by
  rcases Nat.lt_or_ge J K with g|g
  ·exact g
  ·exfalso
   rcases Nat.lt_or_ge (2*zs.length-2) zs.length with g2|g2
   ·omega
   ·obtain⟨u,u1,u2,u3,u4⟩:=doneB (2*zs.length-2) g2 (by omega);omega
 have hS2:S=zs.length:=by omega
 have e:qA wf D zs.length S++qB wf K J=[tr wf J]:=by
  rw [ZrM wf D (by omega),ZlI wf hJ2,Zo5 wf (by omega)];rfl
 rw [e] at run;have h0:=run.end_;refine⟨d,run0,?_,fun t ht=>?_⟩
 ·have:2*zs.length-2=J:=by omega
  rw [this];exact h0
 ·by_cases htn:t<zs.length
  ·obtain⟨i,hi,hd⟩:=all t htn;obtain⟨u,u1,u2,u3,u4⟩:=doneA i (by omega);rw [hd,Int.toNat_natCast] at u1 u2 u4;exact⟨u,u1,u2,by omega,u4⟩
  ·obtain⟨u,u1,u2,u3,u4⟩:=doneB t (by omega) (by omega);exact⟨u,u1,u2,by omega,u4⟩
theorem JS.start {zs:List Int} {D wf ab:Row} (h2:2<=zs.length) (hz:∀z∈zs,0<=z) (hB:Blk (wtOf zs) D 0 zs.length) (hwf:∀i,i<zs.length->wf i=zs.getD i 0) :
  ∃d,JS zs D wf ab d 0 zs.length zs.length:=by
 obtain⟨d,hd⟩:=Run.exists (zs.length-1) zs.length (ini zs) (by rw [ZbN];omega) (ZdB zs) (fun t ht=>(ZbO ht).1);have rng:∀k,k<zs.length->0<=D k/\D k<(zs.length:Int):=fun k hk=>by have:=hB.mem (Nat.zero_le k) hk;omega
 have hpos:∀i,i<zs.length->0<=wf i:=fun i hi=>by
  rw [hwf i hi,List.getD_eq_getElem?_getD,List.getElem?_eq_getElem hi];exact hz _ (List.getElem_mem hi)
 have eA:qA wf D zs.length 0=(seg D 0 zs.length).map (fun x=>((zs.getD x.toNat 0).toNat,x.toNat)):=by
  unfold qA seg;rw [List.map_map,Nat.sub_zero];apply List.map_congr_left;intro i hi;have hi:=List.mem_range.1 hi;have:=rng (0+i) (by omega);unfold tr;rw [hwf _ (by omega)];rfl
 have eI:ini zs=(seg (fun k=>(k:Int)) 0 zs.length).map (fun x=>((zs.getD x.toNat 0).toNat,x.toNat)):=by
  unfold ini seg;rw [List.map_map];apply List.map_congr_left;intro i _;simp
 have hperm:(qA wf D zs.length 0).Perm (ini zs):=by
  rw [eA,eI];have:=hB.perm;rw [Nat.sub_zero] at this;exact this.map _
 have hsrt:(qA wf D zs.length 0).Pairwise lt:=by
  unfold qA;rw [List.pairwise_map];refine List.pairwise_lt_range.imp_of_mem (fun {i j} hi hj hij=>?_);have hi:=List.mem_range.1 hi;have hj:=List.mem_range.1 hj;have h3:=hB.srt (0+i) (0+j) (by omega) (by omega) (by omega);have r1:=rng (0+i) (by omega);have r2:=rng (0+j) (by omega);have e1:=hwf (D (0+i)).toNat (by omega);have e2:=hwf (D (0+j)).toNat (by omega);have p1:=hpos (D (0+i)).toNat (by omega);have p2:=hpos (D (0+j)).toNat (by omega);unfold L wtOf at h3;unfold lt tr;simp only;omega
 have eB:qB wf zs.length zs.length=[]:=Zo5 wf (Nat.le_refl _);refine⟨d,⟨hd,rng,fun t ht=>?_,Nat.zero_le _,Nat.le_refl _,Nat.le_refl _,by omega,by omega,hpos,?_,?_,?_,fun i hi=>by omega,fun t h1 h2=>by omega⟩⟩
 ·have h3:(t:Int)∈seg D 0 (zs.length-0):=hB.perm.mem_iff.2 (Zhv.2 ⟨t,Nat.zero_le _,by omega,rfl⟩);obtain⟨k,h4,h5,h6⟩:=Zhv.1 h3;exact⟨k,by omega,h6⟩
 ·rw [eB,List.append_nil];exact hd.perm hperm.symm
 ·rw [eB];exact Two.start hsrt (fun t ht=>(ZbO (hperm.mem_iff.1 ht)).1)
 ·rw [eB,List.append_nil];exact Zcf wt hperm
theorem JoinP.dep {zs:List Int} {ab:Row} (h:JoinP zs ab):∃d:Nat->Nat,DepP zs ((List.range zs.length).map fun i=>(d i:Int))/\d (2*zs.length-2)=0/\(∀t,t<=2*zs.length-2->d t<=2*zs.length) /\
  ∀t,t<2*zs.length-2->∃u:Nat,ab t=(u:Int)/\t<u/\u<=2*zs.length-2/\d t=d u+1:=by
 obtain⟨d,h1,h2,h3⟩:=h;refine⟨d,⟨d,h1,rfl⟩,h2,?_,h3⟩
 have key:∀e t,t+e=2*zs.length-2->d t<=e:=by
  intro e
  induction e using Nat.strongRecOn with
  | _ e ih=>
   intro t ht;by_cases e0:e=0
   ·subst e0;have:t=2*zs.length-2:=by omega
    subst this;omega
   ·obtain⟨u,u1,u2,u3,u4⟩:=h3 t (by omega);have:=ih (2*zs.length-2-u) (by omega) u (by omega);omega
 intro t ht;have:=key (2*zs.length-2-t) t (by omega);omega
end HufM
end
section
open Go.RowKit SymM HufM
theorem Took.math {p:At} {n:Nat} {D wf ab:Row} {S J K:Nat} {w w':World} {t:Int} (h:Took p n D wf ab S J K w w' t) :
  ∃S1 J1,TookM n D wf S J K t S1 J1/\Queue p n D wf ab S1 J1 K w'/\Touch (fun k=>k=p.sb\/k=p.jb) w w':=by
 rcases h with⟨h1,h2,h3,h4⟩|⟨h1,h2,h3,h4,h5⟩
 ·exact⟨S+1,J,Or.inl ⟨h1,h2,rfl,rfl⟩,h3,h4.mono (fun i hi=>Or.inl hi)⟩
 ·exact⟨S,J+1,Or.inr ⟨h1,h2,h3,rfl,rfl⟩,h4,h5.mono (fun i hi=>Or.inr hi)⟩
theorem Ziq {P:Program} {ops:Array Oper} {rest:List Oper} {o:Oper} {a:Act} {w:World} {Q:Exit->Act->World->Prop} (hgd:o.guard=none) (d s:Operand) (t t':TypeId)
  (ho:o.op=.call { callee:=.builtin .copy,args:=#[d,s],argTypes:=#[t,t'] }) (v u:Value) (hd:a.eval d=v) (hs:a.eval s=u) {v':Value} {w':World}
  (hr:(Builtin.copy_ #[t,t'] o.type #[v,u]).run P w=.ok v' w') (h:wpList P ops Q rest (a.put o.dst v') w'):wpList P ops Q (o::rest) a w:=
 wpList_plain hgd fun K hK=>by
  unfold Oper.wp execOp;simp only [ho,resolve,invoke,builtin,Sem.run_bind,Sem.run_pure,Result.andThen_ok,List.map_toArray,List.map_cons,List.map_nil,hd,hs,hr];exact hK _ _ h
def boxN (w:World) (b:Nat):Nat:=match w.cell? ⟨b,0,none⟩ with
 | some (.int _ x)=>x.toNat
 | _=>0
def rowA (N:Nat) (d:Row):Array Value:=(((List.range N).map d).map iv64).toArray
theorem ZeE (N:Nat) (d:Row):(rowA N d).size=N:=by simp [rowA]
theorem Zjt (N:Nat) (d:Row):(rowA N d).all (·.oneCell')=true:=by
 rw [Array.all_eq_true];intro i h;simp [rowA,iv64,Value.oneCell']
theorem Zj3:Tryz.zeroCells275=rowA 515 (fun _=>0):=by kernel_rfl
theorem Zo6 (d:Row):(Tryz.prog.info? 275).map (·.size)=some (rowA 515 d).size:=by rw [ZeE];kernel_rfl
def wf0 (zs:List Int):Row:=fun i=>zs.getD i 0
theorem Zse (M:Nat) (zs:List Int) (h:zs.length<=M):(((rowA M (fun _=>0)).toList.take 0++zs.map iv64++(rowA M (fun _=>0)).toList.drop (0+(zs.map iv64).length)).toArray)=rowA M (wf0 zs):=by
 apply Array.toList_inj.1;show(((List.range M).map (fun _=>(0:Int))).map iv64).take 0++zs.map iv64++(((List.range M).map (fun _=>(0:Int))).map iv64).drop (0+(zs.map iv64).length)=((List.range M).map (wf0 zs)).map iv64;rw [List.take_zero,List.nil_append,Nat.zero_add,List.length_map,<-List.map_drop,<-List.map_append];congr 1;apply List.ext_getElem
 ·simp;omega
 ·intro i h1 h2;rw [List.getElem_map,List.getElem_range];unfold wf0;by_cases hi:i<zs.length
  ·rw [List.getElem_append_left hi,List.getD_eq_getElem?_getD,List.getElem?_eq_getElem hi];rfl
  ·rw [List.getElem_append_right (by omega),List.getD_eq_getElem?_getD,List.getElem?_eq_none (by omega)];simp
theorem ZkH (W:World) (g ty:Nat) (a:Option Addr) (cap:Nat) (zs:List Int) (hv:IsInts W (.slice a zs.length cap) zs) (h1:1<=zs.length) (hz:zs.length<=515) (hg:W.heap[g]?=some (.cells (rowA 515 (fun _=>0)) 275 (0,0))) :
  (Builtin.copy_ #[106,106] ty #[.slice (some ⟨g,0,none⟩) 515 515,.slice a zs.length cap]).run Tryz.prog W=.ok (goInt zs.length) (W.setRow g (rowA 515 (wf0 zs))):=by
 obtain⟨b,off,k,he,_⟩:=hv.cell (show 0<zs.length by omega);simp only [Value.slice.injEq] at he;obtain⟨rfl,_,rfl⟩:=he
 have:=run_copy_row (P:=Tryz.prog) W 106 106 ty 3 g 0 515 515 ⟨b,off,none⟩ zs.length cap (rowA 515 (fun _=>0)) 275 (zs.map iv64) Tryz.underlying106 (by kernel_rfl) hg (by rw [List.length_map];exact(Nat.min_eq_left hz).symm) (fun j v hj=>by
  rw [List.getElem?_map] at hj;obtain⟨x,hx,rfl⟩:=Option.map_eq_some_iff.1 hj;obtain⟨a2,cap2,h2,h3⟩:=hv;obtain⟨b3,o3,h4,h5⟩:=h3 j x hx;simp only [Value.slice.injEq] at h2;rw [<-h2.1] at h4;simp only [Option.some.injEq,Addr.mk.injEq] at h4;obtain⟨rfl,rfl,_⟩:=h4;rw [Addr.add_lit];exact h5) (by rw [List.length_map,ZeE];omega) (fun v hv=>by
  obtain⟨x,_,rfl⟩:=List.mem_map.1 hv;rfl)
 rw [Zse 515 zs hz,List.length_map] at this;exact this
structure Laid (N:Nat) (zs:List Int) (v:Value) (w W:World):Prop where
 r:ArrD 275 W N 515 (fun _=>0)
 wt:ArrD 275 W (N+1) 515 (wf0 zs)
 ab:ArrD 275 W (N+1+1) 515 (fun _=>0)
 size:W.heap.size=N+1+1+1
 bel:Below N w W
 ints:IsInts W v zs
theorem Zsf (w:World) (zs:List Int) (v:Value) (hv:IsInts w v zs):Laid w.heap.size zs v w ((((w.alloc (.cells (rowA 515 (fun _=>0)) 275)).alloc (.cells (rowA 515 (fun _=>0)) 275)).alloc (.cells (rowA 515 (fun _=>0)) 275)).setRow (w.heap.size+1) (rowA 515 (wf0 zs))) /\
  (((w.alloc (.cells (rowA 515 (fun _=>0)) 275)).alloc (.cells (rowA 515 (fun _=>0)) 275)).alloc (.cells (rowA 515 (fun _=>0)) 275)).heap[w.heap.size+1]?=some (.cells (rowA 515 (fun _=>0)) 275 (0,0)) /\
  IsInts (((w.alloc (.cells (rowA 515 (fun _=>0)) 275)).alloc (.cells (rowA 515 (fun _=>0)) 275)).alloc (.cells (rowA 515 (fun _=>0)) 275)) v zs:=by
 generalize hO:Obj.cells (rowA 515 (fun _=>0)) 275 (0,0)=O;have s1:(w.alloc O).heap.size=w.heap.size+1:=by simp
 have s2:((w.alloc O).alloc O).heap.size=w.heap.size+1+1:=by simp
 have s3:(((w.alloc O).alloc O).alloc O).heap.size=w.heap.size+1+1+1:=by simp
 have b1:Below w.heap.size w (((w.alloc O).alloc O).alloc O):=(((Below.refl _ w).alloc (Nat.le_refl _) O).alloc (by rw [s1];omega) O).alloc (by rw [s2];omega) O
 have h0:(((w.alloc O).alloc O).alloc O).heap[w.heap.size]?=some O:=by
  rw [Below.heap_alloc _ O _ (by rw [s2];omega),Below.heap_alloc _ O _ (by rw [s1];omega)];exact heap_alloc_new w O
 have h1:(((w.alloc O).alloc O).alloc O).heap[w.heap.size+1]?=some O:=by
  rw [Below.heap_alloc _ O _ (by rw [s2];omega)];have:=heap_alloc_new (w.alloc O) O;rw [s1] at this;exact this
 have h2:(((w.alloc O).alloc O).alloc O).heap[w.heap.size+1+1]?=some O:=by
  have:=heap_alloc_new ((w.alloc O).alloc O) O;rw [s2] at this;exact this
 have hi:=hv.below b1;subst hO;refine⟨⟨?_,?_,?_,?_,?_,?_⟩,h1,hi⟩
 ·exact(setRow_other _ (w.heap.size+1) w.heap.size _ (by omega)).trans h0
 ·exact setRow_heap _ _ _ _ _ _ h1
 ·exact(setRow_other _ (w.heap.size+1) (w.heap.size+1+1) _ (by omega)).trans h2
 ·show(World.setRow _ _ _).heap.size=_;simp [World.setRow]
 ·exact Zal b1 (by omega) _
 ·exact hv.below (Zal b1 (by omega) _)
theorem ZlJ (w:World) (x y z:Int) (s:Nat) (hs:w.heap.size=s) :
  Box (((w.alloc (.cells #[.int .i64 x] 3)).alloc (.cells #[.int .i64 y] 3)).alloc (.cells #[.int .i64 z] 3)) s x/\Box (((w.alloc (.cells #[.int .i64 x] 3)).alloc (.cells #[.int .i64 y] 3)).alloc (.cells #[.int .i64 z] 3)) (s+1) y /\
  Box (((w.alloc (.cells #[.int .i64 x] 3)).alloc (.cells #[.int .i64 y] 3)).alloc (.cells #[.int .i64 z] 3)) (s+1+1) z/\Below s w (((w.alloc (.cells #[.int .i64 x] 3)).alloc (.cells #[.int .i64 y] 3)).alloc (.cells #[.int .i64 z] 3)):=by
 subst hs;have s1:∀o,(w.alloc o).heap.size=w.heap.size+1:=by simp
 have s2:∀o o',((w.alloc o).alloc o').heap.size=w.heap.size+1+1:=by simp
 refine⟨?_,?_,?_,((Below.refl _ w).alloc (Nat.le_refl _) _).alloc (by rw [s1];omega) _ |>.alloc (by rw [s2];omega) _⟩
 ·unfold Box;rw [Below.heap_alloc _ _ _ (by rw [s2];omega),Below.heap_alloc _ _ _ (by rw [s1];omega)];exact heap_alloc_new w _
 ·unfold Box;rw [Below.heap_alloc _ _ _ (by rw [s2];omega)];have:=heap_alloc_new (w.alloc (.cells #[.int .i64 x] 3)) (.cells #[.int .i64 y] 3);rw [s1] at this;exact this
 ·unfold Box;have:=heap_alloc_new ((w.alloc (.cells #[.int .i64 x] 3)).alloc (.cells #[.int .i64 y] 3)) (.cells #[.int .i64 z] 3);rw [s2] at this;exact this
theorem ZlK {N nb ob g n:Nat} {D wf ab:Row} {w6 W:World} (hW:ArrD 275 w6 (N+1) 515 wf) (hA:ArrD 275 w6 (N+1+1) 515 ab) (hn:Box w6 nb n)
  (ho:w6.heap[ob]?=some (.cells #[.slice (some ⟨g,0,none⟩) n n] 106 (0,0))) (hg:RowD w6 g n D) (hnb:N+1+1+1=nb) (h1:nb<g) (h2:g<ob) (hb:Below (ob+1) w6 W)
  {sb jb xb:Nat} (b1:Box W sb 0) (b2:Box W jb n) (b3:Box W xb n) (d1:sb≠jb) (d2:sb≠xb) (d3:jb≠xb) (e1:ob<sb) (e2:ob<jb) (e3:ob<xb):Queue ⟨N+1,N+1+1,nb,ob,sb,jb,xb,g⟩ n D wf ab 0 n n W:=by
 refine⟨(hb.block _ (by show N+1<ob+1;omega)).trans hW,(hb.block _ (by show N+1+1<ob+1;omega)).trans hA,(hb.block _ (by show nb<ob+1;omega)).trans hn,(hb.block _ (by show ob<ob+1;omega)).trans ho,b1,b2,b3,(hb.block _ (by show g<ob+1;omega)).trans hg,?_⟩;simp only [At.Apart,List.pairwise_cons,List.mem_cons,List.not_mem_nil,or_false,forall_eq_or_imp,forall_eq];refine⟨?_,?_,?_,?_,?_,?_,?_,fun a h=>h.elim,List.Pairwise.nil⟩<;>omega
theorem ZqX (v:Value) (zs:List Int) (w:World) (hv:IsInts w v zs) (h2:2<=zs.length) (hz:zs.length<=258) (hpos:∀z∈zs,0<=z/\z<=1099511627776) :
  Calls Tryz.prog 228 #[v] w fun e w'=>∃(ab:Row),e=.returned (.agg (rowA 515 ab))/\JoinP zs ab/\Below w.heap.size w w':=by
 have HV0:=zh hv;have HPOS:=zh hpos;obtain⟨a,cap,rfl,_⟩:=hv;obtain⟨n,hn⟩:∃n,zs.length=n:=⟨_,rfl⟩
 have HN:=zh hn;rw [hn] at h2 hz ⊢;have hN0:=Zsf w zs (.slice a zs.length cap) HV0.out;have hcp:=fun ty=>ZkH _ (w.heap.size+1) ty a cap zs hN0.2.2 (by omega) (by omega) hN0.2.1
 have hlaid:=hN0.1;rw [<-Zj3] at hcp hlaid;rw [hn] at hcp hlaid;generalize hW4:(((w.alloc (.cells Tryz.zeroCells275 275)).alloc (.cells Tryz.zeroCells275 275)).alloc (.cells Tryz.zeroCells275 275)).setRow (w.heap.size+1) (rowA 515 (wf0 zs))=W4 at *;have HCP:=zh hcp;have HL:=zh hlaid;clear hn hpos hN0 hcp hlaid hW4;go_enter Tryz.func228,Tryz.ntmps228;go_wp2_with (refine Ziq rfl _ _ 106 106 rfl _ _ rfl rfl (HCP.out _) ?_);have hl4:=HL.out.size;obtain⟨N,hN⟩:∃N,w.heap.size=N:=⟨_,rfl⟩
 rw [hN] at hl4;have hs4:(W4.alloc (.cells #[.int .i64 n] 3)).heap.size=N+1+1+1+1:=by simp [hl4]
 have HB4:Hid (Below W4.heap.size W4 (W4.alloc (.cells #[.int .i64 n] 3))):=zh ((Below.refl _ W4).alloc (Nat.le_refl _) _);have HNB:Hid (Box (W4.alloc (.cells #[.int .i64 n] 3)) W4.heap.size n):=zh (heap_alloc_new W4 _);have HI4:Hid (IsInts (W4.alloc (.cells #[.int .i64 n] 3)) (.slice a n cap) zs):=zh (HL.out.ints.below HB4.out);generalize hW4b:W4.alloc (.cells #[.int .i64 n] 3)=w4 at *;refine(ZkF (.slice a n cap) zs w4 HI4.out (by rw [HN.out];omega)).mono ?_;rintro e w5 ⟨r,rfl,g,D,rfl,hg,hR,hBlk,hB5⟩;rw [HN.out] at hR hBlk;have HR5:=zh hR;have HBLK:=zh hBlk;have HB5:=zh hB5;have HG:=zh hg;clear hR hBlk hB5 hg;rw [HN.out];go_wp2_with fail;obtain⟨ob,hob⟩:∃ob,w5.heap.size=ob:=⟨_,rfl⟩
 have hg4:N+1+1+1+1<=g:=by rw [<-hs4];exact HG.out
 have hob4:g<ob:=by rw [<-hob];exact RowI.lt HR5.out
 have hbw:Below N w w4:=by
  have h1:=HL.out.bel;have h2:Below w.heap.size W4 w4:=HB4.out.mono (show w.heap.size<=W4.heap.size by omega);rw [<-hN];exact h1.trans h2
 have b45:Below (N+1+1+1+1) w4 w5:=hs4▸HB5.out;have b56:Below (N+1+1+1+1) w5 (w5.alloc (.cells #[.slice (some ⟨g,0,none⟩) n n] 106)):=(Below.refl (N+1+1+1+1) w5).alloc (show N+1+1+1+1<=w5.heap.size by omega) _;have b46:=b45.trans b56;have hrow6:RowD (w5.alloc (.cells #[.slice (some ⟨g,0,none⟩) n n] 106)) g n D:=RowI.below HR5.out ((Below.refl _ w5).alloc (Nat.le_refl _) _);have hob6:(w5.alloc (.cells #[.slice (some ⟨g,0,none⟩) n n] 106)).heap[ob]?=some (.cells #[.slice (some ⟨g,0,none⟩) n n] 106 (0,0)):=by rw [<-hob];exact heap_alloc_new w5 _
 have hs6:(w5.alloc (.cells #[.slice (some ⟨g,0,none⟩) n n] 106)).heap.size=ob+1:=by simp [hob]
 have hlw4:=HL.out;rw [hN] at hlw4;have h4b:Below (N+1+1+1) W4 w4:=by have:=HB4.out;rw [hl4] at this;exact this
 have hA6:ArrD 275 (w5.alloc (.cells #[.slice (some ⟨g,0,none⟩) n n] 106)) (N+1+1) 515 (fun _=>0):=(b46.block _ (by omega)).trans ((h4b.block _ (by omega)).trans hlw4.ab);have hW6:ArrD 275 (w5.alloc (.cells #[.slice (some ⟨g,0,none⟩) n n] 106)) (N+1) 515 (wf0 zs):=(b46.block _ (by omega)).trans ((h4b.block _ (by omega)).trans hlw4.wt);have hr6:ArrD 275 (w5.alloc (.cells #[.slice (some ⟨g,0,none⟩) n n] 106)) N 515 (fun _=>0):=(b46.block _ (by omega)).trans ((h4b.block _ (by omega)).trans hlw4.r)
 have hn6:Box (w5.alloc (.cells #[.slice (some ⟨g,0,none⟩) n n] 106)) (N+1+1+1) n:=by
  have h1:=HNB.out;rw [hl4] at h1;exact(b46.block _ (by omega)).trans h1
 have hb6:Below N w (w5.alloc (.cells #[.slice (some ⟨g,0,none⟩) n n] 106)):=hbw.trans (b46.mono (by omega));generalize (w5.alloc (.cells #[.slice (some ⟨g,0,none⟩) n n] 106))=w6 at *;obtain⟨c6,f6⟩:=hn6.cell;have HRow6:=zh hrow6;have HOb6:=zh hob6;have HA6:=zh hA6;have HW6:=zh hW6;have HR6:=zh hr6;have HN6:=zh hn6;have HB6:=zh hb6;have HNN:=zh hN;have hnd:Hid (N+1+1+1<g):=zh (by omega);rw [hob];clear hrow6 hob6 hA6 hW6 hr6 hn6 hb6 hbw b45 b56 b46 h4b hlw4 hW4b hs4 hN hob hl4 hg4;generalize hnb:N+1+1+1=nb at *;have hlt6:nb<w6.heap.size:=by have:=hnd.out;omega
 have k1:∀o,(w6.alloc o).cell? ⟨nb,0,none⟩=some (.int .i64 n):=fun o=>(((Below.refl _ w6).alloc (Nat.le_refl _) o).cell (p:=⟨nb,0,none⟩) hlt6).trans c6
 have k2:∀o o',((w6.alloc o).alloc o').cell? ⟨nb,0,none⟩=some (.int .i64 n):=fun o o'=>(((Below.refl _ (w6.alloc o)).alloc (Nat.le_refl _) o').cell (p:=⟨nb,0,none⟩) (by show nb<(w6.alloc o).heap.size;simp;omega)).trans (k1 o)
 have k3:∀o o' o2,(((w6.alloc o).alloc o').alloc o2).cell? ⟨nb,0,none⟩=some (.int .i64 n):=fun o o' o2=>(((Below.refl _ ((w6.alloc o).alloc o')).alloc (Nat.le_refl _) o2).cell (p:=⟨nb,0,none⟩) (by show nb<((w6.alloc o).alloc o').heap.size;simp;omega)).trans (k2 o o')
 have HNBE:=zh hnb;clear hnb
 have hq:Hid (∀(W:World),Below (ob+1) w6 W->∀sb jb xb:Nat,Box W sb 0->Box W jb n->Box W xb n->sb≠jb->sb≠xb->jb≠xb->ob<sb->ob<jb->ob<xb->Queue ⟨N+1,N+1+1,nb,ob,sb,jb,xb,g⟩ n D (wf0 zs) (fun _=>0) 0 n n W.drew/\Below (ob+1) w6 W.drew):=zh (fun W hb sb jb xb b1 b2 b3 d1 d2 d3 e1 e2 e3=>
  ⟨(ZlK HW6.out HA6.out HN6.out HOb6.out HRow6.out HNBE.out hnd.out hob4 hb b1 b2 b3 d1 d2 d3 e1 e2 e3).drewN 1,hb.trans ((Zas W 1).mono (by have:=hb.size;omega))⟩)
 have h3:=zh (fun x y z=>ZlJ w6 x y z (ob+1) hs6);have HOB4:=zh hob4;clear hob4
 go_upto_region 4 with fail
 go_cut [7,8,9] from 18 (fun v7 v8 v9 W=>∃sb jb xb:Nat,v7=.pointer (some ⟨sb,0,none⟩)/\v8=.pointer (some ⟨jb,0,none⟩)/\v9=.pointer (some ⟨xb,0,none⟩)/\ob<sb/\ob<jb/\ob<xb/\Queue ⟨N+1,N+1+1,nb,ob,sb,jb,xb,g⟩ n D (wf0 zs) (fun _=>0) 0 n n W/\Below (ob+1) w6 W)
 case first=>
  go_region
  all_goals go_wp2_with fail
  all_goals go_meet
  all_goals refine⟨_,_,_,rfl,rfl,rfl,by omega,by omega,by omega,hq.out _ (h3.out _ _ _).2.2.2 _ _ _ ?_ ?_ ?_ (by omega) (by omega) (by omega) (by omega) (by omega) (by omega)⟩
  all_goals first
   | exact(h3.out _ _ _).1
   | exact(h3.out _ _ _).2.1
   | exact(h3.out _ _ _).2.2.1
 case rest=>
  obtain⟨sb,jb,xb,rfl,rfl,rfl,e1,e2,e3,hQ,hB⟩:=hcut;have HQ:=zh hQ;have HBW:=zh hB;clear hQ hB;obtain⟨d,hJS⟩:=JS.start (ab:=fun _=>0) (wf:=wf0 zs) (by rw [HN.out];exact h2) (fun z hz=>(HPOS.out z hz).1) (by rw [HN.out];exact HBLK.out) (fun i _=>rfl);rw [HN.out] at hJS;have HJS:=zh hJS;clear hJS;have hbase:Hid (Below N w wc):=zh (HB6.out.trans (HBW.out.mono (by have:=HNBE.out;have:=hnd.out;omega)));have hres:Hid (ArrD 275 wc N 515 (fun _=>0)):=zh ((HBW.out.block N (by have:=HNBE.out;have:=hnd.out;omega)).trans HR6.out);have he:∀args w,(callFunc 231 args).run Tryz.prog w=.ok (.enter 231 args) w:=enters_of Tryz.func231 (by kernel_rfl) rfl
  have hT:Hid (sumN wt (ini zs)<=1099511627776*258):=zh (by
   have:=ZdA (f:=wt) (l:=ini zs) (c:=1099511627776) (fun t ht=>by
    obtain⟨h3,h4⟩:=ZbO ht;have h5:=(HPOS.out (zs.getD t.2 0) (by rw [List.getD_eq_getElem?_getD,List.getElem?_eq_getElem h3];exact List.getElem_mem h3)).2;show t.1<=_;omega)
   rw [ZbN,HN.out] at this;exact Nat.le_trans this (Nat.mul_le_mul_left _ hz))
  have hne:Hid (N<nb/\nb<ob):=zh (by have:=HNBE.out;have:=hnd.out;have:=HOB4.out;omega);go_wp2_with fail
  go_loopw [11,12] (fun _ _ wr=>∃(S J K:Nat) (wf ab:Row),JS zs D wf ab d S J K/\Queue ⟨N+1,N+1+1,nb,ob,sb,jb,xb,g⟩ n D wf ab S J K wr/\Below N w wr/\ArrD 275 wr N 515 (fun _=>0)) (fun _ _ wr=>2*n-boxN wr xb)
  case atStart=>exact⟨0,n,n,_,_,HJS.out,HQ.out,hbase.out,hres.out⟩
  case round=>
   obtain⟨S,J,K,wf,ab,hJ,hQ,hB,hR⟩:=hrel;have HJ:=zh hJ;have HQ1:=zh hQ;have HB1:=zh hB;have HR1:=zh hR;have hKb:K+1<=2*n:=by have:=hJ.hK;rw [HN.out] at this;exact this
   obtain⟨cx,fx⟩:=hQ.hx.cell;obtain⟨cn,fn⟩:=hQ.hn.cell;simp only at cx fx cn fn;clear hJ hQ hB hR;by_cases hK:K+1<2*n
   ·have hK2:(K:Int)<2*(n:Int)-1:=by omega
    have hJm:=HJ.out;have hSn:=hJm.hS;have hnJ:=hJm.hJ;have hJK:=hJm.hJK;have hcnt:=hJm.cnt;rw [HN.out] at hSn hnJ hcnt;have hrng:Hid (Rng n D):=zh (by have:=hJm.rng;rw [HN.out] at this;exact this);clear hJm;go_wp2_with fail;refine(ZkG (p:=⟨N+1,N+1+1,nb,ob,sb,jb,xb,g⟩) HQ1.out hz hSn hJK (by omega) hrng.out (fun e=>by omega)).mono ?_;rintro e w1 ⟨ta,rfl,htook⟩;obtain⟨S1,J1,hm1,hQ2,ht1⟩:=htook.math;obtain⟨xa,rfl,hx1,hx2,hx3,hx4,hx5,hx6,hx7,hx8⟩:=Zip hSn hJK (fun e=>by omega) hrng.out hnJ HJ.out.pos hm1;have HM1:=zh hm1;have HQ2:=zh hQ2;have HT1:=zh ht1;clear htook hm1 hQ2 ht1 hx2 hx8;go_wp2_with fail;refine(ZkG (p:=⟨N+1,N+1+1,nb,ob,sb,jb,xb,g⟩) HQ2.out hz hx3 hx4 (by omega) hrng.out (fun e=>by omega)).mono ?_;rintro e w2 ⟨tb,rfl,htook⟩;obtain⟨S2,J2,hm2,hQ3,ht2⟩:=htook.math;obtain⟨x,y,ex,ey,hxK,hyK,hxy,hsum,hJS2⟩:=JS.step HJ.out (by rw [HN.out];exact hK) (by rw [HN.out];exact HM1.out) (by rw [HN.out];exact hm2);obtain rfl:xa=x:=by omega
    subst ey;have hwx:=HJ.out.pos _ hxK;have hwy:=HJ.out.pos _ hyK;obtain⟨c1,f1⟩:=hQ3.hW.cell (show xa<515 by omega);obtain⟨c2,f2⟩:=hQ3.hW.cell (show y<515 by omega);obtain⟨c3,f3⟩:=hQ3.hW.cell (show K<515 by omega);obtain⟨c4,f4⟩:=hQ3.hx.cell;simp only at c1 f1 c2 f2 c3 f3 c4 f4;obtain⟨X,hX⟩:∃X,wf xa=X:=⟨_,rfl⟩
    obtain⟨Y,hY⟩:∃Y,wf y=Y:=⟨_,rfl⟩
    rw [hX] at c1 hwx hsum hJS2;rw [hY] at c2 hwy hsum hJS2;have hXY:X+Y<=300000000000000:=by have:=hT.out;omega
    have hX5:(xa:Int)<515:=by omega
    have hY5:(y:Int)<515:=by omega
    have hK5:(K:Int)<515:=by omega
    have HJS2:=zh hJS2;have HQ3:=zh hQ3;have HT2:=zh ht2;have HNE:=zh hxy;clear htook hm2 hQ3 ht2 hJS2 hX hY hsum ex hxy;go_wp2_with fail
    go_region
    have hQ9:=(HQ3.out.weight (i:=K) (by omega) (X+Y)).drewN 1;have ht9:Touch (·=N+1) w2 ((w2.setCell ⟨N+1,K,none⟩ (.int .i64 (X+Y))).drew):=(Zae (Touch.refl _ w2)).drew;change Queue _ _ _ _ _ _ _ _ ((w2.setCell ⟨N+1,K,none⟩ (.int .i64 (X+Y))).drew) at hQ9;generalize (w2.setCell ⟨N+1,K,none⟩ (.int .i64 (X+Y))).drew=w9 at *;obtain⟨c5,f5⟩:=hQ9.hx.cell;obtain⟨c6,f6⟩:=hQ9.hA.cell (show xa<515 by omega);obtain⟨c7,f7⟩:=hQ9.hA.cell (show y<515 by omega);obtain⟨c8,f8⟩:=(hQ9.above (i:=xa) (by omega) K).hA.cell (show y<515 by omega);simp only at c5 f5 c6 f6 c7 f7;change (w9.setCell ⟨N+1+1,xa,none⟩ (.int .i64 K)).cell? ⟨N+1+1,y,none⟩=_ at c8;change (w9.setCell ⟨N+1+1,xa,none⟩ (.int .i64 K)).frozen? ⟨N+1+1,y,none⟩=_ at f8;generalize (fun k=>if k=xa then(K:Int) else ab k) y=V8 at c8;have c9:=(hQ9.above (i:=xa) (by omega) K).hx.cell.1;change (w9.setCell ⟨N+1+1,xa,none⟩ (.int .i64 K)).cell? ⟨xb,0,none⟩=_ at c9;have HQ9:=zh hQ9;have HT9:=zh ht9;clear hQ9 ht9 c1 c2 c3 c4 f1 f2 f3 f4;go_wp2_with fail
    go_region
    have hQ10:=((HQ9.out.above (i:=xa) (by omega) K).above (i:=y) (by omega) K).drewN 1;change Queue _ _ _ _ _ _ _ _ (((w9.setCell ⟨N+1+1,xa,none⟩ (.int .i64 K)).setCell ⟨N+1+1,y,none⟩ (.int .i64 K)).drew) at hQ10;have ht10:Touch (·=N+1+1) w9 (((w9.setCell ⟨N+1+1,xa,none⟩ (.int .i64 K)).setCell ⟨N+1+1,y,none⟩ (.int .i64 K)).drew):=(Zae (Zae (Touch.refl _ w9))).drew;generalize (((w9.setCell ⟨N+1+1,xa,none⟩ (.int .i64 K)).setCell ⟨N+1+1,y,none⟩ (.int .i64 K)).drew)=w10 at *;obtain⟨e5,g5⟩:=hQ10.hx.cell;simp only at e5 g5;have HQ10:=zh hQ10;have HT10:=zh ht10;have hb1:Hid (boxN wr xb=K):=zh (by unfold boxN;rw [cx];simp);have hQ11:=HQ10.out.next (K+1);have hK1:((K+1:Nat):Int)=(K:Int)+1:=by omega
    rw [hK1] at hQ11;change Queue _ _ _ _ _ _ _ _ (w10.setCell ⟨xb,0,none⟩ (.int .i64 ((K:Int)+1))) at hQ11
    have hb2:Hid (boxN (w10.setCell ⟨xb,0,none⟩ (.int .i64 ((K:Int)+1))) xb=K+1):=zh (by
     have:=hQ11.hx.cell.1;simp only at this;unfold boxN;rw [this];simp)
    have HQ11:=zh hQ11
    have htall:Hid (Touch (fun i=>N<i) wr (w10.setCell ⟨xb,0,none⟩ (.int .i64 ((K:Int)+1)))):=zh (by
     have n1:=hne.out
     have t1:Touch (fun i=>N<i) wr w1:=HT1.out.mono (fun i hi=>by
      rcases hi with e|e
      ·have e:i=sb:=e;omega
      ·have e:i=jb:=e;omega)
     have t2:Touch (fun i=>N<i) w1 w2:=HT2.out.mono (fun i hi=>by
      rcases hi with e|e
      ·have e:i=sb:=e;omega
      ·have e:i=jb:=e;omega)
     have t3:Touch (fun i=>N<i) w2 w9:=HT9.out.mono (fun i hi=>by have e:i=N+1:=hi;omega);have t4:Touch (fun i=>N<i) w9 w10:=HT10.out.mono (fun i hi=>by have e:i=N+1+1:=hi;omega);exact((((t1.trans t2 (fun i h=>Or.inl h)).trans t3 (fun i h=>Or.inl h)).trans t4 (fun i h=>Or.inl h))).setCell (p:=⟨xb,0,none⟩) (Or.inl (by show N<xb;omega)) _)
    clear hQ10 ht10 hK1 hQ11 c5 c6 c7 c8 c9 f5 f6 f7 f8;go_wp2_with fail;go_roundw
    case rel=>exact⟨S2,J2,K+1,_,_,HJS2.out,HQ11.out,HB1.out.trans (htall.out.below (B:=N) (by have:=HB1.out.size;have:=HNN.out;omega) (fun i hi=>by have e:N<i:=hi;omega)),HR1.out.other htall.out (fun h=>Nat.lt_irrefl _ h)⟩
    case measure=>rw [hb1.out,hb2.out];omega
   ·have hK2:¬(K:Int)<2*(n:Int)-1:=by omega
    have hc:=HQ1.out.hA;have h0:=HR1.out;have HJ2:Hid (JoinP zs ab):=zh (HJ.out.end_ (by rw [HN.out];exact h2) (by rw [HN.out];omega));change wr.heap[N+1+1]?=some (.cells (rowA 515 ab) 275 (0,0)) at hc;change wr.heap[N]?=some (.cells (rowA 515 (fun _=>0)) 275 (0,0)) at h0;have hi:=Zo6 ab;have hs0:(rowA 515 (fun _=>0)).size=(rowA 515 ab).size:=by rw [ZeE,ZeE]
    have hall:=Zjt 515 ab;have HRA:Hid (rowA 515 ab=rowA 515 ab):=zh rfl;generalize hRA:rowA 515 ab=RA at hc hi hs0 hall;generalize rowA 515 (fun _=>0)=R0 at h0 hs0;go_wp2_with (first|(refine wpList_load_row rfl 275 _ rfl (N+1+1) rfl 275 RA (0,0) _ hc Tryz.underlying275 rfl hi ?_)|(refine wpList_store_row rfl 275 _ _ rfl N RA rfl rfl 275 R0 h0 hi hs0 hall ?_));refine bodyPost_ret (v:=.agg RA) (results_cell_row rfl _ _ N 275 RA (0,0) _ rfl (setRow_heap wr _ R0 RA 275 _ h0) Tryz.underlying275 rfl hi) rfl ⟨ab,by rw [hRA],HJ2.out,?_⟩;rw [HNN.out];exact Zal HB1.out (Nat.le_refl _) _
theorem ArrD.ints {t:TypeId} {w:World} {g N:Nat} {d:Row} (h:ArrD t w g N d) {n:Nat} (hn:n<=N) (cap:Nat):IsInts w (.slice (some ⟨g,0,none⟩) n cap) ((List.range n).map d):=by
 refine⟨some ⟨g,0,none⟩,cap,by simp,fun i x hx=>⟨g,0,rfl,?_⟩⟩;have hi:=(List.getElem?_eq_some_iff.1 hx).1;simp at hi;rw [List.getElem?_map,List.getElem?_range hi] at hx;simp only [Option.map_some,Option.some.injEq] at hx;rw [Nat.zero_add,<-hx];exact(h.cell (show i<N by omega)).1
theorem ZqY (W:World) (b n:Nat) (hn:n<=515):(Instr.sliceAt 275 (.pointer (some ⟨b,0,none⟩)) none (some (.int .i64 (n:Int))) none).run Tryz.prog W=.ok (.slice (some ⟨b,0,none⟩) n 515) W:=by
 have e:Tryz.prog.arrayLen 275=515:=by kernel_rfl
 have hs:(sizeOf (Tryz.prog.elem 275)).run Tryz.prog W=.ok 1 W:=by kernel_rfl
 rw [run_sliceAt_array_h W _ ⟨b,0,none⟩ (by kernel_rfl) .i64 (n:Int) (by omega) (by rw [e];omega),hs];simp [Result.andThen,slicedAt,e,Addr.add]
theorem Znr (b off m c:Nat) (zs:List Int) (w:World) (hv:IsInts w (.slice (some ⟨b,off,none⟩) m c) zs) (hz:zs.length<=1000000) :
  Calls Tryz.prog 161 #[.slice (some ⟨b,off,none⟩) m c] w fun e w'=>∃r,e=.returned r/\IsInts w' r zs/\Below w.heap.size w w'/\(∀k,r.ownBlock=some k->w.heap.size<=k):=by
 have HV:=zh hv;have hs1:(w.alloc (.cells #[] 3)).heap.size=w.heap.size+1:=by simp
 have HO:Hid (OwnI (w.alloc (.cells #[] 3)) w.heap.size (.slice (some ⟨w.heap.size,0,none⟩) 0 0) []):=zh ⟨rfl,Or.inr ⟨w.heap.size,0,#[],rfl,Nat.le_refl _,heap_alloc_new w _,Nat.le_refl _,by simp [maxLen],rfl,rfl⟩⟩;have HB:Hid (Below w.heap.size w (w.alloc (.cells #[] 3))):=zh ((Below.refl _ w).alloc (Nat.le_refl _) _);have HV2:Hid (IsInts (w.alloc (.cells #[] 3)) (.slice (some ⟨b,off,none⟩) m c) zs):=zh (hv.below HB.out);clear hv;go_enter Tryz.func161,Tryz.ntmps161;have hnil:∀W,(binOp .eql 106 (.slice (some ⟨b,off,none⟩) m c) (.slice none 0 0)).run Tryz.prog W=.ok (.bool false) W:=fun W=>Lib.run_eql_slice_nil W _ _ _ _ _ _ _ Tryz.underlying106
 go_upto_region 3 with fail
 go_step
 go_wp2_with (refine Zf1 (w.alloc (.cells #[] 3)) rfl _ _ rfl w.heap.size (.slice (some ⟨w.heap.size,0,none⟩) 0 0) [] b off m c zs HO.out HV2.out rfl rfl (by simp;omega) (by rw [hs1];omega) ?_);intro v' w' hown hb;have HOWN:=zh hown;have HB2:=zh hb;clear hown hb;go_wp2_with fail;go_ret;exact⟨v',rfl,HOWN.out.ints,HB.out.trans HB2.out,fun k hk=>(HOWN.out.lt k hk).1⟩
theorem Zju (v:Value) (zs:List Int) (w:World) (hv:IsInts w v zs) (h2:2<=zs.length) (hz:zs.length<=258) (hpos:∀z∈zs,0<=z/\z<=1099511627776) :
  Calls Tryz.prog 218 #[v] w fun e w'=>∃(r:Value) (ds:List Int),e=.returned r/\IsInts w' r ds/\DepP zs ds/\Below w.heap.size w w'/\(∀k,r.ownBlock=some k->w.heap.size<=k):=by
 have HV0:=zh hv;have HPOS:=zh hpos;obtain⟨a,cap,rfl,_⟩:=hv;obtain⟨n,hn⟩:∃n,zs.length=n:=⟨_,rfl⟩
 have HN:=zh hn;rw [hn] at h2 hz ⊢;clear hn hpos;go_enter Tryz.func218,Tryz.ntmps218;go_wp2_with fail;refine(ZqX (.slice a n cap) zs w (by rw [<-HN.out];exact HV0.out) (by rw [HN.out];exact h2) (by rw [HN.out];exact hz) HPOS.out).mono ?_;rintro e w1 ⟨ab,rfl,hJ,hB⟩;have HJ:=zh hJ;have HB:=zh hB;have hi:=Zo6 ab;have hall:=Zjt 515 ab;obtain⟨RA,hRA⟩:∃RA,rowA 515 ab=RA:=⟨_,rfl⟩
 rw [hRA] at hi hall;have HRA:=zh hRA;rw [hRA];clear hJ hB;have hzs:Tryz.zeroCells275.size=RA.size:=by rw [Zj3,ZeE,<-hRA,ZeE]
 have h0:(w1.alloc (.cells Tryz.zeroCells275 275)).heap[w1.heap.size]?=some (.cells Tryz.zeroCells275 275 (0,0)):=heap_alloc_new w1 _;go_wp2_with (refine wpList_store_row rfl 275 _ _ rfl w1.heap.size RA rfl rfl 275 Tryz.zeroCells275 h0 hi hzs hall ?_)
 have hA0:ArrD 275 ((w1.alloc (.cells Tryz.zeroCells275 275)).setRow w1.heap.size RA) w1.heap.size 515 ab:=by
  have:=setRow_heap _ _ _ RA _ _ h0;rw [<-hRA] at this ⊢;exact this
 have hbs:Below w1.heap.size w1 ((w1.alloc (.cells Tryz.zeroCells275 275)).setRow w1.heap.size RA):=Zal ((Below.refl _ w1).alloc (Nat.le_refl _) _) (Nat.le_refl _) RA;have hsz:((w1.alloc (.cells Tryz.zeroCells275 275)).setRow w1.heap.size RA).heap.size=w1.heap.size+1:=by simp [World.setRow]
 generalize (w1.alloc (.cells Tryz.zeroCells275 275)).setRow w1.heap.size RA=w2 at *;obtain⟨B3,hB3⟩:∃B3,w1.heap.size=B3:=⟨_,rfl⟩
 rw [hB3] at hA0 hbs hsz
 have hD0:ArrD 275 (w2.alloc (.cells Tryz.zeroCells275 275)) (B3+1) 515 (fun _=>0):=by
  have:=heap_alloc_new w2 (.cells Tryz.zeroCells275 275);rw [hsz,Zj3] at this;rw [Zj3];exact this
 have hA1:ArrD 275 (w2.alloc (.cells Tryz.zeroCells275 275)) B3 515 ab:=(Below.heap_alloc w2 _ _ (by rw [hsz];omega)).trans hA0;have hb2:Below w.heap.size w (w2.alloc (.cells Tryz.zeroCells275 275)):=HB.out.trans ((hbs.alloc (by rw [hsz];omega) _).mono (by rw [<-hB3];exact HB.out.size));have hlow:Hid (w.heap.size<=B3):=zh (by rw [<-hB3];exact HB.out.size);obtain⟨d,hdep,hd0,hdb,hup⟩:=HJ.out.dep;rw [HN.out] at hd0 hdb hup hdep;have HA1:=zh hA1;have HD0:=zh hD0;have HB2:=zh hb2;have HDEP:=zh hdep;have HUP:=zh hup;have HDB:=zh hdb;have HD00:=zh hd0;rw [hB3];have hsz':=hsz;clear hA0 hbs hA1 hD0 hb2 hdep hup hdb hd0 h0 hzs hi hall hRA hB3;go_wp2_with fail;generalize (w2.alloc (.cells Tryz.zeroCells275 275))=w3 at *;clear hsz hsz'
 go_loopw [6] (fun vt wr=>∃(t:Nat) (x:Int) (dd:Row),vt=.int .i64 x/\x=(t:Int)-1/\t<=2*n-2/\ArrD 275 wr (B3+1) 515 dd/\ArrD 275 wr B3 515 ab/\(∀k,t<=k->k<=2*n-2->dd k=(d k:Int))/\Below w.heap.size w wr) (fun vt _=>(intOf vt+1).toNat)
 case atStart=>exact⟨2*n-2,2*(n:Int)-2-1,_,rfl,by omega,Nat.le_refl _,HD0.out,HA1.out,fun k h3 h4=>by
  obtain rfl:k=2*n-2:=by omega
  rw [HD00.out];rfl,HB2.out⟩
 case round=>
  obtain⟨t,x,dd,rfl,hx,ht,hD,hA,hdd,hBw⟩:=hrel;have HD:=zh hD;have HA:=zh hA;have HDD:=zh hdd;have HBW:=zh hBw;clear hD hA hdd hBw;by_cases ht0:1<=t
  ·obtain⟨s,hs⟩:∃s,t=s+1:=⟨t-1,by omega⟩
   obtain rfl:x=(s:Int):=by omega
   have HS:=zh hs;have hs515:s<515:=by omega
   have hs5:(s:Int)<515:=by omega
   obtain⟨u,hu1,hu2,hu3,hu4⟩:=HUP.out s (by omega);have hu515:u<515:=by omega
   have hu5:(u:Int)<515:=by omega
   obtain⟨c1,f1⟩:=HA.out.cell hs515;obtain⟨c2,f2⟩:=HD.out.cell hu515;obtain⟨c3,f3⟩:=HD.out.cell hs515;rw [hu1] at c1;rw [HDD.out u (by omega) hu3] at c2;have hdu:d u<=600:=by have:=HDB.out u hu3;omega
   obtain⟨q,hq⟩:∃q,d u=q:=⟨_,rfl⟩
   rw [hq] at c2 hdu;have HQ:Hid (d s=q+1):=zh (by rw [hu4,hq]);clear hs hu1 hu4 hq hx;go_wp2_with fail;go_roundw
   case rel=>exact⟨s,(s:Int)-1,_,rfl,rfl,by have:=HS.out;omega,HD.out.set hs515 ((q:Int)+1),HA.out.other ((Zae (Touch.refl _ wr)):Touch (·=B3+1) wr _) (fun h=>by have h':B3=B3+1:=h;omega),fun k h3 h4=>by
    by_cases e:k=s
    ·subst e;simp only [if_true];rw [HQ.out];rfl
    ·simp only [e,if_false];exact HDD.out k (by have:=HS.out;omega) h4,HBW.out.setCell (p:=⟨B3+1,s,none⟩) (by show w.heap.size<=B3+1;have:=hlow.out;omega) _⟩
   case measure=>simp [intOf]
  ·obtain rfl:t=0:=by omega
   have hx0:¬(0:Int)<=x:=by omega
   have hI:=HD.out.ints (show n<=515 by omega) 515
   have HI:Hid (IsInts wr (.slice (some ⟨B3+1,0,none⟩) n 515) ((List.range n).map fun i=>(d i:Int))):=zh (by
    have e:(List.range n).map dd=(List.range n).map fun i=>(d i:Int):=List.map_congr_left (fun i hi=>HDD.out i (Nat.zero_le _) (by have:=List.mem_range.1 hi;omega))
    rw [<-e];exact hI)
   clear hI;have hsl:=fun W=>ZqY W (B3+1) n (by omega)
   go_wp2_with fail;refine(Znr (B3+1) 0 n 515 _ wr HI.out (by simp;omega)).mono ?_;rintro e w4 ⟨r,rfl,hr,hb,ho⟩;have HR:=zh hr;have HBB:=zh hb;have HOO:Hid (∀k,r.ownBlock=some k->w.heap.size<=k):=zh (fun k hk=>Nat.le_trans HBW.out.size (ho k hk));clear hr hb ho;go_wp2_with fail;go_ret;exact⟨_,_,rfl,HR.out,HDEP.out,HBW.out.trans (HBB.out.mono HBW.out.size),HOO.out⟩
end
section
open Go.RowKit HufM
def ups (zs:List Int):List Int:=zs.map fun x=>if x<1 then 1 else x
def OfOk (zs:List Int):Prop:=3<=zs.length/\zs.length<=258/\Within 0 1099511627776 zs
def OfP (zs rs:List Int) (err:Nat):Prop:=(¬OfOk zs/\rs=[]/\err=1)\/(OfOk zs/\(∃n,n<=40/\OfR n (ups zs) rs)/\err=0)
theorem ZrN {zs:List Int} (h:Within 0 1099511627776 zs):Bd 40 (ups zs):=by
 intro y hy;obtain⟨x,hx,rfl⟩:=List.mem_map.1 hy;have:=h x hx;have e:((2^40+1:Nat):Int)=1099511627777:=by decide
 rw [e];split<;>omega
theorem Zcd (zs:List Int):(ups zs).length=zs.length:=by simp [ups]
theorem ZdJ {zs:List Int} (h:∀z∈zs,0<=z/\z<=1099511627777):∀z∈hvs zs,0<=z/\z<=1099511627776:=by
 intro y hy;obtain⟨x,hx,rfl⟩:=List.mem_map.1 hy;have:=h x hx;unfold hv;rw [if_neg (by omega)];omega
theorem Zs8 (v:Value) (zs:List Int) (w:World) (hv:IsInts w v zs) (hz:zs.length<=9223372036854775807) :
  Calls Tryz.prog 204 #[v] w fun e w'=>∃(r:Value) (rs:List Int) (err:Nat),e=.returned (.tuple #[r,.int .i64 (err:Int)])/\IsInts w' r rs/\OfP zs rs err/\Below w.heap.size w w'/\(∀k,r.ownBlock=some k->w.heap.size<=k):=by
 have HV:=zh hv;have HNIL:Hid (IsInts w (.slice none 0 0) []):=zh (IsInts.nil w);obtain⟨ad,cap,rfl,_⟩:=hv;by_cases h1:zs.length<3
 ·have h1b:(zs.length:Int)<3:=by omega
  go_enter Tryz.func204,Tryz.ntmps204;go_wp2_with fail;go_ret2;exact⟨_,[],1,rfl,HNIL.out,Or.inl ⟨fun h=>by have:=h.1;omega,rfl,rfl⟩,Below.refl _ _,fun k hk=>absurd hk (by simp [Value.ownBlock])⟩
 ·have h1b:decide ((zs.length:Int)<3)=false:=by simp only [decide_eq_false_iff_not];omega
  by_cases h2:258<zs.length
  ·have h2b:258<(zs.length:Int):=by omega
   go_enter Tryz.func204,Tryz.ntmps204;go_wp2_with fail;go_ret2;exact⟨_,[],1,rfl,HNIL.out,Or.inl ⟨fun h=>by have:=h.2.1;omega,rfl,rfl⟩,Below.refl _ _,fun k hk=>absurd hk (by simp [Value.ownBlock])⟩
  ·have h2b:decide (258<(zs.length:Int))=false:=by simp only [decide_eq_false_iff_not];omega
   by_cases hw:Within 0 1099511627776 zs
   ·have HW:=zh hw;have HA:=zh (ZdE _ zs 0 1099511627776 true w HV.out ⟨fun _=>hw,fun _=>rfl⟩ hz);obtain⟨n0,rs,hn0,hof⟩:=OfR.exists 40 (ups zs) (ZrN hw) (by rw [Zcd];omega) (by rw [Zcd];omega);have HOF:=zh hof;clear hw hof;obtain⟨N,hN⟩:∃N,zs.length=N:=⟨_,rfl⟩
    have HN:=zh hN;rw [hN] at h1 h1b h2 h2b hz HV HA ⊢;have hmk:=ZbS N (by omega) w;have HR0:=zh (RowI.made w N);have hb0:Hid (Below w.heap.size w (w.alloc (.cells (madeCells #[Value.int .i64 0] N) 3))):=zh ((Below.refl _ w).alloc (Nat.le_refl _) _);obtain⟨g,hg⟩:∃g,w.heap.size=g:=⟨_,rfl⟩
    have HG:=zh hg;rw [hg] at hmk HR0;clear hN hg;go_enter Tryz.func204,Tryz.ntmps204;go_wp2_with fail;refine HA.out.mono ?_;rintro e w1 ⟨rfl,rfl⟩;go_wp2_with fail;generalize w1.alloc (.cells (madeCells #[Value.int .i64 0] N) 3)=w2 at *;go_wp2_with fail
    go_loopw [26] (fun i wr=>∃k:Nat,k<=N/\i=.int .i64 k/\RowI wr g (ups (zs.take k)++List.replicate (N-k) 0)/\Below w1.heap.size w1 wr) (fun i _=>N-(intOf i).toNat)
    case atStart=>exact⟨0,Nat.zero_le _,rfl,by simpa [ups] using HR0.out,hb0.out⟩
    case round=>
     obtain⟨k,hk,rfl,hR,hB⟩:=hrel;have HR:=zh hR;have HB:=zh hB;have hlen:(ups (zs.take k)).length=k:=by rw [Zcd,List.length_take,HN.out];omega
     by_cases hlk:k<N
     ·have hki:(k:Int)<(N:Int):=by omega
      obtain⟨b1,o1,k1,he1,c1⟩:=HV.out.cell (show k<zs.length by rw [HN.out];exact hlk);rw [HN.out] at he1;simp only [Value.slice.injEq] at he1;obtain⟨rfl,_,rfl⟩:=he1;have c1:=(HB.out.cell (ZaE c1)).trans c1;obtain⟨x,hx⟩:∃x,zs.getD k 0=x:=⟨_,rfl⟩
      rw [hx] at c1;obtain⟨c2,f2,hset⟩:=RowI.cell hR (i:=k) (by rw [List.length_append,hlen,List.length_replicate];omega);generalize (ups (zs.take k)++List.replicate (N-k) 0).getD k 0=y at c2
      have hnext:Hid (RowI (wr.setCell ⟨g,k,none⟩ (.int .i64 (if x<1 then 1 else x))) g (ups (zs.take (k+1))++List.replicate (N-(k+1)) 0)):=zh (by
       have h1:=hset (if x<1 then 1 else x);have h2:=Zmx (ups (zs.take k)) (N-(k+1)) (if x<1 then 1 else x);rw [hlen,show N-(k+1)+1=N-k by omega] at h2;rw [h2] at h1
       have h3:ups (zs.take (k+1))=ups (zs.take k)++[if x<1 then 1 else x]:=by
        unfold ups;rw [List.take_add_one,List.map_append,List.getElem?_eq_getElem (show k<zs.length by rw [HN.out];exact hlk)];congr 1;have hx2:zs[k]'(by rw [HN.out];exact hlk)=x:=by rw [<-hx,List.getD_eq_getElem?_getD,List.getElem?_eq_getElem (show k<zs.length by rw [HN.out];exact hlk)];rfl
        simp only [Option.toList_some,List.map_cons,List.map_nil,hx2]
       rw [h3];exact h1)
      have hbn:Hid (Below w1.heap.size w1 (wr.setCell ⟨g,k,none⟩ (.int .i64 (if x<1 then 1 else x)))):=zh (HB.out.setCell (p:=⟨g,k,none⟩) (by rw [HG.out];exact Nat.le_refl g) _);clear hR hB hset hx hlen;go_wp2_with fail;go_roundw
      case rel=>exact⟨k+1,by omega,by go_num,hnext.out,hbn.out⟩
      case measure=>simp [intOf];omega
     ·have hki:¬(k:Int)<(N:Int):=by omega
      obtain rfl:N=k:=by omega
      have h:=HR.out.ints N N (by rw [List.length_append,hlen];simp)
      have e:ups (zs.take N)++List.replicate (N-N) 0=ups zs:=by
       rw [Nat.sub_self,List.replicate_zero,List.append_nil,List.take_of_length_le (Nat.le_of_eq HN.out)]
      rw [e] at h;have HI:=zh h;have hul:Hid ((ups zs).length=N):=zh (by rw [Zcd,HN.out]);clear h e hR hB hlen;go_wp2_with fail
      refine(Zju _ (ups zs) wr HI.out (by rw [hul.out];omega) (by rw [hul.out];omega) (fun z hz=>by
       obtain⟨x,hx,rfl⟩:=List.mem_map.1 hz;have:=HW.out x hx;split<;>omega)).mono ?_
      rintro e w3 ⟨r,ds,rfl,hi,hd,hb,ho⟩;have HO3:Hid (∀k,r.ownBlock=some k->w1.heap.size<=k):=zh (fun k hk=>Nat.le_trans HB.out.size (ho k hk));have HI3:=zh hi;have HD3:=zh hd;have HB3:Hid (Below w1.heap.size w1 w3):=zh (HB.out.trans (hb.mono HB.out.size));have HU3:Hid (IsInts w3 (.slice (some ⟨g,0,none⟩) N N) (ups zs)):=zh (HI.out.below hb);clear hi hd hb ho;go_wp2_with fail
      go_loopg [5,8] n0 (fun gk vw vl wr=>∃(ws ds:List Int),IsInts wr vw ws/\IsInts wr vl ds/\DepP ws ds/\ws.length=N/\(∀z∈ws,0<=z/\z<=1099511627776)/\OfR gk ws rs/\Below w1.heap.size w1 wr/\(∀k,vl.ownBlock=some k->w1.heap.size<=k))
      case atStart=>exact⟨ups zs,ds,HU3.out,HI3.out,HD3.out,hul.out,fun z hz=>by
       obtain⟨x,hx,rfl⟩:=List.mem_map.1 hz;have:=HW.out x hx;split<;>omega,HOF.out,HB3.out,HO3.out⟩
      case round=>
       obtain⟨ws,ds2,hws,hds,hdp,hwl,hwb,hor,hB4,hO4⟩:=hrel;have HO4:=zh hO4;clear hO4;have HWS:=zh hws;have HDS:=zh hds;have HDP:=zh hdp;have HWL:=zh hwl;have HWB:=zh hwb;have HOR:=zh hor;have HB4:=zh hB4;have hdl:ds2.length<=9223372036854775807:=by have:=hdp.len;omega
       have HLG:=zh (ZlC _ ds2 wr hds hdl);obtain⟨a1,cap1,rfl,_⟩:=hws;obtain⟨a2,cap2,rfl,_⟩:=hds;clear hdp hwl hwb hor hB4;by_cases hgt:20<lg ds2
       ·have hno:Hid (¬∀y∈ds2,y<=20):=zh (fun h=>by have:=(Zs1 (zs:=ds2) (b:=20) (by decide)).2 h;omega)
        obtain⟨k,hk,hor2⟩:∃k,gk=k+1/\OfR k (hvs ws) rs:=by
         cases HOR.out with
         | now _ _ k1 k2=>exact absurd (by rw [HDP.out.same k1];exact k2) hno.out
         | later n _ ys _ k1 k2 k3=>exact⟨n,rfl,k3⟩
        have HOR2:=zh hor2;have HK:=zh hk;obtain⟨G,hG⟩:∃G,lg ds2=G:=⟨_,rfl⟩
        rw [hG] at hgt HLG;clear hor2 hk hG;go_wp2_with fail;refine HLG.out.mono ?_;rintro e w4 ⟨rfl,rfl⟩;go_wp2_with fail;refine(Znl _ ws w4 HWS.out (by rw [HWL.out];omega) (fun z hz=>by have:=HWB.out z hz;omega)).mono ?_;rintro e w5 ⟨r5,rfl,hi5,hb5⟩;have HI5:=zh hi5;have HB5:=zh hb5;clear hi5 hb5;go_wp2_with fail;refine(Zju _ (hvs ws) w5 HI5.out (by rw [Zck,HWL.out];omega) (by rw [Zck,HWL.out];omega) (ZdJ (fun z hz=>by have:=HWB.out z hz;omega))).mono ?_;rintro e w6 ⟨r6,ds6,rfl,hi6,hd6,hb6,ho6⟩;have HO6:Hid (∀k,r6.ownBlock=some k->w1.heap.size<=k):=zh (fun k hk=>Nat.le_trans (Nat.le_trans HB4.out.size HB5.out.size) (ho6 k hk));have HI6:=zh hi6;have HD6:=zh hd6;have HB6:=zh hb6;clear hi6 hd6 hb6 ho6;go_wp2_with fail
        go_roundg k
        case rel=>exact⟨hvs ws,ds6,HI5.out.below HB6.out,HI6.out,HD6.out,by rw [Zck,HWL.out],ZdJ (fun z hz=>by have:=HWB.out z hz;omega),HOR2.out,HB4.out.trans ((HB5.out.mono HB4.out.size).trans (HB6.out.mono (Nat.le_trans HB4.out.size HB5.out.size))),HO6.out⟩
        case measure=>have:=HK.out;omega
       ·have hrs:Hid (rs=ds2):=zh (by
         have h20:∀y∈ds2,y<=20:=(Zs1 (zs:=ds2) (b:=20) (by decide)).1 (by omega);cases HOR.out with
         | now _ _ k1 k2=>exact k1.same HDP.out
         | later n _ ys _ k1 k2 k3=>exact absurd (by rw [<-HDP.out.same k1];exact h20) k2)
        obtain⟨G,hG⟩:∃G,lg ds2=G:=⟨_,rfl⟩
        rw [hG] at hgt HLG;clear hG;go_wp2_with fail;refine HLG.out.mono ?_;rintro e w4 ⟨rfl,rfl⟩;go_wp2_with fail;go_ret2;exact⟨_,ds2,0,rfl,HDS.out,Or.inr ⟨⟨by have:=HN.out;omega,by have:=HN.out;omega,HW.out⟩,⟨n0,hn0,by rw [<-hrs.out];exact HOF.out⟩,rfl⟩,HB4.out,HO4.out⟩
   ·have HW:=zh hw;have HA:=zh (ZdE _ zs 0 1099511627776 false w HV.out ⟨fun h=>(by cases h),fun h=>absurd h hw⟩ hz);clear hw;go_enter Tryz.func204,Tryz.ntmps204;go_wp2_with fail;refine HA.out.mono ?_;rintro e w1 ⟨rfl,rfl⟩;go_wp2_with fail;go_ret2;exact⟨_,[],1,rfl,HNIL.out,Or.inl ⟨fun h=>HW.out h.2.2,rfl,rfl⟩,Below.refl _ _,fun k hk=>absurd hk (by simp [Value.ownBlock])⟩
end
end Go.Proofs.YtlfpbcadcfaboaaGreatDoor

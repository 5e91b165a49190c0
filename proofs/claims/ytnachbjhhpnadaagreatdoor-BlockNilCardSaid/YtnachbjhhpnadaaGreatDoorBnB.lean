import Derived.Test.YtnachbjhhpnadaaGreatDoorBcA
import Derived.Test.YtnachbjhhpnadaaGreatDoorBcB
import Derived.Test.YtnachbjhhpnadaaGreatDoorBcC
import Derived.Test.YtnachbjhhpnadaaGreatDoorBcH
import Derived.Test.YtnachbjhhpnadaaGreatDoorBcI
import Derived.Test.YtnachbjhhpnadaaGreatDoorBcJ
import Derived.Test.YtnachbjhhpnadaaGreatDoorBcO
import Derived.Test.YtnachbjhhpnadaaGreatDoorBcP
import Derived.Test.YtnachbjhhpnadaaGreatDoorBnA
import Derived.Deep.RegionLaw
import Derived.Deep.QuietTactic
import Derived.Outline
import Derived.Shelf.Abstract
import Derived.Deep.RegionHeld3
import Derived.Laws.OwnMore
import Derived.Laws.AppendOwnNone
import Derived.StillTailTactics
import Derived.BigQuiet
import Derived.Laws.EntriesVeiled
set_option linter.unusedVariables false
set_option linter.unusedSimpArgs false
set_option maxHeartbeats 8000000
set_option maxRecDepth 100000
namespace Go.Proofs.YtnachbjhhpnadaaGreatDoor
section
open Go.RowKit BwtM
theorem ZwI (T:List UInt8) (i:Nat):bt T i<256:=by unfold bt;exact UInt8.toNat_lt _
def Txt (w:World) (g:Nat) (s:ByteArray):Prop:=w.cell? ⟨g,0,none⟩=some (.string s)
end
section
open Go.RowKit BwtM SrtM PkM
theorem Zuy (ps qs:List Part):pflat (ps++qs)=pflat ps++pflat qs:=by unfold pflat;rw [List.flatMap_append]
theorem ZvS (p:Part):pflat [p]=pcells p:=by unfold pflat;simp
theorem Zul:∀(ps:List Part),(pflat ps).length=ps.length*3
 | []=>rfl
 | p::ps=>by
  have h:pflat (p::ps)=pcells p++pflat ps:=rfl;rw [h,List.length_append,Zul ps,List.length_cons];have:(pcells p).length=3:=rfl;omega
theorem Zwh {ps:List Part} {p:Part}:(pflat (ps++[p]))[ps.length*3]?=some (.int .i64 (p.lo:Int))/\(pflat (ps++[p]))[ps.length*3+1]?=some (.int .i64 (p.hi:Int))/\(pflat (ps++[p]))[ps.length*3+2]?=some (.bool p.begun):=by
 rw [Zuy,ZvS];refine⟨?_,?_,?_⟩<;>rw [List.getElem?_append_right (by rw [Zul];omega),Zul]
 ·rw [Nat.sub_self];rfl
 ·rw [show ps.length*3+1-ps.length*3=1 by omega];rfl
 ·rw [show ps.length*3+2-ps.length*3=2 by omega];rfl
theorem SOwnP.slice {W:World} {B:Nat} {v:Value} {ps:List Part} (h:SOwnP W B v ps):∃a cap,v=.slice a ps.length cap:=Zax h
theorem SOwnP.top {W:World} {B:Nat} {v:Value} {ps:List Part} {p:Part} (h:SOwnP W B v (ps++[p])) :
  ∃g cap,v=.slice (some ⟨g,0,none⟩) (ps.length+1) cap/\B<=g/\g<W.heap.size/\ps.length+1<=cap/\W.cell? ⟨g,ps.length*3,none⟩=some (.int .i64 (p.lo:Int))/\W.cell? ⟨g,ps.length*3+1,none⟩=some (.int .i64 (p.hi:Int))/\W.cell? ⟨g,ps.length*3+2,none⟩=some (.bool p.begun) /\
   W.frozen? ⟨g,ps.length*3+2,none⟩=false:=by
 have hc:=h;have hl:(ps++[p]).length=ps.length+1:=by simp
 rcases h.2 with⟨rfl,h0⟩|⟨g,cap,cur,rfl,hB,hg,hnc,hcm,hcs,ht⟩
 ·rw [hl] at h0;omega
 ·obtain⟨f1,f2,f3⟩:=Zwh (ps:=ps) (p:=p);refine⟨g,cap,by rw [hl],hB,(Array.getElem?_eq_some_iff.1 hg).1,by omega,?_,?_,?_,frozen_of_row _ _ _ _ _ hg⟩
  ·have:=World.ownsRow.cells hc (g:=g) rfl _ _ f1
   rwa [Addr.add_lit,Nat.zero_add] at this
  ·have:=World.ownsRow.cells hc (g:=g) rfl _ _ f2
   rwa [Addr.add_lit,Nat.zero_add] at this
  ·have:=World.ownsRow.cells hc (g:=g) rfl _ _ f3
   rwa [Addr.add_lit,Nat.zero_add] at this
theorem SOwnP.pop {W:World} {B g cap:Nat} {ps:List Part} {p:Part} (h:SOwnP W B (.slice (some ⟨g,0,none⟩) (ps.length+1) cap) (ps++[p])):SOwnP W B (.slice (some ⟨g,0,none⟩) ps.length cap) ps:=by
 refine⟨Zul ps,?_⟩;rcases h.2 with⟨h0,_⟩|⟨g',cap',cur,he,hB,hg,hnc,hcm,hcs,ht⟩
 ·simp at h0
 ·simp only [Value.slice.injEq,Option.some.injEq,Addr.mk.injEq] at he;obtain⟨⟨rfl,_,_⟩,_,rfl⟩:=he;have hl:(ps++[p]).length=ps.length+1:=by simp
  rw [hl] at ht hnc;refine Or.inr ⟨g,cap,cur,rfl,hB,hg,by omega,hcm,hcs,?_⟩;rw [Zuy] at ht;have h2:=congrArg (List.take (ps.length*3)) ht;rw [List.take_take,List.take_append_of_le_length (by rw [Zul];exact Nat.le_refl _),List.take_of_length_le (l:=pflat ps) (by rw [Zul];exact Nat.le_refl _),show min (ps.length*3) ((ps.length+1)*3)=ps.length*3 by omega] at h2;exact h2
theorem SOwnP.mark {W:World} {B g cap:Nat} {ps:List Part} {p:Part} (h:SOwnP W B (.slice (some ⟨g,0,none⟩) (ps.length+1) cap) (ps++[p])):SOwnP (W.setCell ⟨g,ps.length*3+2,none⟩ (.bool true)) B (.slice (some ⟨g,0,none⟩) (ps.length+1) cap) (ps++[⟨p.lo,p.hi,true⟩]):=by
 have hl:(ps++[p]).length=ps.length+1:=by simp
 have hl2:(ps++[(⟨p.lo,p.hi,true⟩:Part)]).length=ps.length+1:=by simp
 refine⟨Zul _,?_⟩;rcases h.2 with⟨h0,_⟩|⟨g',cap',cur,he,hB,hg,hnc,hcm,hcs,ht⟩
 ·simp at h0
 ·simp only [Value.slice.injEq,Option.some.injEq,Addr.mk.injEq] at he;obtain⟨⟨rfl,_,_⟩,_,rfl⟩:=he;rw [hl] at ht hnc;rw [hl2];refine Or.inr ⟨g,cap,_,rfl,hB,heap_setCell_same _ _ _ _ _ _ hg,hnc,hcm,by rw [Array.size_setIfInBounds];exact hcs,?_⟩;rw [Array.toList_setIfInBounds,List.take_set,ht,Zuy,Zuy,List.set_append_right _ _ (by rw [Zul];omega),Zul,show ps.length*3+2-ps.length*3=2 by omega];rfl
theorem ZvT:(Tryz.prog.info? 308).map (fun i=>(i.zero,i.size,i.bytes))=some (some (.agg #[.int .i64 0,.int .i64 0,.bool false]),3,24):=by kernel_rfl
theorem Zuz {ops:Array Oper} {o:Oper} {a:Act} {K:Act->World->Prop} {Q:Exit->Act->World->Prop} {E:Prop} (W:World) (hg:o.guard=none) (s x:Operand)
  (ho:o.op=.call { callee:=.builtin .append,args:=#[s,x],argTypes:=#[274,274] })
  (B G m:Nat) (v:Value) (ps qs:List Part) (hm:qs.length=m) (hown:SOwnP W B v ps) (hs:a.eval s=v) (hx:a.eval x=.slice (some ⟨G,0,none⟩) m m) (hG:∀j u,(pflat qs)[j]?=some u->W.cell? ⟨G,j,none⟩=some u)
  (hlen:ps.length+m<=1000000) (hb:B<=W.heap.size)
  (h:∀v' w',SOwnP w' B v' (ps++qs)->Below B W w'->(∀k,k<W.heap.size->v.ownBlock≠some k->w'.heap[k]?=W.heap[k]?)->(∀k,v'.ownBlock=some k->v.ownBlock=some k\/W.heap.size<=k)->K (a.put o.dst v') w') :
  if Region.wanted o (yielded ops a.tmps)=true then Oper.wp Tryz.prog o a W K Q else E:=by
 obtain⟨i0,hi,hz0,hz1,hz2⟩:=info_parts ZvT;subst hm;refine ZaS hg s x 274 ho B 308 i0 (.agg #[.int .i64 0,.int .i64 0,.bool false]) 3 24 Tryz.underlying274 hi hz0 hz1 hz2 rfl (by decide) v ps.length (pflat ps) hs hown ⟨G,0,none⟩ qs.length qs.length (pflat qs) hx (Zul qs) ?_ ?_ ?_ ?_ hb ?_
 ·intro j u hu;have:=hG j u hu
  rwa [Addr.add_lit,Nat.zero_add]
 ·intro u hu;obtain⟨p,_,hp⟩:=List.mem_flatMap.1 hu;simp [pcells] at hp;rcases hp with rfl|rfl|rfl<;>rfl
 ·unfold maxLen;omega
 ·omega
 ·intro v' w' hown' hg' hv;refine h v' w' ?_ (Below.grown (Below.refl B W) hg' hb (fun j hj=>(World.ownsRow.lt hown j hj).1)) (fun k hk hne=>hg'.block k hk (fun e=>hne e.symm)) hv;unfold SOwnP;rw [List.length_append,Zuy];exact hown'
theorem KeyV.same {w w1:World} {vk:Value} {kb:List Nat} {bc n:Nat} {C:List Nat} {K:Nat->Nat} (h:KeyV w vk kb bc n C K) (he:∀g∈kb,w1.heap[g]?=w.heap[g]?):KeyV w1 vk kb bc n C K:=by
 obtain⟨F,caps,h1,h2,h3⟩:=h;exact⟨F,caps,h1,h2,fun w' h4 h5=>h3 w' (fun g hg=>(h4 g hg).trans (he g hg)) h5⟩
section
variable {B : Nat} {w w' : World} {b bo bc ba n : Nat} {vk vw : Value} {kb : List Nat} {S S' : SS}
theorem SoObj.drewN (h:SoObj w b bo bc ba n vk vw S) (m:Nat):SoObj (w.drewN m) b bo bc ba n vk vw S:=h
theorem SoObj.set3 (h:SoObj w b bo bc ba n vk vw S) (x:Nat):SoObj (w.setCell ⟨b,3,none⟩ (.int .i64 (x:Int))) b bo bc ba n vk vw { S with reach:=x }:=by
 obtain⟨F,h1,h2⟩:=h;exact⟨_,h1.set 3 _,(Zab _ _ (by omega)).trans h2.f0,(Zab _ _ (by omega)).trans h2.f1,(Zab _ _ (by omega)).trans h2.f2,Zak _ _ _,(Zab _ _ (by omega)).trans h2.f4,(Zab _ _ (by omega)).trans h2.f5,(Zab _ _ (by omega)).trans h2.f6,(Zab _ _ (by omega)).trans h2.f7,(Zab _ _ (by omega)).trans h2.f8,(Zab _ _ (by omega)).trans h2.f9,(Zab _ _ (by omega)).trans h2.f10⟩
theorem SoObj.set4 (h:SoObj w b bo bc ba n vk vw S) (x:Value):SoObj (w.setCell ⟨b,4,none⟩ x) b bo bc ba n x vw S:=by
 obtain⟨F,h1,h2⟩:=h;exact⟨_,h1.set 4 _,(Zab _ _ (by omega)).trans h2.f0,(Zab _ _ (by omega)).trans h2.f1,(Zab _ _ (by omega)).trans h2.f2,(Zab _ _ (by omega)).trans h2.f3,Zak _ _ _,(Zab _ _ (by omega)).trans h2.f5,(Zab _ _ (by omega)).trans h2.f6,(Zab _ _ (by omega)).trans h2.f7,(Zab _ _ (by omega)).trans h2.f8,(Zab _ _ (by omega)).trans h2.f9,(Zab _ _ (by omega)).trans h2.f10⟩
theorem SoObj.set5 (h:SoObj w b bo bc ba n vk vw S) (x:Value) (ps:List Part):SoObj (w.setCell ⟨b,5,none⟩ x) b bo bc ba n vk x { S with ps:=ps }:=by
 obtain⟨F,h1,h2⟩:=h;exact⟨_,h1.set 5 _,(Zab _ _ (by omega)).trans h2.f0,(Zab _ _ (by omega)).trans h2.f1,(Zab _ _ (by omega)).trans h2.f2,(Zab _ _ (by omega)).trans h2.f3,(Zab _ _ (by omega)).trans h2.f4,Zak _ _ _,(Zab _ _ (by omega)).trans h2.f6,(Zab _ _ (by omega)).trans h2.f7,(Zab _ _ (by omega)).trans h2.f8,(Zab _ _ (by omega)).trans h2.f9,(Zab _ _ (by omega)).trans h2.f10⟩
theorem SoObj.set6 (h:SoObj w b bo bc ba n vk vw S) (x:Nat):SoObj (w.setCell ⟨b,6,none⟩ (.int .i64 (x:Int))) b bo bc ba n vk vw { S with laid:=x }:=by
 obtain⟨F,h1,h2⟩:=h;exact⟨_,h1.set 6 _,(Zab _ _ (by omega)).trans h2.f0,(Zab _ _ (by omega)).trans h2.f1,(Zab _ _ (by omega)).trans h2.f2,(Zab _ _ (by omega)).trans h2.f3,(Zab _ _ (by omega)).trans h2.f4,(Zab _ _ (by omega)).trans h2.f5,Zak _ _ _,(Zab _ _ (by omega)).trans h2.f7,(Zab _ _ (by omega)).trans h2.f8,(Zab _ _ (by omega)).trans h2.f9,(Zab _ _ (by omega)).trans h2.f10⟩
theorem SoObj.set7 (h:SoObj w b bo bc ba n vk vw S) (x:Nat):SoObj (w.setCell ⟨b,7,none⟩ (.int .i64 (x:Int))) b bo bc ba n vk vw { S with first:=x }:=by
 obtain⟨F,h1,h2⟩:=h;exact⟨_,h1.set 7 _,(Zab _ _ (by omega)).trans h2.f0,(Zab _ _ (by omega)).trans h2.f1,(Zab _ _ (by omega)).trans h2.f2,(Zab _ _ (by omega)).trans h2.f3,(Zab _ _ (by omega)).trans h2.f4,(Zab _ _ (by omega)).trans h2.f5,(Zab _ _ (by omega)).trans h2.f6,Zak _ _ _,(Zab _ _ (by omega)).trans h2.f8,(Zab _ _ (by omega)).trans h2.f9,(Zab _ _ (by omega)).trans h2.f10⟩
theorem SoObj.set8 (h:SoObj w b bo bc ba n vk vw S) (x:Nat):SoObj (w.setCell ⟨b,8,none⟩ (.int .i64 (x:Int))) b bo bc ba n vk vw { S with second:=x }:=by
 obtain⟨F,h1,h2⟩:=h;exact⟨_,h1.set 8 _,(Zab _ _ (by omega)).trans h2.f0,(Zab _ _ (by omega)).trans h2.f1,(Zab _ _ (by omega)).trans h2.f2,(Zab _ _ (by omega)).trans h2.f3,(Zab _ _ (by omega)).trans h2.f4,(Zab _ _ (by omega)).trans h2.f5,(Zab _ _ (by omega)).trans h2.f6,(Zab _ _ (by omega)).trans h2.f7,Zak _ _ _,(Zab _ _ (by omega)).trans h2.f9,(Zab _ _ (by omega)).trans h2.f10⟩
theorem SoObj.set9 (h:SoObj w b bo bc ba n vk vw S) (x:Nat):SoObj (w.setCell ⟨b,9,none⟩ (.int .i64 (x:Int))) b bo bc ba n vk vw { S with made:=x }:=by
 obtain⟨F,h1,h2⟩:=h;exact⟨_,h1.set 9 _,(Zab _ _ (by omega)).trans h2.f0,(Zab _ _ (by omega)).trans h2.f1,(Zab _ _ (by omega)).trans h2.f2,(Zab _ _ (by omega)).trans h2.f3,(Zab _ _ (by omega)).trans h2.f4,(Zab _ _ (by omega)).trans h2.f5,(Zab _ _ (by omega)).trans h2.f6,(Zab _ _ (by omega)).trans h2.f7,(Zab _ _ (by omega)).trans h2.f8,Zak _ _ _,(Zab _ _ (by omega)).trans h2.f10⟩
theorem SoObj.swap (h:SoObj w b bo bc ba n vk vw S):SoObj ((w.setCell ⟨b,1,none⟩ (.slice (some ⟨ba,0,none⟩) n n)).setCell ⟨b,2,none⟩ (.slice (some ⟨bc,0,none⟩) n n)) b bo ba bc n vk vw { S with cls:=S.asd,asd:=S.cls }:=by
 obtain⟨F,h1,h2⟩:=h;refine⟨_,(h1.set 1 _).set 2 _,?_,?_,Zak _ _ _,?_,?_,?_,?_,?_,?_,?_,?_⟩
 ·exact(Zab _ _ (by omega)).trans ((Zab _ _ (by omega)).trans h2.f0)
 ·exact(Zab _ _ (by omega)).trans (Zak _ _ _)
 ·exact(Zab _ _ (by omega)).trans ((Zab _ _ (by omega)).trans h2.f3)
 ·exact(Zab _ _ (by omega)).trans ((Zab _ _ (by omega)).trans h2.f4)
 ·exact(Zab _ _ (by omega)).trans ((Zab _ _ (by omega)).trans h2.f5)
 ·exact(Zab _ _ (by omega)).trans ((Zab _ _ (by omega)).trans h2.f6)
 ·exact(Zab _ _ (by omega)).trans ((Zab _ _ (by omega)).trans h2.f7)
 ·exact(Zab _ _ (by omega)).trans ((Zab _ _ (by omega)).trans h2.f8)
 ·exact(Zab _ _ (by omega)).trans ((Zab _ _ (by omega)).trans h2.f9)
 ·exact(Zab _ _ (by omega)).trans ((Zab _ _ (by omega)).trans h2.f10)
theorem IsSo.drewN (h:IsSo B w b bo bc ba vk vw n kb S) (m:Nat):IsSo B (w.drewN m) b bo bc ba vk vw n kb S:=⟨h.obj,h.ro,h.rc,h.ra,h.lo,h.lc,h.la,h.wt,h.apart,h.wap,h.base,h.kap⟩
theorem IsSo.inAsd (h:IsSo B w b bo bc ba vk vw n kb S) (ht:Touch (·=ba) w w') (l:List Nat) (hl:l.length=n) (hr:RowI w' ba (toI l)):IsSo B w' b bo bc ba vk vw n kb { S with asd:=l }:=by
 obtain⟨a1,a2,a3,a4,a5,a6⟩:=h.apart;obtain⟨F,o1,o2⟩:=h.obj
 exact⟨⟨F,o1.other ht (fun e=>a3 e),⟨o2.f0,o2.f1,o2.f2,o2.f3,o2.f4,o2.f5,o2.f6,o2.f7,o2.f8,o2.f9,o2.f10⟩⟩,h.ro.other ht (fun e=>a5 e),h.rc.other ht (fun e=>a6 e),hr,h.lo,h.lc,hl,h.wt.same (fun k hk=>ht.block k (h.wt.lt k hk).2 (h.wap k hk).2.2.2),h.apart,h.wap,h.base,
  fun g hg=>⟨Nat.lt_of_lt_of_le (h.kap g hg).1 ht.size,(h.kap g hg).2⟩⟩
def KbSame (w w':World) (kb:List Nat):Prop:=∀g∈kb,w'.heap[g]?=w.heap[g]?
end
end
section
open Go.RowKit BwtM SrtM PkM
theorem ZvC (w:World) (lo hi:Int) (bg:Bool):(w.alloc (.cells #[.int .i64 lo,.int .i64 hi,.bool bg] 308)).cell? ⟨w.heap.size,0,none⟩=some (.int .i64 lo)/\(w.alloc (.cells #[.int .i64 lo,.int .i64 hi,.bool bg] 308)).cell? ⟨w.heap.size,1,none⟩=some (.int .i64 hi)/\(w.alloc (.cells #[.int .i64 lo,.int .i64 hi,.bool bg] 308)).cell? ⟨w.heap.size,2,none⟩=some (.bool bg):=
 ⟨by rw [cell_of_row _ _ 0 _ _ _ (heap_alloc_new _ _)];rfl,by rw [cell_of_row _ _ 1 _ _ _ (heap_alloc_new _ _)];rfl,by rw [cell_of_row _ _ 2 _ _ _ (heap_alloc_new _ _)];rfl⟩
theorem ZuD (lo hi:Nat) (bg:Bool) (w:World) (h:lo<=hi) (hn:hi<=1000000):Calls Tryz.prog 250 #[.agg #[.int .i64 (lo:Int),.int .i64 (hi:Int),.bool bg]] w fun e w'=>e=.returned (.int .i64 ((hi-lo:Nat):Int))/\Below w.heap.size w w':=by
 obtain⟨c0,c1,c2⟩:=ZvC w lo hi bg;have HB:=zh ((Below.refl w.heap.size w).alloc (Nat.le_refl _) (.cells #[.int .i64 (lo:Int),.int .i64 (hi:Int),.bool bg] 308));obtain⟨d,hd⟩:∃d,hi-lo=d:=⟨_,rfl⟩
 have hdi:(hi:Int)-(lo:Int)=(d:Int):=by omega
 rw [hd];go_enter Tryz.func250,Tryz.ntmps250;go_wp2_with fail;go_ret;exact⟨rfl,HB.out⟩
theorem Zu7 (lo hi:Nat) (bg:Bool) (w:World) (hl:lo<=1000000) (hn:hi<=1000000):Calls Tryz.prog 271 #[.agg #[.int .i64 (lo:Int),.int .i64 (hi:Int),.bool bg]] w fun e w'=>e=.returned (.int .i64 (((⟨lo,hi,bg⟩:Part).mid:Nat):Int))/\Below w.heap.size w w':=by
 obtain⟨c0,c1,c2⟩:=ZvC w lo hi bg;have HB:=zh ((Below.refl w.heap.size w).alloc (Nat.le_refl _) (.cells #[.int .i64 (lo:Int),.int .i64 (hi:Int),.bool bg] 308));obtain⟨d,hd⟩:∃d,lo+hi=d:=⟨_,rfl⟩
 have hdi:(lo:Int)+(hi:Int)=(d:Int):=by omega
 have hdd:d<=2000000:=by omega
 have hq:(d:Int) / 2=((d / 2:Nat):Int):=by omega
 have hm:(⟨lo,hi,bg⟩:Part).mid=d / 2:=by show(lo+hi) / 2=_;rw [hd]
 rw [hm];have hqd:d / 2<=d:=Nat.div_le_self _ _;generalize d / 2=q at *;clear hm hd;go_enter Tryz.func271,Tryz.ntmps271;go_wp2_with fail;go_ret;exact⟨rfl,HB.out⟩
theorem ZvU (w:World):Calls Tryz.prog 154 #[.pointer none] w fun e w'=>e=.returned (.bool false)/\w'=w:=by
 go_enter Tryz.func154,Tryz.ntmps154;go_wp2_with fail;go_ret;exact⟨rfl,rfl⟩
theorem ZvV (k:Int) (w:World):Calls Tryz.prog 153 #[.pointer none,.int .i64 k] w fun e w'=>e=.returned (.int .i64 0)/\w'=w:=by
 go_enter Tryz.func153,Tryz.ntmps153;go_wp2_with fail;go_ret;exact⟨rfl,rfl⟩
section
variable {B : Nat} {b bo bc ba n : Nat} {vk vw : Value} {kb : List Nat} {S : SS}
theorem ZvW (d:Nat) (f:Nat) (xs:Array Value) (W:World):(Op.equalIn (d+1) 78 (.func (.func f) #[] xs) .nilFunc).run Tryz.prog W=.ok false W:=by
 have hu:=Tryz.underlying78;simp [Op.equalIn,run_underlying hu]
theorem ZwC (f:Nat) (xs:Array Value) (W:World):(binOp .eql 78 (.func (.func f) #[] xs) .nilFunc).run Tryz.prog W=.ok (.bool false) W:=by
 simp only [binOp];simp [Op.equal,Op.maxDepth,ZvW 9999 f xs W]
theorem Zwi (f:Nat) (xs:Array Value) (w:World) (h:SoObj w b bo bc ba n (.func (.func f) #[] xs) vw S):Calls Tryz.prog 154 #[.pointer (some ⟨b,0,none⟩)] w fun e w'=>e=.returned (.bool false)/\w'=w:=by
 obtain⟨_,_,_,_,c4,_⟩:=h.cells;have he:=fun W=>ZwC f xs W
 go_enter Tryz.func154,Tryz.ntmps154;go_wp2_with fail;go_ret;exact⟨rfl,rfl⟩
theorem Zvt (g m cap:Nat) (hm:m<=cap) (hb:m<=1000000) (W:World):(Instr.slice 274 (.slice (some ⟨g,0,none⟩) (m+1) cap) none (some (.int .i64 (m:Int))) none).run Tryz.prog W=.ok (.slice (some ⟨g,0,none⟩) m cap) W:=by
 have hs:(sizeOf (Tryz.prog.elem 274)).run Tryz.prog W=.ok 3 W:=by kernel_rfl
 have e:((m:Int)).toNat=m:=by omega
 rw [run_slice_h W 274 (some ⟨g,0,none⟩) (m+1) cap (by kernel_rfl) .i64 _ (by omega) (by omega),hs];simp [Result.andThen,sliced,Addr.add]
def popS (S:SS) (ps:List Part):SS:={ S with ps:=ps,laid:=0,first:=0,second:=0 }
theorem IsSo.pop {w w':World} {ps:List Part} {g L cap:Nat} (h:IsSo B w b bo bc ba vk (.slice (some ⟨g,0,none⟩) (L+1) cap) n kb S) (ht:Touch (·=b) w w') (ho:SoObj w' b bo bc ba n vk (.slice (some ⟨g,0,none⟩) L cap) (popS S ps)) (hw:SOwnP w B (.slice (some ⟨g,0,none⟩) L cap) ps) :
  IsSo B w' b bo bc ba vk (.slice (some ⟨g,0,none⟩) L cap) n kb (popS S ps):=by
 obtain⟨a1,a2,a3,a4,a5,a6⟩:=h.apart;have hwap:∀k,(Value.slice (some ⟨g,0,none⟩) L cap).ownBlock=some k->k≠b/\k≠bo/\k≠bc/\k≠ba:=fun k hk=>h.wap k hk
 exact⟨ho,h.ro.other ht (fun e=>a1 e.symm),h.rc.other ht (fun e=>a2 e.symm),h.ra.other ht (fun e=>a3 e.symm),h.lo,h.lc,h.la,hw.same (fun k hk=>ht.block k (hw.lt k hk).2 (hwap k hk).1),h.apart,hwap,h.base,fun g' hg=>⟨Nat.lt_of_lt_of_le (h.kap g' hg).1 ht.size,(h.kap g' hg).2⟩⟩
theorem ZuW (w:World) (ps:List Part) (p:Part) (h:IsSo B w b bo bc ba vk vw n kb S) (hps:S.ps=ps++[p]) (hl:ps.length<=1000000):Calls Tryz.prog 251 #[.pointer (some ⟨b,0,none⟩)] w fun e w'=>
  e=.returned (.tuple #[])/\∃vw',IsSo B w' b bo bc ba vk vw' n kb (popS S ps)/\Touch (·=b) w w':=by
 have H:=zh h;have hw:=h.wt;rw [hps] at hw;obtain⟨g,cap,rfl,hBg,hgl,hcap,c0,c1,c2,f2⟩:=hw.top;have HPOP:=zh hw.pop;have HW:=zh hw;obtain⟨_,_,_,_,_,d5,d6,d7,d8,_⟩:=h.obj.cells;have e5:=h.obj.frozen 5 (by omega);have e6:=h.obj.frozen 6 (by omega);have e7:=h.obj.frozen 7 (by omega);have e8:=h.obj.frozen 8 (by omega);have HO:=zh h.obj;have HPS:=zh hps;obtain⟨L,hL⟩:∃L,ps.length=L:=⟨_,rfl⟩
 rw [hL] at HPOP hcap d5 hl H HW HO;have hLi:(((L+1:Nat):Nat):Int)-1=(L:Int):=by omega
 have hLi2:((L:Int)+1)-1=(L:Int):=by omega
 have hLw:IntKind.i64.wrap (L:Int)=(L:Int):=IntWalk.i64_in _ (by omega);have hsl:=fun W=>Zvt g L cap (by omega) hl W
 have hLw2:IntKind.i64.wrap ((L:Int)+1-1)=(L:Int):=by rw [hLi2];exact hLw
 clear h hw hps hL c0 c1 c2 f2;go_enter Tryz.func251,Tryz.ntmps251;go_wp2_with fail
 go_still_tail 14,(by kernel_rfl)
 change wpList _ _ _ _ _ (w.drewN 1);have HF:Hid (SoObj (((((w.drewN 1).setCell ⟨b,5,none⟩ (.slice (some ⟨g,0,none⟩) L cap)).setCell ⟨b,6,none⟩ (.int .i64 0)).setCell ⟨b,7,none⟩ (.int .i64 0)).setCell ⟨b,8,none⟩ (.int .i64 0)) b bo bc ba n vk (.slice (some ⟨g,0,none⟩) L cap) (popS S ps)):=zh ((((HO.out.drewN 1).set5 _ ps).set6 0).set7 0 |>.set8 0);have HT:Hid (Touch (·=b) w (((((w.drewN 1).setCell ⟨b,5,none⟩ (.slice (some ⟨g,0,none⟩) L cap)).setCell ⟨b,6,none⟩ (.int .i64 0)).setCell ⟨b,7,none⟩ (.int .i64 0)).setCell ⟨b,8,none⟩ (.int .i64 0))):=zh (Zaa (Zaa (Zaa (Zaa (Zad _ _ _)))));have HR:Hid (IsSo B (((((w.drewN 1).setCell ⟨b,5,none⟩ (.slice (some ⟨g,0,none⟩) L cap)).setCell ⟨b,6,none⟩ (.int .i64 0)).setCell ⟨b,7,none⟩ (.int .i64 0)).setCell ⟨b,8,none⟩ (.int .i64 0)) b bo bc ba vk (.slice (some ⟨g,0,none⟩) L cap) n kb (popS S ps)):=zh (H.out.pop HT.out HF.out HPOP.out);clear HF;go_wp2_with fail;refine bodyPost_end (results_none rfl _ _ _) rfl ?_;exact⟨rfl,_,HR.out,HT.out⟩
end
end
section
open Go.RowKit BwtM SrtM PkM
section
variable {B : Nat} {b bo bc ba n : Nat} {vk vw : Value} {kb : List Nat} {S : SS}
def passSS (S:SS) (r:Nat) (ps:List Part):SS:={ S with reach:=r,ps:=ps }
theorem IsSo.grown {w w':World} {vw':Value} {ps:List Part} {S':SS} (h:IsSo B w b bo bc ba vk vw n kb S) (ht:Pushed w w' vw vw') (hw:SOwnP w' B vw' ps) (x:Nat) (hp:SoObj w' b bo bc ba n vk vw S->True)
  (hS:S'={ S with ps:=ps }):IsSo B (w'.setCell ⟨b,5,none⟩ vw') b bo bc ba vk vw' n kb S':=by
 subst hS;obtain⟨a1,a2,a3,a4,a5,a6⟩:=h.apart;have tt:Touch (fun k=>vw.ownBlock=some k) w w':=⟨ht.os,ht.tape,ht.output,ht.size,fun k hk hn=>ht.block k hk hn⟩
 have hob:SoObj w' b bo bc ba n vk vw S:=h.obj.other tt (fun e=>(h.wap b e).1 rfl);have hro:=h.ro.other tt (fun e=>(h.wap bo e).2.1 rfl);have hrc:=h.rc.other tt (fun e=>(h.wap bc e).2.2.1 rfl);have hra:=h.ra.other tt (fun e=>(h.wap ba e).2.2.2 rfl)
 have hwap:∀k,vw'.ownBlock=some k->k≠b/\k≠bo/\k≠bc/\k≠ba:=fun k hk=>by
  rcases ht.own k hk with e|e
  ·exact h.wap k e
  ·have l1:=h.obj.lt;have l2:=h.ro.lt;have l3:=h.rc.lt;have l4:=h.ra.lt;exact⟨by omega,by omega,by omega,by omega⟩
 have t2:Touch (·=b) w' (w'.setCell ⟨b,5,none⟩ vw'):=Zaa (Touch.refl _ _)
 exact⟨hob.set5 vw' ps,hro.other t2 (fun e=>a1 e.symm),hrc.other t2 (fun e=>a2 e.symm),hra.other t2 (fun e=>a3 e.symm),h.lo,h.lc,h.la,hw.same (fun k hk=>t2.block k (hw.lt k hk).2 (hwap k hk).1),h.apart,hwap,h.base,
  fun g hg=>⟨Nat.lt_of_lt_of_le (h.kap g hg).1 (Nat.le_trans ht.size t2.size),(h.kap g hg).2.1,(h.kap g hg).2.2.1,(h.kap g hg).2.2.2.1,(h.kap g hg).2.2.2.2.1,fun e=>by
   rcases ht.own g e with e2|e2
   ·exact(h.kap g hg).2.2.2.2.2 e2
   ·have:=(h.kap g hg).1;omega⟩⟩
end
section
variable {B : Nat} {b bo bc ba n : Nat} {vk vw : Value} {kb : List Nat} {S : SS}
theorem ZvG {W:World} {v v':Value} {w':World} (o:Obj) (hB:Below B (W.alloc o) w') (h1:∀k,k<(W.alloc o).heap.size->v.ownBlock≠some k->w'.heap[k]?=(W.alloc o).heap[k]?) (h2:∀k,v'.ownBlock=some k->v.ownBlock=some k\/(W.alloc o).heap.size<=k):Pushed W w' v v':=by
 have hs:(W.alloc o).heap.size=W.heap.size+1:=by simp
 exact⟨hB.os,hB.tape,hB.output,by have:=hB.size;omega,fun k hk hn=>(h1 k (by omega) hn).trans (Zam hk),fun k hk=>(h2 k hk).imp id (fun h=>by omega)⟩
def PassP (B:Nat) (w w':World) (b bo bc ba n:Nat) (vk:Value) (kb:List Nat) (S':SS) (e:Ending):Prop:=
 e=.returned (.tuple #[])/\∃vw',IsSo B w' b bo bc ba vk vw' n kb S'/\Below B w w'/\KbSame w w' kb
theorem Zuo (w:World) (r f:Nat) (xs:Array Value) (h:IsSo B w b bo bc ba vk vw n kb S) (hps:S.ps=[]) (hb:B<=w.heap.size) (hn:n<=1000000) :
  Calls Tryz.prog 209 #[.pointer (some ⟨b,0,none⟩),.int .i64 (r:Int),.func (.func f) #[] xs] w fun e w'=>
  PassP B w w' b bo bc ba n (.func (.func f) #[] xs) kb (passSS S r [⟨0,n,false⟩]) e:=by
 have H:=zh h;have hw:=h.wt;rw [hps] at hw;have HPS:=zh hps;obtain⟨d0,_,_,d3,d4,d5,_⟩:=h.obj.cells;have e3:=h.obj.frozen 3 (by omega);have e4:=h.obj.frozen 4 (by omega);obtain⟨wa,wc,hwe⟩:=hw.slice;have hwe:vw=.slice wa 0 wc:=hwe;subst hwe
 have HO1:Hid (IsSo B ((w.setCell ⟨b,3,none⟩ (.int .i64 (r:Int))).setCell ⟨b,4,none⟩ (.func (.func f) #[] xs)) b bo bc ba (.func (.func f) #[] xs) (.slice wa 0 wc) n kb { S with reach:=r }):=zh (by
  have t:Touch (·=b) w ((w.setCell ⟨b,3,none⟩ (.int .i64 (r:Int))).setCell ⟨b,4,none⟩ (.func (.func f) #[] xs)):=Zaa (Zaa (Touch.refl _ _));have o:=(h.obj.set3 r).set4 (.func (.func f) #[] xs);obtain⟨a1,a2,a3,a4,a5,a6⟩:=h.apart;exact⟨o,h.ro.other t (fun e=>a1 e.symm),h.rc.other t (fun e=>a2 e.symm),h.ra.other t (fun e=>a3 e.symm),h.lo,h.lc,h.la,h.wt.same (fun k hk=>t.block k (h.wt.lt k hk).2 (h.wap k hk).1),h.apart,h.wap,h.base,fun g hg=>⟨Nat.lt_of_lt_of_le (h.kap g hg).1 t.size,(h.kap g hg).2⟩⟩)
 have HT1:Hid (Touch (·=b) w ((w.setCell ⟨b,3,none⟩ (.int .i64 (r:Int))).setCell ⟨b,4,none⟩ (.func (.func f) #[] xs))):=zh (Zaa (Zaa (Touch.refl _ _)));clear h hw hps;go_enter Tryz.func209,Tryz.ntmps209;go_wp2_with fail;generalize (w.setCell ⟨b,3,none⟩ (.int .i64 (r:Int))).setCell ⟨b,4,none⟩ (.func (.func f) #[] xs)=w1 at *;clear d0 d3 d4 d5 e3 e4;obtain⟨d0,_,_,_,_,d5,_⟩:=HO1.out.obj.cells;have HO2:=zh (HO1.out.drewN 1);have HBS:Hid (B<=(w1.drewN 1).heap.size):=zh (Nat.le_trans hb HT1.out.size);have HT2:Hid (Touch (·=b) w (w1.drewN 1)):=zh (HT1.out.trans (Zad (·=b) w1 1) (fun _ h=>Or.inl h))
 have HBX:Hid (∀j u,(pflat [⟨0,n,false⟩])[j]?=some u->((w1.drewN 1).alloc (.cells #[.int .i64 0,.int .i64 (n:Int),.bool false] 308)).cell? ⟨w1.heap.size,j,none⟩=some u):=zh (fun j u hu=>by
  have hh:=heap_alloc_new (w1.drewN 1) (.cells #[.int .i64 0,.int .i64 (n:Int),.bool false] 308);have e:=cell_of_row ((w1.drewN 1).alloc (.cells #[.int .i64 0,.int .i64 (n:Int),.bool false] 308)) w1.heap.size j _ _ _ hh;rw [e,<-hu];simp [pflat,pcells])
 have HAL:Hid (B<=((w1.drewN 1).alloc (.cells #[.int .i64 0,.int .i64 (n:Int),.bool false] 308)).heap.size):=zh (by have:=HBS.out;simp at this ⊢;omega)
 have HOWA:Hid (SOwnP ((w1.drewN 1).alloc (.cells #[.int .i64 0,.int .i64 (n:Int),.bool false] 308)) B (.slice wa 0 wc) []):=zh (by
  have h0:=HO2.out.wt;rw [show({ S with reach:=r }:SS).ps=[] from HPS.out] at h0;exact World.ownsRow.alloc h0 _)
 have dA5:((w1.alloc (.cells #[.int .i64 0,.int .i64 (n:Int),.bool false] 308)).drew).cell? ⟨b,5,none⟩=some (.slice wa 0 wc):=(World.cell?_alloc_some w1 _ _ (by rw [d5];rfl)).trans d5;have dA0:((w1.alloc (.cells #[.int .i64 0,.int .i64 (n:Int),.bool false] 308)).drew).cell? ⟨b,0,none⟩=some (.slice (some ⟨bo,0,none⟩) n n):=(World.cell?_alloc_some w1 _ _ (by rw [d0];rfl)).trans d0
 go_region_law (first
  | (refine Zuz ((w1.drewN 1).alloc (.cells #[.int .i64 0,.int .i64 (n:Int),.bool false] 308)) (by rfl) _ _ (by rfl) B w1.heap.size 1 (.slice wa 0 wc) [] [⟨0,n,false⟩] (by rfl) HOWA.out (by rfl) (by rfl) HBX.out (by simp) HAL.out ?_;intro v' w3 hO3 hB3 hk3 hf3;have hb3:w3.heap[b]?=w1.heap[b]?:=((hk3 b (by have:=HO2.out.obj.lt;simp at this ⊢;omega) (fun e=>(HO2.out.wap b e).1 rfl)).trans (Zam HO2.out.obj.lt));have f5:w3.cell? ⟨b,5,none⟩=some (.slice wa 0 wc):=((World.cell?_of_block (w:=w1) (a:=⟨b,5,none⟩) hb3).trans d5);have g5:w3.frozen? ⟨b,5,none⟩=false:=((World.frozen?_of_block (w:=w1) (a:=⟨b,5,none⟩) hb3).trans (HO2.out.obj.frozen 5 (by omega)));obtain⟨va,vc,rfl⟩:=hO3.slice;have HO3:=zh hO3;have HB3:=zh hB3;have HK3:=zh hk3;have HF3:=zh hf3;clear hO3 hB3 hk3 hf3 hb3))
 all_goals
  have HG:Hid (IsSo B (w3.setCell ⟨b,5,none⟩ (.slice va ([]++[(⟨0,n,false⟩:Part)]).length vc)) b bo bc ba (.func (.func f) #[] xs) (.slice va ([]++[(⟨0,n,false⟩:Part)]).length vc) n kb (passSS S r [⟨0,n,false⟩])):=zh (HO2.out.grown (ZvG _ HB3.out HK3.out HF3.out) HO3.out 0 (fun _=>trivial) rfl);have HBB:Hid (Below B w (w3.setCell ⟨b,5,none⟩ (.slice va ([]++[(⟨0,n,false⟩:Part)]).length vc))):=zh (((HT2.out.below hb (fun k hk=>by have:=HO2.out.base.1;have e:k=b:=hk;omega)).trans (((Below.refl B (w1.drewN 1)).alloc HBS.out _).trans HB3.out)).setCell (p:=⟨b,5,none⟩) HO2.out.base.1 _)
  have HKB:Hid (KbSame w (w3.setCell ⟨b,5,none⟩ (.slice va ([]++[(⟨0,n,false⟩:Part)]).length vc)) kb):=zh (fun g hg=>by
   obtain⟨k1,k2,k3,k4,k5,k6⟩:=HO2.out.kap g hg;rw [heap_setCell_other _ _ _ _ (by exact k2)];have hsz:((w1.drewN 1).alloc (.cells #[.int .i64 0,.int .i64 (n:Int),.bool false] 308)).heap.size=(w1.drewN 1).heap.size+1:=by simp
   rw [HK3.out g (by omega) (fun e=>k6 e),Zam k1];exact HT2.out.block g (by have:=(H.out.kap g hg).1;exact this) k2)
  clear f5 g5;go_wp2_with fail;refine bodyPost_end (results_none rfl _ _ _) rfl ?_;exact⟨rfl,_,HG.out,HBB.out,HKB.out⟩
end
end
section
open Go.RowKit BwtM SrtM PkM
theorem pinfo:(Tryz.prog.info? 308).map (·.size)=some 3:=by kernel_rfl
section
variable {B : Nat} {b bo bc ba n : Nat} {vk vw : Value} {kb : List Nat} {S : SS}
theorem Zve (w:World) (ps:List Part) (p:Part) (h:IsSo B w b bo bc ba vk vw n kb S) (hps:S.ps=ps++[p]) (hl:ps.length<=1000000) (hlo:p.lo<=p.hi) (hhi:p.hi<=1000000) (hs:p.hi-p.lo<2) (hb:B<=w.heap.size) :
  Calls Tryz.prog 247 #[.pointer (some ⟨b,0,none⟩),.agg #[.int .i64 (p.lo:Int),.int .i64 (p.hi:Int),.bool p.begun]] w fun e w'=>
  PassP B w w' b bo bc ba n vk kb (popS S ps) e:=by
 have hg:=heap_alloc_new w (.cells #[.int .i64 (p.lo:Int),.int .i64 (p.hi:Int),.bool p.begun] 308);have hB0:=(Below.refl w.heap.size w).alloc (Nat.le_refl _) (.cells #[.int .i64 (p.lo:Int),.int .i64 (p.hi:Int),.bool p.begun] 308);have H0:=zh (h.below hB0);have HB0:=zh hB0;have HKB:=zh h.kap;have hu:=Tryz.underlying308;have hi:=pinfo;have HSZ:=zh (fun W=>ZuD p.lo p.hi p.begun W hlo hhi);have hd2:((p.hi-p.lo:Nat):Int)<2:=by omega
 have HPB:=zh h.base.1;obtain⟨d,hd⟩:∃d,p.hi-p.lo=d:=⟨_,rfl⟩
 rw [hd] at HSZ hd2;clear hB0 h hd;go_enter Tryz.func247,Tryz.ntmps247;go_wp2_with fail;generalize w.alloc (.cells #[.int .i64 (p.lo:Int),.int .i64 (p.hi:Int),.bool p.begun] 308)=w1 at *;go_wp2_with (refine wpList_load_row rfl 308 _ rfl w.heap.size rfl 308 #[.int .i64 (p.lo:Int),.int .i64 (p.hi:Int),.bool p.begun] (0,0) _ hg hu rfl hi ?_);refine(HSZ.out _).mono ?_;rintro e w2 ⟨rfl,hb2⟩;have H2:=zh (H0.out.below hb2);have HB2:=zh (HB0.out.trans (hb2.mono HB0.out.size));clear hb2 hg;go_wp2_with fail;refine(ZuW w2 ps p H2.out hps hl).mono ?_;rintro e w3 ⟨rfl,vw',hs3,ht3⟩;have H3:=zh hs3;have HT3:=zh ht3;have HBB:Hid (Below B w w3):=zh ((HB2.out.mono hb).trans (ht3.below (Nat.le_trans hb HB2.out.size) (fun k hk=>by have:=HPB.out;have e:k=b:=hk;omega)))
 have HKS:Hid (KbSame w w3 kb):=zh (fun g hg=>by
  obtain⟨k1,k2,_⟩:=HKB.out g hg;rw [ht3.block g (Nat.lt_of_lt_of_le k1 HB2.out.size) k2];exact HB2.out.block g k1)
 clear hs3 ht3;go_wp2_with fail
 first
  | refine bodyPost_end (results_none rfl _ _ _) rfl ?_
  | refine bodyPost_ret (results_none rfl _ _ _) rfl ?_
 exact⟨rfl,_,H3.out,HBB.out,HKS.out⟩
theorem IsSo.marked {w:World} {ps:List Part} {p:Part} {g L cap:Nat} (h:IsSo B w b bo bc ba vk (.slice (some ⟨g,0,none⟩) (L+1) cap) n kb S) (hL:ps.length=L) (hps:S.ps=ps++[p]) :
  IsSo B (w.setCell ⟨g,L*3+2,none⟩ (.bool true)) b bo bc ba vk (.slice (some ⟨g,0,none⟩) (L+1) cap) n kb { S with ps:=ps++[⟨p.lo,p.hi,true⟩] }/\Touch (·=g) w (w.setCell ⟨g,L*3+2,none⟩ (.bool true)):=by
 subst hL;obtain⟨a1,a2,a3,a4,a5,a6⟩:=h.apart;have t:Touch (·=g) w (w.setCell ⟨g,ps.length*3+2,none⟩ (.bool true)):=Zaa (Touch.refl _ _);obtain⟨n1,n2,n3,n4⟩:=h.wap g rfl;have hw:=h.wt;rw [hps] at hw;obtain⟨F,o1,o2⟩:=h.obj;exact⟨⟨⟨F,o1.other t (fun e=>n1 e.symm),⟨o2.f0,o2.f1,o2.f2,o2.f3,o2.f4,o2.f5,o2.f6,o2.f7,o2.f8,o2.f9,o2.f10⟩⟩,h.ro.other t (fun e=>n2 e.symm),h.rc.other t (fun e=>n3 e.symm),h.ra.other t (fun e=>n4 e.symm),h.lo,h.lc,h.la,hw.mark,h.apart,h.wap,h.base,fun g' hg=>⟨Nat.lt_of_lt_of_le (h.kap g' hg).1 t.size,(h.kap g' hg).2⟩⟩,t⟩
theorem ZuX (g m cap:Nat) (hb:m<=1000000) (W:World):(Instr.indexAt 274 (.slice (some ⟨g,0,none⟩) (m+1) cap) (.int .i64 (m:Int))).run Tryz.prog W=.ok (.pointer (some ⟨g,m*3,none⟩)) W:=by
 have hs:(sizeOf (Tryz.prog.elem 274)).run Tryz.prog W=.ok 3 W:=by kernel_rfl
 have e:((m:Int)).toNat=m:=by omega
 rw [run_indexAt_slice W 274 _ _ _ .i64 _ (by kernel_rfl),if_pos (by omega),hs];show Result.ok (Value.pointer (some (Addr.add ⟨g,0,none⟩ (((m:Int)).toNat*3)))) W=_;rw [Addr.add_lit,Nat.zero_add,e]
theorem ZvX {w5 wA w6:World} {L cap g pb:Nat} {lo hi:Int} {bg:Bool} {o:Obj} (h:IsSo B w5 b bo bc ba vk (.slice (some ⟨g,0,none⟩) (L+1) cap) n kb S) (hb:b<w5.heap.size) (hp:pb<w5.heap.size) (hg:g≠pb) (hA:Below w5.heap.size w5 wA)
  (hk:∀k,k<(wA.alloc o).heap.size->(Value.slice (some ⟨g,0,none⟩) (L+1) cap).ownBlock≠some k->w6.heap[k]?=(wA.alloc o).heap[k]?)
  (hS:∀W,Below w5.heap.size w5 W->W.cell? ⟨b,5,none⟩=some (.slice (some ⟨g,0,none⟩) (L+1) cap)/\W.cell? ⟨pb,0,none⟩=some (.int .i64 lo)/\W.cell? ⟨pb,1,none⟩=some (.int .i64 hi)/\W.cell? ⟨pb,2,none⟩=some (.bool bg)) :
  w6.cell? ⟨b,5,none⟩=some (.slice (some ⟨g,0,none⟩) (L+1) cap)/\w6.cell? ⟨pb,0,none⟩=some (.int .i64 lo)/\w6.cell? ⟨pb,1,none⟩=some (.int .i64 hi)/\w6.cell? ⟨pb,2,none⟩=some (.bool bg):=by
 have hs:(wA.alloc o).heap.size=wA.heap.size+1:=by simp
 have hz:=hA.size;obtain⟨s0,s1,s2,s3⟩:=hS _ (hA.alloc hA.size o);have kb6:=hk b (by omega) (fun e=>(h.wap b e).1 rfl);have kp6:=hk pb (by omega) (fun e=>hg (by simpa [Value.ownBlock] using e));exact⟨(World.cell?_of_block (w:=wA.alloc o) (a:=⟨b,5,none⟩) kb6).trans s0,(World.cell?_of_block (w:=wA.alloc o) (a:=⟨pb,0,none⟩) kp6).trans s1,(World.cell?_of_block (w:=wA.alloc o) (a:=⟨pb,1,none⟩) kp6).trans s2,(World.cell?_of_block (w:=wA.alloc o) (a:=⟨pb,2,none⟩) kp6).trans s3⟩
theorem Zvu {w5 wA w6:World} {L cap g:Nat} {o:Obj} (h:IsSo B w5 b bo bc ba vk (.slice (some ⟨g,0,none⟩) (L+1) cap) n kb S) (hb:b<w5.heap.size) (hA:Below w5.heap.size w5 wA)
  (hk:∀k,k<(wA.alloc o).heap.size->(Value.slice (some ⟨g,0,none⟩) (L+1) cap).ownBlock≠some k->w6.heap[k]?=(wA.alloc o).heap[k]?):w6.frozen? ⟨b,5,none⟩=false:=by
 have hs:(wA.alloc o).heap.size=wA.heap.size+1:=by simp
 have hz:=hA.size;have kb6:=hk b (by omega) (fun e=>(h.wap b e).1 rfl);exact(World.frozen?_of_block (w:=w5) (a:=⟨b,5,none⟩) (kb6.trans ((Zam (by omega)).trans (hA.block b hb)))).trans (h.obj.frozen 5 (by omega))
def halvesS (S:SS) (ps:List Part) (p:Part):SS:={ S with ps:=ps++[⟨p.lo,p.hi,true⟩]++[⟨p.mid,p.hi,false⟩]++[⟨p.lo,p.mid,false⟩] }
theorem ZvH (w:World) (ps:List Part) (p:Part) (h:IsSo B w b bo bc ba vk vw n kb S) (hps:S.ps=ps++[p]) (hl:ps.length<=900000) (hlo:p.lo<=p.hi) (hhi:p.hi<=1000000) (hs:2<=p.hi-p.lo) (hb:B<=w.heap.size) :
  Calls Tryz.prog 247 #[.pointer (some ⟨b,0,none⟩),.agg #[.int .i64 (p.lo:Int),.int .i64 (p.hi:Int),.bool p.begun]] w fun e w'=>
  PassP B w w' b bo bc ba n vk kb (halvesS S ps p) e:=by
 have hg:=heap_alloc_new w (.cells #[.int .i64 (p.lo:Int),.int .i64 (p.hi:Int),.bool p.begun] 308);have hB0:=(Below.refl w.heap.size w).alloc (Nat.le_refl _) (.cells #[.int .i64 (p.lo:Int),.int .i64 (p.hi:Int),.bool p.begun] 308);have H0:=zh (h.below hB0);have HB0:=zh hB0;have HSZ0:Hid ((w.alloc (.cells #[.int .i64 (p.lo:Int),.int .i64 (p.hi:Int),.bool p.begun] 308)).heap.size=w.heap.size+1):=zh (by simp);have HKB:=zh h.kap;have hu:=Tryz.underlying308;have hi:=pinfo;have HSZ:=zh (fun W=>ZuD p.lo p.hi p.begun W hlo hhi);have HMID:=zh (fun W=>Zu7 p.lo p.hi p.begun W (by omega) hhi);have HBS:=zh h.base.1;have HLT:=zh h.obj.lt;have HWL:=zh (fun k hk=>(h.wt.lt k hk).2);have hd2:¬((p.hi-p.lo:Nat):Int)<2:=by omega
 have hmh:p.mid<=1000000:=by show(p.lo+p.hi) / 2<=_;omega
 have hmb:(⟨p.lo,p.hi,p.begun⟩:Part).mid=p.mid:=rfl;rw [hmb] at HMID;obtain⟨d,hd⟩:∃d,p.hi-p.lo=d:=⟨_,rfl⟩
 rw [hd] at HSZ hd2;have HPS:=zh hps;clear hB0 h hd hps hmb;go_enter Tryz.func247,Tryz.ntmps247;go_wp2_with fail;generalize w.alloc (.cells #[.int .i64 (p.lo:Int),.int .i64 (p.hi:Int),.bool p.begun] 308)=w1 at *;go_wp2_with (refine wpList_load_row rfl 308 _ rfl w.heap.size rfl 308 #[.int .i64 (p.lo:Int),.int .i64 (p.hi:Int),.bool p.begun] (0,0) _ hg hu rfl hi ?_);refine(HSZ.out _).mono ?_;rintro e w2 ⟨rfl,hb2⟩;have H2:=zh (H0.out.below hb2);have HB2:=zh (HB0.out.trans (hb2.mono HB0.out.size));have HG2:Hid (w2.heap[w.heap.size]?=some (.cells #[.int .i64 (p.lo:Int),.int .i64 (p.hi:Int),.bool p.begun] 308 (0,0))):=zh ((hb2.block _ (by rw [HSZ0.out];omega)).trans hg);clear hb2 hg;have hw:=H2.out.wt;rw [HPS.out] at hw;obtain⟨g,cap,rfl,hBg,hgl,hcap,c0,c1,c2,f2⟩:=hw.top;have HGL:=zh hgl;have HBG:=zh hBg;obtain⟨L,hL⟩:∃L,ps.length=L:=⟨_,rfl⟩
 have HL:=zh hL;rw [hL] at H2 hcap c2 f2 hl;have hix:=fun W=>ZuX g L cap (by omega) W
 have hLi2:((L:Int)+1)-1=(L:Int):=by omega
 have hLw:IntKind.i64.wrap (L:Int)=(L:Int):=IntWalk.i64_in _ (by omega);have hLw2:IntKind.i64.wrap ((L:Int)+1-1)=(L:Int):=by rw [hLi2];exact hLw
 obtain⟨_,_,_,_,_,d5,_⟩:=H2.out.obj.cells;have H3:=zh ((H2.out.drewN 1).marked (ps:=ps) (p:=p) hL HPS.out);clear hw hBg hgl c0 c1 hL;go_wp2_with fail
 go_still_tail 12,(by kernel_rfl)
 change wpList _ _ _ _ _ (w2.drewN 1);go_wp2_with fail;have HT3:Hid (Touch (·=g) w2 ((w2.drewN 1).setCell ⟨g,L*3+2,none⟩ (.bool true))):=zh ((Zad (·=g) w2 1).trans H3.out.2 (fun _ h=>Or.inl h));have H3s:=zh H3.out.1;clear c2 f2 d5 hix H3;generalize (w2.drewN 1).setCell ⟨g,L*3+2,none⟩ (.bool true)=w5 at *
 have hgw:g≠w.heap.size:=fun e=>by
  have:=HWL.out g rfl;omega
 obtain⟨pb,hpb⟩:∃pb,w.heap.size=pb:=⟨_,rfl⟩
 have HPBE:=zh hpb;rw [hpb] at HG2 HSZ0 hgw HLT;have hpb2:pb<w2.heap.size:=(Array.getElem?_eq_some_iff.1 HG2.out).1;have HG5:Hid (w5.heap[pb]?=some (.cells #[.int .i64 (p.lo:Int),.int .i64 (p.hi:Int),.bool p.begun] 308 (0,0))):=zh ((HT3.out.block pb hpb2 (fun e=>hgw e.symm)).trans HG2.out);have HBL5:Hid (b<w5.heap.size/\pb<w5.heap.size/\B<=w5.heap.size):=zh ⟨H3s.out.obj.lt,Nat.lt_of_lt_of_le hpb2 HT3.out.size,Nat.le_trans hb (Nat.le_trans HB2.out.size HT3.out.size)⟩;obtain⟨_,_,_,_,_,d5,_⟩:=H3s.out.obj.cells;have q0:w5.cell? ⟨pb,0,none⟩=some (.int .i64 (p.lo:Int)):=by rw [cell_of_row _ _ 0 _ _ _ HG5.out];rfl
 have q1:w5.cell? ⟨pb,1,none⟩=some (.int .i64 (p.hi:Int)):=by rw [cell_of_row _ _ 1 _ _ _ HG5.out];rfl
 have q2:w5.cell? ⟨pb,2,none⟩=some (.bool p.begun):=by rw [cell_of_row _ _ 2 _ _ _ HG5.out];rfl
 have HXX:Hid (∀W,Below w5.heap.size w5 W->W.cell? ⟨b,5,none⟩=some (.slice (some ⟨g,0,none⟩) (L+1) cap)/\W.cell? ⟨pb,0,none⟩=some (.int .i64 (p.lo:Int))/\W.cell? ⟨pb,1,none⟩=some (.int .i64 (p.hi:Int))/\W.cell? ⟨pb,2,none⟩=some (.bool p.begun)/\W.heap[pb]?=some (.cells #[.int .i64 (p.lo:Int),.int .i64 (p.hi:Int),.bool p.begun] 308 (0,0))):=zh (fun W hW=>by
  obtain⟨l1,l2,_⟩:=HBL5.out;exact⟨(hW.cell (p:=⟨b,5,none⟩) l1).trans d5,(hW.cell (p:=⟨pb,0,none⟩) l2).trans q0,(hW.cell (p:=⟨pb,1,none⟩) l2).trans q1,(hW.cell (p:=⟨pb,2,none⟩) l2).trans q2,(hW.block pb l2).trans HG5.out⟩)
 have HDD:Hid (Below w5.heap.size w5 w5.drew):=zh ⟨rfl,rfl,rfl,Nat.le_refl _,fun _ _=>rfl⟩
 have HBX:Hid (∀W:World,∀j u,(pflat [⟨p.mid,p.hi,false⟩,⟨p.lo,p.mid,false⟩])[j]?=some u->(W.alloc (.cells #[.int .i64 (p.mid:Int),.int .i64 (p.hi:Int),.bool false,.int .i64 (p.lo:Int),.int .i64 (p.mid:Int),.bool false] 308)).cell? ⟨W.heap.size,j,none⟩=some u):=zh (fun W j u hu=>by
  have hh:=heap_alloc_new W (.cells #[.int .i64 (p.mid:Int),.int .i64 (p.hi:Int),.bool false,.int .i64 (p.lo:Int),.int .i64 (p.mid:Int),.bool false] 308);rw [cell_of_row _ _ j _ _ _ hh,<-hu];simp [pflat,pcells])
 have HOW:Hid (∀W,Below w5.heap.size w5 W->SOwnP (W.alloc (.cells #[.int .i64 (p.mid:Int),.int .i64 (p.hi:Int),.bool false,.int .i64 (p.lo:Int),.int .i64 (p.mid:Int),.bool false] 308)) B (.slice (some ⟨g,0,none⟩) (L+1) cap) (ps++[⟨p.lo,p.hi,true⟩])):=zh (fun W hW=>by
  have h0:=H3s.out.wt;exact World.ownsRow.alloc (h0.same (fun k hk=>hW.block k (h0.lt k hk).2)) _)
 have HLE:Hid ((ps++[(⟨p.lo,p.hi,true⟩:Part)]).length+2<=1000000):=zh (by rw [List.length_append,HL.out];simp;omega)
 have HWB:Hid (∀W:World,Below w5.heap.size w5 W->B<=(W.alloc (.cells #[.int .i64 (p.mid:Int),.int .i64 (p.hi:Int),.bool false,.int .i64 (p.lo:Int),.int .i64 (p.mid:Int),.bool false] 308)).heap.size):=zh (fun W hW=>by
  have h1:=hW.size;have h2:=HBL5.out.2.2;simp;omega)
 have HGP:Hid (g≠pb):=zh hgw;have HPN:Hid (pb≠b):=zh (by have:=HLT.out;omega);have hSS:(fun W:World=>W.cell? ⟨b,5,none⟩=some (.slice (some ⟨g,0,none⟩) (L+1) cap)/\W.cell? ⟨pb,0,none⟩=some (.int .i64 (p.lo:Int))/\W.cell? ⟨pb,1,none⟩=some (.int .i64 (p.hi:Int))/\W.cell? ⟨pb,2,none⟩=some (.bool p.begun)) w5.drew:=⟨d5,q0,q1,q2⟩
 refine Zdg 19 (fun W:World=>W.cell? ⟨b,5,none⟩=some (.slice (some ⟨g,0,none⟩) (L+1) cap)/\W.cell? ⟨pb,0,none⟩=some (.int .i64 (p.lo:Int))/\W.cell? ⟨pb,1,none⟩=some (.int .i64 (p.hi:Int))/\W.cell? ⟨pb,2,none⟩=some (.bool p.begun)) (by kernel_rfl) ?_;refine Zag (i:=0) rfl (by kernel_rfl) (by kernel_rfl) (by kernel_rfl) (by kernel_rfl) (fun _ _ _ h=>h) (v:=?_) (Or.inl ⟨by rfl,?_⟩) hSS ?_;rotate_left
 ·rintro W ⟨k5,kp0,kp1,kp2⟩
  go_simp
  try with_reducible rfl
 try simp only [Act.put,List.setIfInBounds_toArray,List.set_cons_zero,List.set_cons_succ]
 refine Zag (i:=1) rfl (by kernel_rfl) (by kernel_rfl) (by kernel_rfl) (by kernel_rfl) (fun _ _ _ h=>h) (v:=?_) (Or.inl ⟨by rfl,?_⟩) hSS ?_;rotate_left
 ·rintro W ⟨k5,kp0,kp1,kp2⟩
  go_simp
  try with_reducible rfl
 try simp only [Act.put,List.setIfInBounds_toArray,List.set_cons_zero,List.set_cons_succ]
 refine Zag (i:=2) rfl (by kernel_rfl) (by kernel_rfl) (by kernel_rfl) (by kernel_rfl) (fun _ _ _ h=>h) (v:=?_) (Or.inl ⟨by rfl,?_⟩) hSS ?_;rotate_left
 ·rintro W ⟨k5,kp0,kp1,kp2⟩
  go_simp
  try with_reducible rfl
 try simp only [Act.put,List.setIfInBounds_toArray,List.set_cons_zero,List.set_cons_succ]
 refine Zag (i:=3) rfl (by kernel_rfl) (by kernel_rfl) (by kernel_rfl) (by kernel_rfl) (fun _ _ _ h=>h) (v:=?_) (Or.inl ⟨by rfl,?_⟩) hSS ?_;rotate_left
 ·rintro W ⟨k5,kp0,kp1,kp2⟩
  go_simp
  try with_reducible rfl
 try simp only [Act.put,List.setIfInBounds_toArray,List.set_cons_zero,List.set_cons_succ]
 refine Zag (i:=4) rfl (by kernel_rfl) (by kernel_rfl) (by kernel_rfl) (by kernel_rfl) (fun _ _ _ h=>h) (v:=?_) (Or.inl ⟨by rfl,?_⟩) hSS ?_;rotate_left
 ·rintro W ⟨k5,kp0,kp1,kp2⟩
  go_simp
  try with_reducible rfl
 try simp only [Act.put,List.setIfInBounds_toArray,List.set_cons_zero,List.set_cons_succ]
 refine Zag (i:=5) rfl (by kernel_rfl) (by kernel_rfl) (by kernel_rfl) (by kernel_rfl) (fun _ _ _ h=>h) (v:=?_) (Or.inl ⟨by rfl,?_⟩) hSS ?_;rotate_left
 ·rintro W ⟨k5,kp0,kp1,kp2⟩
  go_simp
  try with_reducible rfl
 try simp only [Act.put,List.setIfInBounds_toArray,List.set_cons_zero,List.set_cons_succ]
 refine Zag (i:=7) rfl (by kernel_rfl) (by kernel_rfl) (by kernel_rfl) (by kernel_rfl) (fun _ _ _ h=>h) (v:=?_) (Or.inl ⟨by rfl,?_⟩) hSS ?_;rotate_left
 ·rintro W ⟨k5,kp0,kp1,kp2⟩
  go_simp
  try with_reducible rfl
 try simp only [Act.put,List.setIfInBounds_toArray,List.set_cons_zero,List.set_cons_succ]
 refine Zag (i:=8) rfl (by kernel_rfl) (by kernel_rfl) (by kernel_rfl) (by kernel_rfl) (fun _ _ _ h=>h) (v:=?_) (Or.inl ⟨by rfl,?_⟩) hSS ?_;rotate_left
 ·rintro W ⟨k5,kp0,kp1,kp2⟩
  go_simp
  try with_reducible rfl
 try simp only [Act.put,List.setIfInBounds_toArray,List.set_cons_zero,List.set_cons_succ]
 refine Zag (i:=10) rfl (by kernel_rfl) (by kernel_rfl) (by kernel_rfl) (by kernel_rfl) (fun _ _ _ h=>h) (v:=?_) (Or.inl ⟨by rfl,?_⟩) hSS ?_;rotate_left
 ·rintro W ⟨k5,kp0,kp1,kp2⟩
  go_simp
  try with_reducible rfl
 try simp only [Act.put,List.setIfInBounds_toArray,List.set_cons_zero,List.set_cons_succ]
 refine Zag (i:=11) rfl (by kernel_rfl) (by kernel_rfl) (by kernel_rfl) (by kernel_rfl) (fun _ _ _ h=>h) (v:=?_) (Or.inl ⟨by rfl,?_⟩) hSS ?_;rotate_left
 ·rintro W ⟨k5,kp0,kp1,kp2⟩
  go_simp
  try with_reducible rfl
 try simp only [Act.put,List.setIfInBounds_toArray,List.set_cons_zero,List.set_cons_succ]
 refine Zag (i:=12) rfl (by kernel_rfl) (by kernel_rfl) (by kernel_rfl) (by kernel_rfl) (fun _ _ _ h=>h) (v:=?_) (Or.inl ⟨by rfl,?_⟩) hSS ?_;rotate_left
 ·rintro W ⟨k5,kp0,kp1,kp2⟩
  go_simp
  try with_reducible rfl
 try simp only [Act.put,List.setIfInBounds_toArray,List.set_cons_zero,List.set_cons_succ]
 have HSS2:Hid (∀W,Below w5.heap.size w5 W->(fun W:World=>W.cell? ⟨b,5,none⟩=some (.slice (some ⟨g,0,none⟩) (L+1) cap)/\W.cell? ⟨pb,0,none⟩=some (.int .i64 (p.lo:Int))/\W.cell? ⟨pb,1,none⟩=some (.int .i64 (p.hi:Int))/\W.cell? ⟨pb,2,none⟩=some (.bool p.begun)) W):=zh (fun W hW=>by
  obtain⟨k5,kp0,kp1,kp2,_⟩:=HXX.out W hW;exact⟨k5,kp0,kp1,kp2⟩)
 clear HXX;refine Zao (rs:=[6]) (by kernel_rfl) (by simp) ?_;intro i hi;simp only [List.mem_cons,List.not_mem_nil,or_false] at hi;subst hi;refine ZaJ rfl ?_;intro K hK
 go_simp
 go_at_call 271
 refine(HMID.out _).mono ?_;rintro e wA1 ⟨rfl,hbA⟩;have hbC1:Below w5.heap.size w5 wA1:=HDD.out.trans hbA;have hS1:=HSS2.out wA1 hbC1;refine hK _ _ ⟨fun _=>hS1,?_⟩
 try simp only [Act.put,List.setIfInBounds_toArray,List.set_cons_zero,List.set_cons_succ]
 clear hK hbA;refine Zag (i:=9) rfl (by kernel_rfl) (by kernel_rfl) (by kernel_rfl) (by kernel_rfl) (fun _ _ _ h=>h) (v:=?_) (Or.inl ⟨by rfl,?_⟩) hS1 ?_;rotate_left
 ·rintro W ⟨k5,kp0,kp1,kp2⟩
  go_simp
  try with_reducible rfl
 try simp only [Act.put,List.setIfInBounds_toArray,List.set_cons_zero,List.set_cons_succ]
 refine Zao (rs:=[13]) (by kernel_rfl) (by simp) ?_;intro i hi;simp only [List.mem_cons,List.not_mem_nil,or_false] at hi;subst hi;refine ZaJ rfl ?_;intro K hK
 go_simp
 go_at_call 271
 refine(HMID.out _).mono ?_;rintro e wA2 ⟨rfl,hbA⟩;have hbC2:Below w5.heap.size w5 wA2:=hbC1.trans (hbA.mono hbC1.size);have hS2:=HSS2.out wA2 hbC2;refine hK _ _ ⟨fun _=>hS2,?_⟩
 try simp only [Act.put,List.setIfInBounds_toArray,List.set_cons_zero,List.set_cons_succ]
 clear hK hbA;refine Zag (i:=14) rfl (by kernel_rfl) (by kernel_rfl) (by kernel_rfl) (by kernel_rfl) (fun _ _ _ h=>h) (v:=?_) (Or.inl ⟨by rfl,?_⟩) hS2 ?_;rotate_left
 ·rintro W ⟨k5,kp0,kp1,kp2⟩
  go_simp
  try with_reducible rfl
 try simp only [Act.put,List.setIfInBounds_toArray,List.set_cons_zero,List.set_cons_succ]
 have hbX:Below w5.heap.size w5 (wA2.alloc (.cells #[.int .i64 (p.mid:Int),.int .i64 (p.hi:Int),.bool false,.int .i64 (p.lo:Int),.int .i64 (p.mid:Int),.bool false] 308)):=hbC2.alloc hbC2.size _;have hSX:=HSS2.out _ hbX;refine Zao (rs:=[15]) (by kernel_rfl) (by simp) ?_;intro i hi;simp only [List.mem_cons,List.not_mem_nil,or_false] at hi;subst hi;refine ZaJ rfl ?_;intro K hK
 go_simp
 refine hK _ _ ⟨fun _=>hSX,?_⟩
 try simp only [Act.put,List.setIfInBounds_toArray,List.set_cons_zero,List.set_cons_succ]
 clear hK;refine Zao (rs:=[16]) (by kernel_rfl) (by simp) ?_;intro i hi;simp only [List.mem_cons,List.not_mem_nil,or_false] at hi;subst hi;refine ZaJ rfl ?_;intro K hK;refine Zuz (wA2.alloc (.cells #[.int .i64 (p.mid:Int),.int .i64 (p.hi:Int),.bool false,.int .i64 (p.lo:Int),.int .i64 (p.mid:Int),.bool false] 308)) (by rfl) _ _ (by rfl) B wA2.heap.size 2 (.slice (some ⟨g,0,none⟩) (L+1) cap) (ps++[⟨p.lo,p.hi,true⟩]) [⟨p.mid,p.hi,false⟩,⟨p.lo,p.mid,false⟩] (by rfl) (HOW.out wA2 hbC2) (by rfl) (by rfl) (HBX.out wA2) HLE.out (HWB.out wA2 hbC2) ?_;intro v' w6 hO6 hB6 hk6 hf6;have hS6:=ZvX H3s.out HBL5.out.1 HBL5.out.2.1 (fun e=>HGP.out e) hbC2 hk6 HSS2.out;refine hK _ _ ⟨fun _=>hS6,?_⟩
 try simp only [Act.put,List.setIfInBounds_toArray,List.set_cons_zero,List.set_cons_succ]
 clear hK;have hS6b:=hS6;obtain⟨f5,_⟩:=hS6;have g5:w6.frozen? ⟨b,5,none⟩=false:=Zvu H3s.out HBL5.out.1 hbC2 hk6;obtain⟨va,vc,hve⟩:=hO6.slice;obtain⟨L6,hL6⟩:∃L6,(ps++[(⟨p.lo,p.hi,true⟩:Part)]++[(⟨p.mid,p.hi,false⟩:Part),⟨p.lo,p.mid,false⟩]).length=L6:=⟨_,rfl⟩
 rw [hL6] at hve;subst hve;refine Zao (rs:=[17]) (by kernel_rfl) (by simp) ?_;intro i hi;simp only [List.mem_cons,List.not_mem_nil,or_false] at hi;subst hi;refine ZaJ rfl ?_;intro K hK
 go_simp
 refine hK _ _ ⟨fun _=>hS6b,?_⟩
 try simp only [Act.put,List.setIfInBounds_toArray,List.set_cons_zero,List.set_cons_succ]
 clear hK;refine Zao (rs:=[18]) (by kernel_rfl) (by simp) ?_;intro i hi;simp only [List.mem_cons,List.not_mem_nil,or_false] at hi;subst hi;refine ZaJ rfl ?_;intro K hK
 go_simp
 refine hK _ _ ⟨fun _=>hS6b,?_⟩
 try simp only [Act.put,List.setIfInBounds_toArray,List.set_cons_zero,List.set_cons_succ]
 clear hK;refine Zao (rs:=[19]) (by kernel_rfl) (by simp) ?_;intro i hi;simp only [List.mem_cons,List.not_mem_nil,or_false] at hi;subst hi
 have HPU:Hid (Pushed w5 w6 (.slice (some ⟨g,0,none⟩) (L+1) cap) (.slice va L6 vc)):=zh (by
  have hs2:(wA2.alloc (.cells #[.int .i64 (p.mid:Int),.int .i64 (p.hi:Int),.bool false,.int .i64 (p.lo:Int),.int .i64 (p.mid:Int),.bool false] 308)).heap.size=wA2.heap.size+1:=by simp
  have hz:=hbC2.size;exact⟨hB6.os.trans hbC2.os,hB6.tape.trans hbC2.tape,hB6.output.trans hbC2.output,by have:=hB6.size;omega,fun k hk hn=>(hk6 k (by omega) hn).trans ((Zam (by omega)).trans (hbC2.block k hk)),fun k hk=>(hf6 k hk).imp id (fun h=>by omega)⟩)
 have HG:Hid (IsSo B (w6.setCell ⟨b,5,none⟩ (.slice va L6 vc)) b bo bc ba vk (.slice va L6 vc) n kb (halvesS S ps p)):=zh (H3s.out.grown HPU.out hO6 0 (fun _=>trivial) (by unfold halvesS;simp))
 have HBB:Hid (Below B w (w6.setCell ⟨b,5,none⟩ (.slice va L6 vc))):=zh (by
  have h1:Below B w w5:=(HB2.out.mono hb).trans (HT3.out.below (Nat.le_trans hb HB2.out.size) (fun k hk=>by have:=HBG.out;have e:k=g:=hk;omega));have h2:Below B w5 w6:=(hbC2.mono HBL5.out.2.2).trans (((Below.refl B wA2).alloc (by have:=hbC2.size;have:=HBL5.out.2.2;omega) _).trans hB6);exact(h1.trans h2).setCell (p:=⟨b,5,none⟩) HBS.out _)
 have HKS:Hid (KbSame w (w6.setCell ⟨b,5,none⟩ (.slice va L6 vc)) kb):=zh (fun x hx=>by
  obtain⟨k1,k2,k3,k4,k5x,k6⟩:=HKB.out x hx;have hl2:x<w2.heap.size:=Nat.lt_of_lt_of_le k1 HB2.out.size;have hl5:x<w5.heap.size:=Nat.lt_of_lt_of_le hl2 HT3.out.size;rw [heap_setCell_other _ _ _ _ (by exact k2),HPU.out.block x hl5 k6,HT3.out.block x hl2 (fun e=>k6 (by rw [e];rfl))];exact HB2.out.block x k1)
 refine ZaJ rfl ?_;intro K hK
 go_simp
 refine hK _ _ ⟨fun h=>absurd rfl h,?_⟩;refine Zdf (by kernel_rfl) ?_ _;refine bodyPost_end (results_none rfl _ _ _) rfl ?_;exact⟨rfl,_,HG.out,HBB.out,HKS.out⟩
end
end
section
open Go.RowKit BwtM SrtM PkM
theorem Zwt (g lo hi n:Nat) (h1:lo<=hi) (h2:hi<=n) (h3:lo<n) (hn:n<=1000000) (W:World):(Instr.slice 79 (.slice (some ⟨g,0,none⟩) n n) (some (.int .i64 (lo:Int))) (some (.int .i64 (hi:Int))) none).run Tryz.prog W=.ok (.slice (some ⟨g,lo,none⟩) (hi-lo) (n-lo)) W:=by
 have hs:(sizeOf (Tryz.prog.elem 79)).run Tryz.prog W=.ok 1 W:=by kernel_rfl
 rw [run_slice_lh W 79 (some ⟨g,0,none⟩) n n (by kernel_rfl) .i64 .i64 _ _ (by omega) (by omega) (by omega),hs];have e1:((lo:Int)).toNat=lo:=by omega
 have e2:((hi:Int)).toNat=hi:=by omega
 have e3:¬n=lo:=by omega
 simp [Result.andThen,sliced,e1,e2,e3,Addr.add];intro h;omega
theorem ZwK (g lo n:Nat) (h3:lo<n) (hn:n<=1000000) (W:World):(Instr.slice 79 (.slice (some ⟨g,0,none⟩) n n) (some (.int .i64 (lo:Int))) none none).run Tryz.prog W=.ok (.slice (some ⟨g,lo,none⟩) (n-lo) (n-lo)) W:=by
 have hs:(sizeOf (Tryz.prog.elem 79)).run Tryz.prog W=.ok 1 W:=by kernel_rfl
 rw [run_slice_l W 79 (some ⟨g,0,none⟩) n n (by kernel_rfl) .i64 _ (by omega) (by omega),hs];have e1:((lo:Int)).toNat=lo:=by omega
 have e3:¬n=lo:=by omega
 simp [Result.andThen,sliced,e1,e3,Addr.add];intro h;omega
theorem ZwJ (g off m len cap:Nat) (h:m<=len) (hc:len<=cap) (hn:cap<=1000000) (W:World):(Instr.slice 79 (.slice (some ⟨g,off,none⟩) len cap) none (some (.int .i64 (m:Int))) none).run Tryz.prog W=.ok (.slice (some ⟨g,off,none⟩) m cap) W:=by
 have hs:(sizeOf (Tryz.prog.elem 79)).run Tryz.prog W=.ok 1 W:=by kernel_rfl
 rw [run_slice_h W 79 (some ⟨g,off,none⟩) len cap (by kernel_rfl) .i64 _ (by omega) (by omega),hs];have e1:((m:Int)).toNat=m:=by omega
 simp [Result.andThen,sliced,e1,Addr.add]
theorem ZvY (W:World) (ty g n k sb so sc m:Nat) (zs ys:List Int) (hR:RowI W g zs) (hz:zs.length=n) (hY:RowI W sb ys) (hk:k+m<=n) (hs:so+m<=ys.length) :
  ∃cs,(Builtin.copy_ #[79,79] ty #[.slice (some ⟨g,k,none⟩) (n-k) (n-k),.slice (some ⟨sb,so,none⟩) m sc]).run Tryz.prog W=.ok (.int .i64 (m:Int)) (W.setRow g cs)/\RowI (W.setRow g cs) g (zs.take k++(ys.drop so).take m++zs.drop (k+m)):=by
 have hm:((ys.drop so).take m).length=m:=by rw [List.length_take,List.length_drop];omega
 have h:=run_copy_row (P:=Tryz.prog) W 79 79 ty 3 g k (n-k) (n-k) ⟨sb,so,none⟩ m sc _ 3 (((ys.drop so).take m).map iv64) Tryz.underlying79 (by kernel_rfl) hR (by rw [List.length_map,hm];exact(Nat.min_eq_left (by omega)).symm) (fun j v hj=>by
  rw [List.getElem?_map] at hj
  have hjm:j<m:=by
   rcases Nat.lt_or_ge j m with c|c
   ·exact c
   ·rw [List.getElem?_eq_none (by omega)] at hj;cases hj
  rw [List.getElem?_take_of_lt hjm,List.getElem?_drop] at hj;have hl:so+j<ys.length:=by omega
  rw [List.getElem?_eq_getElem hl] at hj;rw [Addr.add_lit,(hY.cell hl).1,List.getD_eq_getElem?_getD,List.getElem?_eq_getElem hl];exact hj) (by rw [List.length_map,hm];simp;omega) (fun v hv=>by
  obtain⟨x,_,rfl⟩:=List.mem_map.1 hv;rfl)
 rw [List.length_map,hm] at h;refine⟨_,h,?_⟩;have h2:=setRow_heap W g _ ((zs.map iv64).toArray.toList.take k++((ys.drop so).take m).map iv64++(zs.map iv64).toArray.toList.drop (k+m)).toArray 3 (0,0) hR;unfold RowI;rw [h2];congr 2;apply Array.toList_inj.1;show(zs.map iv64).take k++((ys.drop so).take m).map iv64++(zs.map iv64).drop (k+m)=(zs.take k++(ys.drop so).take m++zs.drop (k+m)).map iv64;simp only [List.map_append,List.map_take,List.map_drop]
theorem ZuA {b:Nat} {w0 w:World} (h:Touch (·=b) w0 w) (cs:Array Value):Touch (·=b) w0 (w.setRow b cs):=
 ⟨h.os,h.tape,h.output,by rw [Zaw];exact h.size,fun i hi hs=>(setRow_other _ _ i _ (fun e=>hs (by omega))).trans (h.block i hi hs)⟩
def layS (S:SS) (lo g:Nat):SS:={ S with asd:=S.asd.take S.laid++(S.ord.drop (lo+S.laid)).take g++S.asd.drop (S.laid+g),laid:=S.laid+g }
section
variable {B : Nat} {b bo bc ba n : Nat} {vk vw : Value} {kb : List Nat} {S : SS}
def LayP (B:Nat) (w w':World) (b bo bc ba n:Nat) (vk vw:Value) (kb:List Nat) (S':SS) (g:Nat) (e:Ending):Prop:=
 e=.returned (.int .i64 (g:Int))/\IsSo B w' b bo bc ba vk vw n kb S'/\Below B w w'/\KbSame w w' kb
theorem Zwj (w:World) (p:Part) (k g:Nat) (h:IsSo B w b bo bc ba vk vw n kb S) (hlo:p.lo+S.laid<=p.mid) (hmid:p.mid<n) (hpn:p.hi<=n) (hn:n<=900000) (hk:k<=9223372036854775807) (hg:g=min k (p.mid-p.lo-S.laid)) (hb:B<=w.heap.size) :
  Calls Tryz.prog 248 #[.pointer (some ⟨b,0,none⟩),.agg #[.int .i64 (p.lo:Int),.int .i64 (p.hi:Int),.bool p.begun],.int .i64 (k:Int)] w fun e w'=>
  LayP B w w' b bo bc ba n vk vw kb (layS S p.lo g) g e:=by
 have hg0:=heap_alloc_new w (.cells #[.int .i64 (p.lo:Int),.int .i64 (p.hi:Int),.bool p.begun] 308);have hB0:=(Below.refl w.heap.size w).alloc (Nat.le_refl _) (.cells #[.int .i64 (p.lo:Int),.int .i64 (p.hi:Int),.bool p.begun] 308);have H0:=zh (h.below hB0);have HB0:=zh hB0;have HS0:Hid (w.heap.size<(w.alloc (.cells #[.int .i64 (p.lo:Int),.int .i64 (p.hi:Int),.bool p.begun] 308)).heap.size):=zh (by simp);have HMID:=zh (fun W=>Zu7 p.lo p.hi p.begun W (by omega) (by omega));have hmb:(⟨p.lo,p.hi,p.begun⟩:Part).mid=p.mid:=rfl;rw [hmb] at HMID;have HKAP:=zh h.kap;have HBS:=zh h.base;obtain⟨a,ha⟩:∃a,p.lo+S.laid=a:=⟨_,rfl⟩
 have hai:(p.lo:Int)+(S.laid:Int)=(a:Int):=by omega
 have haw:IntKind.i64.wrap (a:Int)=(a:Int):=IntWalk.i64_in _ (by omega);rw [ha] at hlo;have hs1:=fun W=>Zwt bo a p.mid n hlo (by omega) (by omega) (by omega) W
 have hs2:=fun W=>ZwK ba S.laid n (by omega) (by omega) W
 have hs3:=fun W=>ZwJ bo a g (p.mid-a) (n-a) (by omega) (by omega) (by omega) W
 have HLAY:Hid (∀W,IsSo B W b bo bc ba vk vw n kb S->∃cs,(Builtin.copy_ #[79,79] 3 #[.slice (some ⟨ba,S.laid,none⟩) (n-S.laid) (n-S.laid),.slice (some ⟨bo,a,none⟩) g (n-a)]).run Tryz.prog W=.ok (.int .i64 (g:Int)) (W.setRow ba cs) /\
   IsSo B ((W.setRow ba cs).setCell ⟨b,6,none⟩ (.int .i64 ((S.laid+g:Nat):Int))) b bo bc ba vk vw n kb (layS S p.lo g)/\SoObj (W.setRow ba cs) b bo bc ba n vk vw S):=zh (fun W hW=>by
  obtain⟨cs,h1,h2⟩:=ZvY W 3 ba n S.laid bo a (n-a) g (toI S.asd) (toI S.ord) hW.ra (by rw [toI_length];exact hW.la) hW.ro (by omega) (by rw [toI_length,hW.lo];omega)
  have e:(toI S.asd).take S.laid++((toI S.ord).drop a).take g++(toI S.asd).drop (S.laid+g)=toI (S.asd.take S.laid++(S.ord.drop (p.lo+S.laid)).take g++S.asd.drop (S.laid+g)):=by
   rw [ha];unfold toI;rw [List.map_append,List.map_append,List.map_take,List.map_take,List.map_drop,List.map_drop]
  rw [e] at h2;have hI:=hW.inAsd (ZuA (Touch.refl _ _) cs) _ (by rw [List.length_append,List.length_append,List.length_take,List.length_take,List.length_drop,List.length_drop,hW.la,hW.lo];omega) h2;exact⟨cs,h1,hI.own (Zaa (Touch.refl _ _)) (hI.obj.set6 (S.laid+g)) rfl rfl rfl rfl,hW.obj.other (ZuA (Touch.refl _ _) cs) (fun e=>hW.apart.2.2.1 e)⟩)
 obtain⟨ll,hll⟩:∃ll,p.mid-a=ll:=⟨_,rfl⟩
 have hgm:g=min k ll:=by omega
 have hlg:S.laid+g<=1000000:=by omega
 have hmin:(if ll<k then(ll:Int) else(k:Int))=(g:Int):=by rw [hgm];split<;>omega
 obtain⟨lg,hlgE⟩:∃lg,S.laid+g=lg:=⟨_,rfl⟩
 have hlag:(S.laid:Int)+(g:Int)=(lg:Int):=by omega
 rw [hlgE] at HLAY hlg;rw [hll] at hs1 hs3;clear hB0 hmb ha h hg hgm hlgE;go_enter Tryz.func248,Tryz.ntmps248;go_wp2_with fail;obtain⟨pb,hpb⟩:∃pb,w.heap.size=pb:=⟨_,rfl⟩
 have HPB:=zh hpb;rw [hpb] at hg0 HS0;generalize w.alloc (.cells #[.int .i64 (p.lo:Int),.int .i64 (p.hi:Int),.bool p.begun] 308)=w1 at *;obtain⟨d0,_,d2,_,_,_,d6,_⟩:=H0.out.obj.cells;have q0:∀sb:Beneath w1.heap.size w1,sb.val.cell? ⟨b,0,none⟩=some (.slice (some ⟨bo,0,none⟩) n n):=fun sb=>Beneath.cell d0 H0.out.obj.lt sb
 have q6:∀sb:Beneath w1.heap.size w1,sb.val.cell? ⟨b,6,none⟩=some (.int .i64 (S.laid:Int)):=fun sb=>Beneath.cell d6 H0.out.obj.lt sb
 have p0:∀sb:Beneath w1.heap.size w1,sb.val.cell? ⟨pb,0,none⟩=some (.int .i64 (p.lo:Int)):=fun sb=>Beneath.cell (by rw [cell_of_row _ _ 0 _ _ _ hg0];rfl) HS0.out sb
 have p1:∀sb:Beneath w1.heap.size w1,sb.val.cell? ⟨pb,1,none⟩=some (.int .i64 (p.hi:Int)):=fun sb=>Beneath.cell (by rw [cell_of_row _ _ 1 _ _ _ hg0];rfl) HS0.out sb
 have p2:∀sb:Beneath w1.heap.size w1,sb.val.cell? ⟨pb,2,none⟩=some (.bool p.begun):=fun sb=>Beneath.cell (by rw [cell_of_row _ _ 2 _ _ _ hg0];rfl) HS0.out sb
 clear d0 d2 d6 hg0;refine ZaF w1.heap.size w1 (Below.refl _ _) (by kernel_rfl) (by kernel_rfl) ?_
 repeat (go_big_quiet_step (first
  | (go_at_call 271;rename_i sb;exact Calls.beneath sb (Nat.le_refl _) (HMID.out _))))
 refine wpQuiet_nil ?_;rintro _ ⟨sb,rfl⟩;have H2:=zh (H0.out.below sb.is);have HB2:=zh (HB0.out.trans (sb.is.mono HB0.out.size));clear q0 q6 p0 p1 p2;generalize sb.val=w2 at *;obtain⟨_,_,d2,_,_,_,d6,_⟩:=H2.out.obj.cells;obtain⟨cs,hcp,hI,hO⟩:=HLAY.out (w2.drewN 1) (H2.out.drewN 1);have HI:=zh hI;have HO:=zh hO;have HCP:=zh hcp;clear hI hO hcp;go_wp2_with fail
 go_still_tail 15,(by kernel_rfl)
 refine ZuY rfl _ _ 79 79 rfl _ _ rfl rfl HCP.out ?_;obtain⟨_,_,_,_,_,_,d6b,_⟩:=HO.out.cells;have e6:=HO.out.frozen 6 (by omega)
 have HT:Hid (Touch (fun x=>x=ba\/x=b) w2 (((w2.drewN 1).setRow ba cs).setCell ⟨b,6,none⟩ (.int .i64 (lg:Int)))):=zh (by
  have t1:Touch (·=ba) w2 ((w2.drewN 1).setRow ba cs):=ZuA (Zad _ _ _) cs;have t2:Touch (·=b) ((w2.drewN 1).setRow ba cs) (((w2.drewN 1).setRow ba cs).setCell ⟨b,6,none⟩ (.int .i64 (lg:Int))):=Zaa (Touch.refl _ _);exact(t1.mono (fun _ h=>Or.inl h)).trans (t2.mono (fun _ h=>Or.inr h)) (fun _ h=>Or.inl h))
 have HBB:Hid (Below B w (((w2.drewN 1).setRow ba cs).setCell ⟨b,6,none⟩ (.int .i64 (lg:Int)))):=zh ((HB2.out.mono hb).trans (HT.out.below (Nat.le_trans hb HB2.out.size) (fun x hx=>by
  obtain⟨b1,_,_,b4⟩:=HBS.out;rcases hx with e|e
  ·omega
  ·omega)))
 have HKS:Hid (KbSame w (((w2.drewN 1).setRow ba cs).setCell ⟨b,6,none⟩ (.int .i64 (lg:Int))) kb):=zh (fun x hx=>by
  obtain⟨k1,k2,k3,k4,k5,k6⟩:=HKAP.out x hx
  rw [HT.out.block x (Nat.lt_of_lt_of_le k1 HB2.out.size) (fun e=>by
   rcases e with e|e
   ·exact k5 e
   ·exact k2 e)]
  exact HB2.out.block x k1)
 generalize (w2.drewN 1).setRow ba cs=w3 at *;clear d2 d6 HCP;go_wp2_with fail;go_ret;exact⟨rfl,HI.out,HBB.out,HKS.out⟩
end
end
section
open Go.RowKit BwtM SrtM PkM
theorem Zu8:∀args w,(callFunc 245 args).run Tryz.prog w=.ok (.enter 245 args) w:=enters_of Tryz.func245 (by kernel_rfl) rfl
theorem ZuL:∀args w,(callFunc 301 args).run Tryz.prog w=.ok (.enter 301 args) w:=enters_of Tryz.func301 (by kernel_rfl) rfl
theorem Zvv (s:ByteArray) (g i:Nat) (w:World) (hc:Txt w g s) (hs:s.size<=1000000) (hi:i<s.size):Calls Tryz.prog 245 #[.int .i64 (i:Int),.pointer (some ⟨g,0,none⟩)] w fun e w'=>e=.returned (.int .i64 (bt s.data.toList i:Int))/\w'=w:=by
 unfold Txt at hc;have hb:=ZrO s hi;have hbl:=ZwI s.data.toList i;have hw:IntKind.i64.wrap (bt s.data.toList i:Int)=(bt s.data.toList i:Int):=IntWalk.i64_in _ (by omega);generalize bt s.data.toList i=x at *;go_enter Tryz.func245,Tryz.ntmps245;go_wp2_with fail;go_ret;exact⟨rfl,rfl⟩
theorem Zup (s:ByteArray) (w:World):Calls Tryz.prog 210 #[.string s] w fun e w'=>e=.returned (.func (.func 245) #[] #[.pointer (some ⟨w.heap.size,0,none⟩)])/\Txt w' w.heap.size s/\Below w.heap.size w w'/\w'.heap.size=w.heap.size+1:=by
 have HT:Hid (Txt (w.alloc (.cells #[.string s] 9)) w.heap.size s):=zh (by unfold Txt;rw [cell_of_row _ _ 0 _ _ _ (heap_alloc_new _ _)];rfl);have HB:Hid (Below w.heap.size w (w.alloc (.cells #[.string s] 9))):=zh ((Below.refl _ _).alloc (Nat.le_refl _) _);have HS:Hid ((w.alloc (.cells #[.string s] 9)).heap.size=w.heap.size+1):=zh (by simp);go_enter Tryz.func210,Tryz.ntmps210;go_wp2_with fail;go_ret;exact⟨rfl,HT.out,HB.out,HS.out⟩
theorem ZvZ (s:ByteArray) (w:World) (g bc n:Nat) (C:List Nat) (ht:Txt w g s) (hs:s.size<=1000000) (hn:n=s.size):KeyV w (.func (.func 245) #[] #[.pointer (some ⟨g,0,none⟩)]) [g] bc n C (bt s.data.toList):=by
 refine⟨_,_,rfl,Zu8,fun w' h1 _ i hi=>?_⟩;have ht':Txt w' g s:=(World.cell?_of_block (w:=w) (a:=⟨g,0,none⟩) (h1 g (by simp))).trans ht;refine(Zvv s g i w' ht' hs (by omega)).mono ?_;rintro e w2 ⟨rfl,rfl⟩;exact⟨rfl,0,rfl⟩
theorem Zu0 (g1 g2 g3 bc n r i:Nat) (C:List Nat) (w:World) (h1:w.cell? ⟨g1,0,none⟩=some (.int .i64 (r:Int))) (h2:w.cell? ⟨g2,0,none⟩=some (.int .i64 (n:Int))) (h3:w.cell? ⟨g3,0,none⟩=some (.slice (some ⟨bc,0,none⟩) n n))
  (hR:RowI w bc (toI C)) (hl:C.length=n) (hr:r<n) (hn:n<=1000000) (hC:∀j,j<n->C.getD j 0<n) (hi:i<n) :
  Calls Tryz.prog 301 #[.int .i64 (i:Int),.pointer (some ⟨g1,0,none⟩),.pointer (some ⟨g2,0,none⟩),.pointer (some ⟨g3,0,none⟩)] w fun e w'=>e=.returned (.int .i64 (keyC n r (fun j=>C.getD j 0) i:Int))/\∃m,w'=w.drewN m:=by
 have hmn:(i+r) % n<n:=Nat.mod_lt _ (by omega);have c1:=(hR.cell (i:=i) (by rw [toI_length,hl];exact hi)).1;have c2:=(hR.cell (i:=(i+r) % n) (by rw [toI_length,hl];exact hmn)).1;rw [toI_getD] at c1 c2;have b1:=hC i hi;have b2:=hC _ hmn;have hkey:keyC n r (fun j=>C.getD j 0) i=C.getD i 0*n+C.getD ((i+r) % n) 0:=rfl
 have hmod:(i+r<n/\(i+r) % n=i+r)\/(n<=i+r/\(i+r) % n=i+r-n):=by
  by_cases c:i+r<n
  ·exact Or.inl ⟨c,Nat.mod_eq_of_lt c⟩
  ·exact Or.inr ⟨by omega,by rw [Nat.mod_eq_sub_mod (by omega),Nat.mod_eq_of_lt (by omega)]⟩
 rw [hkey];have hprod:C.getD i 0*n<=1000000*1000000:=Nat.mul_le_mul (by omega) hn;have hpi:(C.getD i 0:Int)*(n:Int)=((C.getD i 0*n:Nat):Int):=by rw [Int.natCast_mul]
 obtain⟨x,hx⟩:∃x,C.getD i 0=x:=⟨_,rfl⟩
 obtain⟨y,hy⟩:∃y,C.getD ((i+r) % n) 0=y:=⟨_,rfl⟩
 rw [hx] at c1 b1 hpi hprod ⊢;rw [hy] at c2 b2 ⊢;obtain⟨q,hq⟩:∃q,x*n=q:=⟨_,rfl⟩
 rw [hq] at hpi hprod ⊢;obtain⟨z,hz⟩:∃z,q+y=z:=⟨_,rfl⟩
 rw [hz];have hzi:(q:Int)+(y:Int)=(z:Int):=by omega
 have hw1:IntKind.i64.wrap (q:Int)=(q:Int):=IntWalk.i64_in _ (by omega);have hw2:IntKind.i64.wrap (z:Int)=(z:Int):=IntWalk.i64_in _ (by omega);obtain⟨o,ho⟩:∃o,i+r=o:=⟨_,rfl⟩
 have hoi:(i:Int)+(r:Int)=(o:Int):=by omega
 have hii:(i:Int)<(n:Int):=by omega
 have hi0:(0:Int)<=(i:Int):=by omega
 rw [ho] at hmod c2;rcases hmod with⟨h4,h5⟩|⟨h4,h5⟩
 ·rw [h5] at c2;have h6:¬(o:Int)>=(n:Int):=by omega
  have hon:(o:Int)<(n:Int):=by omega
  clear hR hC hx hy hq hz ho h5 hkey hmn;go_enter Tryz.func301,Tryz.ntmps301;go_wp2_with fail
  go_quiet (fail)
  go_wp2_with fail;go_ret;exact⟨rfl,_,rfl⟩
 ·rw [h5] at c2;obtain⟨o2,ho2⟩:∃o2,o-n=o2:=⟨_,rfl⟩
  rw [ho2] at c2;have h7:(o:Int)-(n:Int)=(o2:Int):=by omega
  have h6:(o:Int)>=(n:Int):=by omega
  have hon:(o2:Int)<(n:Int):=by omega
  have honn:o2<n:=by omega
  clear hR hC hx hy hq hz h5 hkey hmn ho2;go_enter Tryz.func301,Tryz.ntmps301;go_wp2_with fail
  go_quiet (fail)
  go_wp2_with fail;go_ret;exact⟨rfl,_,rfl⟩
structure Caught16 (w:World) (g1 g2 g3 bc n r:Nat):Prop where
 c1:w.cell? ⟨g1,0,none⟩=some (.int .i64 ((r % n:Nat):Int))
 c2:w.cell? ⟨g2,0,none⟩=some (.int .i64 (n:Int))
 c3:w.cell? ⟨g3,0,none⟩=some (.slice (some ⟨bc,0,none⟩) n n)
theorem Zvf (w:World) (g1 g2 g3 bc n r:Nat) (C:List Nat) (h:Caught16 w g1 g2 g3 bc n r) (hl:C.length=n) (hn:n<=1000000) (h0:0<n) (hC:∀j,j<n->C.getD j 0<n) :
  KeyV w (.func (.func 301) #[] #[.pointer (some ⟨g1,0,none⟩),.pointer (some ⟨g2,0,none⟩),.pointer (some ⟨g3,0,none⟩)]) [g1,g2,g3] bc n C (keyC n r (fun j=>C.getD j 0)):=by
 refine⟨_,_,rfl,ZuL,fun w' h1 hR i hi=>?_⟩;have k1:=(World.cell?_of_block (w:=w) (a:=⟨g1,0,none⟩) (h1 g1 (by simp))).trans h.c1;have k2:=(World.cell?_of_block (w:=w) (a:=⟨g2,0,none⟩) (h1 g2 (by simp))).trans h.c2;have k3:=(World.cell?_of_block (w:=w) (a:=⟨g3,0,none⟩) (h1 g3 (by simp))).trans h.c3;refine(Zu0 g1 g2 g3 bc n (r % n) i C w' k1 k2 k3 hR hl (Nat.mod_lt _ h0) hn hC hi).mono ?_;rintro e w2 ⟨rfl,hm⟩;exact⟨by rw [Zwf],hm⟩
end
end Go.Proofs.YtnachbjhhpnadaaGreatDoor

import Derived.Test.YtlfpbcadcfaboaaGreatDoorTcA
import Derived.Test.YtlfpbcadcfaboaaGreatDoorTcC
import Derived.Test.YtlfpbcadcfaboaaGreatDoorTcP
import Derived.Test.YtlfpbcadcfaboaaGreatDoorTwA
import Derived.Deep.RegionWith
set_option linter.unusedVariables false
set_option linter.unusedSimpArgs false
set_option maxHeartbeats 8000000
set_option maxRecDepth 100000
namespace Go.Proofs.YtlfpbcadcfaboaaGreatDoor
section
open Go.RowKit RleM SplM
def crcS (l:List UInt8):BitVec 32:=CrcM.crc l
theorem ZeM (b s:ByteArray) (w:World) (hs:s.size<=maxLen):Calls Tryz.prog 31 #[.agg #[.string b,.string s]] w fun e w'=>e=.returned (.int .u32 ((crcS s.data.toList).toNat:Int))/\Below w.heap.size w w':=by
 have HO:=zh (fun W=>ZcW s W hs);clear hs;go_enter Tryz.func31,Tryz.ntmps31;go_wp2_with fail;refine(HO.out _).mono ?_;rintro e w1 ⟨rfl,rfl⟩;go_wp2_with fail;go_ret;exact⟨rfl,(Below.refl _ _).alloc (Nat.le_refl _) _⟩
def rbL (b:List Pc):List Value:=[.string ⟨(pack b).toArray⟩,.string ⟨(flat b).toArray⟩]
theorem Zek (b:List Pc):(rbL b).length=2:=rfl
theorem ZfT:∀(bs:List (List Pc)) (i:Nat) (b:List Pc) (j:Nat),bs[i]?=some b->j<2->(bs.flatMap rbL)[i*2+j]?=(rbL b)[j]?
 | [],i,b,j,h,_=>by simp at h
 | x::xs,0,b,j,h,hj=>by
  simp at h;subst h;rw [List.flatMap_cons,List.getElem?_append_left (by rw [Zek];omega),Nat.zero_mul,Nat.zero_add]
 | x::xs,i+1,b,j,h,hj=>by
  rw [List.flatMap_cons,List.getElem?_append_right (by rw [Zek];omega),Zek];have:=ZfT xs i b j (by simpa using h) hj;rw [show(i+1)*2+j-2=i*2+j by omega];exact this
def OwnRb (W:World) (B:Nat) (v:Value) (bs:List (List Pc)):Prop:=W.ownsRow B 63 2 v bs.length (bs.flatMap rbL)
theorem OwnRb.nil (W:World) (B:Nat):OwnRb W B (.slice none 0 0) []:=World.ownsRow_nil _ _ _ _
theorem OwnRb.slice {W:World} {B:Nat} {v:Value} {bs:List (List Pc)} (h:OwnRb W B v bs):∃a cap,v=.slice a bs.length cap:=Zao h
theorem OwnRb.lt {W:World} {B:Nat} {v:Value} {bs:List (List Pc)} (h:OwnRb W B v bs):∀k,v.ownBlock=some k->B<=k/\k<W.heap.size:=World.ownsRow.lt h
theorem OwnRb.same {W W':World} {B:Nat} {v:Value} {bs:List (List Pc)} (h:OwnRb W B v bs) (he:∀k,v.ownBlock=some k->W'.heap[k]?=W.heap[k]?):OwnRb W' B v bs:=Zag h he
theorem OwnRb.below {W W':World} {B:Nat} {v:Value} {bs:List (List Pc)} (h:OwnRb W B v bs) (hb:Below W.heap.size W W'):OwnRb W' B v bs:=h.same (fun k hk=>hb.block k (h.lt k hk).2)
theorem OwnRb.cell {W:World} {B:Nat} {v:Value} {bs:List (List Pc)} (h:OwnRb W B v bs) {i:Nat} {b:List Pc} (hi:bs[i]?=some b):∃g cap,v=.slice (some ⟨g,0,none⟩) bs.length cap/\g<W.heap.size/\B<=g /\
  W.cell? ⟨g,i*2,none⟩=some (.string ⟨(pack b).toArray⟩)/\W.cell? ⟨g,i*2+1,none⟩=some (.string ⟨(flat b).toArray⟩):=by
 have hlt:=(List.getElem?_eq_some_iff.1 hi).1;rcases h.2 with⟨rfl,h0⟩|⟨g,cap,cur,rfl,hB,hg,hnc,_,hcs,ht⟩
 ·omega
 ·have hc:∀j,j<2->W.cell? ⟨g,i*2+j,none⟩=(rbL b)[j]?:=fun j hj=>by
   rw [cell_of_row _ _ _ _ _ _ hg,<-ZfT bs i b j hi hj,<-ht,List.getElem?_take,if_pos (by omega),Array.getElem?_toList]
  exact⟨g,cap,rfl,(Array.getElem?_eq_some_iff.1 hg).1,hB,hc 0 (by omega),hc 1 (by omega)⟩
theorem infoRb:(Tryz.prog.info? 63).map (fun i=>(i.zero,i.size,i.bytes))=some (some (.agg #[.string ⟨#[]⟩,.string ⟨#[]⟩]),2,32):=by kernel_rfl
theorem ZfU {ops:Array Oper} {rest:List Oper} {o:Oper} {a:Act} {Q:Exit->Act->World->Prop} (W:World) (hgd:o.guard=none) (s x:Operand)
  (ho:o.op=.call { callee:=.builtin .append,args:=#[s,x],argTypes:=#[60,60] })
  (B:Nat) (v:Value) (bs:List (List Pc)) (b:List Pc) (s1 s2:ByteArray) (hA:rbL b=[.string s1,.string s2]) (hown:OwnRb W B v bs) (hs:a.eval s=v) (G:Nat) (hG:W.heap.size=G) (hx:a.eval x=.slice (some ⟨G,0,none⟩) 1 1)
  (hlen:bs.length<=1000000) (hb:B<=W.heap.size)
  (h:∀v' w',OwnRb w' B v' (bs++[b])->Touch (fun k=>v.ownBlock=some k) W w'->(∀k,v'.ownBlock=some k->v.ownBlock=some k\/W.heap.size<=k)->wpList Tryz.prog ops Q rest (a.put o.dst v') w') :
  wpList Tryz.prog ops Q (o::rest) a (W.alloc (.cells #[.string s1,.string s2] 63)):=by
 subst hG;obtain⟨i0,hi,hz0,hz1,hz2⟩:=info_parts infoRb;refine Zai hgd s x 60 ho B 63 i0 (.agg #[.string ⟨#[]⟩,.string ⟨#[]⟩]) 2 32 Tryz.underlying60 hi hz0 hz1 hz2 rfl (by decide) v bs.length (bs.flatMap rbL) (World.ownsRow.alloc hown _) hs ⟨W.heap.size,0,none⟩ 1 1 [.string s1,.string s2] hx rfl ?_ ?_ ?_ ?_ ?_ ?_
 ·exact ZaB _ _ _ _ rfl
 ·intro u hu;simp at hu;rcases hu with rfl|rfl<;>rfl
 ·unfold maxLen;omega
 ·omega
 ·simp;omega
 ·intro v' w' hown' hg hv;refine h v' w' ?_ ?_ (fun k hk=>(hv k hk).imp id (fun h=>by simp at h;omega))
  ·unfold OwnRb;rw [List.length_append,List.flatMap_append];simp only [List.flatMap_cons,List.flatMap_nil,List.append_nil];rw [hA];exact hown'
  ·exact⟨hg.os,hg.tape,hg.output,by have:=hg.size;simp at this;omega,fun k hk hn=>(hg.block k (by simp;omega) (fun e=>hn e.symm)).trans (Zam hk)⟩
structure RfS (w wr:World) (g:Nat) (v:Value) (os:List (List Pc)) (s1 s2:ByteArray):Prop where
 box:wr.heap[g]?=some (.cells #[.string s1,.string s2] 63 (0,0))
 row:OwnRb wr w.heap.size v os
 lap:∀k,v.ownBlock=some k->k≠g
 base:w.heap.size<=g
 below:Below w.heap.size w wr
theorem RfS.later {w wr w':World} {g:Nat} {v:Value} {os:List (List Pc)} {s1 s2:ByteArray} (h:RfS w wr g v os s1 s2) (hb:Below wr.heap.size wr w'):RfS w w' g v os s1 s2:=
 ⟨(hb.block g (Array.getElem?_eq_some_iff.1 h.box).1).trans h.box,h.row.below hb,h.lap,h.base,h.below.trans (hb.mono h.below.size)⟩
theorem RfS.cells {w wr:World} {g:Nat} {v:Value} {os:List (List Pc)} {s1 s2:ByteArray} (h:RfS w wr g v os s1 s2):wr.cell? ⟨g,0,none⟩=some (.string s1)/\wr.cell? ⟨g,1,none⟩=some (.string s2)/\wr.frozen? ⟨g,0,none⟩=false/\wr.frozen? ⟨g,1,none⟩=false/\g<wr.heap.size:=
 ⟨by rw [cell_of_row _ _ _ _ _ _ h.box];rfl,by rw [cell_of_row _ _ _ _ _ _ h.box];rfl,frozen_of_row _ _ _ _ _ h.box,frozen_of_row _ _ _ _ _ h.box,(Array.getElem?_eq_some_iff.1 h.box).1⟩
theorem RfS.set0 {w wr:World} {g:Nat} {v:Value} {os:List (List Pc)} {s1 s2:ByteArray} (h:RfS w wr g v os s1 s2) (s:ByteArray):RfS w (wr.setCell ⟨g,0,none⟩ (.string s)) g v os s s2:=
 ⟨heap_setCell_same _ _ 0 _ _ _ h.box,h.row.same (fun k hk=>heap_setCell_other _ _ _ _ (h.lap k hk)),h.lap,h.base,h.below.setCell (p:=⟨g,0,none⟩) h.base _⟩
theorem RfS.set1 {w wr:World} {g:Nat} {v:Value} {os:List (List Pc)} {s1 s2:ByteArray} (h:RfS w wr g v os s1 s2) (s:ByteArray):RfS w (wr.setCell ⟨g,1,none⟩ (.string s)) g v os s1 s:=
 ⟨heap_setCell_same _ _ 1 _ _ _ h.box,h.row.same (fun k hk=>heap_setCell_other _ _ _ _ (h.lap k hk)),h.lap,h.base,h.below.setCell (p:=⟨g,1,none⟩) h.base _⟩
theorem RfS.pushed {w wr w':World} {g:Nat} {v v':Value} {os os':List (List Pc)} {s1 s2:ByteArray} (h:RfS w wr g v os s1 s2) (ht:Touch (fun k=>v.ownBlock=some k) wr w') (ho:OwnRb w' w.heap.size v' os') (hv:∀k,v'.ownBlock=some k->v.ownBlock=some k\/wr.heap.size<=k):RfS w w' g v' os' s1 s2:=
 ⟨(ht.block g h.cells.2.2.2.2 (fun e=>h.lap g e rfl)).trans h.box,ho,fun k hk=>by
  rcases hv k hk with e|e
  ·exact h.lap k e
  ·have:=h.cells.2.2.2.2;omega,h.base,h.below.trans (ht.below h.below.size (fun k hk=>(h.row.lt k hk).1))⟩
theorem IsPcs.touch {w w':World} {B:Nat} {v:Value} {ps:List Pc} (h:IsPcs w B v ps) {S:Nat->Prop} (hb:Touch S w w') (hS:∀g,B<=g->¬S g):IsPcs w' B v ps:=by
 obtain⟨a,cap,rfl,hc⟩:=h;refine⟨a,cap,rfl,fun k p hk=>?_⟩;obtain⟨g,h1,h2,h3,h4,h5⟩:=hc k p hk;have:=hb.size;exact⟨g,h1,h2,by omega,(World.cell?_of_block (w:=w) (a:=⟨g,k*2,none⟩) (hb.block g h3 (hS g h2))).trans h4,(World.cell?_of_block (w:=w) (a:=⟨g,k*2+1,none⟩) (hb.block g h3 (hS g h2))).trans h5⟩
theorem ZfV (ps:List Pc) (p:Pc):flat (ps++[p])=flat ps++List.replicate p.2 p.1:=by
 rw [ZaH,ZaR];simp [flat]
theorem ZcM (c:UInt8) (q:Nat) (l:List UInt8):(⟨(l++List.replicate q c).toArray⟩:ByteArray)++⟨#[c]⟩=⟨(l++List.replicate (q+1) c).toArray⟩:=by
 rw [show(⟨#[c]⟩:ByteArray)=⟨[c].toArray⟩ from rfl,Zaw,List.replicate_succ',List.append_assoc]
theorem ZfW (s:ByteArray) (room:Nat) (w:World) (h5:5<=room) (hr:room<=900000) (hs:s.size<=900000):Calls Tryz.prog 29 #[.string s,.int .i64 (room:Int)] w fun e w'=>∃v,e=.returned v/\OwnRb w' w.heap.size v (blks room s.data.toList)/\Below w.heap.size w w':=by
 have hl:s.data.toList.length=s.size:=by simp
 obtain⟨ps,hps⟩:∃ps,pieces s.data.toList=ps:=⟨_,rfl⟩
 have hgood:=good s.data.toList;have hflat:=ZaK s.data.toList;have HBK:Hid (blks room s.data.toList=endS (runS room ps)):=zh (by unfold blks;rw [hps]);have HREF:=zh (fun W=>ZcX s W (by omega));rw [hps] at hgood hflat HREF;have hcnt:=Zf2 ps (fun p hp=>(Zbm hgood hp).1);rw [hflat,hl] at hcnt;have HG:=zh (fun k p (h:ps[k]?=some p)=>Zbm hgood (List.mem_of_getElem? h))
 have HFL:Hid (∀k,(flat (runS room (ps.take k)).2).length<=900000):=zh (fun k=>by
  have h1:=ZgW room h5 (ps.take k);have h2:=ZbC ps k;rw [hflat,hl] at h2;omega)
 have HNW:Hid (∀k,(pack (runS room (ps.take k)).2).length<=room):=zh (fun k=>(rightS room h5 (ps.take k)).now)
 have HOU:Hid (∀k,(runS room (ps.take k)).1.length<=900000):=zh (fun k=>by
  have hg2:RleM.Good (ps.take k):=ZbQ (ps:=ps.take k) (qs:=ps.drop k) (by rw [List.take_append_drop];exact hgood);have:=Zih room h5 hg2 (ZbC ps k);rw [hflat,hl] at this;omega)
 have HSN:Hid (∀k p,ps[k]?=some p->runS room (ps.take (k+1))=stepS room (runS room (ps.take k)) p):=zh (fun k p h=>by
  have hk:=(List.getElem?_eq_some_iff.1 h).1;have he:=(List.getElem?_eq_some_iff.1 h).2;rw [List.take_succ_eq_append_getElem hk,he,ZdO])
 have HTK:Hid (ps.take ps.length=ps):=zh (List.take_of_length_le (Nat.le_refl _))
 have HEN:Hid ((runS room ps).2=[]↔(pack (runS room ps).2).length=0):=zh ⟨fun h=>by rw [h];rfl,fun h=>by
  by_cases he:(runS room ps).2=[]
  ·exact he
  ·have:=ZeO he (fun p hp=>by
    have hm:p∈ps:=by rw [<-(rightS room h5 ps).all];exact List.mem_append_right _ hp
    exact(Zbm hgood hm).1)
   omega⟩
 clear hgood hflat hl hps;go_enter Tryz.func29,Tryz.ntmps29;go_wp2_with fail;refine(HREF.out _).mono ?_;rintro e w1 ⟨v,rfl,hown,hb1⟩;have hP:=ZeL hown;obtain⟨a,cap,rfl,hc⟩:=hP;have hbx:Below w.heap.size w w1:=((Below.refl _ _).alloc (Nat.le_refl _) (.cells #[.string ⟨#[]⟩,.string ⟨#[]⟩] 63)).trans (hb1.mono (by show w.heap.size<=(w.heap.push _).size;simp))
 have HPC:Hid (IsPcs w1 (w.heap.size+1) (.slice a ps.length cap) ps):=zh ⟨a,cap,rfl,fun k p hk=>by
  obtain⟨g,h1,h2,h3⟩:=hc k p hk;have e:(w.alloc (.cells #[.string ⟨#[]⟩,.string ⟨#[]⟩] 63)).heap.size=w.heap.size+1:=by show(w.heap.push _).size=_;simp
  exact⟨g,h1,by rw [<-e];exact h2,h3⟩⟩
 have HB1:=zh hbx;have HR1:Hid (RfS w w1 w.heap.size (.slice none 0 0) [] ⟨#[]⟩ ⟨#[]⟩):=zh ⟨(hb1.block w.heap.size (by show _<(w.heap.push _).size;simp)).trans (heap_alloc_new w _),OwnRb.nil _ _,fun k hk=>(by cases hk),Nat.le_refl _,hbx⟩;clear hown hb1 hc hbx;obtain⟨wa,rfl⟩:∃wa:World,wa=w1:=⟨_,rfl⟩
 go_wp2_with fail
 go_loopw [14,5] (fun vk vo wr=>∃k:Nat,vk=.int .i64 (k:Int)/\k<=ps.length/\RfS w wr w.heap.size vo (runS room (ps.take k)).1 ⟨(pack (runS room (ps.take k)).2).toArray⟩ ⟨(flat (runS room (ps.take k)).2).toArray⟩/\Touch (·=w.heap.size) wa wr/\(∀j,vo.ownBlock=some j->wa.heap.size<=j)) (fun vk _ _=>ps.length-(intOf vk).toNat)
 case atStart=>exact⟨0,rfl,Nat.zero_le _,HR1.out,Touch.refl _ _,fun j hj=>(by cases hj)⟩
 case round=>
  clear HR1 HB1;obtain⟨k,rfl,hk,hR,hB,hV⟩:=hrel;have HV0:=zh hV;clear hV;obtain⟨wb,rfl⟩:∃wb:World,wb=wr:=⟨_,rfl⟩
  have HR:=zh hR;have HB:=zh hB;clear hR hB;by_cases hlt:k<ps.length
  ·have hki:(k:Int)<(ps.length:Int):=by omega
   obtain⟨a2,cap2,hv2,hc2⟩:=HPC.out.touch HB.out (fun g hg e=>by omega);obtain⟨p,hp⟩:∃p,ps[k]?=some p:=⟨_,List.getElem?_eq_getElem hlt⟩
   obtain⟨g,ha,_,hg2,c0,c1⟩:=hc2 k p hp;simp only [Value.slice.injEq] at hv2;obtain⟨rfl,_,rfl⟩:=hv2;subst ha;obtain⟨hp1,hp2⟩:=HG.out k p hp;have HS:=zh (HSN.out k p hp);have hfl:=HFL.out k;have hnw:=HNW.out k;have HOL:=zh (HOU.out k);obtain⟨os,hos⟩:∃os,(runS room (ps.take k)).1=os:=⟨_,rfl⟩
   obtain⟨now,hnow⟩:∃now,(runS room (ps.take k)).2=now:=⟨_,rfl⟩
   rw [show runS room (ps.take k)=(os,now) by rw [<-hos,<-hnow]] at HS;rw [hos,hnow] at HR;rw [hos] at HOL;rw [hnow] at hfl hnw;clear hos hnow hc2 hp;obtain⟨pl,hpl⟩:∃pl,(packP p).length=pl:=⟨_,rfl⟩
   obtain⟨nl,hnl⟩:∃nl,(pack now).length=nl:=⟨_,rfl⟩
   have hpl5:pl<=5:=by rw [<-hpl];exact SplM.packP_le p
   obtain⟨XP,hXP⟩:∃XP:ByteArray,(⟨(packP p).toArray⟩:ByteArray)=XP:=⟨_,rfl⟩
   have hXs:(XP.size:Int)=(pl:Int):=by rw [<-hXP,Zaj,hpl]
   have hXn:XP.size=pl:=by omega
   obtain⟨S1,hS1⟩:∃S1:ByteArray,(⟨(pack now).toArray⟩:ByteArray)=S1:=⟨_,rfl⟩
   have hSs:(S1.size:Int)=(nl:Int):=by rw [<-hS1,Zaj,hnl]
   have hSn:S1.size=nl:=by omega
   have HXS:=zh (And.intro hXP hS1);have HPL:=zh (And.intro hpl hnl);rw [hS1] at HR;rw [hnl] at hnw;obtain⟨q,hq⟩:∃q,nl+pl=q:=⟨_,rfl⟩
   have hqi:(nl:Int)+(pl:Int)=(q:Int):=by omega
   have hqw:IntKind.i64.wrap (q:Int)=(q:Int):=IntWalk.i64_in _ (by omega);have HPR:=zh (fun W=>Zdw p W hp2);unfold pcv at HPR;rw [hXP] at HPR;have hbs:wa.heap.size<=wb.heap.size:=HB.out.size;obtain⟨c,pn⟩:=p;simp only at hp1 hp2 HPR c0 c1;clear hpl hnl hXP hS1;go_wp2_with fail;refine(HPR.out _).mono ?_;rintro e w2 ⟨rfl,hb2⟩;have HA2:Hid (Below wb.heap.size wb w2):=zh (((Below.refl wb.heap.size wb).alloc (Nat.le_refl _) (.cells #[.int .u8 (c.toNat:Int),.int .i64 (pn:Int)] 93)).trans (hb2.mono (by simp)));have HR2:=zh (HR.out.later HA2.out);have hx2:=(hb2.block wb.heap.size (by show _<(wb.heap.push _).size;simp)).trans (heap_alloc_new wb (.cells #[.int .u8 (c.toNat:Int),.int .i64 (pn:Int)] 93));have HX2:=zh hx2;have HGX:Hid (w.heap.size<wb.heap.size):=zh HR.out.cells.2.2.2.2;obtain⟨d0,d1,f0,f1,_⟩:=HR2.out.cells;obtain⟨oa,oc,rfl⟩:=HR2.out.row.slice;obtain⟨L,hL⟩:∃L,os.length=L:=⟨_,rfl⟩
   rw [hL] at HR HR2 HOL ⊢;have HVX:Hid (∀k,(Value.slice oa L oc).ownBlock=some k->k<wb.heap.size):=zh (fun k hk=>(HR.out.row.lt k hk).2);have HLL:=zh hL;have HVL:Hid (∀j,(Value.slice oa L oc).ownBlock=some j->wa.heap.size<=j):=zh (by rw [<-HLL.out];exact HV0.out);clear hb2 hx2 c0 c1 hL;by_cases hf:room<q
   ·have hfi:(q:Int)>(room:Int):=by omega
    have HS3:Hid (runS room (ps.take (k+1))=(os++[now],[(c,pn)])):=zh (by
     rw [HS.out];unfold stepS;rw [if_pos (by have h1:=HPL.out.1;have h2:=HPL.out.2;show(pack now).length+(packP (c,pn)).length>room;omega)])
    have hb2:w.heap.size<=w2.heap.size:=HR2.out.below.size;go_wp2_with (at_builtin;go_loud (refine ZfU w2 rfl _ _ rfl w.heap.size _ os now S1 _ (by rw [<-HXS.out.2];rfl) HR2.out.row rfl w2.heap.size rfl rfl (Nat.le_trans (by have h:=HLL.out;have h2:=HOL.out;omega) (Nat.le_refl _)) hb2 ?_));intro v3 w3 hO3 hT3 hv3;have K3:=HR2.out.pushed hT3 hO3 hv3;have HX3:Hid (w3.heap[wb.heap.size]?=some (.cells #[.int .u8 (c.toNat:Int),.int .i64 (pn:Int)] 93 (0,0))):=zh ((hT3.block _ (Array.getElem?_eq_some_iff.1 HX2.out).1 (fun e=>by have:=HVX.out _ e;omega)).trans HX2.out);have HB3:Hid (Touch (·=w.heap.size) wa w3):=zh ((HB.out.trans (Touch.ofBelow (S:=fun _=>False) HA2.out) (fun i hi=>absurd hi (fun h=>h))).trans hT3 (fun i hi=>Or.inr (HVL.out i hi)))
    have HV3:Hid (∀j,v3.ownBlock=some j->wa.heap.size<=j):=zh (fun j hj=>by
     rcases hv3 j hj with e|e
     ·exact HVL.out j e
     ·have:=HA2.out.size;have:=HB.out.size;omega)
    obtain⟨oa3,oc3,rfl⟩:=hO3.slice;obtain⟨L3,hL3⟩:∃L3,(os++[now]).length=L3:=⟨_,rfl⟩
    rw [hL3] at K3 hv3 HV3 ⊢;obtain⟨e0,e1,g0,g1,_⟩:=K3.cells;obtain⟨W4,hW4⟩:∃W4,w3.setCell ⟨w.heap.size,0,none⟩ (.string ⟨#[]⟩)=W4:=⟨_,rfl⟩
    have K4:=K3.set0 ⟨#[]⟩;rw [hW4] at K4;obtain⟨_,e41,_,g41,_⟩:=K4.cells;obtain⟨W5,hW5⟩:∃W5,W4.setCell ⟨w.heap.size,1,none⟩ (.string ⟨#[]⟩)=W5:=⟨_,rfl⟩
    have K5:=K4.set1 ⟨#[]⟩;rw [hW5] at K5;obtain⟨e50,_,g50,_,_⟩:=K5.cells;obtain⟨wz,hW6⟩:∃W6,W5.setCell ⟨w.heap.size,0,none⟩ (.string XP)=W6:=⟨_,rfl⟩
    have K6:=K5.set0 XP;rw [hW6] at K6;have HZ:=zh K6;have hne:wb.heap.size≠w.heap.size:=by have:=HGX.out;omega
    have HXZ:Hid (wz.heap[wb.heap.size]?=some (.cells #[.int .u8 (c.toNat:Int),.int .i64 (pn:Int)] 93 (0,0))):=zh (by
     rw [<-hW6,<-hW5,<-hW4];exact((heap_setCell_other _ _ _ _ hne).trans ((heap_setCell_other _ _ _ _ hne).trans (heap_setCell_other _ _ _ _ hne))).trans HX3.out)
    have HBZ:Hid (Touch (·=w.heap.size) wa wz):=zh (by
     rw [<-hW6,<-hW5,<-hW4];exact((HB3.out.setCell (p:=⟨w.heap.size,0,none⟩) (Or.inl rfl) _).setCell (p:=⟨w.heap.size,1,none⟩) (Or.inl rfl) _).setCell (p:=⟨w.heap.size,0,none⟩) (Or.inl rfl) _)
    have hadd:(⟨#[]⟩:ByteArray)++XP=XP:=by apply ByteArray.ext;simp
    have hsz0:(⟨#[]⟩:ByteArray).size+XP.size<=2199023255552:=by show 0+XP.size<=_;omega
    have HF0:Hid (([]:List UInt8).length+pn<=2000000):=zh (by simp;omega);have HFN:Hid (XP=⟨(pack [(c,pn)]).toArray⟩/\(⟨(([]:List UInt8)++List.replicate pn c).toArray⟩:ByteArray)=⟨(flat [(c,pn)]).toArray⟩):=zh ⟨by rw [Zbf];exact HXS.out.1.symm,by simp [flat]⟩;clear hO3 hT3 hv3 K3 K4 K5 K6 hne d0 d1 f0 f1 hL3;have a1:wz.cell? ⟨wb.heap.size,1,none⟩=some (.int .i64 (pn:Int)):=by rw [cell_of_row _ _ _ _ _ _ HXZ.out];rfl
    go_wp2_with fail;clear a1
    go_loopw [40] (fun vq wr=>∃q:Nat,vq=.int .i64 (q:Int)/\q<=pn/\RfS w wr w.heap.size (.slice oa3 L3 oc3) (os++[now]) XP ⟨(([]:List UInt8)++List.replicate q c).toArray⟩/\wr.heap[wb.heap.size]?=some (.cells #[.int .u8 (c.toNat:Int),.int .i64 (pn:Int)] 93 (0,0))/\Touch (·=w.heap.size) wa wr) (fun vq _=>pn-(intOf vq).toNat)
    case atStart=>exact⟨0,rfl,Nat.zero_le _,(by simpa using HZ.out),HXZ.out,HBZ.out⟩
    case round=>
     clear HZ HXZ HBZ;obtain⟨q,rfl,hq2,hR,hX,hB⟩:=hrel;have HZ:=zh hR;have HXZ:=zh hX;have HBZ:=zh hB;clear hR hX hB;by_cases hqp:q<pn
     ·have hqi2:(q:Int)<(pn:Int):=by omega
      obtain⟨_,d1,_,f1,hgl⟩:=HZ.out.cells;have a0:wr.cell? ⟨wb.heap.size,0,none⟩=some (.int .u8 (c.toNat:Int)):=by rw [cell_of_row _ _ _ _ _ _ HXZ.out];rfl
      have hxl:=(Array.getElem?_eq_some_iff.1 HXZ.out).1;have hcv:=Za3 wr c _ rfl
      have hsz:(⟨(([]:List UInt8)++List.replicate q c).toArray⟩:ByteArray).size+(⟨#[c]⟩:ByteArray).size<=2199023255552:=by
       rw [Zaj,List.length_append,List.length_replicate];show _+1<=_;have:=HF0.out;omega
      have hadd:=ZcM c q ([]:List UInt8);have HZ2:=zh ((HZ.out.set1 ⟨(([]:List UInt8)++List.replicate (q+1) c).toArray⟩).later ((Below.refl _ _).alloc (Nat.le_refl _) (.cells #[.int .u8 (c.toNat:Int)] 5)));have HXZ2:Hid (((wr.setCell ⟨w.heap.size,1,none⟩ (.string ⟨(([]:List UInt8)++List.replicate (q+1) c).toArray⟩)).alloc (.cells #[.int .u8 (c.toNat:Int)] 5)).heap[wb.heap.size]?=some (.cells #[.int .u8 (c.toNat:Int),.int .i64 (pn:Int)] 93 (0,0))):=zh ((Below.heap_alloc _ _ _ (by simpa [World.setCell] using hxl)).trans ((heap_setCell_other _ _ _ _ (fun e=>by have e2:wb.heap.size=w.heap.size:=e;have:=HGX.out;omega)).trans HXZ.out));have HBZ2:Hid (Touch (·=w.heap.size) wa ((wr.setCell ⟨w.heap.size,1,none⟩ (.string ⟨(([]:List UInt8)++List.replicate (q+1) c).toArray⟩)).alloc (.cells #[.int .u8 (c.toNat:Int)] 5))):=zh ((HBZ.out.setCell (p:=⟨w.heap.size,1,none⟩) (Or.inl rfl) _).alloc _);obtain⟨TX,hTX⟩:∃TX:ByteArray,(⟨(([]:List UInt8)++List.replicate q c).toArray⟩:ByteArray)=TX:=⟨_,rfl⟩
      obtain⟨TY,hTY⟩:∃TY:ByteArray,(⟨(([]:List UInt8)++List.replicate (q+1) c).toArray⟩:ByteArray)=TY:=⟨_,rfl⟩
      rw [hTX] at d1 hsz hadd;rw [hTY] at hadd HZ2 HXZ2 HBZ2;have HTY:=zh hTY;clear hTX hTY;go_wp2_with fail;go_roundw
      case rel=>exact⟨q+1,by go_num,by omega,(by rw [HTY.out];exact HZ2.out),HXZ2.out,HBZ2.out⟩
      case measure=>simp [intOf];omega
     ·have hqi2:¬(q:Int)<(pn:Int):=by omega
      have hqe:q=pn:=by omega
      have HQE:=zh hqe;clear hqe;go_wp2_with fail;go_roundw
      case rel=>exact⟨k+1,by go_num,by omega,(by rw [HS3.out];have h:=HZ.out;rw [HQE.out] at h;rw [<-HFN.out.1,<-HFN.out.2];exact h),HBZ.out,HV3.out⟩
      case measure=>simp [intOf];omega
   ·have hfi:¬(q:Int)>(room:Int):=by omega
    have HS3:Hid (runS room (ps.take (k+1))=(os,now++[(c,pn)])):=zh (by
     rw [HS.out];unfold stepS;rw [if_neg (by have h1:=HPL.out.1;have h2:=HPL.out.2;show ¬(pack now).length+(packP (c,pn)).length>room;omega)])
    obtain⟨SX,hSX⟩:∃SX:ByteArray,S1++XP=SX:=⟨_,rfl⟩
    have hsz0:S1.size+XP.size<=2199023255552:=by omega
    obtain⟨wz,hW6⟩:∃W6,w2.setCell ⟨w.heap.size,0,none⟩ (.string SX)=W6:=⟨_,rfl⟩
    have K6:=HR2.out.set0 SX;rw [hW6] at K6;have HZ:=zh K6;have hne:wb.heap.size≠w.heap.size:=by have:=HGX.out;omega
    have HXZ:Hid (wz.heap[wb.heap.size]?=some (.cells #[.int .u8 (c.toNat:Int),.int .i64 (pn:Int)] 93 (0,0))):=zh (by
     rw [<-hW6];exact(heap_setCell_other _ _ _ _ hne).trans HX2.out)
    have HBZ:Hid (Touch (·=w.heap.size) wa wz):=zh (by
     rw [<-hW6];exact(HB.out.trans (Touch.ofBelow (S:=fun _=>False) HA2.out) (fun i hi=>absurd hi (fun h=>h))).setCell (p:=⟨w.heap.size,0,none⟩) (Or.inl rfl) _)
    have HV3:=HVL;obtain⟨F0,hF0⟩:∃F0,flat now=F0:=⟨_,rfl⟩
    have HF0:Hid (F0.length+pn<=2000000):=zh (by rw [<-hF0];omega);have HFN:Hid (SX=⟨(pack (now++[(c,pn)])).toArray⟩/\(⟨(F0++List.replicate pn c).toArray⟩:ByteArray)=⟨(flat (now++[(c,pn)])).toArray⟩):=zh ⟨by rw [<-hSX,<-HXS.out.1,<-HXS.out.2,Zaw,ZbR,Zbf],by rw [<-hF0,ZfV]⟩;rw [hF0] at HZ;clear K6 hne hF0;have a1:wz.cell? ⟨wb.heap.size,1,none⟩=some (.int .i64 (pn:Int)):=by rw [cell_of_row _ _ _ _ _ _ HXZ.out];rfl
    go_wp2_with fail;clear a1
    go_loopw [40] (fun vq wr=>∃q:Nat,vq=.int .i64 (q:Int)/\q<=pn/\RfS w wr w.heap.size (.slice oa L oc) os SX ⟨(F0++List.replicate q c).toArray⟩/\wr.heap[wb.heap.size]?=some (.cells #[.int .u8 (c.toNat:Int),.int .i64 (pn:Int)] 93 (0,0))/\Touch (·=w.heap.size) wa wr) (fun vq _=>pn-(intOf vq).toNat)
    case atStart=>exact⟨0,rfl,Nat.zero_le _,(by simpa using HZ.out),HXZ.out,HBZ.out⟩
    case round=>
     clear HZ HXZ HBZ;obtain⟨q,rfl,hq2,hR,hX,hB⟩:=hrel;have HZ:=zh hR;have HXZ:=zh hX;have HBZ:=zh hB;clear hR hX hB;by_cases hqp:q<pn
     ·have hqi2:(q:Int)<(pn:Int):=by omega
      obtain⟨_,d1,_,f1,hgl⟩:=HZ.out.cells;have a0:wr.cell? ⟨wb.heap.size,0,none⟩=some (.int .u8 (c.toNat:Int)):=by rw [cell_of_row _ _ _ _ _ _ HXZ.out];rfl
      have hxl:=(Array.getElem?_eq_some_iff.1 HXZ.out).1;have hcv:=Za3 wr c _ rfl
      have hsz:(⟨(F0++List.replicate q c).toArray⟩:ByteArray).size+(⟨#[c]⟩:ByteArray).size<=2199023255552:=by
       rw [Zaj,List.length_append,List.length_replicate];show _+1<=_;have:=HF0.out;omega
      have hadd:=ZcM c q F0;have HZ2:=zh ((HZ.out.set1 ⟨(F0++List.replicate (q+1) c).toArray⟩).later ((Below.refl _ _).alloc (Nat.le_refl _) (.cells #[.int .u8 (c.toNat:Int)] 5)));have HXZ2:Hid (((wr.setCell ⟨w.heap.size,1,none⟩ (.string ⟨(F0++List.replicate (q+1) c).toArray⟩)).alloc (.cells #[.int .u8 (c.toNat:Int)] 5)).heap[wb.heap.size]?=some (.cells #[.int .u8 (c.toNat:Int),.int .i64 (pn:Int)] 93 (0,0))):=zh ((Below.heap_alloc _ _ _ (by simpa [World.setCell] using hxl)).trans ((heap_setCell_other _ _ _ _ (fun e=>by have e2:wb.heap.size=w.heap.size:=e;have:=HGX.out;omega)).trans HXZ.out));have HBZ2:Hid (Touch (·=w.heap.size) wa ((wr.setCell ⟨w.heap.size,1,none⟩ (.string ⟨(F0++List.replicate (q+1) c).toArray⟩)).alloc (.cells #[.int .u8 (c.toNat:Int)] 5))):=zh ((HBZ.out.setCell (p:=⟨w.heap.size,1,none⟩) (Or.inl rfl) _).alloc _);obtain⟨TX,hTX⟩:∃TX:ByteArray,(⟨(F0++List.replicate q c).toArray⟩:ByteArray)=TX:=⟨_,rfl⟩
      obtain⟨TY,hTY⟩:∃TY:ByteArray,(⟨(F0++List.replicate (q+1) c).toArray⟩:ByteArray)=TY:=⟨_,rfl⟩
      rw [hTX] at d1 hsz hadd;rw [hTY] at hadd HZ2 HXZ2 HBZ2;have HTY:=zh hTY;clear hTX hTY;go_wp2_with fail;go_roundw
      case rel=>exact⟨q+1,by go_num,by omega,(by rw [HTY.out];exact HZ2.out),HXZ2.out,HBZ2.out⟩
      case measure=>simp [intOf];omega
     ·have hqi2:¬(q:Int)<(pn:Int):=by omega
      have hqe:q=pn:=by omega
      have HQE:=zh hqe;clear hqe;go_wp2_with fail;go_roundw
      case rel=>exact⟨k+1,by go_num,by omega,(by rw [HS3.out];have h:=HZ.out;rw [HQE.out] at h;rw [<-HFN.out.1,<-HFN.out.2];exact h),HBZ.out,HV3.out⟩
      case measure=>simp [intOf];omega
  ·have hki:¬(k:Int)<(ps.length:Int):=by omega
   have hke:k=ps.length:=by omega
   rw [hke,HTK.out] at HR;have HOL:=HOU.out ps.length;have HNL:=HNW.out ps.length;rw [HTK.out] at HOL HNL;obtain⟨os,hos⟩:∃os,(runS room ps).1=os:=⟨_,rfl⟩
   obtain⟨now,hnow⟩:∃now,(runS room ps).2=now:=⟨_,rfl⟩
   have HBE:Hid (blks room s.data.toList=os++(if now=[] then[] else[now])):=zh (by rw [HBK.out];unfold endS;rw [hos,hnow]);rw [hnow] at HEN HNL;rw [hos,hnow] at HR;rw [hos] at HOL;obtain⟨oa,oc,rfl⟩:=HR.out.row.slice;obtain⟨L,hL⟩:∃L,os.length=L:=⟨_,rfl⟩
   rw [hL] at HR HOL;rw [hL];have HLL:=zh (And.intro hL HOL);obtain⟨S1,hS1⟩:∃S1:ByteArray,(⟨(pack now).toArray⟩:ByteArray)=S1:=⟨_,rfl⟩
   have hSl:S1.size=(pack now).length:=by rw [<-hS1];exact Zaj _
   rw [hS1] at HR;obtain⟨d0,d1,_,_,_⟩:=HR.out.cells;have HXS:=zh hS1;clear hos hnow hke HOL hL hS1;by_cases hn0:now=[]
   ·have hz:¬(S1.size:Int)>0:=by have:=HEN.out.1 hn0;omega
    rw [if_pos hn0,List.append_nil] at HBE;clear hn0;go_wp2_with fail;go_ret;exact⟨_,rfl,by rw [HBE.out];exact HR.out.row,HR.out.below⟩
   ·have hz:(S1.size:Int)>0:=by
     have:¬(pack now).length=0:=fun e=>hn0 (HEN.out.2 e)
     omega
    rw [if_neg hn0] at HBE;have hb2:w.heap.size<=wb.heap.size:=HR.out.below.size;clear hn0;go_wp2_with (at_builtin;go_loud (refine ZfU wb rfl _ _ rfl w.heap.size _ os now S1 _ (by rw [<-HXS.out];rfl) HR.out.row rfl wb.heap.size rfl rfl (by have h:=HLL.out.1;have h2:=HLL.out.2;omega) hb2 ?_));intro v3 w3 hO3 hT3 hv3;have HO3:=zh hO3;have HB3:Hid (Below w.heap.size w w3):=zh (HR.out.below.trans (hT3.below hb2 (fun k hk=>(HR.out.row.lt k hk).1)));obtain⟨oa3,oc3,rfl⟩:=hO3.slice;clear hO3 hT3 hv3;go_wp2_with fail;go_ret;exact⟨_,rfl,by rw [HBE.out];exact HO3.out,HB3.out⟩
end
section
open Go.ChangeShapes Go.WideShapes Go.ChangeAt Go.RowKit CrcM
def IsU32 (w:World) (a:Option Addr) (len:Nat) (xs:List (BitVec 32)):Prop:=
 xs.length=len/\len<=maxLen/\∀i x,xs[i]?=some x->∃b off,a=some ⟨b,off,none⟩/\b<w.heap.size/\w.cell? ⟨b,off+i,none⟩=some (.int .u32 (x.toNat:Int))
def strm (xs:List (BitVec 32)):BitVec 32:=xs.foldl cmb 0#32
theorem Zel (xs:List (BitVec 32)) (k:Nat) (x:BitVec 32) (h:xs[k]?=some x):strm (xs.take (k+1))=cmb (strm (xs.take k)) x:=by
 obtain⟨hk,rfl⟩:=List.getElem?_eq_some_iff.1 h;unfold strm;rw [List.take_succ_eq_append_getElem hk,List.foldl_append];rfl
theorem ZbJ (a:Option Addr) (len cap:Nat) (xs:List (BitVec 32)) (w:World) (h:IsU32 w a len xs) :
  Calls Tryz.prog 57 #[.slice a len cap] w fun e w'=>e=.returned (.int .u32 ((strm xs).toNat:Int))/\w=w':=by
 obtain⟨hl,hmax,hc⟩:=h;unfold maxLen at hmax;have HC:=zh hc;have HL:=zh hl;clear hc hl;go_enter Tryz.func57,Tryz.ntmps57;go_wp2_with fail
 go_loop [3,5,8] (fun t _ i=>∃k:Nat,k<=len/\i=.int .i64 k/\t=.int .u32 ((strm (xs.take k)).toNat:Int)) (fun _ _ i=>len-(intOf i).toNat)
 case atStart=>exact⟨0,by omega,rfl,rfl⟩
 case round=>
  obtain⟨k,hk,rfl,rfl⟩:=hrel;by_cases hlt:k<len
  ·have hx:∃x,xs[k]?=some x:=⟨xs[k]'(by have:=HL.out;omega),List.getElem?_eq_getElem _⟩
   obtain⟨x,hx⟩:=hx;obtain⟨b,off,rfl,_,hcell⟩:=HC.out k x hx;have HX:=zh (Zel xs k x hx);clear hx;go_wp2_with fail;refine(Zbl _ _ _).mono ?_;rintro e w' ⟨rfl,rfl⟩;go_wp2_with fail
   go_round
   case rel=>exact⟨k+1,by omega,by go_num,by rw [HX.out]⟩
   case measure=>simp [intOf];omega
  ·obtain rfl:k=len:=by omega
   go_wp2_with fail;go_ret;rw [List.take_of_length_le (by rw [HL.out];omega)];exact⟨rfl,rfl⟩
def u32v (x:BitVec 32):Value:=.int .u32 (x.toNat:Int)
theorem Zdm {w:World} {base e:Nat} {v:Value} {n:Nat} {xs:List (BitVec 32)} (h:w.ownsRow base e 1 v n (xs.map u32v)) (hn:n<=maxLen):∃a cap,v=.slice a n cap/\IsU32 w a n xs:=by
 have hl:xs.length=n:=by simpa using h.1
 rcases h.2 with⟨rfl,rfl⟩|⟨g,cap,cur,rfl,_,hg,_⟩
 ·refine⟨none,0,rfl,hl,hn,fun i x hx=>?_⟩;have:=(List.getElem?_eq_some_iff.1 hx).1;omega
 ·refine⟨some ⟨g,0,none⟩,cap,rfl,hl,hn,fun i x hx=>⟨g,0,rfl,(Array.getElem?_eq_some_iff.1 hg).1,?_⟩⟩;have hi:=(List.getElem?_eq_some_iff.1 hx).1;rw [Nat.zero_add,h.cellAt i (by omega)];simp [hx,u32v]
theorem ZiV:(Tryz.prog.info? 37).map (fun i=>(i.zero,i.size,i.bytes))=some (some (.int .u32 0),1,4):=by kernel_rfl
end
end Go.Proofs.YtlfpbcadcfaboaaGreatDoor

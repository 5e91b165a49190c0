import Derived.Test.YtnachbjhhpnadaaGreatDoorBcA
import Derived.Test.YtnachbjhhpnadaaGreatDoorBcB
import Derived.Test.YtnachbjhhpnadaaGreatDoorBcC
import Derived.Test.YtnachbjhhpnadaaGreatDoorBcD
import Derived.Test.YtnachbjhhpnadaaGreatDoorBcI
import Derived.Laws.StandIn
import Derived.Laws.CopyRow
import Derived.StillTailTactics
import Derived.Deep.MidRow
import Derived.Laws.BitsAllLaws
import Derived.Deep.RegionHeld3
set_option linter.unusedVariables false
set_option linter.unusedSimpArgs false
set_option maxHeartbeats 8000000
set_option maxRecDepth 100000
namespace Go.Proofs.YtnachbjhhpnadaaGreatDoor
section
open Go.RowKit TabM FreqM HufM
theorem Zgy {P:Program} {fn:Func} {p q:Tmp} {ty:TypeId} (h:fn.results=#[.cell p ty,.tmp q]) (tmps:Array Value) (w:World) (a:Addr) (cs:Array Value) (e:Value)
  (hp:tmps.getD p undef=.pointer (some a)) (hq:tmps.getD q undef=e) (hl:(loadVar ty a).run P w=.ok (.agg cs) w) :
  (results fn tmps).run P w=.ok (.tuple #[.agg cs,e]) w:=by
 have hp':tmps[p]?.getD undef=.pointer (some a):=by simpa using hp
 have hq':tmps[q]?.getD undef=e:=by simpa using hq
 simp [results,h,hp',hq',asAddr,hl]
theorem Zof (w:World) (b:Nat) (x y:Value) (h:w.heap[b]?=some (.cells #[x,y] 144 (0,0))):(loadVar 144 ⟨b,0,none⟩).run Tryz.prog w=.ok (.agg #[x,y]) w:=
 run_loadVar_row (P:=Tryz.prog) w b 144 144 #[x,y] (0,0) _ h Tryz.underlying144 rfl ZjQ
theorem Zog (w:World):(w.alloc (.cells #[.slice none 0 0,.slice none 0 0] 144)).heap[w.heap.size]?=some (.cells #[.slice none 0 0,.slice none 0 0] 144 (0,0)):=heap_alloc_new _ _
def OfI (H C:Nat) (w wr:World) (zs:List Int) (N i:Nat) (vL vP:Value):Prop:=
 wr.heap[H]?=some (.cells #[.slice none 0 0,.slice none 0 0] 144 (0,0))/\wr.heap[C]?=some (.cells #[vL,vP] 144 (0,0))/\IsRR wr vL (rnd zs N i)/\Below H w wr /\
 (1<=i->∀W:World,(∀k,C<k->k<wr.heap.size->W.heap[k]?=wr.heap[k]?)->wr.heap.size<=W.heap.size->IsRR W vL (rnd zs N i)/\IsInts W vP (picksM zs (rnd zs N (i-1)) (ng zs.length)))
theorem Zqs (a:Option Addr) (len c:Nat) (zs:List Int) (N:Nat) (w:World) (hI:IsInts w (.slice a len c) zs) (hlen:zs.length=len) (hz:len<=1000) (hc:len<=c) (hc2:c<=9223372036854775807) (hB:Bnds w)
  (hsy:Syms zs (N:Int)) (h1:1<=len) (h3:3<=N) (h258:N<=258) :
  Calls Tryz.prog 164 #[.slice a len c,.int .i64 (N:Int)] w fun e w'=>∃(vL vP:Value),e=.returned (.tuple #[.agg #[vL,vP],.int .i64 0])/\(∀W:World,(∀k,w.heap.size<=k->k<w'.heap.size->W.heap[k]?=w'.heap[k]?)->w'.heap.size<=W.heap.size->IsRR W vL (rnd zs N 4)/\IsInts W vP (picksM zs (rnd zs N 3) (ng zs.length)))/\Below w.heap.size w w':=by
 have h0:=Zog w;have hB1:=(Below.refl w.heap.size w).alloc (Nat.le_refl _) (.cells #[.slice none 0 0,.slice none 0 0] 144);have hI1:=hI.below hB1;have HCN:=zh (Zmc _ zs (N:Int) _ hI1 (by omega));have HI1:=zh hI1;have HBN1:=zh (hB.below hB1);have HB1:=zh hB1;have HSY:=zh hsy;have hi:=ZjQ;have hu:=Tryz.underlying144;have HLEN:=zh hlen;have HOKC:Hid (CntOk zs (N:Int)):=zh ⟨by omega,by omega,hsy⟩;have HCC:Hid (Nums (counts zs N)/\(counts zs N).length=N):=zh ⟨fun x hx=>by have:=Zdv zs N x hx;omega,Zaq zs N⟩;have HGR:=zh (fun W=>Zd5 (len:Int) W (by omega) (by omega));rw [Zod] at HGR;have hng:ng len<=20:=by unfold ng;omega
 have HRO:Hid (∀i,TabOk N (rnd zs N i)):=zh (fun i=>ZnM h3 h258 (by omega) i);obtain⟨Q,hQ⟩:∃Q,ng len=Q:=⟨_,rfl⟩
 rw [hQ] at HGR hng;have hs1:(w.alloc (.cells #[.slice none 0 0,.slice none 0 0] 144)).heap.size=w.heap.size+1:=by simp
 have HS1:=zh hs1;have HI0:=zh hI;clear hB1 hI1 hs1 hlen hsy hQ hB hI;go_enter Tryz.func164,Tryz.ntmps164;go_wp2_with fail;generalize hw1:w.alloc (.cells #[.slice none 0 0,.slice none 0 0] 144)=w1 at *;clear hw1;refine HCN.out.mono ?_;rintro e w2 ⟨u,ys,err,rfl,hI2,hB2,hP2⟩;rcases hP2 with⟨hno,_⟩|⟨_,rfl,rfl⟩
 ·exact absurd HOKC.out hno
 rw [Int.toNat_natCast] at hI2;have hg2:w2.heap[w.heap.size]?=some (.cells #[.slice none 0 0,.slice none 0 0] 144 (0,0)):=(hB2.block _ (by rw [HS1.out];omega)).trans h0;have HG2:=zh hg2;have HB2:Hid (Below w.heap.size w w2):=zh (HB1.out.trans (hB2.mono HB1.out.size));have HI2:=zh (HI1.out.below hB2);have HBN2:=zh (HBN1.out.below hB2);have HC2:=zh hI2;have hlni:¬(len:Int)=0:=by omega
 have hlnb:((len:Int)==0)=false:=by rw [beq_eq_false_iff_ne];exact hlni
 clear hI2 hB2 h0 HCN hg2 HI1 HB1 HBN1;go_wp2_with fail;refine(HGR.out _).mono ?_;rintro e w3 ⟨rfl,rfl⟩;have hQi:¬(32767:Int)<(Q:Int):=by omega
 have HF:=zh (ZjP u (counts zs N) (len:Int) w2 HC2.out HBN2.out HCC.out.1 (by rw [HCC.out.2];exact h3) (by rw [HCC.out.2];exact h258) (by omega) (by omega));go_wp2_with fail;refine HF.out.mono ?_;rintro e w4 ⟨vL0,rfl,hR4,hB4⟩;have hR4':=hR4;obtain⟨aL,cL,rfl,_⟩:=hR4'
 have hR5:IsRR w4 (.slice aL (firstM (counts zs N) (len:Int)).length cL) (rnd zs N 0):=by
  unfold rnd;rw [HLEN.out];exact hR4
 obtain⟨T,hT⟩:∃T,(firstM (counts zs N) (len:Int)).length=T:=⟨_,rfl⟩
 rw [hT] at hR5 ⊢;obtain⟨C,hC⟩:∃C,w4.heap.size=C:=⟨_,rfl⟩
 obtain⟨H,hH⟩:∃H,w.heap.size=H:=⟨_,rfl⟩
 have hHC:H<C:=by
  have h5:=(Array.getElem?_eq_some_iff.1 HG2.out).1;have h6:=hB4.size;omega
 have hB24:=hB4
 have HS:Hid (OfI H C w (w4.alloc (.cells #[.slice aL T cL,.slice none 0 0] 144)) zs N 0 (.slice aL T cL) (.slice none 0 0)):=zh (by
  have h5:=(Array.getElem?_eq_some_iff.1 HG2.out).1;refine⟨?_,?_,hR5.below ((Below.refl _ _).alloc (Nat.le_refl _) _),?_,fun h=>by omega⟩
  ·rw [<-hH];exact(Zam (by omega)).trans ((hB24.block _ h5).trans HG2.out)
  ·rw [<-hC];exact heap_alloc_new w4 _
  ·rw [<-hH];exact(HB2.out.trans (hB24.mono HB2.out.size)).alloc (by have:=HB2.out.size;have:=hB24.size;omega) _)
 have HHH:=zh hH;have HCX:=zh hC;clear hR4 hR5 hB4 hB24 hT hC hH HG2 HB2 HI2 HBN2 HC2 HF;go_wp2_with fail;rw [HCX.out];generalize w4.alloc (.cells #[.slice aL T cL,.slice none 0 0] 144)=w5 at *
 try rw [HHH.out]
 go_loopw [33] (fun vi wr=>∃(i:Nat) (vL vP:Value),vi=.int .i64 (i:Int)/\i<=4/\OfI H C w wr zs N i vL vP) (fun vi _=>4-(intOf vi).toNat)
 case atStart=>exact⟨0,_,_,rfl,by omega,HS.out⟩
 case round=>
  clear HS;obtain⟨i,vL,vP,rfl,hi4,hO⟩:=hrel;have HO:=zh hO;obtain⟨k1,k2,k3,k4,k5⟩:=hO;have hCl:=(Array.getElem?_eq_some_iff.1 k2).1;have r0:wr.cell? ⟨C,0,none⟩=some vL:=by rw [cell_of_row _ _ _ _ _ _ k2];rfl
  by_cases hlt:i<4
  ·have hii:(i:Int)<4:=by omega
   have HR:=zh (ZjR a len c zs N vL (rnd zs N i) wr (HI0.out.below (by rw [HHH.out];exact k4)) HLEN.out hz hc hc2 k3 HSY.out (HRO.out i) h3 h258);obtain⟨aL2,cL2,rfl,_⟩:=k3;clear k1 k2 k4 k5;go_wp2_with fail;refine HR.out.mono ?_;rintro e w6 ⟨vL6,vP6,rfl,hK6,hB6⟩;obtain⟨hR6,hP6⟩:=hK6.now;obtain⟨aL6,cL6,rfl,_⟩:=hR6;obtain⟨aP6,cP6,rfl,_⟩:=hP6;obtain⟨k1,k2,k3,k4,k5⟩:=HO.out;have hg6:=(hB6.block C hCl).trans k2;have hr6:=(hB6.block H (by omega)).trans k1;obtain⟨M1,hM1⟩:∃M,(roundM zs N (rnd zs N i)).length=M:=⟨_,rfl⟩
   obtain⟨M2,hM2⟩:∃M,(picksM zs (rnd zs N i) (ng zs.length)).length=M:=⟨_,rfl⟩
   rw [hM1,hM2] at hK6 ⊢
   have HNX:Hid (OfI H C w (w6.setRow C #[.slice aL6 M1 cL6,.slice aP6 M2 cP6]) zs N (i+1) (.slice aL6 M1 cL6) (.slice aP6 M2 cP6)):=zh (by
    have hke:∀W:World,(∀k,C<k->k<(w6.setRow C #[.slice aL6 M1 cL6,.slice aP6 M2 cP6]).heap.size->W.heap[k]?=(w6.setRow C #[.slice aL6 M1 cL6,.slice aP6 M2 cP6]).heap[k]?)->(w6.setRow C #[.slice aL6 M1 cL6,.slice aP6 M2 cP6]).heap.size<=W.heap.size->IsRR W (.slice aL6 M1 cL6) (rnd zs N (i+1))/\IsInts W (.slice aP6 M2 cP6) (picksM zs (rnd zs N i) (ng zs.length)):=fun W hW hs=>by
     rw [Zaw] at hW hs;exact hK6 W (fun k hk hk2=>(hW k (by omega) hk2).trans (setRow_other w6 C k _ (by omega))) hs
    exact⟨(setRow_other w6 C H _ (by omega)).trans hr6,setRow_heap w6 C _ _ _ (0,0) hg6,(hke _ (fun _ _ _=>rfl) (Nat.le_refl _)).1,Zae (k4.trans (hB6.mono (by omega))) (by omega) _,fun _=>hke⟩)
   clear k1 k2 k3 k4 k5 hK6 hB6 hr6 hM1 hM2 HR;go_wp2_with (refine wpList_store_row rfl 144 _ _ rfl C #[.slice aL6 M1 cL6,.slice aP6 M2 cP6] rfl rfl 144 _ hg6 hi rfl (Zgx _ _ _ _ _ _) ?_);go_roundw
   case rel=>exact⟨i+1,_,_,by go_num,by omega,HNX.out⟩
   case measure=>simp [intOf];omega
  ·obtain rfl:i=4:=by omega
   obtain⟨hR4,hP4⟩:=k5 (by omega) wr (fun _ _ _=>rfl) (Nat.le_refl _);obtain⟨aL6,cL6,rfl,_⟩:=hR4;obtain⟨aP6,cP6,rfl,_⟩:=hP4;obtain⟨M1,hM1⟩:∃M,(rnd zs N 4).length=M:=⟨_,rfl⟩
   obtain⟨M2,hM2⟩:∃M,(picksM zs (rnd zs N (4-1)) (ng zs.length)).length=M:=⟨_,rfl⟩
   rw [hM1,hM2] at k2 k5;rw [hM1] at r0 k3;have HF:Hid (∀W:World,(∀k,H<=k->k<(wr.setRow H #[.slice aL6 M1 cL6,.slice aP6 M2 cP6]).heap.size->W.heap[k]?=(wr.setRow H #[.slice aL6 M1 cL6,.slice aP6 M2 cP6]).heap[k]?)->(wr.setRow H #[.slice aL6 M1 cL6,.slice aP6 M2 cP6]).heap.size<=W.heap.size->IsRR W (.slice aL6 M1 cL6) (rnd zs N 4)/\IsInts W (.slice aP6 M2 cP6) (picksM zs (rnd zs N 3) (ng zs.length))):=zh (fun W hW hs=>k5 (by omega) W (fun k hk hk2=>(hW k (by omega) (by rw [Zaw];exact hk2)).trans (setRow_other wr H k _ (by omega))) (by rw [Zaw] at hs;exact hs));have HBB:Hid (Below H w (wr.setRow H #[.slice aL6 M1 cL6,.slice aP6 M2 cP6])):=zh (Zae k4 (Nat.le_refl _) _);clear k3 k4 k5 hM1 hM2 HO;go_wp2_with (first|(refine wpList_load_row rfl 144 _ rfl C rfl 144 #[.slice aL6 M1 cL6,.slice aP6 M2 cP6] (0,0) _ k2 hu rfl hi ?_)|(refine wpList_store_row rfl 144 _ _ rfl H #[.slice aL6 M1 cL6,.slice aP6 M2 cP6] rfl rfl 144 _ k1 hi rfl (Zgx _ _ _ _ _ _) ?_));exact bodyPost_ret (v:=.tuple #[.agg #[.slice aL6 M1 cL6,.slice aP6 M2 cP6],.int .i64 0]) (Zgy rfl _ _ ⟨H,0,none⟩ _ _ rfl rfl (Zof _ _ _ _ (setRow_heap _ _ _ _ _ _ k1))) rfl ⟨_,_,rfl,by rw [HHH.out];exact HF.out,by rw [HHH.out];exact HBB.out⟩
def PkOk (zs:List Int) (rows:List (List Int)) (ps:List Int) (i:Nat):Prop:=0<=ps.getD i 0/\ps.getD i 0<(rows.length:Int)/\CostOk (grp zs i) (rw_ rows (ps.getD i 0).toNat)
def CostsOk (zs:List Int) (rows:List (List Int)) (ps:List Int):Prop:=ps.length=ng zs.length/\∀i,i<ps.length->PkOk zs rows ps i
def gc (zs:List Int) (rows:List (List Int)) (ps:List Int) (i:Nat):Int:=cap (costS (grp zs i) (rw_ rows (ps.getD i 0).toNat))
def tcC (zs:List Int) (rows:List (List Int)) (ps:List Int):Nat->Int
 | 0=>0
 | k+1=>cap (tcC zs rows ps k+gc zs rows ps k)
def CostsP (zs:List Int) (rows:List (List Int)) (ps:List Int) (n:Int) (err:Int):Prop:=(CostsOk zs rows ps/\n=tcC zs rows ps ps.length/\err=0)\/(¬CostsOk zs rows ps/\n=0/\err=1)
end
section
open Go.RowKit
def ObjF (n:Nat) (T:TypeId) (w:World) (b:Nat) (F:Nat->Value):Prop:=w.heap[b]?=some (.cells (cellsF n F) T (0,0))
theorem ObjF.cell {n:Nat} {T:TypeId} {w:World} {b:Nat} {F:Nat->Value} (h:ObjF n T w b F) {i:Nat} (hi:i<n):w.cell? ⟨b,i,none⟩=some (F i)/\w.frozen? ⟨b,i,none⟩=false:=
 ⟨(cell_of_row _ _ _ _ _ _ h).trans (ZaY n F hi),frozen_of_row _ _ _ _ _ h⟩
theorem ObjF.set {n:Nat} {T:TypeId} {w:World} {b:Nat} {F:Nat->Value} (h:ObjF n T w b F) (i:Nat) (x:Value):ObjF n T (w.setCell ⟨b,i,none⟩ x) b (upd F i x):=by
 have:=heap_setCell_same w b i _ _ x h;rw [ZbQ] at this;exact this
theorem ObjF.lt {n:Nat} {T:TypeId} {w:World} {b:Nat} {F:Nat->Value} (h:ObjF n T w b F):b<w.heap.size:=(Array.getElem?_eq_some_iff.1 h).1
theorem ObjF.other {n:Nat} {T:TypeId} {w w':World} {b:Nat} {F:Nat->Value} (h:ObjF n T w b F) {S:Nat->Prop} (ht:Touch S w w') (hS:¬S b):ObjF n T w' b F:=
 (ht.block b h.lt hS).trans h
theorem ObjF.below {n:Nat} {T:TypeId} {w w':World} {b B:Nat} {F:Nat->Value} (h:ObjF n T w b F) (ht:Below B w w') (hB:b<B):ObjF n T w' b F:=
 (ht.block b hB).trans h
theorem ObjF.drewN {n:Nat} {T:TypeId} {w:World} {b:Nat} {F:Nat->Value} (h:ObjF n T w b F) (m:Nat):ObjF n T (w.drewN m) b F:=h
theorem ZaX (n:Nat) (F:Nat->Value):(cellsF n F).size=n:=by simp [cellsF]
theorem ZcI {n:Nat} {F G:Nat->Value} (h:∀k,k<n->F k=G k):cellsF n F=cellsF n G:=by
 unfold cellsF;congr 1;exact List.map_congr_left (fun k hk=>h k (List.mem_range.1 hk))
theorem ObjF.ext {n:Nat} {T:TypeId} {w:World} {b:Nat} {F G:Nat->Value} (h:ObjF n T w b F) (e:∀k,k<n->F k=G k):ObjF n T w b G:=by
 unfold ObjF;rw [<-ZcI e];exact h
theorem Zfk (n:Nat) (F:Nat->Value) (o:Nat) (vs:List Value) (h:o+vs.length<=n) :
  ((cellsF n F).toList.take o++vs++(cellsF n F).toList.drop (o+vs.length)).toArray=cellsF n (fun k=>if k<o then F k else if k<o+vs.length then vs.getD (k-o) (F k) else F k):=by
 apply Array.toList_inj.1;show(List.take o ((List.range n).map F)++vs++List.drop (o+vs.length) ((List.range n).map F))=(List.range n).map _;apply List.ext_getElem
 ·simp;omega
 ·intro j h1 h2;have hjn:j<n:=by simpa using h2
  simp only [List.getElem_map,List.getElem_range];by_cases c1:j<o
  ·rw [if_pos c1,List.getElem_append_left (by simp;omega),List.getElem_append_left (by simp;omega)];simp
  ·rw [if_neg c1];by_cases c2:j<o+vs.length
   ·rw [if_pos c2,List.getElem_append_left (by simp;omega),List.getElem_append_right (by simp;omega)];have:min o n=o:=by omega
    simp only [List.length_take,List.length_map,List.length_range,this];rw [List.getD_eq_getElem?_getD,List.getElem?_eq_getElem (by omega)];rfl
   ·rw [if_neg c2,List.getElem_append_right (by simp;omega)];simp only [List.getElem_drop,List.getElem_map,List.getElem_range];congr 1;simp;omega
end
section
open Go.RowKit BitM
def Wrote (w:World) (g:Nat) (v:Value) (tk:Nat) (q:List Bool) (w':World):Prop:=
 ∃v1,IsWriter w' g v1 q tk/\Touch (foot g v) w w'/\(∀k,v1.ownBlock=some k->v.ownBlock=some k\/w.heap.size<=k)
theorem Wrote.start {w:World} {g:Nat} {v:Value} {tk:Nat} {q:List Bool} (h:IsWriter w g v q tk):Wrote w g v tk q w:=⟨v,h,Touch.refl _ _,fun k hk=>Or.inl hk⟩
theorem Wrote.put {w w':World} {g:Nat} {v:Value} {tk:Nat} {q:List Bool} (h:Wrote w g v tk q w') (X n:Nat) (hn:n<=32) (hX:X<2^n) (hq:q.length<=1099511627776) :
  Calls Tryz.prog 47 #[.pointer (some ⟨g,0,none⟩),.int .u32 (X:Int),.int .i64 (n:Int)] w' fun e w2=>e=.returned (.int .i64 0)/\Wrote w g v tk (q++field X n) w2:=by
 obtain⟨v1,h1,h2,h3⟩:=h;refine(ZdX g v1 q tk X n w' h1 hn hX hq).mono ?_;rintro e w2 ⟨rfl,v2,k1,k2,k3⟩;refine⟨rfl,v2,k1,h2.trans k2 (fun j hj=>?_),fun k hk=>?_⟩
 ·rcases hj with hj|hj
  ·exact Or.inl (Or.inl hj)
  ·rcases h3 j hj with h|h
   ·exact Or.inl (Or.inr h)
   ·exact Or.inr h
 ·rcases k3 k hk with h|h
  ·exact h3 k h
  ·exact Or.inr (Nat.le_trans h2.size h)
theorem Wrote.touch {w w':World} {g:Nat} {v:Value} {tk:Nat} {q:List Bool} (h:Wrote w g v tk q w'):Touch (foot g v) w w':=by
 obtain⟨v1,h1,h2,h3⟩:=h;exact h2
theorem IsInts.other {w w':World} {v:Value} {zs:List Int} (h:IsInts w v zs) {S:Nat->Prop} (ht:Touch S w w') (hS:∀k,v.ownBlock=some k->¬S k):IsInts w' v zs:=by
 obtain⟨a,cap,rfl,hc⟩:=h;refine⟨a,cap,rfl,fun i x hx=>?_⟩;obtain⟨b,off,ha,hb⟩:=hc i x hx;refine⟨b,off,ha,?_⟩;rw [World.cell?_of_block (w:=w) (a:=⟨b,off+i,none⟩) (ht.block b (ZaG hb) (hS b (by rw [ha];rfl)))];exact hb
end
section
open Go.RowKit PkM BitM
theorem ZeM (n:Int) (r:Bool) (w:World) (hr:r=true↔2<=n/\n<=6):Calls Tryz.prog 220 #[.int .i64 n] w fun e w'=>e=.returned (.bool r)/\w'=w:=by
 by_cases h1:2<=n
 ·by_cases h2:n<=6
  ·obtain rfl:r=true:=hr.2 ⟨h1,h2⟩;clear hr;go_enter Tryz.func220,Tryz.ntmps220;go_wp2_with fail;go_ret;exact⟨rfl,rfl⟩
  ·obtain rfl:r=false:=by rw [Bool.eq_false_iff];intro h;exact h2 (hr.1 h).2
   clear hr;go_enter Tryz.func220,Tryz.ntmps220;go_wp2_with fail;go_ret;exact⟨rfl,rfl⟩
 ·obtain rfl:r=false:=by rw [Bool.eq_false_iff];intro h;exact h1 (hr.1 h).1
  clear hr;go_enter Tryz.func220,Tryz.ntmps220;go_wp2_with fail;go_ret;exact⟨rfl,rfl⟩
theorem ZrM {l:List Int} {k:Nat} (h:k<l.length):l.getD k 0∈l:=by
 rw [List.getD_eq_getElem?_getD,List.getElem?_eq_getElem h];exact List.getElem_mem h
theorem Ztr {zs:List Int} {P:Int->Prop} (h:∀j,j<zs.length->P (zs.getD j 0)):∀z∈zs,P z:=by
 intro z hz;obtain⟨i,hi,rfl⟩:=List.mem_iff_getElem.1 hz;have:=h i hi
 rwa [List.getD_eq_getElem?_getD,List.getElem?_eq_getElem hi] at this
theorem Zqt (v:Value) (zs:List Int) (t:Int) (r:Bool) (w:World) (hv:IsInts w v zs) (hr:r=true↔MayI zs t) (hz:zs.length<=9223372036854775807) :
  Calls Tryz.prog 165 #[v,.int .i64 t] w fun e w'=>e=.returned (.bool r)/\w'=w:=by
 have HV:=zh hv;have HRR:=zh hr;obtain⟨ad,cap,rfl,_⟩:=hv;clear hr;go_enter Tryz.func165,Tryz.ntmps165;go_wp2_with fail
 go_loopw [9] (fun i wr=>∃k:Nat,k<=zs.length/\i=.int .i64 k/\wr=w/\∀j,j<k->0<=zs.getD j 0/\zs.getD j 0<t) (fun i _=>zs.length-(intOf i).toNat)
 case atStart=>exact⟨0,by omega,rfl,rfl,fun j hj=>by omega⟩
 case round=>
  obtain⟨k,hk,rfl,rfl,hA⟩:=hrel;have HA:=zh hA;clear hA;by_cases hlk:k<zs.length
  ·have hki:(k:Int)<(zs.length:Int):=by omega
   obtain⟨b1,o1,k1,he1,c1⟩:=HV.out.cell hlk;simp only [Value.slice.injEq] at he1;obtain⟨rfl,_,rfl⟩:=he1;obtain⟨x,hx⟩:∃x,zs.getD k 0=x:=⟨_,rfl⟩
   rw [hx] at c1;have HX:=zh hx;clear hx;by_cases h0:x<0
   ·have hrf:r=false:=by
     rw [Bool.eq_false_iff,Ne,HRR.out];intro h;have:=h.2.2.2.2 _ (ZrM hlk);rw [HX.out] at this;omega
    subst hrf;go_wp2_with fail;go_ret;exact⟨rfl,rfl⟩
   ·by_cases h1:t<=x
    ·have hrf:r=false:=by
      rw [Bool.eq_false_iff,Ne,HRR.out];intro h;have:=h.2.2.2.2 _ (ZrM hlk);rw [HX.out] at this;omega
     subst hrf;go_wp2_with fail;go_ret;exact⟨rfl,rfl⟩
    ·go_wp2_with fail;go_roundw
     case rel=>exact⟨k+1,by omega,by go_num,(by first|rfl|trivial),fun j hj=>by
      by_cases e:j=k
      ·subst e;rw [HX.out];omega
      ·exact HA.out j (by omega)⟩
     case measure=>simp [intOf];omega
  ·have hki:¬(k:Int)<(zs.length:Int):=by omega
   have hw:Hid (∀z∈zs,0<=z/\z<t):=zh (Ztr (P:=fun z=>0<=z/\z<t) (fun j hj=>HA.out j (by omega)));by_cases ht:2<=t/\t<=6
   ·have HL:=zh (fun W=>ZeM t true W ⟨fun _=>ht,fun _=>rfl⟩);by_cases h1:1<=zs.length
    ·have h1i:(1:Int)<=(zs.length:Int):=by omega
     by_cases h2:zs.length<=32767
     ·have h2i:(zs.length:Int)<=32767:=by omega
      obtain rfl:r=true:=HRR.out.2 ⟨ht.1,ht.2,h1,h2,hw.out⟩;go_wp2_with fail;refine(HL.out _).mono ?_;rintro e w' ⟨rfl,rfl⟩;go_wp2_with fail;go_ret;exact⟨rfl,rfl⟩
     ·have h2i:¬(zs.length:Int)<=32767:=by omega
      obtain rfl:r=false:=by rw [Bool.eq_false_iff,Ne,HRR.out];exact fun h=>h2 h.2.2.2.1
      go_wp2_with fail;refine(HL.out _).mono ?_;rintro e w' ⟨rfl,rfl⟩;go_wp2_with fail;go_ret;refine⟨?_,rfl⟩;show Ending.returned (.bool (decide ((zs.length:Int)<=32767)))=_;rw [decide_eq_false (by omega)]
    ·have h1i:¬(1:Int)<=(zs.length:Int):=by omega
     obtain rfl:r=false:=by rw [Bool.eq_false_iff,Ne,HRR.out];exact fun h=>h1 h.2.2.1
     go_wp2_with fail;refine(HL.out _).mono ?_;rintro e w' ⟨rfl,rfl⟩;go_wp2_with fail;go_ret;exact⟨rfl,rfl⟩
   ·obtain rfl:r=false:=by rw [Bool.eq_false_iff,Ne,HRR.out];exact fun h=>ht ⟨h.1,h.2.1⟩
    have HL:=zh (fun W=>ZeM t false W ⟨fun e=>(by cases e),fun e=>absurd e ht⟩);clear ht;go_wp2_with fail;refine(HL.out _).mono ?_;rintro e w' ⟨rfl,rfl⟩;go_wp2_with fail;go_ret;exact⟨rfl,rfl⟩
def IdxP (zs:List Int) (x R:Int):Prop:=(∃k:Nat,R=(k:Int)/\k<zs.length/\zs.getD k 0=x/\∀j,j<k->zs.getD j 0≠x)\/(R=-1/\∀j,j<zs.length->zs.getD j 0≠x)
theorem IdxP.there {zs:List Int} {x R:Int} (h:IdxP zs x R) {k:Nat} (hk:k<zs.length) (hx:zs.getD k 0=x) (hn:∀j,j<k->zs.getD j 0≠x):R=(k:Int):=by
 rcases h with⟨k2,rfl,h1,h2,h3⟩|⟨rfl,h⟩
 ·rcases Nat.lt_trichotomy k2 k with h|h|h
  ·exact absurd h2 (hn k2 h)
  ·rw [h]
  ·exact absurd hx (h3 k h)
 ·exact absurd hx (h k hk)
theorem IdxP.none {zs:List Int} {x R:Int} (h:IdxP zs x R) (hn:∀j,j<zs.length->zs.getD j 0≠x):R=-1:=by
 rcases h with⟨k2,rfl,h1,h2,h3⟩|⟨rfl,h⟩
 ·exact absurd h2 (hn k2 h1)
 ·rfl
theorem Zgz (v:Value) (zs:List Int) (x R:Int) (w:World) (hv:IsInts w v zs) (hR:IdxP zs x R) (hz:zs.length<=9223372036854775807) :
  Calls Tryz.prog 163 #[v,.int .i64 x] w fun e w'=>e=.returned (.int .i64 R)/\w'=w:=by
 have HV:=zh hv;have HRR:=zh hR;obtain⟨ad,cap,rfl,_⟩:=hv;clear hR;go_enter Tryz.func163,Tryz.ntmps163;go_wp2_with fail
 go_loopw [8] (fun i wr=>∃k:Nat,k<=zs.length/\i=.int .i64 k/\wr=w/\∀j,j<k->zs.getD j 0≠x) (fun i _=>zs.length-(intOf i).toNat)
 case atStart=>exact⟨0,by omega,rfl,rfl,fun j hj=>by omega⟩
 case round=>
  obtain⟨k,hk,rfl,rfl,hA⟩:=hrel;have HA:=zh hA;clear hA;by_cases hlk:k<zs.length
  ·have hki:(k:Int)<(zs.length:Int):=by omega
   obtain⟨b1,o1,k1,he1,c1⟩:=HV.out.cell hlk;simp only [Value.slice.injEq] at he1;obtain⟨rfl,_,rfl⟩:=he1;obtain⟨y,hy⟩:∃y,zs.getD k 0=y:=⟨_,rfl⟩
   rw [hy] at c1;have HY:=zh hy;clear hy;by_cases he:x=y
   ·have hd:(x==y)=true:=by rw [he];exact beq_self_eq_true _
    have hR:=HRR.out.there hlk (HY.out.trans he.symm) HA.out;subst hR;clear he;go_wp2_with fail;go_ret;exact⟨rfl,rfl⟩
   ·have hd:(x==y)=false:=by rw [beq_eq_false_iff_ne];exact he
    have HE:=zh he;clear he;go_wp2_with fail;go_roundw
    case rel=>exact⟨k+1,by omega,by go_num,(by first|rfl|trivial),fun j hj=>by
     by_cases e:j=k
     ·subst e;rw [HY.out];exact fun h=>HE.out h.symm
     ·exact HA.out j (by omega)⟩
    case measure=>simp [intOf];omega
  ·have hki:¬(k:Int)<(zs.length:Int):=by omega
   have hR:=HRR.out.none (fun j hj=>HA.out j (by omega));subst hR;go_wp2_with fail;go_ret;exact⟨rfl,rfl⟩
def ordF (o:List Nat) (k:Nat):Value:=.int .i64 ((o.getD k 0:Nat):Int)
def ordA (o:List Nat):Array Value:=cellsF 6 (ordF o)
theorem Zbz (o:List Nat):(ordA o).size=6:=ZaX 6 _
theorem Zhk (o:List Nat):(ordA o).all (·.oneCell')=true:=by
 rw [Array.all_eq_true];intro i hi;have h1:(ordA o)[i]?=some (ordF o i):=ZaY 6 _ (by rw [Zbz] at hi;exact hi);rw [Array.getElem?_eq_getElem hi] at h1;rw [Option.some.inj h1];rfl
def zsix:Nat->Value:=fun _=>.int .i64 0
def InO (w wr:World) (k:Nat):Prop:=
 Below w.heap.size w wr/\ObjF 6 221 wr w.heap.size zsix/\ObjF 6 221 wr (w.heap.size+1) (fun j=>if j<k then .int .i64 (j:Int) else .int .i64 0)
theorem Zfl (w:World):Calls Tryz.prog 166 #[] w fun e w'=>e=.returned (.agg (ordA O6))/\Below w.heap.size w w':=by
 have hb1:=(Below.refl w.heap.size w).alloc (Nat.le_refl _) (.cells #[.int .i64 0,.int .i64 0,.int .i64 0,.int .i64 0,.int .i64 0,.int .i64 0] 221);have hg1:=heap_alloc_new w (.cells #[.int .i64 0,.int .i64 0,.int .i64 0,.int .i64 0,.int .i64 0,.int .i64 0] 221);have hs1:(w.alloc (.cells #[.int .i64 0,.int .i64 0,.int .i64 0,.int .i64 0,.int .i64 0,.int .i64 0] 221)).heap.size=w.heap.size+1:=by show(w.heap.push _).size=_;simp
 have HI:Hid (InO w ((w.alloc (.cells #[.int .i64 0,.int .i64 0,.int .i64 0,.int .i64 0,.int .i64 0,.int .i64 0] 221)).alloc (.cells #[.int .i64 0,.int .i64 0,.int .i64 0,.int .i64 0,.int .i64 0,.int .i64 0] 221)) 0):=zh (by
  refine⟨hb1.alloc hb1.size _,?_,?_⟩
  ·exact(Zam (by rw [hs1];omega)).trans hg1
  ·have:=heap_alloc_new (w.alloc (.cells #[.int .i64 0,.int .i64 0,.int .i64 0,.int .i64 0,.int .i64 0,.int .i64 0] 221)) (.cells #[.int .i64 0,.int .i64 0,.int .i64 0,.int .i64 0,.int .i64 0,.int .i64 0] 221);rw [hs1] at this;exact this)
 clear hb1 hg1 hs1;go_enter Tryz.func166,Tryz.ntmps166;go_wp2_with fail
 go_loopw [3] (fun i wr=>∃k:Nat,k<=6/\i=.int .i64 k/\InO w wr k) (fun i _=>6-(intOf i).toNat)
 case atStart=>exact⟨0,by omega,rfl,HI.out⟩
 case round=>
  clear HI;obtain⟨k,hk,rfl,hI⟩:=hrel;have HI:=zh hI;clear hI;by_cases hlt:k<6
  ·have hki:(k:Int)<6:=by omega
   have hk0:(0:Int)<=(k:Int):=by omega
   obtain⟨c0,f0⟩:=HI.out.2.2.cell hlt
   have HS:Hid (InO w (wr.setCell ⟨w.heap.size+1,k,none⟩ (.int .i64 (k:Int))) (k+1)):=zh (by
    obtain⟨h1,h2,h3⟩:=HI.out;refine⟨h1.trans (Zaa (b:=w.heap.size+1) (Touch.refl _ _) |>.below h1.size (fun i hi=>by have:i=w.heap.size+1:=hi;omega)),h2.other (Zaa (b:=w.heap.size+1) (Touch.refl _ _)) (by show ¬w.heap.size=w.heap.size+1;omega),(h3.set k _).ext (fun j hj=>?_)⟩;unfold upd;by_cases e:j=k
    ·subst e;rw [if_pos rfl,if_pos (by omega)]
    ·rw [if_neg e];show(if j<k then _ else _)=_;by_cases e2:j<k
     ·rw [if_pos e2,if_pos (by omega)]
     ·rw [if_neg e2,if_neg (by omega)])
   rw [if_neg (by omega)] at c0;obtain⟨N,hN⟩:∃N,w.heap.size+1=N:=⟨_,rfl⟩
   rw [hN] at c0 f0 HS;simp only [hN];go_wp2_with fail;go_roundw
   case rel=>exact⟨k+1,by omega,by go_num,HS.out⟩
   case measure=>simp [intOf];omega
  ·obtain rfl:k=6:=by omega
   obtain⟨hb,h0,hc⟩:=HI.out
   have hA:cellsF 6 (fun j=>if j<6 then Value.int .i64 (j:Int) else .int .i64 0)=ordA O6:=by
    refine ZcI (fun j hj=>?_);rcases(by omega:j=0\/j=1\/j=2\/j=3\/j=4\/j=5) with rfl|rfl|rfl|rfl|rfl|rfl<;>rfl
   unfold ObjF at h0 hc;rw [hA] at hc;have hi:(Tryz.prog.info? 221).map (·.size)=some (ordA O6).size:=by rw [Zbz];kernel_rfl
   have ha:=Zhk O6;have h16:(cellsF 6 zsix).size=(ordA O6).size:=by rw [Zbz];rfl
   obtain⟨A,hA2⟩:∃A,ordA O6=A:=⟨_,rfl⟩
   have HA2:=zh hA2;rw [hA2] at hc hi ha h16;generalize cellsF 6 zsix=Z0 at *;clear HI hA hA2;go_wp2_with (first|(refine wpList_load_row rfl 221 _ rfl (w.heap.size+1) rfl 221 A (0,0) _ hc Tryz.underlying221 rfl hi ?_)|(refine wpList_store_row rfl 221 _ _ rfl w.heap.size A rfl rfl 221 Z0 h0 hi h16 ha ?_));refine bodyPost_ret (v:=.agg A) (results_cell_row rfl _ _ w.heap.size 221 A (0,0) _ rfl (setRow_heap wr _ Z0 A 221 _ h0) Tryz.underlying221 rfl hi) rfl ⟨by rw [HA2.out],?_⟩;exact hb.trans ⟨rfl,rfl,rfl,by simp [World.setRow],fun j hj=>setRow_other wr _ j _ (by omega)⟩
def LstAt (n:Nat) (T:TypeId) (w:World) (b off:Nat) (F:Nat->Value) (o:List Nat):Prop:=ObjF n T w b F/\o.length=6/\off+6<=n/\∀j,j<6->F (off+j)=ordF o j
theorem LstAt.ints {n:Nat} {T:TypeId} {w:World} {b off:Nat} {F:Nat->Value} {o:List Nat} (h:LstAt n T w b off F o) (k c:Nat) (hk:k<=6):IsInts w (.slice (some ⟨b,off,none⟩) k c) (toI (o.take k)):=by
 obtain⟨h1,h2,h3,h4⟩:=h;refine⟨_,c,by rw [toI_length,List.length_take,h2,Nat.min_eq_left hk],fun i x hx=>⟨b,off,rfl,?_⟩⟩;obtain⟨hi,hx2⟩:=List.getElem?_eq_some_iff.1 hx;rw [toI_length,List.length_take] at hi;rw [(h1.cell (i:=off+i) (by omega)).1,h4 i (by omega)];unfold ordF;have h5:=toI_getD (o.take k) i;rw [List.getD_eq_getElem?_getD,hx] at h5
 have h6:(o.take k).getD i 0=o.getD i 0:=by
  rw [List.getD_eq_getElem?_getD,List.getD_eq_getElem?_getD,List.getElem?_take,if_pos (by omega)]
 rw [h6] at h5;rw [<-h5];rfl
theorem Zqu (o:List Nat) (i j:Nat) (hi:i<o.length) (hj:j<o.length):(tch o i).getD j 0=if j=0 then o.getD i 0 else if j<=i then o.getD (j-1) 0 else o.getD j 0:=by
 rw [ZeD o i hi];cases j with
 | zero=>
  rw [if_pos rfl,List.getD_cons_zero,List.getD_eq_getElem?_getD,List.getElem?_eq_getElem hi];rfl
 | succ m=>
  rw [if_neg (by omega),List.getD_cons_succ,List.getD_eq_getElem?_getD];by_cases h:m+1<=i
  ·rw [if_pos h,List.getElem?_append_left (by rw [List.length_take];omega),List.getElem?_take,if_pos (by omega),List.getD_eq_getElem?_getD];rfl
  ·rw [if_neg h,List.getElem?_append_right (by rw [List.length_take];omega),List.length_take,Nat.min_eq_left (by omega),List.getElem?_drop,List.getD_eq_getElem?_getD];congr 2;omega
def cpF (F:Nat->Value) (off i:Nat) (o:List Nat):Nat->Value:=
 fun k=>if k<off+1 then F k else if k<off+1+((toI (o.take i)).map iv64).length then((toI (o.take i)).map iv64).getD (k-(off+1)) (F k) else F k
theorem Zts {n:Nat} {T:TypeId} {w:World} {b off:Nat} {F:Nat->Value} {o:List Nat} (h:LstAt n T w b off F o) {i:Nat} (hi:i<6) (j:Nat) (hj:j<6) :
  upd (cpF F off i o) off (ordF o i) (off+j)=ordF (tch o i) j:=by
 obtain⟨h1,h2,h3,h4⟩:=h;have hl:((toI (o.take i)).map iv64).length=i:=by rw [List.length_map,toI_length,List.length_take];omega
 unfold ordF;rw [Zqu o i j (by omega) (by omega)];by_cases e:j=0
 ·subst e;rw [Nat.add_zero,Zak,if_pos rfl]
 ·rw [Zab _ _ (by omega),if_neg e];unfold cpF;rw [if_neg (by omega),hl];by_cases c:j<=i
  ·rw [if_pos (by omega),if_pos c];obtain⟨m,rfl⟩:∃m,j=m+1:=⟨j-1,by omega⟩
   rw [show off+(m+1)-(off+1)=m by omega,Nat.add_sub_cancel,List.getD_eq_getElem?_getD,List.getElem?_map];have h5:=toI_getD (o.take i) m
   have h6:(o.take i).getD m 0=o.getD m 0:=by
    rw [List.getD_eq_getElem?_getD,List.getD_eq_getElem?_getD,List.getElem?_take,if_pos (by omega)]
   rw [h6,List.getD_eq_getElem?_getD,List.getElem?_eq_getElem (by rw [toI_length,List.length_take];omega)] at h5;rw [List.getElem?_eq_getElem (by rw [toI_length,List.length_take];omega)];show iv64 _=_;unfold iv64;rw [<-h5];rfl
  ·rw [if_neg (by omega),if_neg c,h4 j hj];rfl
theorem Zsq (F:Nat->Value) (off i:Nat) (o:List Nat) (x:Value) (hi:i<6) (k:Nat) (hk:k<off\/off+6<=k):upd (cpF F off i o) off x k=F k:=by
 have hl:((toI (o.take i)).map iv64).length<=i:=by rw [List.length_map,toI_length,List.length_take];omega
 rw [Zab _ _ (by omega)];unfold cpF;rcases hk with hk|hk
 ·rw [if_pos (by omega)]
 ·rw [if_neg (by omega),if_neg (by omega)]
theorem Zsr {n:Nat} {T:TypeId} {w:World} {b off:Nat} {F:Nat->Value} {o:List Nat} (h:LstAt n T w b off F o) (i ty:Nat) (hi:i<6) :
  (Builtin.copy_ #[79,79] ty #[.slice (some ⟨b,off+1,none⟩) 5 5,.slice (some ⟨b,off,none⟩) i 6]).run Tryz.prog w=.ok (goInt i) (w.setRow b (cellsF n (cpF F off i o))):=by
 obtain⟨h1,h2,h3,h4⟩:=id h;have hl:((toI (o.take i)).map iv64).length=i:=by rw [List.length_map,toI_length,List.length_take];omega
 have hm:Nat.min i 5=i:=Nat.min_eq_left (by omega);have hI:=h.ints i 6 (by omega)
 have:=run_copy_row (P:=Tryz.prog) w 79 79 ty 3 b (off+1) 5 5 ⟨b,off,none⟩ i 6 (cellsF n F) T ((toI (o.take i)).map iv64) Tryz.underlying79 (by kernel_rfl) h1 (by rw [hl,hm]) (fun j v hj=>by
  rw [List.getElem?_map] at hj;obtain⟨x,hx,rfl⟩:=Option.map_eq_some_iff.1 hj;obtain⟨a,cap,he,hc⟩:=hI;obtain⟨b2,off2,ha,hb⟩:=hc j x hx;simp only [Value.slice.injEq] at he;rw [<-he.1] at ha;simp only [Option.some.injEq,Addr.mk.injEq,and_true] at ha;obtain⟨rfl,rfl⟩:=ha;rw [Addr.add_lit];exact hb) (by rw [hl,ZaX];omega) (fun v hv=>by
  obtain⟨x,_,rfl⟩:=List.mem_map.1 hv;rfl)
 rw [Zfk n F (off+1) _ (by rw [hl];omega),hl] at this;unfold cpF;rw [hl];exact this
theorem Zfm {P:Program} {ops:Array Oper} {rest:List Oper} {o:Oper} {a:Act} {w:World} {Q:Exit->Act->World->Prop} (hgd:o.guard=none) (d s:Operand) (t t':TypeId)
  (ho:o.op=.call { callee:=.builtin .copy,args:=#[d,s],argTypes:=#[t,t'] }) (v u:Value) (hd:a.eval d=v) (hs:a.eval s=u) {v':Value} {w':World}
  (hr:(Builtin.copy_ #[t,t'] o.type #[v,u]).run P w=.ok v' w') (h:wpList P ops Q rest (a.put o.dst v') w'):wpList P ops Q (o::rest) a w:=
 wpList_plain hgd fun K hK=>by
  unfold Oper.wp execOp;simp only [ho,resolve,invoke,builtin,Sem.run_bind,Sem.run_pure,Result.andThen_ok,List.map_toArray,List.map_cons,List.map_nil,hd,hs,hr];exact hK _ _ h
theorem Zqv (W:World) (b off:Nat):(Instr.sliceAt 221 (.pointer (some ⟨b,off,none⟩)) (some (.int .i64 1)) none none).run Tryz.prog W=.ok (.slice (some ⟨b,off+1,none⟩) 5 5) W:=by
 have e:Tryz.prog.arrayLen 221=6:=by kernel_rfl
 have hs:(sizeOf (Tryz.prog.elem 221)).run Tryz.prog W=.ok 1 W:=by kernel_rfl
 rfl
theorem ZtU (W:World) (b off i:Nat) (hi:i<=6):(Instr.sliceAt 221 (.pointer (some ⟨b,off,none⟩)) none (some (.int .i64 (i:Int))) none).run Tryz.prog W=.ok (.slice (some ⟨b,off,none⟩) i 6) W:=by
 have e:Tryz.prog.arrayLen 221=6:=by kernel_rfl
 have hs:(sizeOf (Tryz.prog.elem 221)).run Tryz.prog W=.ok 1 W:=by kernel_rfl
 rw [run_sliceAt_array_h W _ ⟨b,off,none⟩ (by kernel_rfl) .i64 (i:Int) (by omega) (by rw [e];omega),hs];simp [Result.andThen,slicedAt,e,Addr.add]
theorem Zis (n:Nat) (T:TypeId) (b off i:Nat) (F:Nat->Value) (o:List Nat) (w:World) (h:LstAt n T w b off F o) (hi:i<6) :
  Calls Tryz.prog 221 #[.pointer (some ⟨b,off,none⟩),.int .i64 (i:Int)] w fun e w'=>e=.returned (ordF o i)/\(∃F',LstAt n T w' b off F' (tch o i)/\∀k,(k<off\/off+6<=k)->F' k=F k)/\Touch (·=b) w w':=by
 have H:=zh h;have hi2:(i:Int)<6:=by omega
 have hi0:(0:Int)<=(i:Int):=by omega
 have hs1:=fun W=>Zqv W b off
 have hs2:=fun W=>ZtU W b off i (by omega)
 have hoff:=h.2.2.1;have c0:w.cell? ⟨b,off+i,none⟩=some (ordF o i):=by rw [(h.1.cell (i:=off+i) (by omega)).1,h.2.2.2 i hi]
 have HCP:=zh (fun(ty:Nat)=>Zsr (w:=w.drewN 1) (T:=T) (F:=F) (o:=o) ⟨h.1.drewN 1,h.2⟩ i ty hi);have HAT:=zh (fun j hj=>Zts h hi j hj);obtain⟨X,hX⟩:∃X,ordF o i=.int .i64 X:=⟨_,rfl⟩
 rw [hX] at c0 HAT ⊢;clear h hX;generalize hG:cpF F off i o=G at *;have HG:=zh hG;clear hG;go_enter Tryz.func221,Tryz.ntmps221;go_wp2_with fail
 go_still_tail 7,(by kernel_rfl)
 refine Zfm rfl _ _ 79 79 rfl _ _ rfl rfl (HCP.out _) ?_;have hset:((w.drewN 1).setRow b (cellsF n G)).heap[b]?=some (.cells (cellsF n G) T (0,0)):=setRow_heap _ _ _ _ _ _ (H.out.1.drewN 1);have hT1:Touch (·=b) w ((w.drewN 1).setRow b (cellsF n G)):=⟨rfl,rfl,rfl,by simp [World.setRow,World.drewN],fun j _ hj=>setRow_other (w.drewN 1) b j _ hj⟩
 generalize (w.drewN 1).setRow b (cellsF n G)=W1 at *;have HO:Hid (ObjF n T W1 b G):=zh hset;have HT1:=zh hT1;obtain⟨d0,d1⟩:=HO.out.cell (i:=off) (by omega);clear hset hT1 HCP hs1 hs2;go_wp2_with fail;go_ret;refine⟨rfl,⟨_,⟨HO.out.set off _,?_,H.out.2.2.1,HAT.out⟩,?_⟩,Zaa HT1.out⟩
 ·rw [ZcO o i (by rw [H.out.2.1];exact hi)];exact H.out.2.1
 ·intro k hk;rw [<-HG.out];exact Zsq F off i o _ hi k hk
theorem Ztt (W:World) (b off:Nat):(Instr.sliceAt 221 (.pointer (some ⟨b,off,none⟩)) none none none).run Tryz.prog W=.ok (.slice (some ⟨b,off,none⟩) 6 6) W:=by rfl
theorem Zss {o:List Nat} {p:Nat} (hp:p∈o):IdxP (toI o) (p:Int) ((o.idxOf p:Nat):Int):=by
 have hi:o.idxOf p<o.length:=List.idxOf_lt_length_of_mem hp;refine Or.inl ⟨_,rfl,by rw [toI_length];exact hi,?_,fun j hj h=>?_⟩
 ·rw [toI_getD,List.getD_eq_getElem?_getD,List.getElem?_eq_getElem hi,List.getElem_idxOf];rfl
 ·rw [toI_getD] at h;have hj2:j<o.length:=by omega
  refine ZhX hj ?_;rw [List.getD_eq_getElem?_getD,List.getElem?_eq_getElem hj2] at h;rw [List.getElem?_eq_getElem hj2];congr 1;have h2:((o[j]:Nat):Int)=(p:Int):=h;omega
theorem Zmq (n:Nat) (T:TypeId) (b off p:Nat) (F:Nat->Value) (o:List Nat) (w:World) (h:LstAt n T w b off F o) (hp:p∈o) :
  Calls Tryz.prog 167 #[.pointer (some ⟨b,off,none⟩),.int .i64 (p:Int)] w fun e w'=>e=.returned (.int .i64 ((o.idxOf p:Nat):Int))/\(∃F',LstAt n T w' b off F' (tch o (o.idxOf p))/\∀k,(k<off\/off+6<=k)->F' k=F k)/\Touch (·=b) w w':=by
 have H:=zh h;have hi:o.idxOf p<o.length:=List.idxOf_lt_length_of_mem hp;rw [h.2.1] at hi;have hI:=h.ints 6 6 (by omega);rw [List.take_of_length_le (by rw [h.2.1];exact Nat.le_refl _)] at hI;have HIX:=zh (fun(R:Int) (hR:R=((o.idxOf p:Nat):Int))=>Zgz _ (toI o) (p:Int) R w hI (by rw [hR];exact Zss hp) (by rw [toI_length,h.2.1];omega));have hs:=fun W=>Ztt W b off
 obtain⟨I,hII⟩:∃I,o.idxOf p=I:=⟨_,rfl⟩
 rw [hII] at hi HIX ⊢;clear h hp hI hII;go_enter Tryz.func167,Tryz.ntmps167;go_wp2_with fail;refine(HIX.out _ rfl).mono ?_;rintro e w' ⟨rfl,rfl⟩;go_wp2_with fail;refine(Zis n T b off I F o _ H.out hi).mono ?_;rintro e w1 ⟨rfl,hL,hT⟩;have HL:=zh hL;have HT:=zh hT;clear hL hT;go_wp2_with fail;go_ret;exact⟨rfl,HL.out,HT.out⟩
def boxed (w:World):World:=(w.alloc (.cells #[.int .i64 0,.int .i64 0,.int .i64 0,.int .i64 0,.int .i64 0,.int .i64 0] 221)).setRow w.heap.size (ordA O6)
theorem Zit (w:World):LstAt 6 221 (boxed w) w.heap.size 0 (ordF O6) O6:=by
 refine⟨?_,rfl,Nat.le_refl _,fun j hj=>by rw [Nat.zero_add]⟩;exact setRow_heap _ _ _ _ _ _ (heap_alloc_new w _)
theorem ZjS (w:World):Below w.heap.size w (boxed w):=Zae ((Below.refl _ _).alloc (Nat.le_refl _) _) (Nat.le_refl _) _
theorem Ziu:(Tryz.prog.info? 221).map (·.size)=some (ordA O6).size:=by rw [Zbz];kernel_rfl
theorem Zqw:(#[.int .i64 0,.int .i64 0,.int .i64 0,.int .i64 0,.int .i64 0,.int .i64 0]:Array Value).size=(ordA O6).size:=by rw [Zbz];rfl
def setsF (F:Nat->Value):Nat->List Value->Nat->Value
 | _,[]=>F
 | o,v::r=>setsF (upd F o v) (o+1) r
theorem ObjF.sets {n:Nat} {T:TypeId} {b:Nat}:∀(vs:List Value) (o:Nat) (w:World) (F:Nat->Value),ObjF n T w b F->ObjF n T (w.setCells b o vs) b (setsF F o vs)
 | [],_,_,_,h=>h
 | v::r,o,w,F,h=>ObjF.sets r (o+1) _ _ (h.set o v)
theorem ZbY:∀(vs:List Value) (o:Nat) (F:Nat->Value) (k:Nat),(k<o\/o+vs.length<=k)->setsF F o vs k=F k
 | [],_,_,_,_=>rfl
 | v::r,o,F,k,h=>by
  rw [List.length_cons] at h;rw [setsF,ZbY r (o+1) _ k (by omega),Zab _ _ (by omega)]
theorem ZlA:∀(vs:List Value) (o:Nat) (F:Nat->Value) (j:Nat),j<vs.length->setsF F o vs (o+j)=vs.getD j undef
 | [],_,_,_,h=>absurd h (Nat.not_lt_zero _)
 | v::r,o,F,0,h=>by
  rw [setsF,ZbY r (o+1) _ _ (by omega),Nat.add_zero,Zak];rfl
 | v::r,o,F,j+1,h=>by
  rw [List.length_cons] at h;rw [setsF,show o+(j+1)=(o+1)+j by omega,ZlA r (o+1) _ j (by omega)];rfl
structure PF (F:Nat->Value) (pv:Value) (t n:Nat) (o:List Nat) (bad:Bool):Prop where
 tab:F 0=.int .i64 (t:Int)
 num:F 1=.int .i64 (n:Int)
 row:F 2=pv
 lst:∀j,j<6->F (3+j)=ordF o j
 wrong:F 9=.bool bad
def IsPk (w:World) (b:Nat) (pv:Value) (t n:Nat) (ps o:List Nat) (bad:Bool):Prop:=
 ∃F,ObjF 10 321 w b F/\PF F pv t n o bad/\OwnI w (b+1) pv (toI ps)/\o.length=6/\ps.length<=32767
theorem IsPk.lt {w:World} {b:Nat} {pv:Value} {t n:Nat} {ps o:List Nat} {bad:Bool} (h:IsPk w b pv t n ps o bad):∀k,foot b pv k->b<=k/\k<w.heap.size:=by
 obtain⟨F,h1,h2,h3,_⟩:=h;intro k hk;rcases hk with rfl|hk
 ·exact⟨Nat.le_refl _,h1.lt⟩
 ·have:=h3.lt k hk;omega
theorem IsPk.other {w w':World} {b:Nat} {pv:Value} {t n:Nat} {ps o:List Nat} {bad:Bool} (h:IsPk w b pv t n ps o bad) {S:Nat->Prop} (ht:Touch S w w') (hS:∀k,foot b pv k->¬S k):IsPk w' b pv t n ps o bad:=by
 have hl:=h.lt;obtain⟨F,h1,h2,h3,h4⟩:=h;exact⟨F,h1.other ht (hS b (Or.inl rfl)),h2,h3.same (fun k hk=>ht.block k (hl k (Or.inr hk)).2 (hS k (Or.inr hk))),h4⟩
theorem IsPk.below {w w':World} {b:Nat} {pv:Value} {t n:Nat} {ps o:List Nat} {bad:Bool} (h:IsPk w b pv t n ps o bad) (hb:Below w.heap.size w w'):IsPk w' b pv t n ps o bad:=
 h.other (Touch.ofBelow (S:=fun _=>False) hb) (fun _ _ h=>h)
theorem IsPk.drewN {w:World} {b:Nat} {pv:Value} {t n:Nat} {ps o:List Nat} {bad:Bool} (h:IsPk w b pv t n ps o bad) (m:Nat):IsPk (w.drewN m) b pv t n ps o bad:=h
theorem IsPk.cells {w:World} {b:Nat} {pv:Value} {t n:Nat} {ps o:List Nat} {bad:Bool} (h:IsPk w b pv t n ps o bad) :
  w.cell? ⟨b,0,none⟩=some (.int .i64 (t:Int))/\w.cell? ⟨b,1,none⟩=some (.int .i64 (n:Int))/\w.cell? ⟨b,2,none⟩=some pv/\w.cell? ⟨b,9,none⟩=some (.bool bad):=by
 obtain⟨F,h1,h2,_⟩:=h;refine⟨?_,?_,?_,?_⟩
 ·rw [(h1.cell (i:=0) (by omega)).1,h2.tab]
 ·rw [(h1.cell (i:=1) (by omega)).1,h2.num]
 ·rw [(h1.cell (i:=2) (by omega)).1,h2.row]
 ·rw [(h1.cell (i:=9) (by omega)).1,h2.wrong]
theorem IsPk.frozen {w:World} {b:Nat} {pv:Value} {t n:Nat} {ps o:List Nat} {bad:Bool} (h:IsPk w b pv t n ps o bad) (i:Nat) (hi:i<10):w.frozen? ⟨b,i,none⟩=false:=by
 obtain⟨F,h1,_⟩:=h;exact(h1.cell hi).2
theorem IsPk.slice {w:World} {b:Nat} {pv:Value} {t n:Nat} {ps o:List Nat} {bad:Bool} (h:IsPk w b pv t n ps o bad):(∃a c,pv=.slice a ps.length c)/\ps.length<=32767:=by
 obtain⟨F,h1,h2,h3,h4,h5⟩:=h;obtain⟨a,c,e⟩:=h3.slice;rw [toI_length] at e;exact⟨⟨a,c,e⟩,h5⟩
theorem IsPk.ints {w:World} {b:Nat} {pv:Value} {t n:Nat} {ps o:List Nat} {bad:Bool} (h:IsPk w b pv t n ps o bad):IsInts w pv (toI ps):=by
 obtain⟨F,h1,h2,h3,h4,h5⟩:=h;exact h3.ints
theorem ZbZ {w w':World} {base b:Nat} {v:Value} {zs:List Int} (h:OwnI w base v zs) (ht:Touch (·=b) w w') (hb:b<base):OwnI w' base v zs:=
 h.same (fun k hk=>ht.block k (h.lt k hk).2 (fun e=>by have e2:k=b:=e;have:=(h.lt k hk).1;omega))
theorem IsPk.setTab {w:World} {b:Nat} {pv:Value} {t n:Nat} {ps o:List Nat} {bad:Bool} (h:IsPk w b pv t n ps o bad) (x:Nat):IsPk (w.setCell ⟨b,0,none⟩ (.int .i64 (x:Int))) b pv x n ps o bad:=by
 obtain⟨F,h1,h2,h3,h4⟩:=h;refine⟨_,h1.set 0 _,⟨Zak _ _ _,?_,?_,fun j hj=>?_,?_⟩,ZbZ h3 (Zaa (Touch.refl _ _)) (Nat.lt_succ_self _),h4⟩
 ·rw [Zab _ _ (by omega),h2.num]
 ·rw [Zab _ _ (by omega),h2.row]
 ·rw [Zab _ _ (by omega),h2.lst j hj]
 ·rw [Zab _ _ (by omega),h2.wrong]
theorem IsPk.setNum {w:World} {b:Nat} {pv:Value} {t n:Nat} {ps o:List Nat} {bad:Bool} (h:IsPk w b pv t n ps o bad) (x:Nat):IsPk (w.setCell ⟨b,1,none⟩ (.int .i64 (x:Int))) b pv t x ps o bad:=by
 obtain⟨F,h1,h2,h3,h4⟩:=h;refine⟨_,h1.set 1 _,⟨?_,Zak _ _ _,?_,fun j hj=>?_,?_⟩,ZbZ h3 (Zaa (Touch.refl _ _)) (Nat.lt_succ_self _),h4⟩
 ·rw [Zab _ _ (by omega),h2.tab]
 ·rw [Zab _ _ (by omega),h2.row]
 ·rw [Zab _ _ (by omega),h2.lst j hj]
 ·rw [Zab _ _ (by omega),h2.wrong]
theorem IsPk.setBad {w:World} {b:Nat} {pv:Value} {t n:Nat} {ps o:List Nat} {bad:Bool} (h:IsPk w b pv t n ps o bad) (x:Bool):IsPk (w.setCell ⟨b,9,none⟩ (.bool x)) b pv t n ps o x:=by
 obtain⟨F,h1,h2,h3,h4⟩:=h;refine⟨_,h1.set 9 _,⟨?_,?_,?_,fun j hj=>?_,Zak _ _ _⟩,ZbZ h3 (Zaa (Touch.refl _ _)) (Nat.lt_succ_self _),h4⟩
 ·rw [Zab _ _ (by omega),h2.tab]
 ·rw [Zab _ _ (by omega),h2.num]
 ·rw [Zab _ _ (by omega),h2.row]
 ·rw [Zab _ _ (by omega),h2.lst j hj]
theorem IsPk.setList {w:World} {b:Nat} {pv:Value} {t n:Nat} {ps o:List Nat} {bad:Bool} (h:IsPk w b pv t n ps o bad) (o2:List Nat) (ho:o2.length=6):IsPk (w.setCells b 3 (ordA o2).toList) b pv t n ps o2 bad:=by
 obtain⟨F,h1,h2,h3,h4,h5⟩:=h;have hl:(ordA o2).toList.length=6:=by rw [Array.length_toList,Zbz]
 refine⟨_,h1.sets _ 3 w F,⟨?_,?_,?_,fun j hj=>?_,?_⟩,ZbZ h3 (ZbN (S:=(·=b)) (g:=b) rfl _ _ _) (Nat.lt_succ_self _),ho,h5⟩
 ·rw [ZbY _ _ _ _ (by omega),h2.tab]
 ·rw [ZbY _ _ _ _ (by omega),h2.num]
 ·rw [ZbY _ _ _ _ (by omega),h2.row]
 ·rw [ZlA _ _ _ _ (by omega)];have h6:(ordA o2)[j]?=some (ordF o2 j):=ZaY 6 _ hj;rw [List.getD_eq_getElem?_getD,Array.getElem?_toList,h6];rfl
 ·rw [ZbY _ _ _ _ (by omega),h2.wrong]
def Zoh (i:Nat):Value:=if i=2 then .slice none 0 0 else if i=9 then .bool false else .int .i64 0
theorem Zst:Tryz.prog.built 321 []=some (cellsF 10 Zoh):=by kernel_rfl
theorem Zqx (w:World):Calls Tryz.prog 236 #[] w fun e w'=>e=.returned (.pointer (some ⟨w.heap.size,0,none⟩))/\IsPk w' w.heap.size (.slice none 0 0) 0 0 [] [0,0,0,0,0,0] false/\Below w.heap.size w w':=by
 have hb:=Zst
 have hobj:Hid (IsPk (w.alloc (.cells (cellsF 10 Zoh) 321)) w.heap.size (.slice none 0 0) 0 0 [] [0,0,0,0,0,0] false):=zh ⟨_,heap_alloc_new w _,⟨rfl,rfl,rfl,fun j hj=>by
  rcases(by omega:j=0\/j=1\/j=2\/j=3\/j=4\/j=5) with rfl|rfl|rfl|rfl|rfl|rfl<;>rfl,rfl⟩,OwnI.nil _ _,rfl,Nat.zero_le _⟩
 generalize cellsF 10 Zoh=Z at *;go_enter Tryz.func236,Tryz.ntmps236;go_wp2_with (refine ZaM rfl 321 rfl Z hb ?_);go_ret;exact⟨rfl,hobj.out,(Below.refl _ _).alloc (Nat.le_refl _) _⟩
theorem Zfn (b:Nat) (pv:Value) (t n:Nat) (ps o:List Nat) (bad r:Bool) (w:World) (h:IsPk w b pv t n ps o bad) (hr:r=true↔1<=n/\ps.length=n) :
  Calls Tryz.prog 279 #[.pointer (some ⟨b,0,none⟩)] w fun e w'=>e=.returned (.bool r)/\∃n,w'=w.drewN n:=by
 obtain⟨c0,c1,c2,c3⟩:=h.cells;obtain⟨⟨a,c,rfl⟩,hl⟩:=h.slice;obtain⟨k,hk⟩:∃k,ps.length=k:=⟨_,rfl⟩
 rw [hk] at c2 hr hl;by_cases h0:0<n
 ·have h0i:(0:Int)<(n:Int):=by omega
  have hb:((k:Int)==(n:Int))=r:=by
   rw [Bool.eq_iff_iff,beq_iff_eq,hr];omega
  clear h hr hk hl;go_enter Tryz.func279,Tryz.ntmps279;go_wp2_with fail
  go_quiet (fail)
  go_wp2_with fail;go_ret;exact⟨by first|rfl|rw [hb],_,rfl⟩
 ·have h0i:¬(0:Int)<(n:Int):=by omega
  obtain rfl:r=false:=by rw [Bool.eq_false_iff,Ne,hr];omega
  clear h hr hk hl;go_enter Tryz.func279,Tryz.ntmps279;go_wp2_with fail
  go_quiet (fail)
  go_wp2_with fail;go_ret;exact⟨rfl,_,rfl⟩
theorem ZjT (b:Nat) (pv:Value) (t n:Nat) (ps o:List Nat) (bad:Bool) (w:World) (h:IsPk w b pv t n ps o bad):Calls Tryz.prog 282 #[.pointer (some ⟨b,0,none⟩)] w fun e w'=>e=.returned (.int .i64 (t:Int))/\w'=w:=by
 obtain⟨c0,_⟩:=h.cells;clear h;go_enter Tryz.func282,Tryz.ntmps282;go_wp2_with fail;go_ret;exact⟨rfl,rfl⟩
theorem Zmr (b:Nat) (pv:Value) (t n:Nat) (ps o:List Nat) (bad:Bool) (w:World) (h:IsPk w b pv t n ps o bad) (hp:1<=ps.length):Calls Tryz.prog 283 #[.pointer (some ⟨b,0,none⟩)] w fun e w'=>∃v,e=.returned v/\OwnI w' w.heap.size v (toI ps)/\Below w.heap.size w w':=by
 obtain⟨c0,c1,c2,c3⟩:=h.cells;have hI:=h.ints;have hl:=h.slice.2
 obtain⟨x,hx⟩:∃x,(toI ps)[0]?=some x:=by
  rw [List.getElem?_eq_getElem (by rw [toI_length];omega)];exact⟨_,rfl⟩
 obtain⟨a,cap,rfl,hc⟩:=id hI;obtain⟨b2,off,rfl,_⟩:=hc 0 x hx;have HC:=zh (ZdH b2 off _ cap (toI ps) w hI (by rw [toI_length];omega));clear h hI hc hx hl;go_enter Tryz.func283,Tryz.ntmps283;go_wp2_with fail;refine HC.out.mono ?_;rintro e w' ⟨v,rfl,hO,hB⟩;have HO:=zh hO;have HB:=zh hB;clear hO hB;go_wp2_with fail;go_ret;exact⟨v,rfl,HO.out,HB.out⟩
def StepK (w w':World) (b rb:Nat) (pv v:Value) (l:List UInt8) (dr sp p:Nat) (o:PO) (bad:Bool) (e:Ending):Prop:=
 ∃pv',e=.returned (.int .i64 o.err)/\IsPk w' b pv' o.t o.n o.ps o.o bad/\IsReader w' rb v l dr sp (p+o.used)/\Touch (fun k=>foot b pv k\/k=rb) w w'/\(∀k,pv'.ownBlock=some k->pv.ownBlock=some k\/w.heap.size<=k)
theorem pk_l {w w':World} {b rb:Nat} {pv:Value} (h:Touch (·=b) w w'):Touch (fun k=>foot b pv k\/k=rb) w w':=h.mono (fun _ hk=>Or.inl (Or.inl hk))
theorem pk_r {w w':World} {b rb:Nat} {pv:Value} (h:Touch (·=rb) w w'):Touch (fun k=>foot b pv k\/k=rb) w w':=h.mono (fun _ hk=>Or.inr hk)
theorem pk_d {w:World} {b rb:Nat} {pv:Value} (m:Nat):Touch (fun k=>foot b pv k\/k=rb) w (w.drewN m):=Zad _ _ m
theorem Ziv {w w1 w2:World} {b rb:Nat} {pv:Value} (h:Touch (fun k=>foot b pv k\/k=rb) w w1) (k:Touch (fun k=>foot b pv k\/k=rb) w1 w2):Touch (fun k=>foot b pv k\/k=rb) w w2:=h.trans k (fun _ hj=>Or.inl hj)
theorem Ztu {q:List Bool} (h:18<=q.length):num (q.take 18)=num (q.take 3)*32768+num ((q.drop 3).take 15)/\num ((q.drop 3).take 15)<32768/\num (q.take 3)<8:=by
 have e:q.take 18=q.take 3++(q.drop 3).take 15:=by
  rw [show 18=3+15 by rfl,List.take_add]
 have hl:((q.drop 3).take 15).length=15:=by rw [List.length_take,List.length_drop];omega
 have hl3:(q.take 3).length=3:=by rw [List.length_take];omega
 have h1:=ZaB ((q.drop 3).take 15);have h2:=ZaB (q.take 3);rw [hl] at h1;rw [hl3] at h2;refine⟨?_,h1,h2⟩;rw [e,ZaE,hl]
theorem ZtV (X:Nat) (hX:X<4294967296):bits BinOp.and IntKind.u32 (X:Int) 32767=((X % 32768:Nat):Int):=by
 have:=u32_and_nat X 32767 hX (by omega);rw [show(32767:Nat)=2^15-1 by rfl,Nat.and_two_pow_sub_one_eq_mod] at this;exact this
theorem Zms (b rb:Nat) (pv:Value) (t:Nat) (ps o:List Nat) (v:Value) (l:List UInt8) (dr sp p:Nat) (w:World) (hD:IsPk w b pv t 0 ps o false) (hR:IsReader w rb v l dr sp p) (hs:dr+l.length<=1099511627776)
  (hne:∀k,foot rb v k->¬foot b pv k) :
  Calls Tryz.prog 281 #[.pointer (some ⟨b,0,none⟩),.pointer (some ⟨rb,0,none⟩)] w fun e w'=>
   StepK w w' b rb pv v l dr sp p (pstep ((bitsOf l).drop (p-8*dr)) t 0 ps o false) false e:=by
 have HD:=zh hD;have HNE:=zh hne;have h1:=hR.2.2.2.1;have h2:=hR.2.2.2.2;have hnb:Hid (∀k,foot b pv k->¬k=rb):=zh (fun k hk e=>hne rb (Or.inl rfl) (e▸hk));have hql:((bitsOf l).drop (p-8*dr)).length=8*(dr+l.length)-p:=by rw [List.length_drop,Zan];omega
 by_cases h18:((bitsOf l).drop (p-8*dr)).length<18
 ·have HG:=zh (Zdu rb v l dr sp p 18 w hR hs (by omega) (by omega));have HO:=zh (ZhT ((bitsOf l).drop (p-8*dr)) t ps o h18);have HR:=zh hR;clear hD hR hne h1 h2 hql h18;go_enter Tryz.func281,Tryz.ntmps281;go_wp2_with fail;refine HG.out.mono ?_;rintro e w1 ⟨rfl,m,hw1⟩
  have K:Hid (StepK w w1 b rb pv v l dr sp p (pstep ((bitsOf l).drop (p-8*dr)) t 0 ps o false) false (.returned (.int .i64 3))):=zh (by
   rw [HO.out,hw1];exact⟨pv,rfl,HD.out.drewN m,HR.out.drewN m,pk_d m,fun k hk=>Or.inl hk⟩)
  clear hw1;go_wp2_with fail;go_ret;exact K.out
 ·have HG:=zh (Zce rb v l dr sp p 18 w hR hs (by omega) (by omega));obtain⟨n1,n2,n3⟩:=Ztu (q:=(bitsOf l).drop (p-8*dr)) (by omega);have HNT:=fun h=>ZhU ((bitsOf l).drop (p-8*dr)) t ps o h18 h
  have HNN:=fun h h3=>ZhV ((bitsOf l).drop (p-8*dr)) t ps o h18 h h3
  have HOK:=fun h h3=>ZeZ ((bitsOf l).drop (p-8*dr)) t ps o h18 h h3
  obtain⟨T,hT⟩:∃T,num (((bitsOf l).drop (p-8*dr)).take 3)=T:=⟨_,rfl⟩
  obtain⟨C,hC⟩:∃C,num ((((bitsOf l).drop (p-8*dr)).drop 3).take 15)=C:=⟨_,rfl⟩
  obtain⟨X,hX⟩:∃X,num (((bitsOf l).drop (p-8*dr)).take 18)=X:=⟨_,rfl⟩
  rw [hT,hC,hX] at n1;rw [hC] at n2;rw [hT] at n3;rw [hT] at HNT HNN HOK;rw [hC] at HNN HOK;rw [hX] at HG;clear hD hR hne h1 h2 hql h18 hX hT hC;have HNT:=zh HNT;have HNN:=zh HNN;have HOK:=zh HOK
  have hand:bits BinOp.and IntKind.u32 (X:Int) 32767=(C:Int):=by
   rw [ZtV X (by omega)];omega
  have hshr:(X:Int) / 2^15=(T:Int):=by omega
  have hshr2:(X:Int) / 32768=(T:Int):=by omega
  have hX32:X<4294967296:=by omega
  clear n1;go_enter Tryz.func281,Tryz.ntmps281;go_wp2_with fail;refine HG.out.mono ?_;rintro e w1 ⟨rfl,hr1,ht1⟩;have HR1:=zh hr1;have HT1:=zh ht1;have HD1:=zh (HD.out.other ht1 (fun k hk=>hnb.out k hk));clear hr1 ht1 HG;have hsz:(0:Int)<=(X:Int)/\(X:Int)<4294967296:=by omega
  by_cases hT:2<=T/\T<=6
  ·have HPN:=zh (fun W=>ZeM (T:Int) true W ⟨fun _=>by omega,fun _=>rfl⟩);obtain⟨c0,c1,c2,c3⟩:=HD1.out.cells;have f0:=HD1.out.frozen 0 (by omega);have HD2:=zh (HD1.out.setTab T);have HT2:Hid (Touch (·=b) w1 (w1.setCell ⟨b,0,none⟩ (.int .i64 (T:Int)))):=zh (Zaa (Touch.refl _ _));by_cases hC:C=0
   ·subst hC;have HO:=zh (HNN.out (by omega) rfl);go_wp2_with fail;refine(HPN.out _).mono ?_;rintro e w2 ⟨rfl,rfl⟩;go_wp2_with fail;go_ret;rw [HO.out];exact⟨pv,rfl,HD2.out,HR1.out.other HT2.out (fun k hk e=>HNE.out k hk (Or.inl e)),Ziv (pk_r HT1.out) (pk_l HT2.out),fun k hk=>Or.inl hk⟩
   ·have hC0:((C:Int)==0)=false:=by rw [beq_eq_false_iff_ne];omega
    have HO:=zh (HOK.out (by omega) hC);go_wp2_with fail;refine(HPN.out _).mono ?_;rintro e w2 ⟨rfl,rfl⟩;go_wp2_with fail;generalize hw5:w2.setCell ⟨b,0,none⟩ (.int .i64 (T:Int))=w5 at *;clear hw5;clear c0 c1 c2 c3 f0;refine(Zfl w5).mono ?_;rintro e w4 ⟨rfl,hb4⟩;have HD4:=zh (HD2.out.below hb4);have HT4:Hid (Touch (·=b) w2 w4):=zh (HT2.out.trans (Touch.ofBelow (S:=fun _=>False) hb4) (fun _ h=>absurd h id));have f1:=HD4.out.frozen 1 (by omega);obtain⟨d0,d1,d2,d3⟩:=HD4.out.cells;have HD5:=zh (HD4.out.setNum C);have HT5:Hid (Touch (·=b) w2 (w4.setCell ⟨b,1,none⟩ (.int .i64 (C:Int)))):=zh (Zaa HT4.out)
    have hth:(w4.setCell ⟨b,1,none⟩ (.int .i64 (C:Int))).there b 3 (ordA O6).size:=by
     rw [Zbz];obtain⟨F,k1,_⟩:=HD5.out;intro j hj;have k2:=k1.cell (i:=3+j) (by omega);exact⟨by rw [k2.1];rfl,k2.2⟩
    have HD6:=zh (HD5.out.setList O6 rfl);have HT6:Hid (Touch (·=b) w2 ((w4.setCell ⟨b,1,none⟩ (.int .i64 (C:Int))).setCells b 3 (ordA O6).toList)):=zh (HT5.out.trans (ZbN (S:=(·=b)) (g:=b) rfl _ _ _) (fun _ h=>Or.inl h));have hio:=Ziu;have hone:=Zhk O6;clear hb4;generalize ordA O6=A at *;go_wp2_with (refine wpList_store_mid rfl 221 _ _ rfl b 3 A rfl rfl hth hio hone ?_);go_ret;rw [HO.out];exact⟨pv,rfl,HD6.out,HR1.out.other HT6.out (fun k hk e=>HNE.out k hk (Or.inl e)),Ziv (pk_r HT1.out) (pk_l HT6.out),fun k hk=>Or.inl hk⟩
  ·have HPN:=zh (fun W=>ZeM (T:Int) false W ⟨fun e=>(by cases e),fun e=>absurd e (by omega)⟩);have HO:=zh (HNT.out (by omega));clear hT;go_wp2_with fail;refine(HPN.out _).mono ?_;rintro e w2 ⟨rfl,rfl⟩;go_wp2_with fail;go_ret;rw [HO.out];exact⟨pv,rfl,HD1.out,HR1.out,pk_r HT1.out,fun k hk=>Or.inl hk⟩
theorem Zfo:∀(q:List Bool) (i:Nat),i<=lead q->i<q.length->q.getD i false=true->i+1<=lead q
 | [],i,_,h,_=>absurd h (Nat.not_lt_zero _)
 | false::q,i,h,_,e=>by
  obtain rfl:i=0:=Nat.le_zero.1 h;cases e
 | true::q,0,h,_,e=>by
  rw [lead];omega
 | true::q,i+1,h,hl,e=>by
  rw [lead] at h ⊢;rw [List.length_cons] at hl;have:=Zfo q i (by omega) (by omega) e;omega
theorem Zfp:∀(q:List Bool) (i:Nat),i<=lead q->i<q.length->q.getD i false=false->lead q=i
 | [],i,_,h,_=>absurd h (Nat.not_lt_zero _)
 | false::q,i,h,_,e=>by
  obtain rfl:i=0:=Nat.le_zero.1 h;rfl
 | true::q,0,h,_,e=>by cases e
 | true::q,i+1,h,hl,e=>by
  rw [lead] at h ⊢;rw [List.length_cons] at hl;rw [Zfp q i (by omega) (by omega) e]
theorem Ztv (q:List Bool) (i:Nat) (h:i<q.length):num ((q.drop i).take 1)=bn (q.getD i false):=by
 rw [List.drop_eq_getElem_cons h,List.getD_eq_getElem?_getD,List.getElem?_eq_getElem h];show num [q[i]]=bn q[i];cases q[i]<;>rfl
theorem Zhl {ops:Array Oper} {o:Oper} {a:Act} {K:Act->World->Prop} {Q:Exit->Act->World->Prop} {E:Prop} (W:World) (hg:o.guard=none) (s x:Operand)
  (ho:o.op=.call { callee:=.builtin .append,args:=#[s,x],argTypes:=#[79,79] })
  (base:Nat) (v:Value) (zs:List Int) (c:Int) (hown:OwnI W base v zs) (hs:a.eval s=v) (hx:a.eval x=.slice (some ⟨W.heap.size,0,none⟩) 1 1)
  (hlen:zs.length+1<=17592186044416) (hb:base<=W.heap.size)
  (h:∀v' w',OwnI w' base v' (zs++[c])->Below base W w'->(∀k,k<W.heap.size->v.ownBlock≠some k->w'.heap[k]?=W.heap[k]?)->(∀k,v'.ownBlock=some k->v.ownBlock=some k\/W.heap.size<=k)->K (a.put o.dst v') w') :
  if Region.wanted o (yielded ops a.tmps)=true then Oper.wp Tryz.prog o a (W.alloc (.cells #[.int .i64 c] 3)) K Q else E:=by
 obtain⟨i0,hi,hz0,hz1,hz2⟩:=info_parts ZbF;refine ZaS hg s x 79 ho base 3 i0 (.int .i64 0) 1 8 Tryz.underlying79 hi hz0 hz1 hz2 rfl (by decide) v zs.length (zs.map iv64) hs (World.ownsRow.alloc hown _) ⟨W.heap.size,0,none⟩ 1 1 [.int .i64 c] hx rfl ?_ ?_ ?_ ?_ ?_ ?_
 ·exact ZaD _ _ _ _ rfl
 ·intro u hu;simp at hu;subst hu;rfl
 ·unfold maxLen;omega
 ·omega
 ·simp;omega
 ·intro v' w' hown' hg hv;refine h v' w' ?_ (Below.grown ((Below.refl base W).alloc hb _) hg (by simp;omega) (fun j hj=>(World.ownsRow.lt hown j hj).1)) (fun k hk hne=>(hg.block k (by simp;omega) (fun e=>hne e.symm)).trans (Zam hk)) (fun k hk=>(hv k hk).imp id (fun h=>by simp at h;omega));unfold OwnI;rw [List.length_append,List.map_append];exact hown'
theorem Zoi {w:World} {b:Nat} {pv v2:Value} {t n i X:Nat} {ps o:List Nat} {F F2:Nat->Value} (h1:ObjF 10 321 w b F2) (h2:PF F pv t n o false) (h3:∀j,j<6->F2 (3+j)=ordF (tch o i) j) (h4:∀k,(k<3\/3+6<=k)->F2 k=F k)
  (h5:OwnI w (b+1) v2 (toI ps++[(X:Int)])) (ho:o.length=6) (hi:i<6) (hl:ps.length+1<=32767):IsPk (w.setCell ⟨b,2,none⟩ v2) b v2 t n (ps++[X]) (tch o i) false:=by
 refine⟨_,h1.set 2 _,⟨?_,?_,Zak _ _ _,fun j hj=>?_,?_⟩,?_,?_,?_⟩
 ·rw [Zab _ _ (by omega),h4 0 (by omega),h2.tab]
 ·rw [Zab _ _ (by omega),h4 1 (by omega),h2.num]
 ·rw [Zab _ _ (by omega),h3 j hj]
 ·rw [Zab _ _ (by omega),h4 9 (by omega),h2.wrong]
 ·rw [Zjp];exact ZbZ h5 (Zaa (Touch.refl _ _)) (Nat.lt_succ_self _)
 ·rw [ZcO o i (by omega),ho]
 ·rw [List.length_append];exact hl
theorem ZdI {w1 wA w2:World} {b:Nat} {pv x:Value} (h1:Touch (·=b) (w1.drewN 1) wA) (h2:Below (b+1) wA w2) (h3:∀k,k<wA.heap.size->pv.ownBlock≠some k->w2.heap[k]?=wA.heap[k]?):Touch (foot b pv) (w1.drewN 1) (w2.setCell ⟨b,2,none⟩ x):=by
 have h4:Touch (foot b pv) wA w2:=⟨h2.os,h2.tape,h2.output,h2.size,fun k hk hn=>h3 k hk (fun e=>hn (Or.inr e))⟩
 exact((h1.mono (fun k hk=>Or.inl hk)).trans h4 (fun k hk=>Or.inl hk)).setCell (p:=⟨b,2,none⟩) (Or.inl (Or.inl rfl)) _
theorem Zoj (b rb:Nat) (pv:Value) (t n:Nat) (ps o:List Nat) (v:Value) (l:List UInt8) (dr sp p:Nat) (w:World) (hD:IsPk w b pv t n ps o false) (hR:IsReader w rb v l dr sp p) (hs:dr+l.length<=1099511627776)
  (hne:∀k,foot rb v k->¬foot b pv k) (hn:1<=n) (hn2:n<=32767) (hl:ps.length<n) (ht6:t<=6) :
  Calls Tryz.prog 280 #[.pointer (some ⟨b,0,none⟩),.pointer (some ⟨rb,0,none⟩)] w fun e w'=>
   StepK w w' b rb pv v l dr sp p (pstep ((bitsOf l).drop (p-8*dr)) t n ps o false) false e:=by
 have HD:=zh hD;have HR:=zh hR;have HNE:=zh hne;have h1:=hR.2.2.2.1;have h2:=hR.2.2.2.2;have hnb:Hid (∀k,foot b pv k->¬k=rb):=zh (fun k hk e=>hne rb (Or.inl rfl) (e▸hk));have hql:((bitsOf l).drop (p-8*dr)).length=8*(dr+l.length)-p:=by rw [List.length_drop,Zan];omega
 have HDR:Hid (∀i,(bitsOf l).drop (p+i-8*dr)=((bitsOf l).drop (p-8*dr)).drop i):=zh (fun i=>by rw [List.drop_drop];congr 1;omega);obtain⟨q,hq⟩:∃q,(bitsOf l).drop (p-8*dr)=q:=⟨_,rfl⟩
 rw [hq] at hql HDR ⊢;have hc0:=hD.cells.1;have hll:=ZdT q;clear hD hR hne hq;go_enter Tryz.func280,Tryz.ntmps280;go_wp2_with fail;refine(ZcA rb v l dr sp p w HR.out).mono ?_;rintro e w' ⟨rfl,rfl⟩;go_wp2_with fail
 go_loopw [15] (fun vi wr=>∃i:Nat,vi=.int .i64 (i:Int)/\i<=t/\i<=lead q/\IsReader wr rb v l dr sp (p+i)/\Touch (·=rb) w wr) (fun vi _=>t-(intOf vi).toNat)
 case atStart=>exact⟨0,rfl,Nat.zero_le _,Nat.zero_le _,HR.out,Touch.refl _ _⟩
 case round=>
  clear hc0;obtain⟨i,rfl,hit,hil,hRi,hTi⟩:=hrel;have HRi:=zh hRi;have HTi:=zh hTi;have HDi:=zh (HD.out.other hTi (fun k hk=>hnb.out k hk));clear hRi hTi;by_cases hlt:i<t
  ·have hlti:(i:Int)<(t:Int):=by omega
   by_cases hend:i<q.length
   ·have HG:=Zce rb v l dr sp (p+i) 1 wr HRi.out hs (by omega) (by omega);rw [HDR.out i,Ztv q i hend] at HG;have HGH:=zh HG;clear HG;cases hb:q.getD i false with
    | true=>
     rw [hb] at HGH;have hil2:=Zfo q i hil hend hb;clear hb;have hb1:((bn true:Nat):Int)=1:=rfl;rw [hb1] at HGH;clear hb1;go_wp2_with fail;refine HGH.out.mono ?_;rintro e w1 ⟨rfl,hr1,ht1⟩;have HR1:=zh hr1;have HT1:Hid (Touch (·=rb) w w1):=zh (HTi.out.trans ht1 (fun _ h=>Or.inl h));clear hr1 ht1;go_wp2_with fail;go_roundw
     case rel=>exact⟨i+1,by go_num,by omega,hil2,HR1.out,HT1.out⟩
     case measure=>simp [intOf];omega
    | false=>
     rw [hb] at HGH;have hli:=Zfp q i hil hend hb;have HO:=zh (ZhW q (t:=t) (n:=n) ps o (by omega) (by omega) (by omega));rw [hli] at HO;clear hb hil hll hend hql;have hb1:((bn false:Nat):Int)=0:=rfl;rw [hb1] at HGH;clear hb1 hli;go_wp2_with fail;refine HGH.out.mono ?_;rintro e w1 ⟨rfl,hr1,ht1⟩;have HR1:=zh hr1;have HT1:Hid (Touch (·=rb) w w1):=zh (HTi.out.trans ht1 (fun _ h=>Or.inl h));have hD1:=HDi.out.other ht1 (fun k hk=>hnb.out k hk);have HF1:=zh hD1.lt;obtain⟨⟨pa,pc,rfl⟩,_⟩:=hD1.slice;obtain⟨F,hO1,hP1,hW1,ho6,hp3⟩:=hD1;have HO1:=zh hO1;have HP1:=zh hP1;have HW1:=zh hW1;have c2:w1.cell? ⟨b,2,none⟩=some (.slice pa ps.length pc):=by rw [(hO1.cell (i:=2) (by omega)).1,hP1.row]
     have HL1:Hid (LstAt 10 321 (w1.drewN 1) b 3 F o):=zh ⟨hO1.drewN 1,ho6,by omega,hP1.lst⟩;obtain⟨X,hX⟩:∃X:Nat,o.getD i 0=X:=⟨_,rfl⟩
     have hXX:ordF o i=.int .i64 (X:Int):=by unfold ordF;rw [hX]
     have HTK:=Zis 10 321 b 3 i F o _ HL1.out (by omega);rw [hXX] at HTK;rw [hX] at HO;have HTKH:=zh HTK;have HLE:Hid (ps.length+1<=32767):=zh (by omega);have hlen:=toI_length ps;have HLEN:=zh hlen;have hbw:b<w1.heap.size:=hO1.lt;clear hr1 ht1 hO1 hP1 hW1 HTK hX hXX hlen HGH hp3;go_wp2_with fail
     go_region_law (first
       | (refine Zhl wA (by rfl) _ _ (by rfl) (b+1) _ (toI ps) (X:Int) HWA.out (by rfl) (by rfl) (by have:=HLE.out;have:=HLEN.out;omega) hbA ?_;intro v2 w2 hO2 hB2 hsame hfr;obtain⟨a2,c2,e2⟩:=hO2.slice;obtain⟨L2,hL2e⟩:∃L2,(toI ps++[(X:Int)]).length=L2:=⟨_,rfl⟩;rw [hL2e] at e2;subst e2;clear hL2e;have hbO:w2.heap[b]?=wA.heap[b]?:=(hsame b hbA (fun e=>by have h9:=(HWA.out.lt b e).1;omega));have HO2:=zh hO2;have HOB:Hid (ObjF 10 321 w2 b F2):=zh (hbO.trans HL2.out.1);have k2:w2.cell? ⟨b,2,none⟩=some (.slice pa ps.length pc):=(by rw [(HOB.out.cell (i:=2) (by omega)).1,HF2.out 2 (by omega),HP1.out.row]);have k3:w2.frozen? ⟨b,2,none⟩=false:=(HOB.out.cell (i:=2) (by omega)).2;have HS2:=zh hsame;have HB2:=zh hB2;have HFR:=zh hfr;clear hO2 hB2 hsame hfr hbO)
       | (go_simp;go_at_call 221;refine HTKH.out.mono ?_;rintro e wA ⟨rfl,⟨F2,hL2,hF2⟩,hT2⟩;have kA:wA.cell? ⟨b,2,none⟩=some (.slice pa ps.length pc):=(by rw [(hL2.1.cell (i:=2) (by omega)).1,hF2 2 (by omega),HP1.out.row]);have kA2:(wA.alloc (.cells #[.int .i64 (X:Int)] 3)).cell? ⟨b,2,none⟩=some (.slice pa ps.length pc):=((World.cell?_alloc_some _ _ _ (by rw [kA];rfl)).trans kA);have HL2:=zh hL2;have HF2:=zh hF2;have HT2:=zh hT2;have HWA:Hid (OwnI wA (b+1) (.slice pa ps.length pc) (toI ps)):=zh (ZbZ (HW1.out.drewN 1) hT2 (by omega));have hbA:b+1<=wA.heap.size:=hL2.1.lt;clear hL2 hF2 hT2))
     all_goals
      go_wp2_with fail;go_ret;rw [HO.out]
      exact⟨_,rfl,Zoi HOB.out HP1.out HL2.out.2.2.2 HF2.out HO2.out ho6 (by omega) HLE.out,(HR1.out.drewN 1).other (ZdI HT2.out HB2.out HS2.out) (fun k hk e=>HNE.out k hk e),Ziv (pk_r HT1.out) (Ziv (pk_d 1) (ZdI HT2.out HB2.out HS2.out |>.mono (fun k hk=>Or.inl hk))),fun k hk=>by
       rcases HFR.out k hk with h|h
       ·exact Or.inl h
       ·exact Or.inr (by have h3:=HT1.out.size;have h4:w1.heap.size<=wA.heap.size:=HT2.out.size;omega)⟩
   ·have hie:i=q.length:=by omega
    have HG:=zh (Zdu rb v l dr sp (p+i) 1 wr HRi.out hs (by omega) (by omega));have HO:=zh (Ze1 q (t:=t) (n:=n) ps o (by omega) (by omega) (by omega));clear hie hend hql hll hil;go_wp2_with fail;refine HG.out.mono ?_;rintro e w1 ⟨rfl,m,hw1⟩;have HR1:Hid (IsReader w1 rb v l dr sp (p+i)):=zh (by rw [hw1];exact HRi.out.drewN m);have HT1:Hid (Touch (·=rb) w w1):=zh (by rw [hw1];exact HTi.out.trans (Zad (·=rb) _ m) (fun _ h=>Or.inl h));have HD1:Hid (IsPk w1 b pv t n ps o false):=zh (by rw [hw1];exact HDi.out.drewN m);clear hw1;go_wp2_with fail;refine(Zbc rb v l dr sp (p+i) p w1 HR1.out hs h1 h2).mono ?_;rintro e w2 ⟨rfl,hr2,ht2⟩;have HR2:=zh hr2;have HD2:=zh (HD1.out.other ht2 (fun k hk=>hnb.out k hk));have HT2:Hid (Touch (·=rb) w w2):=zh (HT1.out.trans ht2 (fun _ h=>Or.inl h));clear hr2 ht2;go_wp2_with fail;go_ret;rw [HO.out];exact⟨pv,rfl,HD2.out,HR2.out,pk_r HT2.out,fun k hk=>Or.inl hk⟩
  ·have hlti:¬(i:Int)<(t:Int):=by omega
   obtain rfl:i=t:=by omega
   have HO:=zh (Ze0 q (t:=i) (n:=n) ps o (by omega) hil);go_wp2_with fail;go_ret;rw [HO.out];exact⟨pv,rfl,HDi.out,HRi.out,pk_r HTi.out,fun k hk=>Or.inl hk⟩
end
end Go.Proofs.YtnachbjhhpnadaaGreatDoor

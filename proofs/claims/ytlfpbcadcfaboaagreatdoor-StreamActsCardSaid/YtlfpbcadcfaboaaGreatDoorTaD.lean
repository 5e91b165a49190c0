import Derived.Test.YtlfpbcadcfaboaaGreatDoorTaA
import Derived.Test.YtlfpbcadcfaboaaGreatDoorTaB
import Derived.Test.YtlfpbcadcfaboaaGreatDoorTaC
import Derived.Test.YtlfpbcadcfaboaaGreatDoorTcA
import Derived.Test.YtlfpbcadcfaboaaGreatDoorTcB
import Derived.Test.YtlfpbcadcfaboaaGreatDoorTcC
import Derived.Test.YtlfpbcadcfaboaaGreatDoorTcD
import Derived.Test.YtlfpbcadcfaboaaGreatDoorTcE
import Derived.Test.YtlfpbcadcfaboaaGreatDoorTcF
import Derived.Test.YtlfpbcadcfaboaaGreatDoorTcG
import Derived.Test.YtlfpbcadcfaboaaGreatDoorTcH
import Derived.Test.YtlfpbcadcfaboaaGreatDoorTcI
import Derived.Test.YtlfpbcadcfaboaaGreatDoorTcJ
import Derived.Test.YtlfpbcadcfaboaaGreatDoorTcK
import Derived.BigRegion
import Derived.BigQuiet
import Derived.Shelf.Abstract
import Derived.Laws.CopyRow
import Derived.Deep.Cut
import Derived.Lib.SliceRun
import Derived.IntWalk
import Derived.Deep.LoopGhost
import Derived.Laws.BitsAllLaws
import Derived.StillTailTactics
import Derived.Deep.RegionHeld3
import Derived.Deep.AppendSrc
import Derived.Deep.Upon
import Derived.WalkKit
import Derived.Laws.StandIn
import Derived.Deep.MidRow
import Derived.Outline
import Derived.Laws.EntriesVeiled
import Derived.Deep.RegionWith
set_option linter.unusedVariables false
set_option linter.unusedSimpArgs false
set_option maxHeartbeats 8000000
set_option maxRecDepth 100000
namespace Go.Proofs.YtlfpbcadcfaboaaGreatDoor
section
open Go.RowKit TabM FreqM HufM
theorem Zeg (zs:List Int) (q i:Nat) (h:i<q):rw_ (grps zs q) i=grp zs i:=by
 unfold rw_;rw [List.getD_eq_getElem?_getD,List.getElem?_eq_getElem (by rw [Zaz];exact h),Ze5];rfl
theorem Zeh (zs:List Int) (rows:List (List Int)) (q i:Nat) (h:i<q):(picksM zs rows q).getD i 0=(pickM (grp zs i) rows:Int):=by
 rw [List.getD_eq_getElem?_getD,List.getElem?_eq_getElem (by rw [ZaC];exact h)];simp [picksM]
def RfI (H C BG bG:Nat) (w wr:World) (zs:List Int) (N i:Nat) (vL vP vG:Value):Prop:=
 wr.heap[H]?=some (.cells #[.slice none 0 0,.slice none 0 0] 167 (0,0))/\wr.heap[C]?=some (.cells #[vL,vP] 167 (0,0))/\IsRR wr vL (rnd zs N i)/\Below H w wr /\
 (1<=i->Kept (C+1) wr vL vP (rnd zs N i) (picksM zs (rnd zs N (i-1)) (ng zs.length)))/\OwnRI wr BG bG vG (grps zs (ng zs.length))/\H<C/\C<BG
theorem Zei (a:Option Addr) (len c:Nat) (zs:List Int) (N:Nat) (w:World) (hI:IsInts w (.slice a len c) zs) (hlen:zs.length=len) (hz:len<=1000)
  (hsy:Syms zs (N:Int)) (h1:1<=len) (h3:3<=N) (h258:N<=258) :
  Calls Tryz.prog 112 #[.slice a len c,.int .i64 (N:Int)] w fun e w'=>∃(vL vP:Value),e=.returned (.agg #[vL,vP])/\IsRR w' vL (rnd zs N 4)/\IsInts w' vP (picksM zs (rnd zs N 3) (ng zs.length))/\Below w.heap.size w w':=by
 have h0:=heap_alloc_new w (.cells #[.slice none 0 0,.slice none 0 0] 167);have hB1:=(Below.refl w.heap.size w).alloc (Nat.le_refl _) (.cells #[.slice none 0 0,.slice none 0 0] 167);have hI1:=hI.below hB1;have HCN:=zh (Zbc _ zs N _ hI1 (by omega) (by omega));have HB1:=zh hB1;have HSY:=zh hsy;have hi:=Zfk;have hu:=Tryz.underlying167;have HLEN:=zh hlen;have HCC:Hid (Nums (counts zs N)/\(counts zs N).length=N):=zh ⟨fun x hx=>by have:=ZdV zs N x hx;omega,Zaq zs N⟩;have HRO:Hid (∀i,TabOk N (rnd zs N i)):=zh (fun i=>Zjv h3 h258 (by omega) i);have HRL:Hid (∀i,(rnd zs N i).length=nTab (len:Int)):=zh (fun i=>by rw [ZeQ,hlen]);have htb:=Zc8 (len:Int);obtain⟨T,hT⟩:∃T,nTab (len:Int)=T:=⟨_,rfl⟩
 rw [hT] at HRL htb;obtain⟨hT2,hT6⟩:=htb;have HTT:=zh hT;have hng:ng len<=20:=by unfold ng;omega
 obtain⟨Q,hQ⟩:∃Q,ng len=Q:=⟨_,rfl⟩
 have HQ:Hid (ng zs.length=Q):=zh (by rw [hlen,hQ]);have HQ2:Hid (∀m,m<Q->50*m<len):=zh (fun m hm=>by rw [<-hQ] at hm;unfold ng at hm;omega);rw [hQ] at hng;have HTK:Hid (∀p q rows,(took zs rows p q).length<=1000):=zh (fun p q rows=>by have:=ZbV zs rows p q;omega);have HCO:Hid (∀p q rows,OfOk (counts (took zs rows p q) N)):=zh (fun p q rows=>Zir h3 h258 (by have:=ZbV zs rows p q;omega))
 have HRM:Hid (∀rows p,p<rows.length->(roundM zs N rows).take (p+1)=(roundM zs N rows).take p++[lensF (counts (took zs rows p Q) N)]):=zh (fun rows p hp=>by
  rw [List.take_succ_eq_append_getElem (by rw [Za1];omega)];unfold roundM;simp only [List.getElem_map,List.getElem_range];rw [hlen,hQ])
 have hs1:(w.alloc (.cells #[.slice none 0 0,.slice none 0 0] 167)).heap.size=w.heap.size+1:=by simp
 have HS1:=zh hs1;have HI0:=zh hI;clear hB1 hI1 hs1 hlen hsy hQ hI hT;go_enter Tryz.func112,Tryz.ntmps112;go_wp2_with fail;generalize hw1:w.alloc (.cells #[.slice none 0 0,.slice none 0 0] 167)=w1 at *;clear hw1;refine HCN.out.mono ?_;rintro e w2 ⟨u,rfl,hI2,hB2⟩;have hg2:w2.heap[w.heap.size]?=some (.cells #[.slice none 0 0,.slice none 0 0] 167 (0,0)):=(hB2.block _ (by rw [HS1.out];omega)).trans h0;have HG2:=zh hg2;have HB2:Hid (Below w.heap.size w w2):=zh (HB1.out.trans (hB2.mono HB1.out.size));have HF:=zh (Zdl u (counts zs N) (len:Int) w2 hI2 HCC.out.1 (by rw [HCC.out.2];exact h258) (by omega) (by omega));obtain⟨au,cu,rfl,_⟩:=hI2;rw [HCC.out.2] at HF ⊢;clear hB2 h0 HCN hg2 HB1;go_wp2_with fail;refine HF.out.mono ?_;rintro e w4 ⟨vL0,rfl,hR4,hB4⟩;have hR4':=hR4;obtain⟨aL,cL,rfl,_⟩:=hR4'
 have hR5:IsRR w4 (.slice aL (firstM (counts zs N) (len:Int)).length cL) (rnd zs N 0):=by
  unfold rnd;rw [HLEN.out];exact hR4
 have hT:(firstM (counts zs N) (len:Int)).length=T:=by rw [firstM,Zca];exact HTT.out
 rw [hT] at hR5 ⊢;obtain⟨C,hC⟩:∃C,w4.heap.size=C:=⟨_,rfl⟩
 obtain⟨H,hH⟩:∃H,w.heap.size=H:=⟨_,rfl⟩
 have hHC:H<C:=by
  have h5:=(Array.getElem?_eq_some_iff.1 HG2.out).1;have h6:=hB4.size;omega
 have hB14:Below w.heap.size w (w4.alloc (.cells #[.slice aL T cL,.slice none 0 0] 167)):=(HB2.out.trans (hB4.mono HB2.out.size)).alloc (by have:=HB2.out.size;have:=hB4.size;omega) _;have HGR:=zh (Zcy (.slice a len c) zs _ (HI0.out.below hB14) (by rw [HLEN.out];omega));rw [HQ.out] at HGR;have hs5:(w4.alloc (.cells #[.slice aL T cL,.slice none 0 0] 167)).heap.size=C+1:=by rw [<-hC];simp
 have HS:Hid ((w4.alloc (.cells #[.slice aL T cL,.slice none 0 0] 167)).heap[H]?=some (.cells #[.slice none 0 0,.slice none 0 0] 167 (0,0))/\(w4.alloc (.cells #[.slice aL T cL,.slice none 0 0] 167)).heap[C]?=some (.cells #[.slice aL T cL,.slice none 0 0] 167 (0,0))/\IsRR (w4.alloc (.cells #[.slice aL T cL,.slice none 0 0] 167)) (.slice aL T cL) (rnd zs N 0)/\Below H w (w4.alloc (.cells #[.slice aL T cL,.slice none 0 0] 167))):=zh (by
  have h5:=(Array.getElem?_eq_some_iff.1 HG2.out).1;refine⟨?_,?_,hR5.below ((Below.refl _ _).alloc (Nat.le_refl _) _),?_⟩
  ·rw [<-hH];exact(Zam (by omega)).trans ((hB4.block _ h5).trans HG2.out)
  ·rw [<-hC];exact heap_alloc_new w4 _
  ·rw [<-hH];exact hB14)
 have HHH:=zh hH;have HCX:=zh hC;have HS5:=zh hs5;clear hR4 hR5 hB4 hT hC hH HG2 HB2 HF hB14 hs5;go_wp2_with fail;rw [HCX.out];generalize w4.alloc (.cells #[.slice aL T cL,.slice none 0 0] 167)=w5 at *;refine HGR.out.mono ?_;rintro e w6 ⟨vG,bG,rfl,hG6,hB6⟩
 have HG0:Hid (RfI H C w5.heap.size bG w w6 zs N 0 (.slice aL T cL) (.slice none 0 0) vG):=zh (by
  obtain⟨k1,k2,k3,k4⟩:=HS.out;exact⟨(hB6.block _ (by rw [HS5.out];omega)).trans k1,(hB6.block _ (by rw [HS5.out];omega)).trans k2,k3.below hB6,k4.trans (hB6.mono (by rw [HS5.out];omega)),fun h=>by omega,by rw [HQ.out];exact hG6,hHC,by rw [HS5.out];omega⟩)
 obtain⟨aG,cG,rfl⟩:=hG6.slice;rw [Zaz] at HG0 ⊢;generalize w5.heap.size=BG at *;clear hG6 hB6 HS HGR HS5;go_wp2_with fail
 try rw [HHH.out]
 go_loopw [24] (fun vi wr=>∃(i:Nat) (vL vP:Value),vi=.int .i64 (i:Int)/\i<=4/\RfI H C BG bG w wr zs N i vL vP (.slice aG Q cG)) (fun vi _=>4-(intOf vi).toNat)
 case atStart=>exact⟨0,_,_,rfl,by omega,HG0.out⟩
 case round=>
  clear HG0;obtain⟨i,vL,vP,rfl,hi4,hO⟩:=hrel;have HO:=zh hO;obtain⟨k1,k2,k3,k4,k5,k6,k7,k8⟩:=hO;have hCl:=(Array.getElem?_eq_some_iff.1 k2).1;by_cases hlt:i<4
  ·have hii:(i:Int)<4:=by omega
   obtain⟨wa,rfl⟩:∃wa:World,wa=wr:=⟨_,rfl⟩
   obtain⟨aL2,cL2,rfl,_⟩:=id k3;rw [HRL.out] at HO k2 k3;have HOKR:=zh (HRO.out i);have HNXR:Hid (rnd zs N (i+1)=roundM zs N (rnd zs N i)):=zh rfl;have HLR:=zh (HRL.out i);obtain⟨rows,hrows⟩:∃rows,rnd zs N i=rows:=⟨_,rfl⟩
   have HROWS:=zh hrows;rw [hrows] at HOKR HNXR HLR k3
   have HX:Hid (∀W,Below wa.heap.size wa W->W.cell? ⟨C,0,none⟩=some (.slice aL2 T cL2)/\IsRR W (.slice aL2 T cL2) rows/\IsRR W (.slice aG Q cG) (grps zs Q)):=zh (fun W hW=>by
    refine⟨?_,k3.below hW,?_⟩
    ·rw [cell_of_row _ _ _ _ _ _ ((hW.block C hCl).trans k2)];rfl
    ·have h5:=(k6.rr).below hW;rw [HQ.out] at h5;exact h5)
   have hrm:(roundM zs N rows).length=T:=by rw [Za1,HLR.out]
   have HRML:=zh hrm;have HRMR:=zh (fun p hp=>HRM.out rows p hp);rw [HLR.out] at HRMR;have HRT:=zh (HX.out wa (Below.refl _ _)).1;clear k1 k2 k3 k4 k5 k6 hrows hrm;go_wp2_with fail
   go_loopw [7,28] (fun vp vj wr=>∃(j:Nat) (u:Value),vj=.int .i64 (j:Int)/\u=vp/\j<=Q/\OwnI wr wa.heap.size u (picksM zs rows j)/\Below wa.heap.size wa wr) (fun _ vj _=>Q-(intOf vj).toNat)
   case atStart=>exact⟨0,_,rfl,rfl,by omega,OwnI.nil _ _,Below.refl _ _⟩
   case round=>
    obtain⟨j,u,rfl,rfl,hj,hU,hB⟩:=hrel;have HU:=zh hU;have HB:=zh hB;clear hU hB;obtain⟨r0,hRR,hGG⟩:=HX.out wr HB.out;have HRR:=zh hRR;have HGG:=zh hGG;clear hRR hGG;by_cases hjQ:j<Q
    ·have hji:(j:Int)<(Q:Int):=by omega
     obtain⟨b,off,cap,ug,he,c1,hIg⟩:=HGG.out.at_ (show j<(grps zs Q).length by rw [Zaz];exact hjQ);rw [Zeg zs Q j hjQ] at hIg;rw [Zaz] at he;simp only [Value.slice.injEq] at he;obtain⟨rfl,he2,rfl⟩:=he;clear he2;have HPK:=zh (Zee ug (.slice aL2 T cL2) (grp zs j) rows N wr hIg HRR.out (Zf8 HSY.out j) HOKR.out (by have:=Zc7 zs j;omega) h258);have HPS:Hid (picksM zs rows (j+1)=picksM zs rows j++[(pickM (grp zs j) rows:Int)]):=zh (ZdW zs rows j);have HPL:=zh (ZaC zs rows j);obtain⟨P,hP⟩:∃P,pickM (grp zs j) rows=P:=⟨_,rfl⟩
     rw [hP] at HPK HPS;obtain⟨ag,cg,hug,_⟩:=hIg;obtain⟨n1,hn1⟩:∃n,(grp zs j).length=n:=⟨_,rfl⟩
     rw [hn1] at hug;subst hug;clear hP hn1;go_wp2_with fail;refine HPK.out.mono ?_;rintro e w7 ⟨rfl,hB7⟩;have HU7:=zh (HU.out.below hB7);have HB7:Hid (Below wa.heap.size wa w7):=zh (HB.out.trans (hB7.mono HB.out.size));have hs7:wa.heap.size<=w7.heap.size:=HB7.out.size;clear hB7 HU HB;obtain⟨au,cu,rfl⟩:=HU7.out.slice;rw [HPL.out] at HU7 ⊢;go_wp2_with (at_builtin;go_loud (refine Zaf w7 rfl _ _ rfl wa.heap.size _ (picksM zs rows j) (P:Int) HU7.out rfl rfl (by rw [HPL.out];omega) hs7 ?_));intro v8 w8 hO8 hB8;have HO8:Hid (OwnI w8 wa.heap.size v8 (picksM zs rows (j+1))):=zh (by rw [HPS.out];exact hO8);have HB8:=zh (HB7.out.trans hB8);clear hO8 hB8;go_wp2_with fail;go_roundw
     case rel=>exact⟨j+1,_,by go_num,rfl,by omega,HO8.out,HB8.out⟩
     case measure=>simp [intOf];omega
    ·obtain rfl:j=Q:=by omega
     have hji:¬(j:Int)<(j:Int):=by omega
     obtain⟨aP,cP,rfl⟩:=HU.out.slice;rw [ZaC] at HU ⊢;obtain⟨wb,rfl⟩:∃wb:World,wb=wr:=⟨_,rfl⟩
     have HAB:=zh HB.out;have HUB:=zh HU.out;clear HU HB HRR HGG;go_wp2_with fail
     go_loopw [10,43] (fun vt vp wr=>∃(p bn:Nat) (u:Value),vp=.int .i64 (p:Int)/\u=vt/\p<=T/\OwnRI wr wb.heap.size bn u ((roundM zs N rows).take p)/\Below wb.heap.size wb wr) (fun _ vp _=>T-(intOf vp).toNat)
     case atStart=>exact⟨0,wb.heap.size,_,rfl,rfl,by omega,OwnRI.nil _ _ (Nat.le_refl _),Below.refl _ _⟩
     case round=>
      obtain⟨p,bn,u,rfl,rfl,hp,hR,hB⟩:=hrel;have HR:=zh hR;have HB:=zh hB;have hbn:bn<=wr.heap.size:=hR.2.1;clear hR hB;by_cases hpT:p<T
      ·have hpi:(p:Int)<(T:Int):=by omega
       have HRS:=zh (HRMR.out p hpT);have HCOP:=zh (HCO.out p j rows);have HTKP:=zh (fun q=>HTK.out p q rows);obtain⟨wc,rfl⟩:∃wc:World,wc=wr:=⟨_,rfl⟩
       go_wp2_with fail
       go_loopw [12,48] (fun va vm wr=>∃(m:Nat) (u2:Value),vm=.int .i64 (m:Int)/\u2=va/\m<=j/\OwnI wr wc.heap.size u2 (took zs rows p m)/\Below wc.heap.size wc wr) (fun _ vm _=>j-(intOf vm).toNat)
       case atStart=>exact⟨0,_,rfl,rfl,by omega,OwnI.nil _ _,Below.refl _ _⟩
       case round=>
        obtain⟨m,u2,rfl,rfl,hm,hA,hBC⟩:=hrel;have HA:=zh hA;have HBC:=zh hBC;clear hA hBC;have HBB:Hid (Below wb.heap.size wb wr):=zh (HB.out.trans (HBC.out.mono HB.out.size));have HBA:Hid (Below wa.heap.size wa wr):=zh (HAB.out.trans (HBB.out.mono HAB.out.size));obtain⟨r1,_,hGG⟩:=HX.out wr HBA.out;have HGG:=zh hGG;clear hGG;by_cases hmQ:m<j
        ·have hmi:(m:Int)<(j:Int):=by omega
         obtain⟨b,off,cap,ug,he,c1,hIg⟩:=HGG.out.at_ (show m<(grps zs j).length by rw [Zaz];exact hmQ);rw [Zeg zs j m hmQ] at hIg;rw [Zaz] at he;simp only [Value.slice.injEq] at he;obtain⟨rfl,he2,rfl⟩:=he;clear he2;have HPI:Hid (IsInts wr (.slice aP j cP) (picksM zs rows j)):=zh (HUB.out.ints.below HBB.out);obtain⟨b1,o1,k1,he1,c2⟩:=HPI.out.cell (show m<(picksM zs rows j).length by rw [ZaC];exact hmQ);rw [ZaC] at he1;rw [Zeh zs rows j m hmQ] at c2;simp only [Value.slice.injEq] at he1;obtain⟨rfl,he1b,rfl⟩:=he1;clear he1b;have hgl:50*m<len:=HQ2.out m hmQ;have hgn:=Zc7 zs m;rw [HLEN.out] at hgn;have HGI:=zh hIg;obtain⟨b3,o3,k3,he3,_⟩:=hIg.cell (k:=0) (by omega);subst he3;have HTS:Hid (took zs rows p (m+1)=took zs rows p m++(if pickM (grp zs m) rows=p then grp zs m else[])):=zh rfl;obtain⟨P,hP⟩:∃P,pickM (grp zs m) rows=P:=⟨_,rfl⟩
         rw [hP] at c2 HTS;obtain⟨n1,hn1⟩:∃n,(grp zs m).length=n:=⟨_,rfl⟩
         rw [hn1] at c1 HGI hgn;have HTL:Hid ((took zs rows p m).length+(grp zs m).length<=17592186044416):=zh (by have:=HTKP.out m;omega);have hsc:wc.heap.size<=wr.heap.size:=HBC.out.size;have hn50:n1<=50:=by omega
         clear hP hn1 hIg hgl hgn r1;obtain⟨aU,cU,rfl⟩:=HA.out.slice;obtain⟨L2,hL2⟩:∃L,(took zs rows p m).length=L:=⟨_,rfl⟩
         rw [hL2] at HA ⊢;clear hL2;by_cases hPp:P=p
         ·have hPb:((P:Int)==(p:Int))=true:=by rw [beq_iff_eq];omega
          have HTS2:Hid (took zs rows p (m+1)=took zs rows p m++grp zs m):=zh (by rw [HTS.out,if_pos hPp]);clear HTS hPp;go_wp2_with (at_builtin;go_loud (refine Zf1 wr rfl _ _ rfl wc.heap.size _ (took zs rows p m) b3 o3 n1 k3 (grp zs m) HA.out HGI.out rfl rfl HTL.out hsc ?_));intro v8 w8 hO8 hB8;have HO8:Hid (OwnI w8 wc.heap.size v8 (took zs rows p (m+1))):=zh (by rw [HTS2.out];exact hO8);have HB8:=zh (HBC.out.trans hB8);clear hO8 hB8;go_wp2_with fail;go_roundw
          case rel=>exact⟨m+1,_,by go_num,rfl,by omega,HO8.out,HB8.out⟩
          case measure=>simp [intOf];omega
         ·have hPb:((P:Int)==(p:Int))=false:=by rw [beq_eq_false_iff_ne];omega
          have HO8:Hid (OwnI wr wc.heap.size (.slice aU L2 cU) (took zs rows p (m+1))):=zh (by rw [HTS.out,if_neg hPp,List.append_nil];exact HA.out);clear HTS hPp;go_wp2_with fail;go_roundw
          case rel=>exact⟨m+1,_,by go_num,rfl,by omega,HO8.out,HBC.out⟩
          case measure=>simp [intOf];omega
        ·obtain rfl:m=j:=by omega
         have hmi:¬(m:Int)<(m:Int):=by omega
         have HRC:=zh (Zbc u2 (took zs rows p m) N wr HA.out.ints (by have:=HTKP.out m;omega) (by omega));have HR2:=zh (HR.out.below (HBC.out.mono hbn));obtain⟨n0,hn0,hof⟩:=ZeF HCOP.out;have HOF:=zh hof;have hlw:=(Zcl HCOP.out).1;rw [Zaq] at hlw;have HLW:=zh hlw;have HCB:Hid (Within 0 1099511627776 (counts (took zs rows p m) N)/\(counts (took zs rows p m) N).length=N):=zh ⟨HCOP.out.2.2,Zaq _ _⟩;obtain⟨aU,cU,rfl⟩:=HA.out.slice;obtain⟨L2,hL2⟩:∃L,(took zs rows p m).length=L:=⟨_,rfl⟩
         rw [hL2] at HRC ⊢;have hbs:bn<=wr.heap.size:=Nat.le_trans hbn HBC.out.size;have hrl:((roundM zs N rows).take p).length=p:=by rw [List.length_take,HRML.out];omega
         have HRLL:=zh hrl;obtain⟨aR,cR,rfl⟩:=HR2.out.slice;rw [hrl] at HR2 ⊢;clear hL2 hof hlw r1 HA HGG hrl;go_wp2_with fail;refine HRC.out.mono ?_;rintro e w8 ⟨uc,rfl,hI8,hB8⟩;have HO9:=zh (Zfo uc (counts (took zs rows p m) N) (lensF (counts (took zs rows p m) N)) n0 w8 hI8 (by rw [HCB.out.2];exact h3) (by rw [HCB.out.2];exact h258) HCB.out.1 hn0 HOF.out);obtain⟨ac,cc,rfl,_⟩:=hI8;rw [HCB.out.2] at HO9 ⊢;have HB8:=zh hB8;have hs8:wr.heap.size<=w8.heap.size:=hB8.size;clear hB8 HRC;go_wp2_with fail;refine HO9.out.mono ?_;rintro e w9 ⟨r,rfl,hI9,hB9,hr9⟩;have hs9:w8.heap.size<=w9.heap.size:=hB9.size;have HI9:=zh hI9
         have HUL:Hid (∀k,r.ownBlock=some k->bn<=k/\k<w9.heap.size):=zh (fun k hk=>by
          have h5:=hr9 k hk;refine⟨by omega,?_⟩;obtain⟨b5,o5,c5,he5,hc5⟩:=hI9.cell (k:=0) (by rw [HLW.out];omega);rw [he5] at hk;cases hk;exact ZaE hc5)
         have HB9:Hid (Below wr.heap.size wr w9):=zh (HB8.out.trans (hB9.mono hs8));have HR9:=zh (HR2.out.below (HB9.out.mono hbs));have HBB9:=zh (HBB.out.trans (HB9.out.mono HBB.out.size));obtain⟨a9,c9,rfl,_⟩:=hI9;rw [HLW.out] at HI9 HUL ⊢;clear hB9 hr9 HO9 HR2;go_wp2_with (at_builtin;go_loud (refine Zbp w9 rfl _ _ rfl wb.heap.size bn _ ((roundM zs N rows).take p) _ (lensF (counts (took zs rows p m) N)) HR9.out HI9.out HUL.out rfl rfl (by rw [HRLL.out];omega) ?_));intro v3 w3 hR3 hB3 _ _;rw [<-HRS.out] at hR3;have HR3:=zh hR3;have HB3:Hid (Below wb.heap.size wb w3):=zh (HBB9.out.trans hB3);clear hR3 hB3;go_wp2_with fail;go_roundw
         case rel=>exact⟨p+1,w3.heap.size,_,by go_num,rfl,by omega,HR3.out,HB3.out⟩
         case measure=>simp [intOf];omega
      ·obtain rfl:p=T:=by omega
       have hpi:¬(p:Int)<(p:Int):=by omega
       have HRA:Hid (OwnRI wr wb.heap.size bn u (roundM zs N rows)):=zh (by have h:=HR.out;rw [List.take_of_length_le (by rw [HRML.out];exact Nat.le_refl _)] at h;exact h);have HUA:=zh (HUB.out.below HB.out);have HBA:Hid (Below wa.heap.size wa wr):=zh (HAB.out.trans (HB.out.mono HAB.out.size));obtain⟨aR,cR,rfl⟩:=HRA.out.slice;rw [HRML.out] at HRA ⊢;obtain⟨k1,k2,k3,k4,k5,k6,k7,k8⟩:=HO.out;have hg6:=(HBA.out.block C hCl).trans k2;have hHl:=(Array.getElem?_eq_some_iff.1 k1).1
       have HNX:Hid (RfI H C BG bG w (wr.setRow C #[.slice aR p cR,.slice aP j cP]) zs N (i+1) (.slice aR p cR) (.slice aP j cP) (.slice aG j cG)):=zh (by
        have hke:Kept (C+1) (wr.setRow C #[.slice aR p cR,.slice aP j cP]) (.slice aR p cR) (.slice aP j cP) (rnd zs N (i+1)) (picksM zs (rnd zs N i) (ng zs.length)):=fun W hW hs=>by
         rw [Zat] at hW hs;have hsame:∀k,C+1<=k->k<wr.heap.size->W.heap[k]?=wr.heap[k]?:=fun k h1 h2=>(hW k h1 h2).trans (setRow_other wr C k _ (by omega))
         rw [HNXR.out,HROWS.out,HQ.out];have hab:=HAB.out.size;refine⟨(HRA.out.same (fun k h1 h2=>hsame k (by omega) (by omega)) hs).rr,(HUA.out.same (fun k hk=>?_)).ints⟩;have h5:=HUA.out.lt k hk;exact hsame k (by omega) (by omega)
        have hgk:OwnRI (wr.setRow C #[.slice aR p cR,.slice aP j cP]) BG bG (.slice aG j cG) (grps zs (ng zs.length)):=by
         have h5:=k6.below (HBA.out.mono k6.2.1);exact h5.same (fun k h1 h2=>setRow_other wr C k _ (by omega)) (by rw [Zat];exact Nat.le_refl _)
        exact⟨(setRow_other wr C H _ (by omega)).trans ((HBA.out.block H hHl).trans k1),setRow_heap wr C _ _ _ (0,0) hg6,hke.now.1,Zal (k4.trans (HBA.out.mono (by omega))) (by omega) _,fun _=>hke,hgk,k7,k8⟩)
       clear k1 k2 k3 k4 k5 k6;go_wp2_with (refine wpList_store_row rfl 167 _ _ rfl C #[.slice aR p cR,.slice aP j cP] rfl rfl 167 _ hg6 hi rfl (Zfq _ _ _ _ _ _) ?_);go_roundw
       case rel=>exact⟨i+1,_,_,by go_num,by omega,HNX.out⟩
       case measure=>simp [intOf];omega
  ·obtain rfl:i=4:=by omega
   have k9:=k5 (by omega);obtain⟨hR4,hP4⟩:=k9.now;obtain⟨aL6,cL6,rfl,_⟩:=hR4;obtain⟨aP6,cP6,rfl,_⟩:=hP4;obtain⟨M1,hM1⟩:∃M,(rnd zs N 4).length=M:=⟨_,rfl⟩
   obtain⟨M2,hM2⟩:∃M,(picksM zs (rnd zs N (4-1)) (ng zs.length)).length=M:=⟨_,rfl⟩
   rw [hM1,hM2] at k2 k9;have HF:Hid (IsRR (wr.setRow H #[.slice aL6 M1 cL6,.slice aP6 M2 cP6]) (.slice aL6 M1 cL6) (rnd zs N 4)/\IsInts (wr.setRow H #[.slice aL6 M1 cL6,.slice aP6 M2 cP6]) (.slice aP6 M2 cP6) (picksM zs (rnd zs N 3) (ng zs.length))):=zh (k9 _ (fun k hk _=>setRow_other wr H k _ (by omega)) (by rw [Zat];exact Nat.le_refl _));have HBB:Hid (Below H w (wr.setRow H #[.slice aL6 M1 cL6,.slice aP6 M2 cP6])):=zh (Zal k4 (Nat.le_refl _) _);clear k3 k4 k5 k6 k9 hM1 hM2 HO;go_wp2_with (first|(refine wpList_load_row rfl 167 _ rfl C rfl 167 #[.slice aL6 M1 cL6,.slice aP6 M2 cP6] (0,0) _ k2 hu rfl hi ?_)|(refine wpList_store_row rfl 167 _ _ rfl H #[.slice aL6 M1 cL6,.slice aP6 M2 cP6] rfl rfl 167 _ k1 hi rfl (Zfq _ _ _ _ _ _) ?_));exact bodyPost_ret (v:=.agg #[.slice aL6 M1 cL6,.slice aP6 M2 cP6]) (results_cell_row rfl _ _ H 167 _ (0,0) _ rfl (setRow_heap _ _ _ _ _ _ k1) hu rfl hi) rfl ⟨_,_,rfl,HF.out.1,HF.out.2,by rw [HHH.out];exact HBB.out⟩
end
section
open Go.RowKit BitM HufM CanM CodM TabM FreqM
def rowV (N b:Nat):Value:=.slice (some ⟨b,0,none⟩) N N
def SCodes (w:World) (base N:Nat) (v:Value) (gs:List (List Int)):Prop:=
 ∃bs:List Nat,w.ownsRow base 171 1 v bs.length (bs.map (rowV N))/\bs.length=gs.length/\base<=w.heap.size/\∀i,i<gs.length->RowS w (bs.getD i 0) N (fun j=>txt (code (gs.getD i []) j))/\base<=bs.getD i 0/\v.ownBlock≠some (bs.getD i 0)
theorem SCodes.nil (w:World) (base N:Nat) (h:base<=w.heap.size):SCodes w base N (.slice none 0 0) []:=⟨[],World.ownsRow_nil _ _ _ _,rfl,h,fun i hi=>absurd hi (Nat.not_lt_zero _)⟩
theorem SCodes.below {w w':World} {base N:Nat} {v:Value} {gs:List (List Int)} (h:SCodes w base N v gs) (hb:Below w.heap.size w w'):SCodes w' base N v gs:=by
 obtain⟨bs,h1,h2,h3,h4⟩:=h;exact⟨bs,Zag h1 (fun k hk=>hb.block k (World.ownsRow.lt h1 k hk).2),h2,Nat.le_trans h3 hb.size,fun i hi=>⟨(h4 i hi).1.below hb,(h4 i hi).2⟩⟩
theorem SCodes.slice {w:World} {base N:Nat} {v:Value} {gs:List (List Int)} (h:SCodes w base N v gs):∃a cap,v=.slice a gs.length cap:=by
 obtain⟨bs,h1,h2,_⟩:=h;obtain⟨a,c,e⟩:=Zao h1;exact⟨a,c,by rw [e,h2]⟩
theorem SCodes.at_ {w:World} {base N:Nat} {v:Value} {gs:List (List Int)} (h:SCodes w base N v gs) {i:Nat} (hi:i<gs.length):∃g cap b,v=.slice (some ⟨g,0,none⟩) gs.length cap/\w.cell? ⟨g,i,none⟩=some (.slice (some ⟨b,0,none⟩) N N)/\RowS w b N (fun j=>txt (code (gs.getD i []) j)):=by
 obtain⟨bs,h1,h2,h3,h4⟩:=h;have hib:i<bs.length:=by omega
 rcases h1.2 with⟨rfl,h0⟩|⟨g,cap,cur,rfl,_,hg,_⟩
 ·omega
 ·have h5:=World.ownsRow.cells h1 (g:=g) rfl i (rowV N (bs.getD i 0)) (by rw [List.getElem?_map,List.getElem?_eq_getElem hib,List.getD_eq_getElem?_getD,List.getElem?_eq_getElem hib];rfl);rw [Addr.add_lit,Nat.zero_add] at h5;exact⟨g,cap,bs.getD i 0,by rw [h2],h5,(h4 i hi).1⟩
theorem ZgO:(Tryz.prog.info? 171).map (fun i=>(i.zero,i.size,i.bytes))=some (some (.slice none 0 0),1,24):=by kernel_rfl
theorem ZgP {ops:Array Oper} {rest:List Oper} {o:Oper} {a:Act} {Q:Exit->Act->World->Prop} (W:World) (hgd:o.guard=none) (s x:Operand)
  (ho:o.op=.call { callee:=.builtin .append,args:=#[s,x],argTypes:=#[169,169] })
  (base N:Nat) (v:Value) (gs:List (List Int)) (ls:List Int) (cb:Nat) (hown:SCodes W base N v gs) (hrow:RowS W cb N (fun j=>txt (code ls j))) (hcb:base<=cb) (hcv:v.ownBlock≠some cb) (hs:a.eval s=v) (hx:a.eval x=.slice (some ⟨W.heap.size,0,none⟩) 1 1)
  (hlen:gs.length+1<=1000000)
  (h:∀v' w',SCodes w' base N v' (gs++[ls])->Below base W w'->wpList Tryz.prog ops Q rest (a.put o.dst v') w') :
  wpList Tryz.prog ops Q (o::rest) a (W.alloc (.cells #[.slice (some ⟨cb,0,none⟩) N N] 171)):=by
 obtain⟨bs,h1,h2,h3,h4⟩:=hown;obtain⟨i0,hi,hz0,hz1,hz2⟩:=info_parts ZgO;refine Zai hgd s x 169 ho base 171 i0 (.slice none 0 0) 1 24 Tryz.underlying169 hi hz0 hz1 hz2 rfl (by decide) v bs.length (bs.map (rowV N)) (World.ownsRow.alloc h1 _) hs ⟨W.heap.size,0,none⟩ 1 1 [rowV N cb] hx rfl ?_ ?_ ?_ ?_ ?_ ?_
 ·exact ZaB _ _ _ _ rfl
 ·intro u hu;simp at hu;subst hu;rfl
 ·unfold maxLen;omega
 ·omega
 ·simp;omega
 ·intro v' w' hown' hg hv;have hBW:Below base W w':=Below.grown ((Below.refl base W).alloc h3 _) hg (by simp;omega) (fun j hj=>(World.ownsRow.lt h1 j hj).1);have keep:∀k,k<W.heap.size->v.ownBlock≠some k->w'.heap[k]?=W.heap[k]?:=fun k hk hne=>(hg.block k (by simp;omega) (fun e=>hne e.symm)).trans (Zam hk)
  have hvv:∀k,v'.ownBlock=some k->v.ownBlock=some k\/W.heap.size<=k:=fun k hk=>(hv k hk).imp id (fun h=>by simp at h;omega)
  have hT:Touch (fun j=>v.ownBlock=some j) W w':=⟨hBW.os,hBW.tape,hBW.output,hBW.size,fun j hj hn=>keep j hj hn⟩
  refine h v' w' ⟨bs++[cb],?_,by rw [List.length_append,List.length_append,h2];rfl,Nat.le_trans h3 hBW.size,fun i hi2=>?_⟩ hBW
  ·rw [List.length_append,List.map_append];exact hown'
  ·rw [List.length_append] at hi2;have hi3:i<gs.length+1:=hi2;by_cases h5:i<gs.length
   ·rw [ZbL bs cb 0 (by omega),ZbL gs ls [] h5];obtain⟨a1,a2,a3⟩:=h4 i h5
    exact⟨a1.other hT a3,a2,fun e=>by
     rcases hvv _ e with e2|e2
     ·exact a3 e2
     ·have:=a1.lt;omega⟩
   ·rw [ZbM bs cb 0 (by omega),ZbM gs ls [] (by omega)]
    exact⟨hrow.other hT hcv,hcb,fun e=>by
     rcases hvv _ e with e2|e2
     ·exact hcv e2
     ·have:=hrow.lt;omega⟩
theorem SCodes.old {w:World} {base N:Nat} {v:Value} {gs:List (List Int)} (h:SCodes w base N v gs):∀k,v.ownBlock=some k->k<w.heap.size:=fun k hk=>by
 obtain⟨bs,h1,_⟩:=h;exact(World.ownsRow.lt h1 k hk).2
theorem Zej:(Tryz.prog.info? 167).map (·.size)=some 2:=by kernel_rfl
theorem ZcC (a:Option Addr) (len c:Nat) (zs:List Int) (N:Nat) (w:World) (hI:IsInts w (.slice a len c) zs) (hlen:zs.length=len) (hz:len<=1000) (hm:May14 zs (N:Int)) :
  Calls Tryz.prog 73 #[.slice a len c,.int .i64 (N:Int)] w fun e w'=>e=.returned (.string (txt (allC (rnd zs N 4) (pks zs N) zs)))/\Below w.heap.size w w':=by
 have h3:3<=N:=by have:=hm.1;omega
 have h258:N<=258:=by have:=hm.2.1;omega
 have hz2:zs.length<=1000:=by omega
 have HC:=zh (Zei a len c zs N w hI hlen hz hm.2.2.2.1 (by have:=hm.2.2.1;omega) h3 h258);have HPK:=zh (hm.pk hz2);have HWH:=zh (hm.whs hz2);have HTB:=zh (hm.tbs hz2);have HSY:Hid (Syms zs (N:Int)):=zh hm.2.2.2.1;have hT6:(rnd zs N 4).length<=6:=HPK.out.2.1;have hpl:(pks zs N).length<=32767:=HPK.out.2.2.2.1
 have hpb:(PkM.allB (pks zs N) (rnd zs N 4).length).length<=200000:=by
  rw [PkM.allB_length,<-PkM.encK_all _ _ (Nat.le_refl _)];have:=PkM.encK_len (pks zs N) hT6 (fun x hx=>Zhc x hx) _ (Nat.le_refl _);omega
 rw [Ziw] at HC;have HI:=zh hI;have HLEN:=zh hlen;clear hI hm;generalize rnd zs N 4=gs at *;generalize hps:pks zs N=ps at *;clear hps
 have HSL:Hid (∀i,i<=len->(symB gs ps zs i).length<=20000):=zh (fun i hi=>by
  have:=(ZeR HTB.out (zs.take i) 0 (fun x hx=>HSY.out x (List.mem_of_mem_take hx)) (by rw [List.length_take];omega)).2;rw [List.length_take] at this;unfold symB;omega)
 have HGL:Hid (∀k,(gsB (gs.take k)).length<=60600):=zh (fun k=>by
  have:=ZfD h3 h258 (gs.take k) (fun g hg=>HWH.out g (List.mem_of_mem_take hg));rw [List.length_take] at this;omega)
 have HGB:Hid (∀k,k<gs.length->gsB (gs.take (k+1))=gsB (gs.take k)++DelM.allB (rw_ gs k)/\DelM.May (rw_ gs k)/\(rw_ gs k).length=N/\WholeP (rw_ gs k)/\gs.take (k+1)=gs.take k++[rw_ gs k]):=zh (fun k hk=>by
  have hmem:rw_ gs k∈gs:=by unfold rw_;rw [List.getD_eq_getElem?_getD,List.getElem?_eq_getElem hk];exact List.getElem_mem hk
  obtain⟨k1,k2⟩:=HWH.out _ hmem;refine⟨Zha gs hk,⟨by omega,by omega,k2.1⟩,k1,k2,?_⟩;rw [List.take_succ_eq_append_getElem hk];unfold rw_;rw [List.getD_eq_getElem?_getD,List.getElem?_eq_getElem hk];rfl)
 go_enter Tryz.func73,Tryz.ntmps73;go_wp2_with fail;refine HC.out.mono ?_;rintro e w1 ⟨vL,vP,rfl,hL,hP,hb⟩;have hB2:=(Below.refl w1.heap.size w1).alloc (Nat.le_refl _) (.cells #[vL,vP] 167);have HB2:=zh hB2;have HL:=zh (hL.below hB2);have HP:=zh (hP.below hB2);have HBW:=zh (hb.alloc hb.size (.cells #[vL,vP] 167));have HBX:=zh (heap_alloc_new w1 (.cells #[vL,vP] 167));obtain⟨aL,cL,rfl,_⟩:=hL;obtain⟨aP,cP,rfl,_⟩:=hP;obtain⟨T,hT⟩:∃T,gs.length=T:=⟨_,rfl⟩
 obtain⟨M,hM⟩:∃M,(PkM.toI ps).length=M:=⟨_,rfl⟩
 have HT:=zh hT;have HM:=zh hM;rw [hT,hM] at HBX HL HP HBW HB2;rw [hT] at hT6 hpb;obtain⟨B,hBB⟩:∃B,w1.heap.size=B:=⟨_,rfl⟩
 rw [hBB] at HBX HB2;rw [hT,hM];have hsz2:(w1.alloc (.cells #[.slice aL T cL,.slice aP M cP] 167)).heap.size=B+1:=by simp [hBB]
 have HSZ2:=zh hsz2;have HPB:=zh (Zcw (.slice aP M cP) ps T (w1.alloc (.cells #[.slice aL T cL,.slice aP M cP] 167)) HP.out (by rw [<-HT.out];exact HPK.out));have c0:(w1.alloc (.cells #[.slice aL T cL,.slice aP M cP] 167)).cell? ⟨B,0,none⟩=some (.slice aL T cL):=by rw [cell_of_row _ _ _ _ _ _ HBX.out];rfl
 have c1:(w1.alloc (.cells #[.slice aL T cL,.slice aP M cP] 167)).cell? ⟨B,1,none⟩=some (.slice aP M cP):=by rw [cell_of_row _ _ _ _ _ _ HBX.out];rfl
 have hi:=Zej;clear hsz2 hb hB2 HC hM;go_wp2_with fail;refine HPB.out.mono ?_;rintro e w3 ⟨rfl,nq,rfl⟩;have c0:=c0;generalize w1.alloc (.cells #[.slice aL T cL,.slice aP M cP] 167)=w2 at *;clear HPB;obtain⟨q1,hq1⟩:∃q1,PkM.allB ps T=q1:=⟨_,rfl⟩
 have HQ1:=zh hq1;rw [hq1] at hpb ⊢;clear hq1;have d0:(w2.drewN nq).cell? ⟨B,0,none⟩=some (.slice aL T cL):=c0;go_wp2_with fail
 go_loopw [6,7,24] (fun vo vc vk wr=>∃(k:Nat),vk=.int .i64 (k:Int)/\k<=T/\vo=.string (txt (q1++gsB (gs.take k)))/\SCodes wr (B+1) N vc (gs.take k)/\Below (B+1) w2 wr) (fun _ _ vk _=>T-(intOf vk).toNat)
 case atStart=>exact⟨0,rfl,by omega,by simp [gsB],SCodes.nil _ _ _ (by have:=HSZ2.out;simp;omega),⟨rfl,rfl,rfl,Nat.le_refl _,fun _ _=>rfl⟩⟩
 case round=>
  clear c0 c1 d0;obtain⟨k,rfl,hk,rfl,hsc,hbr⟩:=hrel;by_cases hkT:k<T
  ·have hki:(k:Int)<(T:Int):=by omega
   obtain⟨hg3,hmay,hN,hwp,htk⟩:=HGB.out k (by rw [hT];exact hkT);have hbr2:Below w2.heap.size w2 wr:=by rw [HSZ2.out];exact hbr
   obtain⟨b2,o2,cap2,u,he2,d2,hu⟩:=(HL.out.below hbr2).at_ (show k<gs.length by rw [hT];exact hkT);rw [hT] at he2;simp only [Value.slice.injEq] at he2;obtain⟨rfl,he2b,rfl⟩:=he2;have HRB:=zh (Zcx u (rw_ gs k) wr hu hmay);have HCO:=zh (Zed u (rw_ gs k) wr hu (by omega) hwp);rw [hN] at HCO;have HSC:=zh hsc;have HBR:=zh hbr;have HG3:=zh hg3;have HTK:=zh htk;obtain⟨aC,cC,eC⟩:=hsc.slice;have htl:(gs.take k).length=k:=by rw [List.length_take];omega
   rw [htl] at eC;subst eC;have hs2:B+1<=wr.heap.size:=by have:=hbr.size;have:=HSZ2.out;omega
   obtain⟨S1,hS1⟩:∃S,txt (q1++gsB (gs.take k))=S:=⟨_,rfl⟩
   obtain⟨S2,hS2⟩:∃S,txt (DelM.allB (rw_ gs k))=S:=⟨_,rfl⟩
   have HSS:Hid (S1++S2=txt (q1++gsB (gs.take (k+1)))):=zh (by rw [<-hS1,<-hS2,HG3.out,<-List.append_assoc,Zab]);have hs1z:S1.size<=300000:=by rw [<-hS1,Zac,List.length_append];have:=HGL.out k;omega
   have hs2z:S2.size<=60600:=by
    have h:=HGL.out (k+1);rw [HG3.out,List.length_append] at h;rw [<-hS2,Zac];omega
   rw [hS2] at HRB;rw [hS1];clear hS1 hS2;have hkl:(gs.take k).length+1<=1000000:=by rw [List.length_take];omega
   clear hg3 hmay hN hwp htk hbr2 he2b hu hsc hbr;go_wp2_with fail;refine HRB.out.mono ?_;rintro e w4 ⟨rfl,rfl⟩;go_wp2_with fail;refine HCO.out.mono ?_;rintro e w5 ⟨rfl,hrs,hb5⟩;have HRS:=zh hrs;have HB5:=zh hb5;have HSC5:=zh (HSC.out.below hb5);obtain⟨cb,hcb⟩:∃cb,w4.heap.size=cb:=⟨_,rfl⟩
   have HCBB:=zh hcb;rw [hcb] at HRS hs2 ⊢;have hcv:Hid ((Value.slice aC k cC).ownBlock≠some cb):=zh (fun e=>by have:=HSC.out.old cb e;omega);clear hrs hb5 hcb;go_wp2_with (at_builtin;refine ZgP w5 rfl _ _ rfl (B+1) N _ (gs.take k) (rw_ gs k) cb HSC5.out HRS.out hs2 hcv.out rfl rfl hkl ?_);intro v6 w6 hsc6 hb6;have HF:Hid (SCodes w6 (B+1) N v6 (gs.take (k+1))/\Below (B+1) w2 w6):=zh ⟨by rw [HTK.out];exact hsc6,(HBR.out.trans (HB5.out.mono (by rw [HCBB.out];exact hs2))).trans hb6⟩;clear hsc6 hb6;go_wp2_with fail;go_roundw
   case rel=>exact⟨k+1,by go_num,by omega,by rw [HSS.out],HF.out.1,HF.out.2⟩
   case measure=>simp [intOf];omega
  ·obtain rfl:k=T:=by omega
   have hki:¬(k:Int)<(k:Int):=by omega
   have htk:gs.take k=gs:=by rw [<-hT,List.take_length]
   rw [htk] at hsc ⊢;have HSC:=zh hsc;have HBR:=zh hbr;obtain⟨q2,hq2⟩:∃q2,q1++gsB gs=q2:=⟨_,rfl⟩
   have HQ2:=zh hq2;rw [hq2];obtain⟨w5,rfl⟩:∃wz:World,wz=wr:=⟨_,rfl⟩
   clear htk hsc hbr hq2;go_wp2_with fail
   go_loopw [6,40] (fun vo vk wr=>∃(i:Nat),vk=.int .i64 (i:Int)/\i<=len/\vo=.string (txt (q2++symB gs ps zs i))/\Below w5.heap.size w5 wr) (fun _ vk _=>len-(intOf vk).toNat)
   case atStart=>exact⟨0,rfl,by omega,by simp [symB,symT],⟨rfl,rfl,rfl,Nat.le_refl _,fun _ _=>rfl⟩⟩
   case round=>
    obtain⟨i,rfl,hil,rfl,hbr⟩:=hrel;have HBRR:=zh hbr
    have hB2r:Below w2.heap.size w2 wr:=by
     rw [HSZ2.out];exact HBR.out.trans (hbr.mono (by have:=HBR.out.size;have:=HSZ2.out;omega))
    have HBF:Hid (Below w.heap.size w wr):=zh (HBW.out.trans (hB2r.mono HBW.out.size));by_cases hilt:i<len
    ·have hii:(i:Int)<(len:Int):=by omega
     obtain⟨b1,o1,k1,he1,d1⟩:=(HI.out.below HBF.out).cell (show i<zs.length by rw [HLEN.out];exact hilt);rw [HLEN.out] at he1;simp only [Value.slice.injEq] at he1;obtain⟨rfl,he1b,rfl⟩:=he1;have hsy:=HSY.out _ (FreqM.getD_mem zs i (by rw [HLEN.out];exact hilt));have hiH:Hid (i<zs.length):=zh (by rw [HLEN.out];exact hilt);obtain⟨z,hz⟩:∃z:Nat,zs.getD i 0=(z:Int):=⟨(zs.getD i 0).toNat,by omega⟩
     rw [hz] at d1 hsy;have HZ:=zh hz
     have c1:wr.cell? ⟨B,1,none⟩=some (.slice aP M cP):=by
      rw [cell_of_row _ _ _ _ _ _ ((hB2r.block B (by rw [HSZ2.out];omega)).trans HBX.out)];rfl
     obtain⟨htb1,htb2,htb3⟩:=HTB.out i hiH.out;obtain⟨b3,o3,k3,he3,d3⟩:=(HP.out.below hB2r).cell (show i / 50<(PkM.toI ps).length by rw [PkM.toI_length];exact htb1);rw [HM.out] at he3;simp only [Value.slice.injEq] at he3;obtain⟨rfl,he3b,rfl⟩:=he3;rw [PkM.toI_getD] at d3;obtain⟨P,hP⟩:∃P,ps.getD (i / 50) 0=P:=⟨_,rfl⟩
     rw [hP] at d3
     have hPlt:P<gs.length:=by
      rw [<-hP,List.getD_eq_getElem?_getD,List.getElem?_eq_getElem htb1];exact HPK.out.2.2.2.2 _ (List.getElem_mem htb1)
     obtain⟨cg,cC,cb,eC,d4,hrs⟩:=(HSC.out.below hbr).at_ hPlt;subst eC;rw [hT];obtain⟨G,hG⟩:∃G,i / 50=G:=⟨_,rfl⟩
     rw [hG] at d3;have htbi:CodM.tb gs ps i=gs.getD P []:=by unfold CodM.tb;rw [hP]
     rw [<-htbi] at hrs;have hzN:z<N:=by omega
     have d5:=(hrs.cell hzN).1;have hgi0:(0:Int)<=(i:Int) / 50:=by omega
     have hgi2:((i:Int) / 50).toNat=G:=by omega
     have hgi1:(i:Int) / 50<(M:Int):=by
      have:=HM.out;rw [PkM.toI_length] at this;omega
     have hPi:(P:Int)<(k:Int):=by rw [hT] at hPlt;omega
     have hzi:(z:Int)<(N:Int):=by omega
     have HNX:Hid (txt (q2++symB gs ps zs i)++txt (code (CodM.tb gs ps i) z)=txt (q2++symB gs ps zs (i+1))):=zh (by
      rw [Zab,ZcS gs ps zs hiH.out,HZ.out,Int.toNat_natCast,List.append_assoc])
     obtain⟨S1,hS1⟩:∃S,txt (q2++symB gs ps zs i)=S:=⟨_,rfl⟩
     obtain⟨S2,hS2⟩:∃S,txt (code (CodM.tb gs ps i) z)=S:=⟨_,rfl⟩
     have hs1z:S1.size<=400000:=by
      have h1:=HSL.out i hil;have h2:=HGL.out gs.length;rw [List.take_length] at h2;rw [<-hS1,Zac,List.length_append,<-HQ2.out,List.length_append];omega
     have hs2z:S2.size<=20000:=by
      have h1:=HSL.out (i+1) (by omega);rw [ZcS gs ps zs hiH.out,HZ.out,Int.toNat_natCast,List.length_append] at h1;rw [<-hS2,Zac];omega
     rw [hS2] at d5;rw [hS1,hS2] at HNX;rw [hS1];clear hbr hB2r he1b htb1 htb2 htb3 he3b hP hPlt hrs hsy hz htbi hS1 hS2;go_wp2_with fail;go_roundw
     case rel=>exact⟨i+1,by go_num,by omega,by rw [HNX.out],HBRR.out⟩
     case measure=>simp [intOf];omega
    ·obtain rfl:i=len:=by omega
     have hii:¬(i:Int)<(i:Int):=by omega
     have e:Hid (allC gs ps zs=q2++symB gs ps zs i):=zh (by
      unfold allC;rw [<-HQ2.out,<-HQ1.out,HT.out,HLEN.out])
     clear hbr hB2r;go_wp2_with fail;go_ret;exact⟨by rw [e.out];rfl,HBF.out⟩
end
section
open Go.ChangeShapes Go.WideShapes Go.ChangeAt Go.RowKit CrcM
def IsU32 (w:World) (a:Option Addr) (len:Nat) (xs:List (BitVec 32)):Prop:=
 xs.length=len/\len<=maxLen/\∀i x,xs[i]?=some x->∃b off,a=some ⟨b,off,none⟩/\b<w.heap.size/\w.cell? ⟨b,off+i,none⟩=some (.int .u32 (x.toNat:Int))
theorem IsU32.below {w w':World} {a:Option Addr} {len:Nat} {xs:List (BitVec 32)} (h:IsU32 w a len xs) (hb:Below w.heap.size w w'):IsU32 w' a len xs:=
 ⟨h.1,h.2.1,fun i x hx=>by
  obtain⟨b,off,ha,hlt,hc⟩:=h.2.2 i x hx;exact⟨b,off,ha,Nat.lt_of_lt_of_le hlt hb.size,(hb.cell (p:=⟨b,off+i,none⟩) hlt).trans hc⟩⟩
def strm (xs:List (BitVec 32)):BitVec 32:=xs.foldl cmb 0#32
theorem Zel (xs:List (BitVec 32)) (k:Nat) (x:BitVec 32) (h:xs[k]?=some x):strm (xs.take (k+1))=cmb (strm (xs.take k)) x:=by
 obtain⟨hk,rfl⟩:=List.getElem?_eq_some_iff.1 h;unfold strm;rw [List.take_succ_eq_append_getElem hk,List.foldl_append];rfl
theorem ZbJ (a:Option Addr) (len cap:Nat) (xs:List (BitVec 32)) (w:World) (h:IsU32 w a len xs) :
  Calls Tryz.prog 57 #[.slice a len cap] w fun e w'=>e=.returned (.int .u32 ((strm xs).toNat:Int))/\w=w':=by
 obtain⟨hl,hmax,hc⟩:=h;unfold maxLen at hmax;have HC:=zh hc;have HL:=zh hl;clear hc hl;go_enter Tryz.func57,Tryz.ntmps57;go_wp2_with fail
 go_loop [3,5,8] (fun t _ i=>∃k:Nat,k<=len/\i=.int .i64 k/\t=.int .u32 ((strm (xs.take k)).toNat:Int)) (fun _ _ i=>len-(intOf i).toNat)
 case atStart=>exact⟨0,by omega,rfl,rfl⟩
 case round=>
  obtain⟨k,hk,rfl,rfl⟩:=hrel;by_cases hlt:k<len
  ·have hx:∃x,xs[k]?=some x:=⟨xs[k]'(by have:=HL.out;omega),List.getElem?_eq_getElem _⟩
   obtain⟨x,hx⟩:=hx;obtain⟨b,off,rfl,_,hcell⟩:=HC.out k x hx;have HX:=zh (Zel xs k x hx);clear hx;go_wp2_with fail;refine(Zbl _ _ _).mono ?_;rintro e w' ⟨rfl,rfl⟩;go_wp2_with fail
   go_round
   case rel=>exact⟨k+1,by omega,by go_num,by rw [HX.out]⟩
   case measure=>simp [intOf];omega
  ·obtain rfl:k=len:=by omega
   go_wp2_with fail;go_ret;rw [List.take_of_length_le (by rw [HL.out];omega)];exact⟨rfl,rfl⟩
def u32v (x:BitVec 32):Value:=.int .u32 (x.toNat:Int)
theorem Zdm {w:World} {base e:Nat} {v:Value} {n:Nat} {xs:List (BitVec 32)} (h:w.ownsRow base e 1 v n (xs.map u32v)) (hn:n<=maxLen):∃a cap,v=.slice a n cap/\IsU32 w a n xs:=by
 have hl:xs.length=n:=by simpa using h.1
 rcases h.2 with⟨rfl,rfl⟩|⟨g,cap,cur,rfl,_,hg,_⟩
 ·refine⟨none,0,rfl,hl,hn,fun i x hx=>?_⟩;have:=(List.getElem?_eq_some_iff.1 hx).1;omega
 ·refine⟨some ⟨g,0,none⟩,cap,rfl,hl,hn,fun i x hx=>⟨g,0,rfl,(Array.getElem?_eq_some_iff.1 hg).1,?_⟩⟩;have hi:=(List.getElem?_eq_some_iff.1 hx).1;rw [Nat.zero_add,h.cellAt i (by omega)];simp [hx,u32v]
theorem ZiV:(Tryz.prog.info? 37).map (fun i=>(i.zero,i.size,i.bytes))=some (some (.int .u32 0),1,4):=by kernel_rfl
end
end Go.Proofs.YtlfpbcadcfaboaaGreatDoor

import Derived.Test.YtnachbjhhpnadaaGreatDoorBcB
import Derived.Test.YtnachbjhhpnadaaGreatDoorBcC
import Derived.Test.YtnachbjhhpnadaaGreatDoorBcG
import Derived.Test.YtnachbjhhpnadaaGreatDoorBcI
import Derived.Test.YtnachbjhhpnadaaGreatDoorBcK
import Derived.Test.YtnachbjhhpnadaaGreatDoorBcL
import Derived.Deep.Cut
import Derived.Deep.RegionHeld3
import Derived.Laws.EntriesVeiled
import Derived.WalkMore
import Derived.BigQuiet
set_option linter.unusedVariables false
set_option linter.unusedSimpArgs false
set_option maxHeartbeats 8000000
set_option maxRecDepth 100000
namespace Go.Proofs.YtnachbjhhpnadaaGreatDoor
section
open Go.RowKit BitM HufM CanM CodM PkM
theorem Zos (b rb N t n:Nat) (ps o:List Nat) (O:Nat->Prop) (v:Value) (l:List UInt8) (dr sp p:Nat) (w:World) (Q r:List Bool) (most a:Nat) (L:List Int) (hC:IsCR w b N O (.pick t n ps o)) (hR:IsReader w rb v l dr sp p) (hs:dr+l.length<=1099511627776)
  (hne:∀k,foot rb v k->¬O k) (hq:Q.drop a=(bitsOf l).drop (p-8*dr)++r) (hrt:RtC Q N most a L (.pick t n ps o)) (h3:3<=N) (h258:N<=258) :
  Calls Tryz.prog 265 #[.pointer (some ⟨b,0,none⟩),.pointer (some ⟨rb,0,none⟩)] w fun e w'=>OutC (fun _=>0) w w' b rb N O v l dr sp p Q ((bitsOf l).drop (p-8*dr)) r most a L (.pick t n ps o) e:=by
 obtain⟨F,g,pv,hO,hCC,hP,hOb,hft⟩:=hC;have HNE:=zh hne;have HFT:=zh hft;have HOB:=zh hOb;have HCC:=zh hCC;obtain⟨c0,c1,c2,c3,c4,c5,c6,c7,c8,c9,c10⟩:=Zap hO hCC;have HO:=zh hO;obtain⟨hrt1,hn1,hpl,hL0⟩:=id hrt;have hbnd:=hrt1.bnd;have hn2:n<=32767/\t<=6:=by omega
 have HST:=ZgA g rb pv t n ps o false v l dr sp p w hP hR hs (fun k hk hh=>hne k hk (hft k hh).1) (Or.inr ⟨hpl,hn2.1,hn2.2⟩);have HDS:=RtC.pick (most:=most) h3 hrt hq;have HHD:Hid (∀(D:PO) (a2:Nat),RtC Q N most a2 L (.len t D.ps [] [] 0)->Hd Q D.ps t):=zh (fun D a2 h=>h.1);generalize hod:pstep ((bitsOf l).drop (p-8*dr)) t n ps o false=D at *;have HSTH:=zh HST;have HDSH:=zh HDS;have HL0:=zh hL0;have hrb:Hid (¬O rb):=zh (hne rb (Or.inl rfl));have hps3:ps.length<=32767:=by omega
 unfold ptr at c3;clear hne hft hOb hCC hO hP hR HST HDS hod hq hrt hrt1 hbnd hL0 c0 c1 c2 c4 c5 c6 c7 c9 c10;go_enter Tryz.func265,Tryz.ntmps265;go_wp2_with fail;refine HSTH.out.mono ?_;rintro e w1 ⟨pv1,rfl,hp1,hr1,ht1,hf1⟩
 have hO1:=HO.out.other ht1 (by
  rintro(e|e)
  ·exact(HFT.out b e).2 rfl
  ·exact hrb.out (e▸HOB.out))
 have HO1:=zh hO1;have HR1:=zh hr1;have HT1:=zh (Ztw (O:=O) ht1 (fun k hk=>(HFT.out k hk).1))
 have hnew:∀k,foot g pv1 k->foot g pv k\/w.heap.size<=k:=fun k hk=>by
  rcases hk with rfl|hk
  ·exact Or.inl (Or.inl rfl)
  ·exact(hf1 k hk).imp Or.inr id
 have hbw:b<w.heap.size:=HO.out.lt
 have HNW:Hid (∀k,foot g pv1 k->(O k\/w.heap.size<=k)/\k≠b):=zh (fun k hk=>by
  rcases hnew k hk with h|h
  ·exact⟨Or.inl (HFT.out k h).1,(HFT.out k h).2⟩
  ·exact⟨Or.inr h,by omega⟩)
 have HP1:=zh hp1;clear hp1 hr1 ht1 hf1 hnew HSTH c3 c8;rcases HDSH.out with⟨e1,e2,e3,e4,e5,e6,e7,e8⟩|⟨e1,e3,e4⟩|⟨e1,e2⟩
 ·have HE4:=zh e4;have HE3:=zh e3;have HE5:=zh e5;have HE6:=zh e6;have HE7:=zh e7;have HE8:=zh e8;rw [e2,e5,e6] at HP1;obtain⟨_,_,_,d3,_,_,_,_,d8,_,_⟩:=Zap HO1.out HCC.out;have f8:=(HO1.out.cell (i:=8) (by omega)).2;have HO2:=zh (HO1.out.set 8 (.int .i64 ((ps.length:Int)+1)));have HC2:Hid (CC (upd F 8 (.int .i64 ((ps.length:Int)+1))) N (mth 265 b) 0 (ptr g) 0 nils (.pointer none) nils D.ps.length 0 false):=zh (by rw [HE7.out];exact HCC.out.s_held (ps.length+1));have hT2:Touch (·=b) w1 (w1.setCell ⟨b,8,none⟩ (.int .i64 ((ps.length:Int)+1))):=Zaa (Touch.refl _ _);have HT2:Hid (Touch (fun k=>O k\/k=rb) w (w1.setCell ⟨b,8,none⟩ (.int .i64 ((ps.length:Int)+1)))):=zh (Zbj HT1.out (cd_b hT2 HOB.out));have HP2:=zh (HP1.out.other hT2 (fun k hk e=>(HNW.out k hk).2 e));have HR2:=zh (HR1.out.other hT2 (fun k hk e=>HNE.out k hk (by rw [show k=b from e];exact HOB.out)));unfold ptr at d3;rw [e1];clear e1 e2 e3 e4 e5 e6 e7 e8 HDSH hO1 hT2;go_wp2_with fail;generalize hw2:w1.setCell ⟨b,8,none⟩ (.int .i64 ((ps.length:Int)+1))=w2 at *;clear hw2 d3 d8 f8;obtain⟨_,_,_,g3,_,_,_,_,_,_,_⟩:=Zap HO2.out HC2.out;unfold ptr at g3;rcases HE8.out with⟨hlt,hrt2⟩|⟨hle,hrt2⟩
  ·have HRT:=zh hrt2;have HDN:=zh (Zfn g pv1 t n D.ps D.o false false w2 HP2.out ⟨fun e=>(by cases e),fun e=>by omega⟩);clear hrt2 hlt HE8;go_wp2_with fail;refine HDN.out.mono ?_;rintro e w3 ⟨rfl,m3,hw3⟩;have HO3:Hid (ObjF 11 178 w3 b _):=zh (by rw [hw3];exact HO2.out.drewN m3);have HP3:Hid (IsPk w3 g pv1 t n D.ps D.o false):=zh (by rw [hw3];exact HP2.out.drewN m3);have HR3:Hid (IsReader w3 rb v l dr sp (p+D.used)):=zh (by rw [hw3];exact HR2.out.drewN m3);have HT3:Hid (Touch (fun k=>O k\/k=rb) w w3):=zh (by rw [hw3];exact Zbj HT2.out (Zad _ _ m3));clear hw3;go_wp2_with fail;go_ret2;refine⟨-1,0,D.used,fun k=>k=b\/foot g pv1 k,rfl,HR3.out,HT3.out,fun k hk=>?_,HE4.out,Or.inl ⟨rfl,HE3.out,.pick t n D.ps D.o,⟨_,g,pv1,HO3.out,HC2.out,HP3.out,Or.inl rfl,fun k hk=>⟨Or.inr hk,(HNW.out k hk).2⟩⟩,Or.inl ⟨rfl,rfl,HRT.out,by rw [HL0.out];rfl⟩⟩⟩;rcases hk with rfl|hk
   ·exact Or.inl HOB.out
   ·exact(HNW.out k hk).1
  ·have HRT:=zh hrt2;have HLE:=zh hle;have HDN:=zh (Zfn g pv1 t n D.ps D.o false true w2 HP2.out ⟨fun _=>⟨hn1,hle⟩,fun _=>rfl⟩);have hp1l:1<=D.ps.length:=by omega
   clear hrt2 hle HE8;go_wp2_with fail;refine HDN.out.mono ?_;rintro e w3 ⟨rfl,m3,hw3⟩;have HO3:Hid (ObjF 11 178 w3 b (upd F 8 (.int .i64 ((ps.length:Int)+1)))):=zh (by rw [hw3];exact HO2.out.drewN m3);have HP3:Hid (IsPk w3 g pv1 t n D.ps D.o false):=zh (by rw [hw3];exact HP2.out.drewN m3);have HR3:Hid (IsReader w3 rb v l dr sp (p+D.used)):=zh (by rw [hw3];exact HR2.out.drewN m3);have HT3:Hid (Touch (fun k=>O k\/k=rb) w w3):=zh (by rw [hw3];exact Zbj HT2.out (Zad _ _ m3));have hbw3:Hid (w.heap.size<=w3.heap.size):=zh HT3.out.size;obtain⟨_,_,_,k3,_,_,_,_,_,_,_⟩:=Zap HO3.out HC2.out;unfold ptr at k3;have HP3D:=zh (HP3.out.drewN 1);have HO3D:=zh (HO3.out.drewN 1);clear hw3 g3 HDN;go_wp2_with fail
   go_region_law (first
    | (go_simp;go_at_call 282;refine(ZjT g pv1 t n D.ps D.o false _ (by exact HP3D.out)).mono ?_;rintro e wT ⟨rfl,rfl⟩)
    | (go_simp;go_at_call 283;refine(Zmr g pv1 t n D.ps D.o false _ (by exact HP3D.out) hp1l).mono ?_;rintro e wP ⟨vP,rfl,hoP,hbP⟩;have HOP:=zh hoP;have HBP:=zh hbP;have HO4:=zh (HO3D.out.below hbP (by exact HO3D.out.lt));obtain⟨_,_,_,m3,m4,m5,_,_,_,_,_⟩:=Zap HO4.out HC2.out;have n4:=(HO4.out.cell (i:=4) (by omega)).2;have HO5:=zh (HO4.out.set 4 (.int .i64 (t:Int)));have HC5:=zh (HC2.out.s_T t);obtain⟨_,_,_,m53,_,m55,_,_,_,_,_⟩:=Zap HO5.out HC5.out;have n5:=(HO5.out.cell (i:=5) (by omega)).2;obtain⟨aP,cP,eP⟩:=hoP.slice;rw [toI_length] at eP;subst eP;have HO6:=zh (HO5.out.set 5 (.slice aP D.ps.length cP));have HC6:=zh (HC5.out.s_pu (.slice aP D.ps.length cP));obtain⟨_,_,_,m63,_,_,_,_,_,_,_⟩:=Zap HO6.out HC6.out;have n6:=(HO6.out.cell (i:=3) (by omega)).2;clear hoP hbP))
   all_goals
    have HO7:=zh (HO6.out.set 3 (.pointer none));have HC7:=zh (HC6.out.s_hd (.pointer none));have hTb:Touch (·=b) wP (((wP.setCell ⟨b,4,none⟩ (.int .i64 (t:Int))).setCell ⟨b,5,none⟩ (.slice aP D.ps.length cP)).setCell ⟨b,3,none⟩ (.pointer none)):=Zaa (Zaa (Zaa (Touch.refl _ _)));have HTB:=zh hTb;have hob:∀k,(Value.slice aP D.ps.length cP).ownBlock=some k->w3.heap.size<=k/\k<wP.heap.size:=fun k hk=>HOP.out.lt k hk
    have HOBK:=zh hob;have hb3:b<w3.heap.size:=HO3.out.lt;have HR7:=zh (((HR3.out.drewN 1).other (Touch.ofBelow (S:=fun _=>False) HBP.out) (fun _ _ h=>h)).other hTb (fun k hk e=>HNE.out k hk (by rw [show k=b from e];exact HOB.out)));have HT7:=zh (Zbj (Zbj HT3.out (Zad _ _ 1)) (Zbj (Touch.ofBelow (S:=fun k=>O k\/k=rb) HBP.out) (cd_b hTb HOB.out)));have HI7:=zh (HOP.out.ints.other hTb (fun k hk e=>by have h1:=hob k hk;have h2:k=b:=e;omega));have HHT:=zh (HHD.out D _ HRT.out);have ht0:(0:Nat)≠t:=by have:=HHT.out.2.2.2.1;omega
    have HSP:Hid (wP.heap.size<=(((wP.setCell ⟨b,4,none⟩ (.int .i64 (t:Int))).setCell ⟨b,5,none⟩ (.slice aP D.ps.length cP)).setCell ⟨b,3,none⟩ (.pointer none)).heap.size):=zh hTb.size;have HSW:Hid (w.heap.size<=wP.heap.size):=zh (by have h1:=hbw3.out;have h2:w3.heap.size<=wP.heap.size:=HBP.out.size;omega);clear hTb hob m3 m4 m5 m53 m55 m63 n4 n5 n6 k3;go_wp2_with fail;generalize ((wP.setCell ⟨b,4,none⟩ (.int .i64 (t:Int))).setCell ⟨b,5,none⟩ (.slice aP D.ps.length cP)).setCell ⟨b,3,none⟩ (.pointer none)=w7 at *;refine(ZgB b _ N _ _ t none 0 0 _ _ _ _ w7 HO7.out HC7.out ht0 h3 h258).mono ?_;rintro e w8 ⟨rfl,⟨F8,hO8,hC8⟩,hD8,hT8⟩;have HO8:=zh hO8;have HC8:=zh hC8;have HD8:=zh hD8;have HT8:=zh hT8;clear hO8 hC8 hD8 hT8;go_wp2_with fail;go_ret2;have hb7:b<w7.heap.size:=HO7.out.lt;have hs8:=HT8.out.size;refine⟨-1,0,D.used,fun k=>k=b\/k=w7.heap.size\/(Value.slice aP D.ps.length cP).ownBlock=some k,rfl,HR7.out.other HT8.out (fun k hk e=>HNE.out k hk (by rw [show k=b from e];exact HOB.out)),Zbj HT7.out (cd_b HT8.out HOB.out),fun k hk=>?_,HE4.out,Or.inl ⟨rfl,HE3.out,.len t D.ps [] [] 0,⟨F8,fun k=>(Value.slice aP D.ps.length cP).ownBlock=some k,w7.heap.size,.slice aP D.ps.length cP,nils,HO8.out,?_,HD8.out,⟨HI7.out.other HT8.out (fun k hk e=>by have h1:=HOBK.out k hk;have h2:k=b:=e;omega),fun _ h=>h⟩,Codes.nil _ _,fun k hk=>(by cases hk),Or.inl rfl,Or.inr (Or.inl rfl),by omega,fun h=>by have h1:=HOBK.out b h;omega,fun h=>by have h1:=HOBK.out _ h;have h2:=HSP.out;omega,fun k hk=>⟨Or.inr (Or.inr hk),by have h1:=HOBK.out k hk;have h2:=HSP.out;omega⟩⟩,Or.inl ⟨rfl,rfl,HRT.out,by rw [HL0.out];rfl⟩⟩⟩
    ·rcases hk with rfl|rfl|hk
     ·exact Or.inl HOB.out
     ·exact Or.inr (by have h1:=HSP.out;have h2:=HSW.out;omega)
     ·exact Or.inr (by have h1:=HOBK.out k hk;have h2:=hbw3.out;omega)
    ·have hh:D.ps.length+([]:List (List Int)).length*N=D.ps.length:=by simp
     rw [hh];exact HC8.out
 ·have HE4:=zh e4;have HE3:=zh e3;rw [e1];clear e1 e3 e4 HDSH hO1;go_wp2_with fail;go_ret2;exact⟨0,25,D.used,fun k=>k=b,rfl,HR1.out,HT1.out,fun k hk=>Or.inl (by rw [hk];exact HOB.out),HE3.out,Or.inr (Or.inl ⟨by decide,by decide,rfl,⟨F,_,_,_,_,_,_,_,_,_,HO1.out,HCC.out,rfl⟩,HE4.out⟩)⟩
 ·have HE2:=zh e2;subst e1;clear e2 HDSH hO1;go_wp2_with fail;go_ret2;refine⟨0,3,0,fun k=>k=b\/foot g pv1 k,rfl,HR1.out,HT1.out,fun k hk=>?_,Nat.zero_le _,Or.inr (Or.inr ⟨rfl,rfl,rfl,⟨F,g,pv1,HO1.out,HCC.out,HP1.out,Or.inl rfl,fun k hk=>⟨Or.inr hk,(HNW.out k hk).2⟩⟩,HE2.out⟩)⟩;rcases hk with rfl|hk
  ·exact Or.inl HOB.out
  ·exact(HNW.out k hk).1
end
section
open Go.RowKit BitM HufM CanM CodM
theorem ZjX (b rb N t:Nat) (ps:List Nat) (gs:List (List Int)) (cnt:Nat) (O:Nat->Prop) (v:Value) (l:List UInt8) (dr sp p:Nat) (w:World) (Q r:List Bool) (most a:Nat) (L:List Int) (hC:IsCR w b N O (.sym t ps gs cnt false)) (hR:IsReader w rb v l dr sp p) (hs:dr+l.length<=1099511627776)
  (hne:∀k,foot rb v k->¬O k) (hq:Q.drop a=(bitsOf l).drop (p-8*dr)++r) (hrt:RtC Q N most a L (.sym t ps gs cnt false)) (h3:3<=N) (h258:N<=258) (hcnt:cnt<=10000000) :
  Calls Tryz.prog 296 #[.pointer (some ⟨b,0,none⟩),.pointer (some ⟨rb,0,none⟩)] w fun e w'=>OutC (fun _=>0) w w' b rb N O v l dr sp p Q ((bitsOf l).drop (p-8*dr)) r most a L (.sym t ps gs cnt false) e:=by
 obtain⟨F,Pb,pu,cu,hO,hCC,hRP,hCD,hOb,hPb,hPO⟩:=hC;have HNE:=zh hne;have HOB:=zh hOb;have HCC:=zh hCC;have HRP:=zh hRP;have HCD:=zh hCD;have HPB:=zh hPb;have HPO:=zh hPO;have HO:=zh hO;obtain⟨c0,c1,c2,c3,c4,c5,c6,c7,c8,c9,c10⟩:=Zap hO hCC;obtain⟨hHd,hWhs,hgt,hLc,hc50,_⟩:=id hrt;have HLC:=zh hLc;have HSY:=zh (RtC.sym hrt hq);have hrb:Hid (¬O rb):=zh (hne rb (Or.inl rfl));have hpl:ps.length<=32767:=hHd.2.2.2.2.2.1;obtain⟨G,hG⟩:∃G,cnt / 50=G:=⟨_,rfl⟩
 have g1:(cnt:Int) / 50=(G:Int):=by omega
 have g2:(cnt:Int).tdiv 50=(G:Int):=by rw [Int.tdiv_eq_ediv_of_nonneg (by omega)];exact g1
 have g3:IntKind.i64.wrap (G:Int)=(G:Int):=IntWalk.i64_in _ (by omega);have hGl:G<=ps.length:=by omega
 have hTI:=PkM.toI_length ps;obtain⟨aP,cP,hpu,hPc⟩:=id hRP.1;rw [hTI] at hpu;subst hpu;obtain⟨aC,cC,hcu⟩:=hCD.slice;subst hcu;by_cases hlast:G=ps.length
 ·have hge:ps.length<=cnt / 50:=by omega
  have hre:=HSY.out.1 hge;have HRE:=zh hre;have hb1:((G:Int)==(ps.length:Int))=true:=by rw [beq_iff_eq];omega
  have HR:=zh hR;clear hne hOb hCC hRP hCD hPb hPO hO hR hq hrt hHd hWhs hLc hTI hPc hge hre hlast hG c0 c1 c2 c3 c4 c6 c7 c8 c10;go_enter Tryz.func296,Tryz.ntmps296;go_wp2_with fail;go_ret2;exact⟨0,25,0,fun k=>k=b,rfl,HR.out,Touch.refl _ _,fun k hk=>Or.inl (by rw [hk];exact HOB.out),Nat.zero_le _,Or.inr (Or.inl ⟨by decide,by decide,rfl,⟨F,_,_,_,_,_,_,_,_,_,HO.out,HCC.out,rfl⟩,HRE.out⟩)⟩
 ·have hlt:G<ps.length:=by omega
  have hlt50:cnt / 50<ps.length:=by omega
  have hb1:((G:Int)==(ps.length:Int))=false:=by rw [beq_eq_false_iff_ne];omega
  obtain⟨hPlt,hZN,hZW⟩:=hWhs.tb hHd hgt hlt50;have hx:=PkM.toI_getD ps G;rw [List.getD_eq_getElem?_getD,List.getElem?_eq_getElem (by rw [hTI];exact hlt)] at hx;obtain⟨pb,po,hap,hpc⟩:=hPc G _ (List.getElem?_eq_getElem (by rw [hTI];exact hlt));subst hap;have hx2:(PkM.toI ps)[G]'(by rw [hTI];exact hlt)=((ps.getD G 0:Nat):Int):=hx;rw [hx2] at hpc;rw [hG] at hPlt;obtain⟨bs,base,q1,q2,q3,q4,q5⟩:=hCD;obtain⟨Z,hZ⟩:∃Z,tb gs ps cnt=Z:=⟨_,rfl⟩
  have hZ2:gs.getD (ps.getD G 0) []=Z:=by rw [<-hZ,<-hG];rfl
  obtain⟨k1,k2,k3,k4⟩:=q5 _ hPlt;rw [hZ2] at k1;obtain⟨cg,ccap,he,hcc⟩:=q1.cell (i:=ps.getD G 0) (by rw [q2];exact hPlt);simp only [Value.slice.injEq] at he;obtain⟨rfl,_,rfl⟩:=he;obtain⟨P,hP⟩:∃P,ps.getD G 0=P:=⟨_,rfl⟩
  rw [hP] at hpc hcc k1 k2 k4 hPlt;obtain⟨cb,hcb⟩:∃cb,bs.getD P 0=cb:=⟨_,rfl⟩
  rw [hcb] at hcc k1 k2 k4;unfold ptr at hcc;rw [hZ] at HSY hZN hZW;have hG0:(0:Int)<=(G:Int):=by omega
  have hGi:(G:Int)<(ps.length:Int):=by omega
  have hP0:(0:Int)<=(P:Int):=by omega
  have hPi:(P:Int)<(gs.length:Int):=by omega
  have hPib:(P:Int)<(bs.length:Int):=by rw [q2];exact hPi
  have hcr:cb≠rb:=fun e=>hne rb (Or.inl rfl) (e▸(hPO cb k2).1)
  have HGT:=zh (ZpT cb Z rb v l dr sp p (w.drewN 1) (k1.other (Zad (fun _=>False) _ 1) id) (by omega) (by omega) hZW (hR.drewN 1) hs hcr);have HZW:=zh hZW;have HZN:=zh hZN;have HLT:=zh hlt50;clear hne hOb hCC hRP hPb hPO hO hR hq hrt hHd hWhs hLc hTI hPc hx hx2 hlast hG hP hcb hZ hZ2 q1 q2 q3 q4 q5 k1 k2 k3 k4 c1 c2 c3 c4 c6 c8 c10 hZN hZW hlt50 hcr hGl hc50 hgt;go_enter Tryz.func296,Tryz.ntmps296;go_wp2_with fail;have HOD:=zh (HO.out.drewN 1);have HT0:Hid (Touch (fun k=>O k\/k=rb) w (w.drewN 1)):=zh (Zad _ _ 1);have HRPD:Hid (RowP (w.drewN 1) Pb _ (PkM.toI ps)):=zh (HRP.out.other (Zad (fun _=>False) _ 1) (fun _ _ h=>h));have HCDD:Hid (Codes (w.drewN 1) Pb _ gs):=zh (HCD.out.other (Zad (fun _=>False) _ 1) (fun _ _ h=>h));have hnb:Hid (¬b=rb):=zh (fun e=>hrb.out (e▸HOB.out));have hPn:Hid (∀k,Pb k->¬k=rb):=zh (fun k hk e=>hrb.out (e▸(HPO.out k hk).1));have HPBK:Hid (Pb pb):=zh (HRP.out.2 pb rfl)
  have HCBK:Hid (Pb cg):=zh (by
   obtain⟨_,_,_,_,_,h4,_⟩:=HCD.out;exact h4 cg rfl)
  have hk5:=c5;have hk7:=c7;have HKP:=zh hpc;have HKC:=zh hcc
  have hP2:∀W:World,Touch (·=rb) (w.drewN 1) W->W.cell? ⟨pb,po+G,none⟩=some (.int .i64 (P:Int))/\W.cell? ⟨cg,P,none⟩=some (.pointer (some ⟨cb,0,none⟩)):=fun W hW=>by
   refine⟨?_,?_⟩
   ·rw [World.cell?_of_block (w:=w.drewN 1) (a:=⟨pb,po+G,none⟩) (hW.block pb (ZaG HKP.out) (hPn.out pb HPBK.out))];exact HKP.out
   ·rw [World.cell?_of_block (w:=w.drewN 1) (a:=⟨cg,P,none⟩) (hW.block cg (ZaG HKC.out) (hPn.out cg HCBK.out))];exact HKC.out
  have HP2:=zh hP2;clear hP2 c0 c9
  go_region_held3 (fun W=>W.cell? ⟨b,7,none⟩=some (.slice (some ⟨cg,0,none⟩) bs.length cC)/\W.cell? ⟨b,5,none⟩=some (.slice (some ⟨pb,po,none⟩) ps.length cP)/\W.cell? ⟨pb,po+G,none⟩=some (.int .i64 (P:Int))/\W.cell? ⟨cg,P,none⟩=some (.pointer (some ⟨cb,0,none⟩))) (go_keep)
   (first
    | (go_at_call 304;refine HGT.out.mono ?_;rintro e w1 ⟨x,er,p',rfl,hGP,hr1,ht1⟩;have HO1:=zh (HOD.out.other ht1 hnb.out);have HR1:=zh hr1;have HRP1:=zh (HRPD.out.other ht1 hPn.out);have HCD1:=zh (HCDD.out.other ht1 hPn.out);have HT1:Hid (Touch (fun k=>O k\/k=rb) w w1):=zh (Zbj HT0.out (ht1.mono (fun k hk=>Or.inr hk)));have hs1:Hid (w.heap.size<=w1.heap.size):=zh HT1.out.size;obtain⟨c0,_,_,_,_,z5,_,z7,_,c9,c10⟩:=Zap HO1.out HCC.out;obtain⟨zp,zc⟩:=HP2.out w1 ht1;have HGP:=zh hGP;clear hr1 ht1 hGP))
  have hGP:=HGP.out;clear HGP zp zc z5 z7;rcases hGP with⟨i,hi,hbg,rfl,rfl,rfl⟩|⟨hno,rfl,rfl,rfl⟩
  ·obtain⟨s1,s2,s3,s4,s5⟩:=HSY.out.2.2 i HLT.out (ZcF HZW.out hi hbg);have HS2:=zh s2;have HS3:=zh s3;have HS4:=zh s4;have HS5:=zh s5;have f9:=(HO1.out.cell (i:=9) (by omega)).2;have HO2:=zh (HO1.out.set 9 (.int .i64 ((cnt:Int)+1)));have HC2:Hid (CC _ N _ 0 _ t _ _ _ (ps.length+gs.length*N) (cnt+1) false):=zh (HCC.out.s_cnt (cnt+1));obtain⟨d0,_,_,_,_,_,_,_,_,_,d10⟩:=Zap HO2.out (HCC.out.s_cnt (cnt+1));have f10:=(HO2.out.cell (i:=10) (by omega)).2;obtain⟨dn,hdn⟩:∃dn,decide (i+1=N)=dn:=⟨_,rfl⟩
   have hbq:((i:Int)==(N:Int)-1)=dn:=by
    rw [<-hdn,Bool.eq_iff_iff,beq_iff_eq,decide_eq_true_eq];omega
   rw [hdn] at HS5;have HDN:=zh hdn;have hcb2:(cnt:Int)<=10000000:=by omega
   clear s2 s3 s4 s5 HSY hbg hdn;go_wp2_with fail;go_ret2;have hTf:Touch (·=b) w1 ((w1.setCell ⟨b,9,none⟩ (.int .i64 ((cnt:Int)+1))).setCell ⟨b,10,none⟩ (.bool dn)):=Zaa (Zaa (Touch.refl _ _));refine⟨(i:Int),0,ln Z i,fun k=>k=b\/Pb k,rfl,HR1.out.other hTf (fun k hk e=>HNE.out k hk (by rw [show k=b from e];exact HOB.out)),Zbj HT1.out (cd_b hTf HOB.out),fun k hk=>?_,HS3.out,Or.inl ⟨rfl,HS2.out,.sym t ps gs (cnt+1) dn,⟨_,Pb,_,_,HO2.out.set 10 _,HC2.out.s_dn _,HRP1.out.other hTf (fun k hk e=>HPB.out ((show k=b from e)▸hk)),HCD1.out.other hTf (fun k hk e=>HPB.out ((show k=b from e)▸hk)),Or.inl rfl,HPB.out,fun k hk=>⟨Or.inr hk,by have h1:=(HPO.out k hk).2;have h2:=hs1.out;have h3:=hTf.size;omega⟩⟩,Or.inr ⟨i,s1,rfl,by show cnt+1=L.length+1;rw [HLC.out],HDN.out.symm,HS4.out,HS5.out⟩⟩⟩;rcases hk with rfl|hk
   ·exact Or.inl HOB.out
   ·exact Or.inl (HPO.out k hk).1
  ·have HRS:=zh (HSY.out.2.1 HLT.out (ZjG hno));clear hno HSY;go_wp2_with fail;go_ret2;refine⟨0,3,0,fun k=>k=b\/Pb k,rfl,HR1.out,HT1.out,fun k hk=>?_,Nat.zero_le _,Or.inr (Or.inr ⟨rfl,rfl,rfl,⟨F,Pb,_,_,HO1.out,HCC.out,HRP1.out,HCD1.out,Or.inl rfl,HPB.out,fun k hk=>⟨Or.inr hk,by have h1:=(HPO.out k hk).2;have h2:=hs1.out;omega⟩⟩,HRS.out⟩)⟩;rcases hk with rfl|hk
   ·exact Or.inl HOB.out
   ·exact Or.inl (HPO.out k hk).1
end
section
open Go.RowKit
theorem ZmA (d:Nat) (f:Nat) (xs:Array Value) (W:World):(Op.equalIn (d+1) 174 (.func (.func f) xs #[]) .nilFunc).run Tryz.prog W=.ok false W:=by
 have hu:=Tryz.underlying174;simp [Op.equalIn,run_underlying hu]
theorem ZeO (f:Nat) (xs:Array Value) (W:World):(binOp .eql 174 (.func (.func f) xs #[]) .nilFunc).run Tryz.prog W=.ok (.bool false) W:=by
 simp only [binOp];simp [Op.equal,Op.maxDepth,ZmA 9999 f xs W]
end
section
open Go.RowKit BitM HufM CanM CodM
theorem ZaC {w:World} {b k:Nat} {v:Value}:Touch (·=b) w (w.setCell ⟨b,k,none⟩ v):=Zaa (Touch.refl _ _)
theorem IsCR.s_wr {w:World} {b N:Nat} {O:Nat->Prop} {s:CSt} (h:IsCR w b N O s):IsCR (w.setCell ⟨b,2,none⟩ (.int .i64 0)) b N O s:=by
 have ht:Touch (·=b) w (w.setCell ⟨b,2,none⟩ (.int .i64 0)):=ZaC;cases s with
 | fields=>
  obtain⟨F,g,pv,o,h1,h2,h3,h4,h5⟩:=h;exact⟨_,g,pv,o,h1.set 2 _,h2.s_wr 0,h3.other ht (fun k hk e=>(h5 k hk).2 e),h4,h5⟩
 | pick t n ps o=>
  obtain⟨F,g,pv,h1,h2,h3,h4,h5⟩:=h;exact⟨_,g,pv,h1.set 2 _,h2.s_wr 0,h3.other ht (fun k hk e=>(h5 k hk).2 e),h4,h5⟩
 | len t ps gs ls now=>
  obtain⟨F,Pb,d,pu,cu,h1,h2,h3,h4,h5,h6,h7,h8,h9,h10,h11,h12⟩:=h;exact⟨_,Pb,d,pu,cu,h1.set 2 _,h2.s_wr 0,h3.other ht h9,h4.other ht (fun k hk e=>h10 ((show k=b from e)▸hk)),h5.other ht (fun k hk e=>h10 ((show k=b from e)▸hk)),h6,h7,h8,h9,h10,h11,fun k hk=>⟨(h12 k hk).1,Nat.lt_of_lt_of_le (h12 k hk).2 ht.size⟩⟩
 | sym t ps gs cnt done=>
  obtain⟨F,Pb,pu,cu,h1,h2,h4,h5,h7,h10,h12⟩:=h;exact⟨_,Pb,pu,cu,h1.set 2 _,h2.s_wr 0,h4.other ht (fun k hk e=>h10 ((show k=b from e)▸hk)),h5.other ht (fun k hk e=>h10 ((show k=b from e)▸hk)),h7,h10,fun k hk=>⟨(h12 k hk).1,Nat.lt_of_lt_of_le (h12 k hk).2 ht.size⟩⟩
theorem IsCR.obj {w:World} {b N:Nat} {O:Nat->Prop} {s:CSt} (h:IsCR w b N O s):(∃F,ObjF 11 178 w b F)/\O b:=by
 cases s with
 | fields=>
  obtain⟨F,g,pv,o,h1,h2,h3,h4,h5⟩:=h;exact⟨⟨F,h1⟩,h4⟩
 | pick t n ps o=>
  obtain⟨F,g,pv,h1,h2,h3,h4,h5⟩:=h;exact⟨⟨F,h1⟩,h4⟩
 | len t ps gs ls now=>
  obtain⟨F,Pb,d,pu,cu,h1,h2,h3,h4,h5,h6,h7,_⟩:=h;exact⟨⟨F,h1⟩,h7⟩
 | sym t ps gs cnt done=>
  obtain⟨F,Pb,pu,cu,h1,h2,h4,h5,h7,_⟩:=h;exact⟨⟨F,h1⟩,h7⟩
theorem IsCR.shrink {w:World} {b N:Nat} {O:Nat->Prop} {s:CSt} (h:IsCR w b N O s):IsCR w b N (fun k=>O k/\k<w.heap.size) s:=by
 cases s with
 | fields=>
  obtain⟨F,g,pv,o,h1,h2,h3,h4,h5⟩:=h;exact⟨F,g,pv,o,h1,h2,h3,⟨h4,h1.lt⟩,fun k hk=>⟨⟨(h5 k hk).1,(h3.lt k hk).2⟩,(h5 k hk).2⟩⟩
 | pick t n ps o=>
  obtain⟨F,g,pv,h1,h2,h3,h4,h5⟩:=h;exact⟨F,g,pv,h1,h2,h3,⟨h4,h1.lt⟩,fun k hk=>⟨⟨(h5 k hk).1,(h3.lt k hk).2⟩,(h5 k hk).2⟩⟩
 | len t ps gs ls now=>
  obtain⟨F,Pb,d,pu,cu,h1,h2,h3,h4,h5,h6,h7,h8,h9,h10,h11,h12⟩:=h;exact⟨F,Pb,d,pu,cu,h1,h2,h3,h4,h5,h6,⟨h7,h1.lt⟩,⟨h8,h3.lt⟩,h9,h10,h11,fun k hk=>⟨⟨(h12 k hk).1,(h12 k hk).2⟩,(h12 k hk).2⟩⟩
 | sym t ps gs cnt done=>
  obtain⟨F,Pb,pu,cu,h1,h2,h4,h5,h7,h10,h12⟩:=h;exact⟨F,Pb,pu,cu,h1,h2,h4,h5,⟨h7,h1.lt⟩,h10,fun k hk=>⟨⟨(h12 k hk).1,(h12 k hk).2⟩,(h12 k hk).2⟩⟩
theorem cstepF (b rb N:Nat)  (O:Nat->Prop) (v:Value) (l:List UInt8) (dr sp p:Nat) (w:World) (Q r:List Bool) (most a:Nat) (L:List Int) (hC:IsCR w b N O (.fields)) (hR:IsReader w rb v l dr sp p) (hs:dr+l.length<=1099511627776)
  (hne:∀k,foot rb v k->¬O k) (hq:Q.drop a=(bitsOf l).drop (p-8*dr)++r) (hrt:RtC Q N most a L (.fields)) (h3:3<=N) (h258:N<=258)  :
  Calls Tryz.prog 191 #[.pointer (some ⟨b,0,none⟩),.pointer (some ⟨rb,0,none⟩)] w fun e w'=>OutC (fun er=>er) w w' b rb N O v l dr sp p Q ((bitsOf l).drop (p-8*dr)) r most a L (.fields) e:=by
 have hce:=hC.cells;have HOB:=zh hC.obj.2;have HNE:=zh hne;obtain⟨c1',c2,c8,c9,c10⟩:=hce
 have hc1:w.cell? ⟨b,1,none⟩=some (.func (.func 237) #[.pointer (some ⟨b,0,none⟩)] #[]):=by
  obtain⟨F,g,pv,o,h1,h2,_⟩:=hC;exact(Zap h1 h2).2.1
 have HM:Hid (Calls Tryz.prog 237 #[.pointer (some ⟨b,0,none⟩),.pointer (some ⟨rb,0,none⟩)] w fun e w'=>OutC (fun _=>0) w w' b rb N O v l dr sp p Q ((bitsOf l).drop (p-8*dr)) r most a L .fields e):=zh (by
  obtain⟨rfl,rfl⟩:=hrt;exact ZjV b rb N O v l dr sp p w Q r most hC hR hs hne hq)
 obtain⟨st,hst⟩:∃st:CSt,.fields=st:=⟨_,rfl⟩
 have c10':w.cell? ⟨b,10,none⟩=some (.bool false):=c10;rw [hst] at HM ⊢;clear c1' c8 c9 c10 hC hR hne hq hrt hst;have hfn:=fun f xs W=>ZeO f xs W
 go_enter Tryz.func191,Tryz.ntmps191;go_wp2_with fail;refine HM.out.mono ?_;rintro e w1 ⟨x,er,used,O',rfl,hr1,ht1,hO1,hu1,hcase⟩;have HR1:=zh hr1;have HT1:=zh ht1;have HO1:=zh hO1;have HU1:=zh hu1;clear hr1 ht1 hO1 hu1 HM;rcases hcase with⟨rfl,hus,s',hC',hx⟩|⟨he0,he3,rfl,hB,hrd⟩|⟨rfl,rfl,rfl,hC',hrd⟩
 ·have HUS:=zh hus;have HC':=zh hC';have HX:=zh hx;obtain⟨_,d2,_⟩:=hC'.cells;obtain⟨F',hF'⟩:=hC'.obj.1;have f2:=(hF'.cell (i:=2) (by omega)).2;clear hus hC' hx hF';go_wp2_with fail;go_ret2;have hT:Touch (·=b) w1 (w1.setCell ⟨b,2,none⟩ (.int .i64 0)):=ZaC;exact⟨x,0,used,O',rfl,HR1.out.other hT (fun k hk e=>HNE.out k hk (by rw [show k=b from e];exact HOB.out)),Zbj HT1.out (cd_b hT HOB.out),HO1.out,HU1.out,Or.inl ⟨rfl,HUS.out,s',HC'.out.s_wr,HX.out⟩⟩
 ·have hb3:(er==3)=false:=by rw [beq_eq_false_iff_ne];exact he3
  have hb3':(er != 3)=true:=by simp [he3]
  have HRD:=zh hrd;have HE0:=zh he0;have HE3:=zh he3;obtain⟨F',f,N',hd',T',pu',tb',cu',held',cnt',hF',hcc',hob'⟩:=hB;have HF':=zh hF';have HCC':=zh hcc';obtain⟨_,_,d2,_⟩:=Zap hF' hcc';have f2:=(hF'.cell (i:=2) (by omega)).2;clear hrd he0 he3 hF' hcc';go_wp2_with fail;go_ret2;have hT:Touch (·=b) w1 (w1.setCell ⟨b,2,none⟩ (.int .i64 er)):=ZaC;exact⟨0,er,used,O',rfl,HR1.out.other hT (fun k hk e=>HNE.out k hk (by rw [show k=b from e];exact HOB.out)),Zbj HT1.out (cd_b hT HOB.out),HO1.out,HU1.out,Or.inr (Or.inl ⟨HE0.out,HE3.out,rfl,⟨_,f,N',hd',T',pu',tb',cu',held',cnt',HF'.out.set 2 _,HCC'.out.s_wr er,hob'⟩,HRD.out⟩)⟩
 ·have HRD:=zh hrd;have HC':=zh hC';clear hrd hC';go_wp2_with fail;go_ret2;exact⟨0,3,0,O',rfl,HR1.out,HT1.out,HO1.out,HU1.out,Or.inr (Or.inr ⟨rfl,rfl,rfl,HC'.out,HRD.out⟩)⟩
theorem cstepP (b rb N:Nat) (t n:Nat) (ps o:List Nat) (O:Nat->Prop) (v:Value) (l:List UInt8) (dr sp p:Nat) (w:World) (Q r:List Bool) (most a:Nat) (L:List Int) (hC:IsCR w b N O (.pick t n ps o)) (hR:IsReader w rb v l dr sp p) (hs:dr+l.length<=1099511627776)
  (hne:∀k,foot rb v k->¬O k) (hq:Q.drop a=(bitsOf l).drop (p-8*dr)++r) (hrt:RtC Q N most a L (.pick t n ps o)) (h3:3<=N) (h258:N<=258)  :
  Calls Tryz.prog 191 #[.pointer (some ⟨b,0,none⟩),.pointer (some ⟨rb,0,none⟩)] w fun e w'=>OutC (fun er=>er) w w' b rb N O v l dr sp p Q ((bitsOf l).drop (p-8*dr)) r most a L (.pick t n ps o) e:=by
 have hce:=hC.cells;have HOB:=zh hC.obj.2;have HNE:=zh hne;obtain⟨c1',c2,c8,c9,c10⟩:=hce
 have hc1:w.cell? ⟨b,1,none⟩=some (.func (.func 265) #[.pointer (some ⟨b,0,none⟩)] #[]):=by
  obtain⟨F,g,pv,h1,h2,_⟩:=hC;exact(Zap h1 h2).2.1
 have HM:=zh (Zos b rb N t n ps o O v l dr sp p w Q r most a L hC hR hs hne hq hrt h3 h258);obtain⟨st,hst⟩:∃st:CSt,.pick t n ps o=st:=⟨_,rfl⟩
 have c10':w.cell? ⟨b,10,none⟩=some (.bool false):=c10;rw [hst] at HM ⊢;clear c1' c8 c9 c10 hC hR hne hq hrt hst;have hfn:=fun f xs W=>ZeO f xs W
 go_enter Tryz.func191,Tryz.ntmps191;go_wp2_with fail;refine HM.out.mono ?_;rintro e w1 ⟨x,er,used,O',rfl,hr1,ht1,hO1,hu1,hcase⟩;have HR1:=zh hr1;have HT1:=zh ht1;have HO1:=zh hO1;have HU1:=zh hu1;clear hr1 ht1 hO1 hu1 HM;rcases hcase with⟨rfl,hus,s',hC',hx⟩|⟨he0,he3,rfl,hB,hrd⟩|⟨rfl,rfl,rfl,hC',hrd⟩
 ·have HUS:=zh hus;have HC':=zh hC';have HX:=zh hx;obtain⟨_,d2,_⟩:=hC'.cells;obtain⟨F',hF'⟩:=hC'.obj.1;have f2:=(hF'.cell (i:=2) (by omega)).2;clear hus hC' hx hF';go_wp2_with fail;go_ret2;have hT:Touch (·=b) w1 (w1.setCell ⟨b,2,none⟩ (.int .i64 0)):=ZaC;exact⟨x,0,used,O',rfl,HR1.out.other hT (fun k hk e=>HNE.out k hk (by rw [show k=b from e];exact HOB.out)),Zbj HT1.out (cd_b hT HOB.out),HO1.out,HU1.out,Or.inl ⟨rfl,HUS.out,s',HC'.out.s_wr,HX.out⟩⟩
 ·have hb3:(er==3)=false:=by rw [beq_eq_false_iff_ne];exact he3
  have hb3':(er != 3)=true:=by simp [he3]
  have HRD:=zh hrd;have HE0:=zh he0;have HE3:=zh he3;obtain⟨F',f,N',hd',T',pu',tb',cu',held',cnt',hF',hcc',hob'⟩:=hB;have HF':=zh hF';have HCC':=zh hcc';obtain⟨_,_,d2,_⟩:=Zap hF' hcc';have f2:=(hF'.cell (i:=2) (by omega)).2;clear hrd he0 he3 hF' hcc';go_wp2_with fail;go_ret2;have hT:Touch (·=b) w1 (w1.setCell ⟨b,2,none⟩ (.int .i64 er)):=ZaC;exact⟨0,er,used,O',rfl,HR1.out.other hT (fun k hk e=>HNE.out k hk (by rw [show k=b from e];exact HOB.out)),Zbj HT1.out (cd_b hT HOB.out),HO1.out,HU1.out,Or.inr (Or.inl ⟨HE0.out,HE3.out,rfl,⟨_,f,N',hd',T',pu',tb',cu',held',cnt',HF'.out.set 2 _,HCC'.out.s_wr er,hob'⟩,HRD.out⟩)⟩
 ·have HRD:=zh hrd;have HC':=zh hC';clear hrd hC';go_wp2_with fail;go_ret2;exact⟨0,3,0,O',rfl,HR1.out,HT1.out,HO1.out,HU1.out,Or.inr (Or.inr ⟨rfl,rfl,rfl,HC'.out,HRD.out⟩)⟩
theorem cstepL (b rb N:Nat) (t:Nat) (ps:List Nat) (gs:List (List Int)) (ls:List Int) (now:Int) (O:Nat->Prop) (v:Value) (l:List UInt8) (dr sp p:Nat) (w:World) (Q r:List Bool) (most a:Nat) (L:List Int) (hC:IsCR w b N O (.len t ps gs ls now)) (hR:IsReader w rb v l dr sp p) (hs:dr+l.length<=1099511627776)
  (hne:∀k,foot rb v k->¬O k) (hq:Q.drop a=(bitsOf l).drop (p-8*dr)++r) (hrt:RtC Q N most a L (.len t ps gs ls now)) (h3:3<=N) (h258:N<=258)  :
  Calls Tryz.prog 191 #[.pointer (some ⟨b,0,none⟩),.pointer (some ⟨rb,0,none⟩)] w fun e w'=>OutC (fun er=>er) w w' b rb N O v l dr sp p Q ((bitsOf l).drop (p-8*dr)) r most a L (.len t ps gs ls now) e:=by
 have hce:=hC.cells;have HOB:=zh hC.obj.2;have HNE:=zh hne;obtain⟨c1',c2,c8,c9,c10⟩:=hce
 have hc1:w.cell? ⟨b,1,none⟩=some (.func (.func 298) #[.pointer (some ⟨b,0,none⟩)] #[]):=by
  obtain⟨F,Pb,d,pu,cu,h1,h2,_⟩:=hC;exact(Zap h1 h2).2.1
 have HM:=zh (ZjW b rb N t ps gs ls now O v l dr sp p w Q r most a L hC hR hs hne hq hrt h3 h258);obtain⟨st,hst⟩:∃st:CSt,.len t ps gs ls now=st:=⟨_,rfl⟩
 have c10':w.cell? ⟨b,10,none⟩=some (.bool false):=c10;rw [hst] at HM ⊢;clear c1' c8 c9 c10 hC hR hne hq hrt hst;have hfn:=fun f xs W=>ZeO f xs W
 go_enter Tryz.func191,Tryz.ntmps191;go_wp2_with fail;refine HM.out.mono ?_;rintro e w1 ⟨x,er,used,O',rfl,hr1,ht1,hO1,hu1,hcase⟩;have HR1:=zh hr1;have HT1:=zh ht1;have HO1:=zh hO1;have HU1:=zh hu1;clear hr1 ht1 hO1 hu1 HM;rcases hcase with⟨rfl,hus,s',hC',hx⟩|⟨he0,he3,rfl,hB,hrd⟩|⟨rfl,rfl,rfl,hC',hrd⟩
 ·have HUS:=zh hus;have HC':=zh hC';have HX:=zh hx;obtain⟨_,d2,_⟩:=hC'.cells;obtain⟨F',hF'⟩:=hC'.obj.1;have f2:=(hF'.cell (i:=2) (by omega)).2;clear hus hC' hx hF';go_wp2_with fail;go_ret2;have hT:Touch (·=b) w1 (w1.setCell ⟨b,2,none⟩ (.int .i64 0)):=ZaC;exact⟨x,0,used,O',rfl,HR1.out.other hT (fun k hk e=>HNE.out k hk (by rw [show k=b from e];exact HOB.out)),Zbj HT1.out (cd_b hT HOB.out),HO1.out,HU1.out,Or.inl ⟨rfl,HUS.out,s',HC'.out.s_wr,HX.out⟩⟩
 ·have hb3:(er==3)=false:=by rw [beq_eq_false_iff_ne];exact he3
  have hb3':(er != 3)=true:=by simp [he3]
  have HRD:=zh hrd;have HE0:=zh he0;have HE3:=zh he3;obtain⟨F',f,N',hd',T',pu',tb',cu',held',cnt',hF',hcc',hob'⟩:=hB;have HF':=zh hF';have HCC':=zh hcc';obtain⟨_,_,d2,_⟩:=Zap hF' hcc';have f2:=(hF'.cell (i:=2) (by omega)).2;clear hrd he0 he3 hF' hcc';go_wp2_with fail;go_ret2;have hT:Touch (·=b) w1 (w1.setCell ⟨b,2,none⟩ (.int .i64 er)):=ZaC;exact⟨0,er,used,O',rfl,HR1.out.other hT (fun k hk e=>HNE.out k hk (by rw [show k=b from e];exact HOB.out)),Zbj HT1.out (cd_b hT HOB.out),HO1.out,HU1.out,Or.inr (Or.inl ⟨HE0.out,HE3.out,rfl,⟨_,f,N',hd',T',pu',tb',cu',held',cnt',HF'.out.set 2 _,HCC'.out.s_wr er,hob'⟩,HRD.out⟩)⟩
 ·have HRD:=zh hrd;have HC':=zh hC';clear hrd hC';go_wp2_with fail;go_ret2;exact⟨0,3,0,O',rfl,HR1.out,HT1.out,HO1.out,HU1.out,Or.inr (Or.inr ⟨rfl,rfl,rfl,HC'.out,HRD.out⟩)⟩
theorem cstepS (b rb N:Nat) (t:Nat) (ps:List Nat) (gs:List (List Int)) (cnt:Nat) (O:Nat->Prop) (v:Value) (l:List UInt8) (dr sp p:Nat) (w:World) (Q r:List Bool) (most a:Nat) (L:List Int) (hC:IsCR w b N O (.sym t ps gs cnt false)) (hR:IsReader w rb v l dr sp p) (hs:dr+l.length<=1099511627776)
  (hne:∀k,foot rb v k->¬O k) (hq:Q.drop a=(bitsOf l).drop (p-8*dr)++r) (hrt:RtC Q N most a L (.sym t ps gs cnt false)) (h3:3<=N) (h258:N<=258) (hcnt:cnt<=10000000) :
  Calls Tryz.prog 191 #[.pointer (some ⟨b,0,none⟩),.pointer (some ⟨rb,0,none⟩)] w fun e w'=>OutC (fun er=>er) w w' b rb N O v l dr sp p Q ((bitsOf l).drop (p-8*dr)) r most a L (.sym t ps gs cnt false) e:=by
 have hce:=hC.cells;have HOB:=zh hC.obj.2;have HNE:=zh hne;obtain⟨c1',c2,c8,c9,c10⟩:=hce
 have hc1:w.cell? ⟨b,1,none⟩=some (.func (.func 296) #[.pointer (some ⟨b,0,none⟩)] #[]):=by
  obtain⟨F,Pb,pu,cu,h1,h2,_⟩:=hC;exact(Zap h1 h2).2.1
 have HM:=zh (ZjX b rb N t ps gs cnt O v l dr sp p w Q r most a L hC hR hs hne hq hrt h3 h258 hcnt);obtain⟨st,hst⟩:∃st:CSt,.sym t ps gs cnt false=st:=⟨_,rfl⟩
 have c10':w.cell? ⟨b,10,none⟩=some (.bool false):=c10;rw [hst] at HM ⊢;clear c1' c8 c9 c10 hC hR hne hq hrt hst;have hfn:=fun f xs W=>ZeO f xs W
 go_enter Tryz.func191,Tryz.ntmps191;go_wp2_with fail;refine HM.out.mono ?_;rintro e w1 ⟨x,er,used,O',rfl,hr1,ht1,hO1,hu1,hcase⟩;have HR1:=zh hr1;have HT1:=zh ht1;have HO1:=zh hO1;have HU1:=zh hu1;clear hr1 ht1 hO1 hu1 HM;rcases hcase with⟨rfl,hus,s',hC',hx⟩|⟨he0,he3,rfl,hB,hrd⟩|⟨rfl,rfl,rfl,hC',hrd⟩
 ·have HUS:=zh hus;have HC':=zh hC';have HX:=zh hx;obtain⟨_,d2,_⟩:=hC'.cells;obtain⟨F',hF'⟩:=hC'.obj.1;have f2:=(hF'.cell (i:=2) (by omega)).2;clear hus hC' hx hF';go_wp2_with fail;go_ret2;have hT:Touch (·=b) w1 (w1.setCell ⟨b,2,none⟩ (.int .i64 0)):=ZaC;exact⟨x,0,used,O',rfl,HR1.out.other hT (fun k hk e=>HNE.out k hk (by rw [show k=b from e];exact HOB.out)),Zbj HT1.out (cd_b hT HOB.out),HO1.out,HU1.out,Or.inl ⟨rfl,HUS.out,s',HC'.out.s_wr,HX.out⟩⟩
 ·have hb3:(er==3)=false:=by rw [beq_eq_false_iff_ne];exact he3
  have hb3':(er != 3)=true:=by simp [he3]
  have HRD:=zh hrd;have HE0:=zh he0;have HE3:=zh he3;obtain⟨F',f,N',hd',T',pu',tb',cu',held',cnt',hF',hcc',hob'⟩:=hB;have HF':=zh hF';have HCC':=zh hcc';obtain⟨_,_,d2,_⟩:=Zap hF' hcc';have f2:=(hF'.cell (i:=2) (by omega)).2;clear hrd he0 he3 hF' hcc';go_wp2_with fail;go_ret2;have hT:Touch (·=b) w1 (w1.setCell ⟨b,2,none⟩ (.int .i64 er)):=ZaC;exact⟨0,er,used,O',rfl,HR1.out.other hT (fun k hk e=>HNE.out k hk (by rw [show k=b from e];exact HOB.out)),Zbj HT1.out (cd_b hT HOB.out),HO1.out,HU1.out,Or.inr (Or.inl ⟨HE0.out,HE3.out,rfl,⟨_,f,N',hd',T',pu',tb',cu',held',cnt',HF'.out.set 2 _,HCC'.out.s_wr er,hob'⟩,HRD.out⟩)⟩
 ·have HRD:=zh hrd;have HC':=zh hC';clear hrd hC';go_wp2_with fail;go_ret2;exact⟨0,3,0,O',rfl,HR1.out,HT1.out,HO1.out,HU1.out,Or.inr (Or.inr ⟨rfl,rfl,rfl,HC'.out,HRD.out⟩)⟩
theorem Zot (b rb N:Nat) (s:CSt) (O:Nat->Prop) (v:Value) (l:List UInt8) (dr sp p:Nat) (w:World) (Q r:List Bool) (most a:Nat) (L:List Int) (hC:IsCR w b N O s) (hR:IsReader w rb v l dr sp p) (hs:dr+l.length<=1099511627776)
  (hne:∀k,foot rb v k->¬O k) (hq:Q.drop a=(bitsOf l).drop (p-8*dr)++r) (hrt:RtC Q N most a L s) (h3:3<=N) (h258:N<=258) (hd:s.done=false) (hcnt:s.cnt<=10000000) :
  Calls Tryz.prog 191 #[.pointer (some ⟨b,0,none⟩),.pointer (some ⟨rb,0,none⟩)] w fun e w'=>OutC (fun er=>er) w w' b rb N O v l dr sp p Q ((bitsOf l).drop (p-8*dr)) r most a L s e:=by
 cases s with
 | fields=>exact cstepF b rb N O v l dr sp p w Q r most a L hC hR hs hne hq hrt h3 h258
 | pick t n ps o=>exact cstepP b rb N t n ps o O v l dr sp p w Q r most a L hC hR hs hne hq hrt h3 h258
 | len t ps gs ls now=>exact cstepL b rb N t ps gs ls now O v l dr sp p w Q r most a L hC hR hs hne hq hrt h3 h258
 | sym t ps gs cnt done=>
  have hd2:done=false:=hd;subst hd2;exact cstepS b rb N t ps gs cnt O v l dr sp p w Q r most a L hC hR hs hne hq hrt h3 h258 hcnt
end
section
open Go.RowKit BitM
theorem Ziz (Q:List Bool):∃n,(Q++padding Q).length=8*n/\8*n<=Q.length+7:=by
 have h:(Q++padding Q).length=Q.length+(8-Q.length % 8) % 8:=by
  rw [List.length_append];unfold padding;rw [Zac]
 exact⟨(Q.length+(8-Q.length % 8) % 8) / 8,by omega,by omega⟩
theorem ZlC (a b:ByteArray):(a++b).data.toList=a.data.toList++b.data.toList:=by
 rw [ByteArray.data_append,Array.toList_append]
theorem ZmB (Q:List Bool) (s:ByteArray):bitsOf ((⟨(byts (Q++padding Q)).toArray⟩:ByteArray)++s).data.toList=Q++(padding Q++bitsOf s.data.toList):=by
 obtain⟨n,hn,_⟩:=Ziz Q;rw [ZlC,ZaO];show bitsOf (byts (Q++padding Q))++_=_;rw [ZeU n _ hn,List.append_assoc]
end
section
open Go.RowKit BitM HufM CanM CodM TabM FreqM
theorem May14.rd {zs:List Int} {N:Nat} (h:May14 zs (N:Int)) (hz:zs.length<=1000) (q:List Bool) (most:Nat):rdC (allC (rnd zs N 4) (pks zs N) zs++q) N most=if zs.length<=most then .ok zs (allC (rnd zs N 4) (pks zs N) zs).length else .err 2 []:=
 Zsi (by have:=h.1;omega) (by have:=h.2.1;omega) (h.pk hz) (h.whs hz) (h.tbs hz) h.endp h.2.2.1 q
theorem May14.len {zs:List Int} {N:Nat} (h:May14 zs (N:Int)) (hz:zs.length<=1000):(allC (rnd zs N 4) (pks zs N) zs).length<=300000:=by
 have h3:3<=N:=by have:=h.1;omega
 have h258:N<=258:=by have:=h.2.1;omega
 have hT6:(rnd zs N 4).length<=6:=(h.pk hz).2.1;have hpl:(pks zs N).length<=32767:=(h.pk hz).2.2.2.1;have h1:=Zhd h3 h258 _ (h.whs hz);have h2:=PkM.encK_len (pks zs N) hT6 (fun x hx=>Ziy x hx) _ (Nat.le_refl _);have h4:=(Zda (h.tbs hz) zs 0 h.2.2.2.1 (by omega)).2;have h5:=PkM.allB_length (pks zs N) (rnd zs N 4).length;rw [<-PkM.encK_all _ _ (Nat.le_refl _)] at h5;unfold allC symB;rw [List.take_length,List.length_append,List.length_append];omega
end
section
open Go.RowKit
theorem Zbl {P:Program} {fn:Func} {p q:Tmp} {ty:TypeId} (h:fn.results=#[.cell p ty,.tmp q]) (tmps:Array Value) (w:World) (g:Nat) (cs:Array Value) (t:TypeId) (d:TypeDesc) (e:Value)
  (hp:tmps.getD p undef=.pointer (some ⟨g,0,none⟩)) (hq:tmps.getD q undef=e) (hg:w.heap[g]?=some (.cells cs t (0,0))) (hu:P.underlying ty=some d) (hd:(match d with|.struct _|.array _ _=>true|_=>false)=true) (hi:(P.info? ty).map (·.size)=some cs.size) :
  (results fn tmps).run P w=.ok (.tuple #[.agg cs,e]) w:=by
 have hp':tmps[p]?.getD undef=.pointer (some ⟨g,0,none⟩):=by simpa using hp
 have hq':tmps[q]?.getD undef=e:=by simpa using hq
 simp [results,h,hp',hq',asAddr,run_loadVar_row w g t ty cs (0,0) d hg hu hd hi]
theorem ZaT {P:Program} {fn:Func} {p:Tmp} {ty:TypeId} (h:fn.results=#[.cell p ty]) (tmps:Array Value) (w:World) (g:Nat) (cs:Array Value) (t:TypeId) (d:TypeDesc)
  (hp:tmps.getD p undef=.pointer (some ⟨g,0,none⟩)) (hg:w.heap[g]?=some (.cells cs t (0,0))) (hu:P.underlying ty=some d) (hd:(match d with|.struct _|.array _ _=>true|_=>false)=true) (hi:(P.info? ty).map (·.size)=some cs.size) :
  (results fn tmps).run P w=.ok (.agg cs) w:=by
 have hp':tmps[p]?.getD undef=.pointer (some ⟨g,0,none⟩):=by simpa using hp
 simp [results,h,hp',asAddr,run_loadVar_row w g t ty cs (0,0) d hg hu hd hi]
def got0:Array Value:=#[.string ⟨#[]⟩,.int .i64 0,.int .u32 0]
theorem ZgC:Tryz.prog.built 34 []=some got0:=by kernel_rfl
theorem ZlE:got0.all (·.oneCell')=true:=by simp [got0,Value.oneCell']
theorem ZbI (A:Array Value) (h:A.size=3):(Tryz.prog.info? 34).map (·.size)=some A.size:=by rw [h];kernel_rfl
def bkV (room:Int) (begun:Bool) (sum origin:Int) (list row places:Value) (fronts other:Int) (last:Value) (wrong:Int) (done:Bool):Array Value:=
 #[.int .i64 room,.bool begun,.int .u32 sum,.int .i64 origin,list,row,places,.int .i64 fronts,.int .i64 other,last,.int .i64 wrong,.bool done]
theorem ZqF (room:Int):Tryz.prog.built 108 [(0,.int .i64 room)]=some (bkV room false 0 0 (.pointer none) (.pointer none) (.pointer none) 0 0 (.slice none 0 0) 0 false):=by kernel_rfl
theorem Zer (r:Int) (w:World):Calls Tryz.prog 70 #[.int .i64 r] w fun e w'=>e=.returned (.bool (decide (5<=r/\r<=900000)))/\w'=w:=by
 by_cases h1:r<5
 ·have h2:¬r>=5:=by omega
  have h3:decide (5<=r/\r<=900000)=false:=by rw [decide_eq_false_iff_not];omega
  rw [h3];go_enter Tryz.func70,Tryz.ntmps70;go_wp2_with fail;go_ret;exact⟨rfl,rfl⟩
 ·have h2:r>=5:=by omega
  by_cases h4:r<=900000
  ·have h3:decide (5<=r/\r<=900000)=true:=by rw [decide_eq_true_eq];omega
   rw [h3];go_enter Tryz.func70,Tryz.ntmps70;go_wp2_with fail;go_ret;exact⟨rfl,rfl⟩
  ·have h3:decide (5<=r/\r<=900000)=false:=by rw [decide_eq_false_iff_not];omega
   rw [h3];go_enter Tryz.func70,Tryz.ntmps70;go_wp2_with fail;go_ret;exact⟨rfl,rfl⟩
structure IsBk (w:World) (t:Nat) (room:Int) (begun:Bool) (sum origin:Int) (list row places:Value) (fronts other:Int) (last:Value) (wrong:Int) (done:Bool):Prop where
 obj:w.heap[t]?=some (.cells (bkV room begun sum origin list row places fronts other last wrong done) 108 (0,0))
theorem ZmD (r:Int) (w:World) (h:5<=r/\r<=900000):Calls Tryz.prog 29 #[.int .i64 r] w fun e w'=>e=.returned (.tuple #[.pointer (some ⟨w.heap.size,0,none⟩),.int .i64 0])/\IsBk w' w.heap.size r false 0 0 (.pointer none) (.pointer none) (.pointer none) 0 0 (.slice none 0 0) 0 false/\Below w.heap.size w w':=by
 have HI:=zh (Zer r w);rw [decide_eq_true h] at HI;have hbt:=ZqF r;clear h;go_enter Tryz.func29,Tryz.ntmps29;go_wp2_with fail;refine HI.out.mono ?_;rintro e w1 ⟨rfl,hw⟩;subst hw;go_wp2_with (refine Zaj rfl 108 0 _ rfl _ rfl _ hbt ?_);go_ret2;exact⟨rfl,⟨heap_alloc_new _ _⟩,(Below.refl _ _).alloc (Nat.le_refl _) _⟩
end
section
open Go.RowKit ZerM
theorem ZlF (base:Nat) (v:Value) (zs:List Int) (m:Nat) (w:World) (hv:OwnI w base v zs) (hb:base<=w.heap.size) (hz:zs.length+m<=17592186044416) (hm:m<=9223372036854775807) :
  Calls Tryz.prog 105 #[v,.int .i64 (m:Int)] w fun e w'=>∃v',e=.returned v'/\OwnI w' base v' (zs++rowC m)/\Below base w w':=by
 have HV:=zh hv;clear hv;go_enter Tryz.func105,Tryz.ntmps105;go_wp2_with fail
 go_step3
 go_wp2_with fail
 go_step3
 go_wp2_with fail
 go_loopw [0,1] (fun c i wr=>∃(u:Value) (ys:List Int) (j:Nat),c=u/\i=.int .i64 (j:Int)/\ys++rowC j=zs++rowC m/\ys.length+j<=17592186044416/\j<=9223372036854775807/\OwnI wr base u ys/\Below base w wr) (fun _ i _=>(intOf i).toNat)
 case atStart=>exact⟨v,zs,m,rfl,rfl,rfl,hz,hm,HV.out,Below.refl _ _⟩
 case round=>
  clear HV;obtain⟨u,ys,j,rfl,rfl,he,hl,hj,hO,hB⟩:=hrel;have HE:=zh he;have HO:=zh hO;have HB:=zh hB;have hbw:base<=wr.heap.size:=Nat.le_trans hb hB.size;clear he hO hB;by_cases h0:j=0
  ·subst h0;go_wp2_with fail
   try rw [Exit.noGoto_ret]
   go_ret;refine⟨_,rfl,?_,HB.out⟩;rw [<-HE.out,ZdD,List.append_nil];exact HO.out
  ·have h0i:((j:Int)==0)=false:=by rw [beq_eq_false_iff_ne];omega
   obtain⟨i,hi⟩:∃i,(j-1) / 2=i:=⟨_,rfl⟩
   have q1:IntKind.i64.wrap ((j:Int)-1)=(j:Int)-1:=IntWalk.i64_in _ (by omega);have q2:((j:Int)-1).tdiv 2=(i:Int):=by rw [Int.tdiv_eq_ediv_of_nonneg (by omega)];omega
   have q3:((j:Int)-1) / 2=(i:Int):=by omega
   have q4:IntKind.i64.wrap (i:Int)=(i:Int):=IntWalk.i64_in _ (by omega);by_cases h1:j % 2=1
   ·have r1:(j:Int).tmod 2=1:=by rw [Int.tmod_eq_emod_of_nonneg (by omega)];omega
    have r2:(j:Int) % 2=1:=by omega
    have HR:=zh (Zlj j h1);rw [hi] at HR;clear h1;go_wp2_with (at_builtin;refine Zar wr rfl _ _ rfl base _ ys 0 HO.out rfl rfl (by omega) hbw ?_);intro v' w2 hO2 hB2;have HO2:=zh hO2;have HB2:=zh (HB.out.trans hB2);clear hO2 hB2;go_wp2_with fail;go_roundw
    case rel=>exact⟨_,_,i,rfl,by go_num,by rw [<-HE.out,HR.out];simp,by simp;omega,by omega,HO2.out,HB2.out⟩
    case measure=>simp [intOf];omega
   ·have r1:((j:Int).tmod 2==1)=false:=by rw [Int.tmod_eq_emod_of_nonneg (by omega),beq_eq_false_iff_ne];omega
    have r2:(j:Int) % 2=0:=by omega
    have HR:=zh (Zie j (by omega) (by omega));rw [hi] at HR;clear h1;go_wp2_with (at_builtin;refine Zar wr rfl _ _ rfl base _ ys 1 HO.out rfl rfl (by omega) hbw ?_);intro v' w2 hO2 hB2;have HO2:=zh hO2;have HB2:=zh (HB.out.trans hB2);clear hO2 hB2;go_wp2_with fail;go_roundw
    case rel=>exact⟨_,_,i,rfl,by go_num,by rw [<-HE.out,HR.out];simp,by simp;omega,by omega,HO2.out,HB2.out⟩
    case measure=>simp [intOf];omega
theorem Zb1 (n:Int) (r:Bool) (w:World) (hr:r=true↔1<=n/\n<=256):Calls Tryz.prog 103 #[.int .i64 n] w fun e w'=>e=.returned (.bool r)/\w=w':=by
 by_cases h1:1<=n
 ·by_cases h2:n<=256
  ·obtain rfl:r=true:=hr.2 ⟨h1,h2⟩;clear hr;go_enter Tryz.func103,Tryz.ntmps103;go_wp2_with fail;go_ret;exact⟨rfl,rfl⟩
  ·obtain rfl:r=false:=by rw [Bool.eq_false_iff];intro h;exact h2 (hr.1 h).2
   clear hr;go_enter Tryz.func103,Tryz.ntmps103;go_wp2_with fail;go_ret;exact⟨rfl,rfl⟩
 ·obtain rfl:r=false:=by rw [Bool.eq_false_iff];intro h;exact h1 (hr.1 h).1
  clear hr;go_enter Tryz.func103,Tryz.ntmps103;go_wp2_with fail;go_ret;exact⟨rfl,rfl⟩
theorem ZdK (v:Value) (zs:List Int) (n:Int) (r:Bool) (w:World) (hv:IsInts w v zs) (hz:zs.length<=9223372036854775807) (hr:r=true↔∀p∈zs,0<=p/\p<n) :
  Calls Tryz.prog 104 #[v,.int .i64 n] w fun e w'=>e=.returned (.bool r)/\w=w':=by
 have HV:=zh hv;have HR:=zh hr;obtain⟨a,cap,rfl,_⟩:=hv;clear hr;go_enter Tryz.func104,Tryz.ntmps104;go_wp2_with fail
 go_loop [9] (fun i=>∃k:Nat,k<=zs.length/\i=.int .i64 k/\∀j,j<k->0<=zs.getD j 0/\zs.getD j 0<n) (fun i=>zs.length-(intOf i).toNat)
 case atStart=>exact⟨0,by omega,rfl,fun j hj=>by omega⟩
 case round=>
  obtain⟨k,hk,rfl,hA⟩:=hrel;have HA:=zh hA;clear hA;by_cases hlk:k<zs.length
  ·have hki:(k:Int)<(zs.length:Int):=by omega
   obtain⟨b1,o1,k1,he1,c1⟩:=HV.out.cell hlk;simp only [Value.slice.injEq] at he1;obtain⟨rfl,_,rfl⟩:=he1;obtain⟨x,hx⟩:∃x,zs.getD k 0=x:=⟨_,rfl⟩
   have HM:Hid (x∈zs):=zh (by
    rw [<-hx,List.getD_eq_getElem?_getD,List.getElem?_eq_getElem hlk];exact List.getElem_mem hlk)
   rw [hx] at c1;have HX:=zh hx;clear hx;by_cases h0:x<0
   ·obtain rfl:r=false:=by
     rw [Bool.eq_false_iff];intro h;have:=(HR.out.1 h x HM.out).1;omega
    go_wp2_with fail;go_ret;exact⟨rfl,rfl⟩
   ·by_cases h1:n<=x
    ·obtain rfl:r=false:=by
      rw [Bool.eq_false_iff];intro h;have:=(HR.out.1 h x HM.out).2;omega
     go_wp2_with fail;go_ret;exact⟨rfl,rfl⟩
    ·go_wp2_with fail
     go_round
     case rel=>exact⟨k+1,by omega,by go_num,fun j hj=>by
      by_cases e:j=k
      ·subst e;rw [HX.out];omega
      ·exact HA.out j (by omega)⟩
     case measure=>simp [intOf];omega
  ·obtain rfl:k=zs.length:=by omega
   have hrt:r=true:=by
    rw [HR.out];intro p hp;obtain⟨i,hi,rfl⟩:=List.getElem_of_mem hp;have:=HA.out i hi;rw [List.getD_eq_getElem?_getD,List.getElem?_eq_getElem hi] at this;exact this
   subst hrt;go_wp2_with fail;go_ret;exact⟨rfl,rfl⟩
theorem ZjY (v:Value) (zs:List Int) (n:Int) (w:World) (hv:IsInts w v zs) (hz:zs.length<=1000000) :
  Calls Tryz.prog 53 #[v,.int .i64 n] w fun e w'=>∃(u:Value) (ys:List Int) (err:Nat),e=.returned (.tuple #[u,.int .i64 (err:Int)])/\OwnI w' w.heap.size u ys/\Below w.heap.size w w'/\EncP zs n ys err:=by
 have HV:=zh hv;obtain⟨a,cap,rfl,_⟩:=hv;by_cases hn:1<=n/\n<=256
 ·have HS:=zh (Zb1 n true w ⟨fun _=>hn,fun _=>rfl⟩);have hn1:=hn.1;have hn2:=hn.2;by_cases hp:∀p∈zs,0<=p/\p<n
  ·have HP:=zh (ZdK _ zs n true w HV.out (by omega) ⟨fun _=>hp,fun _=>rfl⟩);have HOK:=zh (show EncOk zs n from⟨hn1,hn2,hp⟩);clear hp hn;go_enter Tryz.func53,Tryz.ntmps53;go_wp2_with fail;refine HS.out.mono ?_;rintro e w1 ⟨rfl,rfl⟩;go_wp2_with fail;refine HP.out.mono ?_;rintro e w1 ⟨rfl,rfl⟩;clear HS HP;go_wp2_with fail
   go_loopw [6,7,21] (fun c z i wr=>∃(k:Nat) (u:Value),k<=zs.length/\i=.int .i64 k/\c=u/\z=.int .i64 ((encF (zs.take k)).2:Int)/\OwnI wr w.heap.size u (encF (zs.take k)).1/\Below w.heap.size w wr) (fun _ _ i _=>zs.length-(intOf i).toNat)
   case atStart=>exact⟨0,_,by omega,rfl,rfl,rfl,OwnI.nil _ _,Below.refl _ _⟩
   case round=>
    obtain⟨k,u,hk,rfl,rfl,rfl,hO,hB⟩:=hrel;have hle:=ZjH (zs.take k);have htk:(zs.take k).length=k:=by rw [List.length_take];omega
    have HT:=zh (Zif zs k);have hbw:w.heap.size<=wr.heap.size:=hB.size;have HB:=zh hB;by_cases hlk:k<zs.length
    ·have hki:(k:Int)<(zs.length:Int):=by omega
     have HV2:=zh (HV.out.below HB.out);obtain⟨b1,o1,k1,he1,c1⟩:=HV2.out.cell hlk;simp only [Value.slice.injEq] at he1;obtain⟨rfl,_,rfl⟩:=he1;obtain⟨x,hx⟩:∃x,zs.getD k 0=x:=⟨_,rfl⟩
     have hxr:0<=x/\x<n:=HOK.out.2.2 x (by
      rw [<-hx,List.getD_eq_getElem?_getD,List.getElem?_eq_getElem hlk];exact List.getElem_mem hlk)
     obtain⟨hx0,hxn⟩:=hxr;rw [hx] at c1;have HT2:=zh (HT.out hlk);rw [hx] at HT2;clear hx HT hB;obtain⟨A,hA⟩:∃A,(encF (zs.take k)).1=A:=⟨_,rfl⟩
     obtain⟨Z,hZ⟩:∃Z,(encF (zs.take k)).2=Z:=⟨_,rfl⟩
     have hpair:encF (zs.take k)=(A,Z):=by rw [<-hA,<-hZ]
     rw [hpair] at HT2 hle hO;rw [hZ];simp only at hO hle;have HO:=zh hO;clear hO hpair hA hZ;by_cases h0:x=0
     ·subst h0;have HT3:Hid (encF (zs.take (k+1))=(A,Z+1)):=zh (by rw [HT2.out];rfl);clear HT2;have hz1:IntKind.i64.wrap ((Z:Int)+1)=(Z:Int)+1:=IntWalk.i64_in _ (by omega);go_wp2_with fail;go_roundw
      case rel=>exact⟨k+1,_,by omega,by go_num,rfl,by rw [HT3.out];rfl,by rw [HT3.out];exact HO.out,HB.out⟩
      case measure=>simp [intOf];omega
     ·have HT3:Hid (encF (zs.take (k+1))=(A++rowC Z++[x+1],0)):=zh (by rw [HT2.out];unfold encS;rw [if_neg h0]);clear HT2;have h0b:(x==0)=false:=by rw [beq_eq_false_iff_ne];exact h0
      have hrl:=Zch Z;have HC:=zh (ZlF w.heap.size _ A Z wr HO.out hbw (by omega) (by omega));have hx1:IntKind.i64.wrap (x+1)=x+1:=IntWalk.i64_in _ (by omega);go_wp2_with fail;refine HC.out.mono ?_;rintro e w2 ⟨u2,rfl,hO2,hB2⟩;have HO2:=zh hO2;have hbw2:w.heap.size<=w2.heap.size:=Nat.le_trans hbw hB2.size;have HB2:=zh (HB.out.trans hB2);clear hO2 hB2 HC;have hal:(A++rowC Z).length+1<=17592186044416:=by rw [List.length_append];omega
      go_wp2_with (at_builtin;refine Zar w2 rfl _ _ rfl w.heap.size _ (A++rowC Z) (x+1) HO2.out rfl rfl hal hbw2 ?_);intro v' w3 hO3 hB3;have HO3:=zh hO3;have HB3:=zh (HB2.out.trans hB3);clear hO3 hB3;go_wp2_with fail;go_roundw
      case rel=>exact⟨k+1,_,by omega,by go_num,rfl,by rw [HT3.out];rfl,by rw [HT3.out];simpa only [List.append_assoc] using HO3.out,HB3.out⟩
      case measure=>simp [intOf];omega
    ·obtain rfl:k=zs.length:=by omega
     clear HT hB htk;rw [List.take_of_length_le (Nat.le_refl _)] at hO hle;rw [List.take_of_length_le (Nat.le_refl _)];have hen:enc zs n=(encF zs).1++rowC (encF zs).2++[n+1]:=rfl;have HO:=zh hO;have HEN:=zh hen;clear hO hen;generalize (encF zs).1=A at *;generalize (encF zs).2=Z at *;have hrl:=Zch Z;have HC:=zh (ZlF w.heap.size _ A Z wr HO.out hbw (by omega) (by omega));have hx1:IntKind.i64.wrap (n+1)=n+1:=IntWalk.i64_in _ (by omega);go_wp2_with fail;refine HC.out.mono ?_;rintro e w2 ⟨u2,rfl,hO2,hB2⟩;have HO2:=zh hO2;have hbw2:w.heap.size<=w2.heap.size:=Nat.le_trans hbw hB2.size;have HB2:=zh (HB.out.trans hB2);clear hO2 hB2 HC;have hal:(A++rowC Z).length+1<=17592186044416:=by rw [List.length_append];omega
     go_wp2_with (at_builtin;refine Zar w2 rfl _ _ rfl w.heap.size _ (A++rowC Z) (n+1) HO2.out rfl rfl hal hbw2 ?_);intro v' w3 hO3 hB3;have HO3:=zh hO3;have HB3:=zh (HB2.out.trans hB3);clear hO3 hB3;go_wp2_with fail;go_ret2;exact⟨_,_,0,rfl,HO3.out,HB3.out,Or.inr ⟨HOK.out,by rw [HEN.out,List.append_assoc],rfl⟩⟩
  ·have HP:=zh (ZdK _ zs n false w HV.out (by omega) ⟨fun e=>(by cases e),fun e=>absurd e hp⟩);have HNO:=zh (show ¬EncOk zs n from fun h=>hp h.2.2);clear hp hn;go_enter Tryz.func53,Tryz.ntmps53;go_wp2_with fail;refine HS.out.mono ?_;rintro e w1 ⟨rfl,rfl⟩;go_wp2_with fail;refine HP.out.mono ?_;rintro e w1 ⟨rfl,rfl⟩;clear HS HP;go_wp2_with fail;go_ret2;exact⟨_,[],1,rfl,OwnI.nil _ _,Below.refl _ _,Or.inl ⟨HNO.out,rfl,rfl⟩⟩
 ·have HS:=zh (Zb1 n false w ⟨fun e=>(by cases e),fun e=>absurd e hn⟩);have HNO:=zh (show ¬EncOk zs n from fun h=>hn ⟨h.1,h.2.1⟩);clear hn;go_enter Tryz.func53,Tryz.ntmps53;go_wp2_with fail;refine HS.out.mono ?_;rintro e w1 ⟨rfl,rfl⟩;clear HS;go_wp2_with fail;go_ret2;exact⟨_,[],1,rfl,OwnI.nil _ _,Below.refl _ _,Or.inl ⟨HNO.out,rfl,rfl⟩⟩
end
section
open Go.RowKit
section
variable {w w' : World} {t : Nat} {room : Int} {begun : Bool} {sum origin : Int} {list row places : Value} {fr ot : Int} {last : Value} {wrong : Int} {done : Bool}
theorem IsBk.lt (h:IsBk w t room begun sum origin list row places fr ot last wrong done):t<w.heap.size:=(Array.getElem?_eq_some_iff.1 h.obj).1
theorem IsBk.frozen (h:IsBk w t room begun sum origin list row places fr ot last wrong done) (i:Nat):w.frozen? ⟨t,i,none⟩=false:=frozen_of_row _ _ _ _ _ h.obj
theorem IsBk.cell (h:IsBk w t room begun sum origin list row places fr ot last wrong done) (i:Nat):w.cell? ⟨t,i,none⟩=(bkV room begun sum origin list row places fr ot last wrong done)[i]?:=cell_of_row _ _ _ _ _ _ h.obj
theorem IsBk.other (h:IsBk w t room begun sum origin list row places fr ot last wrong done) {X:Nat->Prop} (ht:Touch X w w') (hx:¬X t):IsBk w' t room begun sum origin list row places fr ot last wrong done:=⟨(ht.block t h.lt hx).trans h.obj⟩
theorem IsBk.below (h:IsBk w t room begun sum origin list row places fr ot last wrong done) (hb:Below w.heap.size w w'):IsBk w' t room begun sum origin list row places fr ot last wrong done:=
 h.other (Touch.ofBelow (S:=fun _=>False) hb) (fun e=>e)
theorem IsBk.setFr (h:IsBk w t room begun sum origin list row places fr ot last wrong done) (x:Int):IsBk (w.setCell ⟨t,7,none⟩ (.int .i64 x)) t room begun sum origin list row places x ot last wrong done:=⟨heap_setCell_same _ _ 7 _ _ _ h.obj⟩
theorem IsBk.setOt (h:IsBk w t room begun sum origin list row places fr ot last wrong done) (x:Int):IsBk (w.setCell ⟨t,8,none⟩ (.int .i64 x)) t room begun sum origin list row places fr x last wrong done:=⟨heap_setCell_same _ _ 8 _ _ _ h.obj⟩
theorem IsBk.setDone (h:IsBk w t room begun sum origin list row places fr ot last wrong done) (x:Bool):IsBk (w.setCell ⟨t,11,none⟩ (.bool x)) t room begun sum origin list row places fr ot last wrong x:=⟨heap_setCell_same _ _ 11 _ _ _ h.obj⟩
theorem Zde (w:World) (h:IsBk w t room begun sum origin list row places fr ot last wrong done):Calls Tryz.prog 30 #[.pointer (some ⟨t,0,none⟩)] w fun e w'=>e=.returned (.bool done)/\w'=w:=by
 have c:w.cell? ⟨t,11,none⟩=some (.bool done):=h.cell 11;clear h;go_enter Tryz.func30,Tryz.ntmps30;go_wp2_with fail;go_ret;exact⟨rfl,rfl⟩
theorem Zbk (w:World) (h:IsBk w t room begun sum origin list row places fr ot last wrong done):Calls Tryz.prog 73 #[.pointer (some ⟨t,7,none⟩)] w fun e w'=>e=.returned (.bool (decide (0<fr\/0<ot)))/\w'=w:=by
 have c:w.cell? ⟨t,7,none⟩=some (.int .i64 fr):=h.cell 7;have c2:w.cell? ⟨t,8,none⟩=some (.int .i64 ot):=h.cell 8;clear h;by_cases h1:0<fr
 ·rw [decide_eq_true (Or.inl h1:0<fr\/0<ot)];go_enter Tryz.func73,Tryz.ntmps73;go_wp2_with fail;go_ret;exact⟨rfl,rfl⟩
 ·by_cases h2:0<ot
  ·rw [decide_eq_true (Or.inr h2:0<fr\/0<ot)];go_enter Tryz.func73,Tryz.ntmps73;go_wp2_with fail;go_ret;exact⟨rfl,rfl⟩
  ·rw [decide_eq_false (fun e=>e.elim h1 h2:¬(0<fr\/0<ot))];go_enter Tryz.func73,Tryz.ntmps73;go_wp2_with fail;go_ret;exact⟨rfl,rfl⟩
theorem ZjZ (w:World) (h:IsBk w t room begun sum origin list row places fr ot last wrong done) (h0:fr<=1000000000000):Calls Tryz.prog 185 #[.pointer (some ⟨t,7,none⟩)] w fun e w'=>
  e=.returned (.int .i64 (if 0<fr then 0 else ot))/\IsBk w' t room begun sum origin list row places (if 0<fr then fr-1 else fr) (if 0<fr then ot else 0) last wrong done/\Touch (·=t) w w':=by
 have c:w.cell? ⟨t,7,none⟩=some (.int .i64 fr):=h.cell 7;have c2:w.cell? ⟨t,8,none⟩=some (.int .i64 ot):=h.cell 8;have f7:=h.frozen 7;have f8:=h.frozen 8;have H:=zh h;clear h;by_cases h1:0<fr
 ·rw [if_pos h1,if_pos h1,if_pos h1];go_enter Tryz.func185,Tryz.ntmps185;go_wp2_with fail;go_ret;exact⟨rfl,H.out.setFr _,Zaa (Touch.refl _ _)⟩
 ·rw [if_neg h1,if_neg h1,if_neg h1];go_enter Tryz.func185,Tryz.ntmps185;go_wp2_with fail;go_ret;exact⟨rfl,H.out.setOt _,Zaa (Touch.refl _ _)⟩
theorem ZmE (w:World) (a:Option Addr) (L cap:Nat) (h:IsBk w t room begun sum origin list row places fr ot (.slice a L cap) wrong done):Calls Tryz.prog 74 #[.pointer (some ⟨t,0,none⟩)] w fun e w'=>
  ((L:Int)<=origin/\e=.returned (.int .i64 23)/\Below w.heap.size w w')\/(origin<(L:Int)/\e=.returned (.int .i64 0)/\IsBk w' t room begun sum origin list row places fr ot (.slice a L cap) wrong true/\Touch (·=t) w w'):=by
 have c:w.cell? ⟨t,3,none⟩=some (.int .i64 origin):=h.cell 3;have c2:w.cell? ⟨t,9,none⟩=some (.slice a L cap):=h.cell 9;have c3:w.cell? ⟨t,11,none⟩=some (.bool done):=h.cell 11;have f11:=h.frozen 11;have H:=zh h;clear h;by_cases h1:(L:Int)<=origin
 ·go_enter Tryz.func74,Tryz.ntmps74;go_wp2_with fail
  go_quiet (fail)
  go_wp2_with fail;go_ret;exact Or.inl ⟨h1,rfl,⟨rfl,rfl,rfl,Nat.le_refl _,fun _ _=>rfl⟩⟩
 ·go_enter Tryz.func74,Tryz.ntmps74;go_wp2_with fail
  go_quiet (fail)
  have c4:(w.drewN nq).cell? ⟨t,11,none⟩=some (.bool done):=c3;have f4:(w.drewN nq).frozen? ⟨t,11,none⟩=false:=f11;have HQ:Hid (IsBk (w.drewN nq) t room begun sum origin list row places fr ot (.slice a L cap) wrong done):=zh ⟨H.out.obj⟩;have HU:Hid (Touch (·=t) w (w.drewN nq)):=zh (Touch.ofBelow ⟨rfl,rfl,rfl,Nat.le_refl _,fun _ _=>rfl⟩);generalize w.drewN nq=w2 at *;go_wp2_with fail;go_ret;exact Or.inr ⟨by omega,rfl,HQ.out.setDone _,Zaa HU.out⟩
end
end
end Go.Proofs.YtnachbjhhpnadaaGreatDoor

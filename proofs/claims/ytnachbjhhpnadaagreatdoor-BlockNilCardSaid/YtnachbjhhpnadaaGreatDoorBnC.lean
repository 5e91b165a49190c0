import Derived.Test.YtnachbjhhpnadaaGreatDoorBcA
import Derived.Test.YtnachbjhhpnadaaGreatDoorBcB
import Derived.Test.YtnachbjhhpnadaaGreatDoorBcH
import Derived.Test.YtnachbjhhpnadaaGreatDoorBcI
import Derived.Test.YtnachbjhhpnadaaGreatDoorBcP
import Derived.Test.YtnachbjhhpnadaaGreatDoorBnA
import Derived.Test.YtnachbjhhpnadaaGreatDoorBnB
import Derived.BigQuiet
import Derived.StillTailTactics
import Derived.Laws.OwnMore
import Derived.Laws.AppendOwnNone
import Derived.BigRegion
set_option linter.unusedVariables false
set_option linter.unusedSimpArgs false
set_option maxHeartbeats 8000000
set_option maxRecDepth 100000
namespace Go.Proofs.YtnachbjhhpnadaaGreatDoor
section
open Go.RowKit BwtM PkM
theorem Zuq {P:Program} {f:FuncId} {args:Array Value} {w:World} {a n:Nat} {v:Value} (h:Calls P f args (w.drewN (a+n)) fun e w'=>e=.returned v/\∃m,w'=(w.drewN (a+n)).drewN m) :
  Calls P f args (w.drewN (a+n)) fun e w''=>e=.returned v/\∃m,w''=w.drewN (a+m):=
 h.mono fun _ _ ⟨he,m,hm⟩=>⟨he,n+m,by rw [hm,World.drewN_drewN,Nat.add_assoc]⟩
end
section
open Go.RowKit BwtM SrtM PkM
section
variable {B : Nat} {b bo bc ba n : Nat} {vk vw : Value} {kb : List Nat} {S : SS}
structure PutSame (S S':SS):Prop where
 cls:S'.cls=S.cls
 asd:S'.asd=S.asd
 reach:S'.reach=S.reach
 ps:S'.ps=S.ps
 laid:S'.laid=S.laid
 made:S'.made=S.made
 steps:S'.steps=S.steps
theorem PutSame.refl (S:SS):PutSame S S:=⟨rfl,rfl,rfl,rfl,rfl,rfl,rfl⟩
def PutAt (B:Nat) (w wr:World) (b bo bc ba n:Nat) (vk vw:Value) (kb:List Nat) (T:List UInt8) (K:Nat->Nat) (S S':SS) (ps:List Part) (p:Part) (A:List Nat) (m R j:Nat):Prop:=
 IsSo B wr b bo bc ba vk vw n kb S'/\Srt T K S' ps p A m (R-j)/\PutSame S S'/\S'.first+S'.second=S.first+S.second+j/\j<=R/\Below B w wr/\KbSame w wr kb
def PutP (B:Nat) (w wr:World) (b bo bc ba n:Nat) (vk vw:Value) (kb:List Nat) (T:List UInt8) (K:Nat->Nat) (S:SS) (ps:List Part) (p:Part) (A:List Nat) (m R j:Nat) (e:Ending):Prop:=
 e=.returned (.int .i64 (j:Int))/\∃S',PutAt B w wr b bo bc ba n vk vw kb T K S S' ps p A m R j
theorem KbSame.trans {w w1 w2:World} {kb:List Nat} (h:KbSame w w1 kb) (g:KbSame w1 w2 kb):KbSame w w2 kb:=fun x hx=>(g x hx).trans (h x hx)
theorem IsSo.putFirst {wr:World} (h:IsSo B wr b bo bc ba vk vw n kb S) (at_ x:Nat) (ha:at_<n) :
  IsSo B ((wr.setCell ⟨bo,at_,none⟩ (.int .i64 (x:Int))).setCell ⟨b,7,none⟩ (.int .i64 ((S.first+1:Nat):Int))) b bo bc ba vk vw n kb { S with ord:=S.ord.set at_ x,first:=S.first+1 } /\
  SoObj (wr.setCell ⟨bo,at_,none⟩ (.int .i64 (x:Int))) b bo bc ba n vk vw S:=by
 have hr:=(h.ro.cell (i:=at_) (by rw [toI_length,h.lo];exact ha)).2.2 (x:Int);have e:(toI S.ord).set at_ (x:Int)=toI (S.ord.set at_ x):=by unfold toI;rw [List.map_set]
 rw [e] at hr;have h1:=h.inOrd (Zaa (Touch.refl _ _)) (S.ord.set at_ x) (by rw [List.length_set];exact h.lo) hr;exact⟨h1.own (Zaa (Touch.refl _ _)) (h1.obj.set7 (S.first+1)) rfl rfl rfl rfl,h.obj.other (Zaa (b:=bo) (Touch.refl _ _)) (fun e=>h.apart.1 e)⟩
theorem IsSo.putSecond {wr:World} (h:IsSo B wr b bo bc ba vk vw n kb S) (at_ x:Nat) (ha:at_<n) :
  IsSo B ((wr.setCell ⟨bo,at_,none⟩ (.int .i64 (x:Int))).setCell ⟨b,8,none⟩ (.int .i64 ((S.second+1:Nat):Int))) b bo bc ba vk vw n kb { S with ord:=S.ord.set at_ x,second:=S.second+1 } /\
  SoObj (wr.setCell ⟨bo,at_,none⟩ (.int .i64 (x:Int))) b bo bc ba n vk vw S:=by
 have hr:=(h.ro.cell (i:=at_) (by rw [toI_length,h.lo];exact ha)).2.2 (x:Int);have e:(toI S.ord).set at_ (x:Int)=toI (S.ord.set at_ x):=by unfold toI;rw [List.map_set]
 rw [e] at hr;have h1:=h.inOrd (Zaa (Touch.refl _ _)) (S.ord.set at_ x) (by rw [List.length_set];exact h.lo) hr;exact⟨h1.own (Zaa (Touch.refl _ _)) (h1.obj.set8 (S.second+1)) rfl rfl rfl rfl,h.obj.other (Zaa (b:=bo) (Touch.refl _ _)) (fun e=>h.apart.1 e)⟩
theorem Zuw {wr:World} (i j:Nat) (x y:Value):Touch (fun k=>k=bo\/k=b) wr ((wr.setCell ⟨bo,i,none⟩ x).setCell ⟨b,j,none⟩ y):=by
 have t1:Touch (·=bo) wr (wr.setCell ⟨bo,i,none⟩ x):=Zaa (Touch.refl _ _);have t2:Touch (·=b) (wr.setCell ⟨bo,i,none⟩ x) ((wr.setCell ⟨bo,i,none⟩ x).setCell ⟨b,j,none⟩ y):=Zaa (Touch.refl _ _);exact(t1.mono (fun _ h=>Or.inl h)).trans (t2.mono (fun _ h=>Or.inr h)) (fun _ h=>Or.inl h)
theorem Zwk (T:List UInt8) (K:Nat->Nat) (w:World) (ps:List Part) (p:Part) (A:List Nat) (m R k:Nat) (h:IsSo B w b bo bc ba vk vw n kb S) (hs:Srt T K S ps p A m R) (hbg:p.begun=true) (hlaid:0<k->S.laid=p.mid-p.lo)
  (hkey:KeyV w vk kb bc n S.cls K) (hK:∀i,i<n->K i<=1000000000000) (hTn:T.length=n) (hn:n<=900000) (hk:k<=9223372036854775807) (hb:B<=w.heap.size) :
  Calls Tryz.prog 249 #[.pointer (some ⟨b,0,none⟩),.agg #[.int .i64 (p.lo:Int),.int .i64 (p.hi:Int),.bool p.begun],.int .i64 (k:Int)] w fun e w'=>
  PutP B w w' b bo bc ba n vk vw kb T K S ps p A m R (min k (p.hi-p.lo-(S.first+S.second))) e:=by
 have hfit:=hs.fit;rw [hTn] at hfit;obtain⟨f1,f2,f3,f4,f5⟩:=hfit;have hf2:=(hs.fits p (by simp)).2.2 hbg;have hg0:=heap_alloc_new w (.cells #[.int .i64 (p.lo:Int),.int .i64 (p.hi:Int),.bool p.begun] 308);have hB0:=(Below.refl w.heap.size w).alloc (Nat.le_refl _) (.cells #[.int .i64 (p.lo:Int),.int .i64 (p.hi:Int),.bool p.begun] 308);have H0:=zh (h.below hB0);have HB0:=zh hB0;have HS0:Hid (w.heap.size<(w.alloc (.cells #[.int .i64 (p.lo:Int),.int .i64 (p.hi:Int),.bool p.begun] 308)).heap.size):=zh (by simp);have HMID:=zh (fun W=>Zu7 p.lo p.hi p.begun W (by omega) (by omega));have HSIZ:=zh (fun W=>ZuD p.lo p.hi p.begun W (by omega) (by omega));have hmb:(⟨p.lo,p.hi,p.begun⟩:Part).mid=p.mid:=rfl;rw [hmb] at HMID;have HSRT:=zh hs;have HBG:=zh hbg;have HLD:=zh hlaid;obtain⟨F,caps,rfl,he,hcall⟩:=hkey;have HCALL:=zh hcall;have HKAP:=zh h.kap;have HKB0:Hid (KbSame w (w.alloc (.cells #[.int .i64 (p.lo:Int),.int .i64 (p.hi:Int),.bool p.begun] 308)) kb):=zh (fun x hx=>Zam (h.kap x hx).1);obtain⟨x1,hx1⟩:∃x1,p.mid-p.lo=x1:=⟨_,rfl⟩
 obtain⟨x2,hx2⟩:∃x2,p.hi-p.mid=x2:=⟨_,rfl⟩
 obtain⟨sz,hsz⟩:∃sz,p.hi-p.lo=sz:=⟨_,rfl⟩
 have hx1i:(p.mid:Int)-(p.lo:Int)=(x1:Int):=by omega
 have hx1w:IntKind.i64.wrap (x1:Int)=(x1:Int):=IntWalk.i64_in _ (by omega);have hs1:=fun W=>ZwJ ba 0 x1 n n (by omega) (Nat.le_refl _) (by omega) W
 have hs2:=fun W=>Zwt bo p.mid p.hi n f2 f3 (by omega) (by omega) W
 rw [hx2] at hs2;rw [hsz] at HSIZ ⊢;have hbl:=h.obj.lt;have hbol:=h.ro.lt;have HBL:Hid (b<w.heap.size/\bo<w.heap.size):=zh ⟨hbl,hbol⟩;obtain⟨tot,htot⟩:∃tot,sz-(S.first+S.second)=tot:=⟨_,rfl⟩
 have HTOT:=zh htot;rw [htot];have hxx:x1+x2=sz/\p.lo+x1=p.mid/\p.mid+x2=p.hi/\p.mid<n:=by omega
 obtain⟨hxs,hxl,hxm,hmn⟩:=hxx;have HXL:=zh hxl;have HXM:=zh hxm;have HXS:=zh hxs;clear hB0 hmb h hs hbg hlaid hcall hbl hbol htot f4 hxs hxl hxm;go_enter Tryz.func249,Tryz.ntmps249;go_wp2_with fail;obtain⟨pb,hpb⟩:∃pb,w.heap.size=pb:=⟨_,rfl⟩
 have HPB:=zh hpb;rw [hpb] at hg0 HS0 ⊢;generalize w.alloc (.cells #[.int .i64 (p.lo:Int),.int .i64 (p.hi:Int),.bool p.begun] 308)=w1 at *;have HG0:=zh hg0;obtain⟨d0,_,d2,_⟩:=H0.out.obj.cells;have q0:∀sb:Beneath w1.heap.size w1,sb.val.cell? ⟨b,0,none⟩=some (.slice (some ⟨bo,0,none⟩) n n):=fun sb=>Beneath.cell d0 H0.out.obj.lt sb
 have q2:∀sb:Beneath w1.heap.size w1,sb.val.cell? ⟨b,2,none⟩=some (.slice (some ⟨ba,0,none⟩) n n):=fun sb=>Beneath.cell d2 H0.out.obj.lt sb
 have p0:∀sb:Beneath w1.heap.size w1,sb.val.cell? ⟨pb,0,none⟩=some (.int .i64 (p.lo:Int)):=fun sb=>Beneath.cell (by rw [cell_of_row _ _ 0 _ _ _ hg0];rfl) HS0.out sb
 have p1:∀sb:Beneath w1.heap.size w1,sb.val.cell? ⟨pb,1,none⟩=some (.int .i64 (p.hi:Int)):=fun sb=>Beneath.cell (by rw [cell_of_row _ _ 1 _ _ _ hg0];rfl) HS0.out sb
 have p2:∀sb:Beneath w1.heap.size w1,sb.val.cell? ⟨pb,2,none⟩=some (.bool p.begun):=fun sb=>Beneath.cell (by rw [cell_of_row _ _ 2 _ _ _ hg0];rfl) HS0.out sb
 clear d0 d2 hg0;refine ZaF w1.heap.size w1 (Below.refl _ _) (by kernel_rfl) (by kernel_rfl) ?_
 repeat (go_big_quiet_step (first
  | (go_at_call 271;rename_i sb;exact Calls.beneath sb (Nat.le_refl _) (HMID.out _))))
 refine wpQuiet_nil ?_;rintro _ ⟨sb,rfl⟩;have H2:=zh (H0.out.below sb.is);have HB2:Hid (Below B w sb.val):=zh ((HB0.out.trans (sb.is.mono HB0.out.size)).mono hb);have HG2:Hid (sb.val.heap[pb]?=some (.cells #[.int .i64 (p.lo:Int),.int .i64 (p.hi:Int),.bool p.begun] 308 (0,0))):=zh ((sb.is.block pb HS0.out).trans HG0.out);have HK2:Hid (KbSame w sb.val kb):=zh (HKB0.out.trans (fun x hx=>sb.is.block x (H0.out.kap x hx).1));clear q0 q2 p0 p1 p2;generalize sb.val=w2 at *;have hlim:p.lo<=900000/\p.hi<=900000/\x1<=900000/\x2<=900000/\sz<=900000:=by omega
 go_wp2_with fail
 go_loopw [9] (fun vg wr=>∃(j:Nat) (S':SS),vg=.int .i64 (j:Int)/\j<=k/\j<=tot/\PutAt B w wr b bo bc ba n (.func (.func F) #[] caps) vw kb T K S S' ps p A m R j/\wr.heap[pb]?=some (.cells #[.int .i64 (p.lo:Int),.int .i64 (p.hi:Int),.bool p.begun] 308 (0,0))) (fun vg _=>k-(intOf vg).toNat)
 case atStart=>exact⟨0,S,rfl,by omega,by omega,⟨H2.out,by rw [Nat.sub_zero];exact HSRT.out,PutSame.refl S,by omega,by omega,HB2.out,HK2.out⟩,HG2.out⟩
 case round=>
  clear H2 HB2 HG2 HK2;obtain⟨j,S',rfl,hjk,hjt,⟨hI,hS,hSm,hsum,hjR,hB,hKB⟩,hG⟩:=hrel;have HI:=zh hI;have HS:=zh hS;have HSM:=zh hSm;have HB:=zh hB;have HKS:=zh hKB;have HG:=zh hG;have HSUM:=zh hsum;have hbd:=hS.bounds HBG.out;rw [hx1,hx2] at hbd;obtain⟨hb1,hb2⟩:=hbd;obtain⟨d0,_,d2,_,d4,_,_,d7,d8,_⟩:=hI.obj.cells;have hpl:pb<wr.heap.size:=(Array.getElem?_eq_some_iff.1 hG).1;obtain⟨fi,hfi⟩:∃fi,S'.first=fi:=⟨_,rfl⟩
  obtain⟨se,hse⟩:∃se,S'.second=se:=⟨_,rfl⟩
  have HFI:=zh hfi;have HSE:=zh hse;rw [hfi] at d7 hb1 HSUM;rw [hse] at d8 hb2 HSUM;obtain⟨fs,hfs⟩:∃fs,fi+se=fs:=⟨_,rfl⟩
  have hfsi:(fi:Int)+(se:Int)=(fs:Int):=by omega
  have hfsw:IntKind.i64.wrap (fs:Int)=(fs:Int):=IntWalk.i64_in _ (by omega);clear hI hS hSm hB hKB hG hsum hfi hse;have q4:∀sb:Beneath wr.heap.size wr,sb.val.cell? ⟨b,7,none⟩=some (.int .i64 (fi:Int)):=fun sb=>Beneath.cell d7 HI.out.obj.lt sb
  have q5:∀sb:Beneath wr.heap.size wr,sb.val.cell? ⟨b,8,none⟩=some (.int .i64 (se:Int)):=fun sb=>Beneath.cell d8 HI.out.obj.lt sb
  have p0:∀sb:Beneath wr.heap.size wr,sb.val.cell? ⟨pb,0,none⟩=some (.int .i64 (p.lo:Int)):=fun sb=>Beneath.cell (by rw [cell_of_row _ _ 0 _ _ _ HG.out];rfl) hpl sb
  have p1:∀sb:Beneath wr.heap.size wr,sb.val.cell? ⟨pb,1,none⟩=some (.int .i64 (p.hi:Int)):=fun sb=>Beneath.cell (by rw [cell_of_row _ _ 1 _ _ _ HG.out];rfl) hpl sb
  have p2:∀sb:Beneath wr.heap.size wr,sb.val.cell? ⟨pb,2,none⟩=some (.bool p.begun):=fun sb=>Beneath.cell (by rw [cell_of_row _ _ 2 _ _ _ HG.out];rfl) hpl sb
  clear d0 d2 d4 d7 d8;by_cases hjl:j<k
  ·have hji:(j:Int)<(k:Int):=by omega
   by_cases hfl:fs<sz
   ·have hfli:(fs:Int)<(sz:Int):=by omega
    go_wp2_with fail;refine ZaF wr.heap.size wr (Below.refl _ _) (by kernel_rfl) (by kernel_rfl) ?_
    repeat (go_big_quiet_step (first
     | (go_at_call 250;rename_i sb;exact Calls.beneath sb (Nat.le_refl _) (HSIZ.out _))))
    refine wpQuiet_nil ?_;rintro _ ⟨sb,rfl⟩;have HI3:=zh (HI.out.below sb.is);have HB3:Hid (Below B w sb.val):=zh (HB.out.trans (sb.is.mono (Nat.le_trans hb HB.out.size)));have HG3:Hid (sb.val.heap[pb]?=some (.cells #[.int .i64 (p.lo:Int),.int .i64 (p.hi:Int),.bool p.begun] 308 (0,0))):=zh ((sb.is.block pb hpl).trans HG.out);have HK3:Hid (KbSame w sb.val kb):=zh (HKS.out.trans (fun x hx=>sb.is.block x (HI.out.kap x hx).1));clear q4 q5 p0 p1 p2 HI HB HG HKS;generalize sb.val=w3 at *;have hxs:=HXS.out;have hxl:=HXL.out;have hxm:=HXM.out;obtain⟨lf,hlf⟩:∃lf,p.lo+fi=lf:=⟨_,rfl⟩
    obtain⟨at_,hat⟩:∃at_,lf+se=at_:=⟨_,rfl⟩
    have hlfi:(p.lo:Int)+(fi:Int)=(lf:Int):=by omega
    have hati:(lf:Int)+(se:Int)=(at_:Int):=by omega
    have hlfw:IntKind.i64.wrap (lf:Int)=(lf:Int):=IntWalk.i64_in _ (by omega);have hatw:IntKind.i64.wrap (at_:Int)=(at_:Int):=IntWalk.i64_in _ (by omega);have hatn:at_<n:=by omega
    have hatni:(at_:Int)<(n:Int):=by omega
    have HATE:Hid (p.lo+fi+se=at_):=zh (by rw [hlf,hat]);have hla:=HI3.out.la;have hlo:=HI3.out.lo;obtain⟨a,haE⟩:∃a,S'.asd.getD fi 0=a:=⟨_,rfl⟩
    obtain⟨c,hcE⟩:∃c,S'.ord.getD (p.mid+se) 0=c:=⟨_,rfl⟩
    have HAE:=zh haE;have HCE:=zh hcE
    have HAN:Hid (fi<x1->a<n/\w3.cell? ⟨ba,fi,none⟩=some (.int .i64 (a:Int))):=zh (fun h=>by
     have h1:=(HS.out.on HBG.out).2.2.2.2 fi (by rw [HSM.out.laid,(HLD.out (by omega))];omega);have h2:=(HI3.out.ra.cell (i:=fi) (by rw [toI_length,hla];omega)).1;rw [toI_getD,haE] at h2;refine⟨?_,h2⟩;rw [<-haE,h1,<-hTn];exact HS.out.lt (by omega))
    have HCN:Hid (se<x2->c<n/\w3.cell? ⟨bo,p.mid+se,none⟩=some (.int .i64 (c:Int))):=zh (fun h=>by
     have h1:=HS.out.ord_get HBG.out (i:=p.mid+se) (by rw [HFI.out,HSE.out];omega);have h2:=(HI3.out.ro.cell (i:=p.mid+se) (by rw [toI_length,hlo];omega)).1;rw [toI_getD,hcE] at h2;refine⟨?_,h2⟩;rw [<-hcE,h1,<-hTn];exact HS.out.lt (by omega))
    have HCC:Hid (∀q m2,q<n->Calls Tryz.prog F (#[.int .i64 (q:Int)]++caps) (w3.drewN m2) fun e w'=>e=.returned (.int .i64 (K q:Int))/\∃m3,w'=(w3.drewN m2).drewN m3):=zh (fun q m2 hq=>HCALL.out (w3.drewN m2) (fun x hx=>HK3.out x hx) (by
     have:=HI3.out.rc;rw [HSM.out.cls] at this;exact this) q hq)
    obtain⟨d0,_,d2,_,d4,_,_,d7,d8,_⟩:=HI3.out.obj.cells;rw [HFI.out] at d7;rw [HSE.out] at d8;have f7:=HI3.out.obj.frozen 7 (by omega);have f8:=HI3.out.obj.frozen 8 (by omega);have hbbo:¬b=bo:=HI3.out.apart.1;have fo:=(HI3.out.ro.cell (i:=at_) (by rw [toI_length,hlo];exact hatn)).2.1;have co:=(HI3.out.ro.cell (i:=at_) (by rw [toI_length,hlo];exact hatn)).1;have g0:w3.cell? ⟨pb,0,none⟩=some (.int .i64 (p.lo:Int)):=by rw [cell_of_row _ _ 0 _ _ _ HG3.out];rfl
    clear haE hcE hla hlo hlf hat hxs hxl hxm;go_wp2_with fail
    go_quiet (fail)
    revert nq
    intro na;have hxs:=HXS.out;by_cases hse2:se=x2
    ·have hE1:((se:Int)==(x2:Int))=true:=by rw [beq_iff_eq];omega
     have hfx:fi<x1:=by omega
     have hfxi:(fi:Int)<(x1:Int):=by omega
     obtain⟨han,ca⟩:=HAN.out hfx;go_wp2_with fail
     go_quiet (fail)
     have HM:=zh (HS.out.first HBG.out (by rw [HSM.out.laid];exact(HLD.out (by omega))) (by rw [HFI.out,hx1];omega) (Or.inl (by rw [HSE.out,hse2,hx2])) (S':={ S' with ord:=S'.ord.set at_ a,first:=fi+1 }) rfl ⟨rfl,by rw [HFI.out],rfl⟩ rfl rfl (by rw [HFI.out,HSE.out,HATE.out];rw [HAE.out]) rfl)
     have HTL:Hid (∀W,Below w3.heap.size w3 W->IsSo B ((W.setCell ⟨bo,at_,none⟩ (.int .i64 (a:Int))).setCell ⟨b,7,none⟩ (.int .i64 ((fi+1:Nat):Int))) b bo bc ba (.func (.func F) #[] caps) vw n kb { S' with ord:=S'.ord.set at_ a,first:=fi+1 }/\Below B w ((W.setCell ⟨bo,at_,none⟩ (.int .i64 (a:Int))).setCell ⟨b,7,none⟩ (.int .i64 ((fi+1:Nat):Int)))/\KbSame w ((W.setCell ⟨bo,at_,none⟩ (.int .i64 (a:Int))).setCell ⟨b,7,none⟩ (.int .i64 ((fi+1:Nat):Int))) kb /\
       ((W.setCell ⟨bo,at_,none⟩ (.int .i64 (a:Int))).setCell ⟨b,7,none⟩ (.int .i64 ((fi+1:Nat):Int))).heap[pb]?=some (.cells #[.int .i64 (p.lo:Int),.int .i64 (p.hi:Int),.bool p.begun] 308 (0,0))):=zh (fun W hW=>by
      have h1:=HI3.out.below hW;have h2:=(h1.putFirst at_ a hatn).1;have t:=Zuw (bo:=bo) (b:=b) (wr:=W) at_ 7 (.int .i64 (a:Int)) (.int .i64 ((fi+1:Nat):Int));have hz:=hW.size;refine⟨by rw [HFI.out] at h2;exact h2,?_,?_,?_⟩
      ·exact(HB3.out.trans (hW.mono (Nat.le_trans hb HB3.out.size))).trans (t.below (Nat.le_trans (Nat.le_trans hb HB3.out.size) hz) (fun x hx=>by
        obtain⟨b1,b2,_⟩:=HI3.out.base;rcases hx with e|e
        ·omega
        ·omega))
      ·intro x hx;obtain⟨k1,k2,k3,_⟩:=HI3.out.kap x hx
       rw [t.block x (by omega) (fun e=>by
        rcases e with e|e
        ·exact k3 e
        ·exact k2 e),hW.block x k1]
       exact HK3.out x hx
      ·rw [t.block pb (by have:=(Array.getElem?_eq_some_iff.1 HG3.out).1;omega) (fun e=>by
        have h5:=HBL.out;have h6:=HPB.out;rcases e with e|e
        ·omega
        ·omega),hW.block pb (Array.getElem?_eq_some_iff.1 HG3.out).1]
       exact HG3.out)
     go_wp2_with fail;obtain⟨w4,hw4⟩:∃w4,w4=(w3.drewN na).drewN nq:=⟨_,rfl⟩
     rw [<-hw4];have BW4:Hid (Below w3.heap.size w3 (w4.drewN 1)):=zh (by rw [hw4];exact⟨rfl,rfl,rfl,Nat.le_refl _,fun _ _=>rfl⟩);have e0:w4.cell? ⟨b,0,none⟩=some (.slice (some ⟨bo,0,none⟩) n n):=by rw [hw4];exact d0
     have e7:w4.cell? ⟨b,7,none⟩=some (.int .i64 (fi:Int)):=by rw [hw4];exact d7
     have e8:w4.cell? ⟨b,8,none⟩=some (.int .i64 (se:Int)):=by rw [hw4];exact d8
     have c4:=(show w4.cell? ⟨ba,fi,none⟩=some (.int .i64 (a:Int)) from by rw [hw4];exact ca)
     have eo:w4.cell? ⟨bo,at_,none⟩=some (.int .i64 ((toI S'.ord).getD at_ 0)):=by rw [hw4];exact co
     have fo4:w4.frozen? ⟨bo,at_,none⟩=false:=by rw [hw4];exact fo
     have f74:w4.frozen? ⟨b,7,none⟩=false:=by rw [hw4];exact f7
     have f84:w4.frozen? ⟨b,8,none⟩=false:=by rw [hw4];exact f8
     clear hw4 d0 d2 d4 d7 d8 co fo f7 f8 g0
     go_still_tail 13,(by kernel_rfl)
     change wpList _ _ _ _ _ (w4.drewN 1);go_wp2_with fail;go_roundw
     case rel=>exact⟨j+1,{ S' with ord:=S'.ord.set at_ a,first:=fi+1 },by go_num,by omega,by have:=HSUM.out;have:=HTOT.out;omega,⟨(HTL.out _ BW4.out).1,by rw [show R-(j+1)=R-j-1 by omega];exact HM.out.2,⟨HSM.out.cls,HSM.out.asd,HSM.out.reach,HSM.out.ps,HSM.out.laid,HSM.out.made,HSM.out.steps⟩,by have:=HSUM.out;show fi+1+S'.second=_;rw [HSE.out];omega,by have:=HM.out.1;omega,(HTL.out _ BW4.out).2.1,(HTL.out _ BW4.out).2.2.1⟩,(HTL.out _ BW4.out).2.2.2⟩
     case measure=>simp [intOf];omega
    ·have hE1:((se:Int)==(x2:Int))=false:=by rw [beq_eq_false_iff_ne];omega
     have hsx:se<x2:=by omega
     have hsxi:(se:Int)<(x2:Int):=by omega
     obtain⟨hcn,cc⟩:=HCN.out hsx;by_cases hfx:fi<x1
     ·have hfxi:(fi:Int)<(x1:Int):=by omega
      obtain⟨han,ca⟩:=HAN.out hfx;by_cases hkk:K a<=K c
      ·have hkki:(K a:Int)<=(K c:Int):=by omega
       go_wp2_with fail
       go_quiet ((exact Zuq (HCC.out _ _ (by assumption))))
       have HM:=zh (HS.out.first HBG.out (by rw [HSM.out.laid];exact(HLD.out (by omega))) (by rw [HFI.out,hx1];omega) (Or.inr (by rw [HFI.out,HSE.out,HAE.out,HCE.out];exact hkk)) (S':={ S' with ord:=S'.ord.set at_ a,first:=fi+1 }) rfl ⟨rfl,by rw [HFI.out],rfl⟩ rfl rfl (by rw [HFI.out,HSE.out,HATE.out];rw [HAE.out]) rfl)
       have HTL:Hid (∀W,Below w3.heap.size w3 W->IsSo B ((W.setCell ⟨bo,at_,none⟩ (.int .i64 (a:Int))).setCell ⟨b,7,none⟩ (.int .i64 ((fi+1:Nat):Int))) b bo bc ba (.func (.func F) #[] caps) vw n kb { S' with ord:=S'.ord.set at_ a,first:=fi+1 }/\Below B w ((W.setCell ⟨bo,at_,none⟩ (.int .i64 (a:Int))).setCell ⟨b,7,none⟩ (.int .i64 ((fi+1:Nat):Int)))/\KbSame w ((W.setCell ⟨bo,at_,none⟩ (.int .i64 (a:Int))).setCell ⟨b,7,none⟩ (.int .i64 ((fi+1:Nat):Int))) kb /\
         ((W.setCell ⟨bo,at_,none⟩ (.int .i64 (a:Int))).setCell ⟨b,7,none⟩ (.int .i64 ((fi+1:Nat):Int))).heap[pb]?=some (.cells #[.int .i64 (p.lo:Int),.int .i64 (p.hi:Int),.bool p.begun] 308 (0,0))):=zh (fun W hW=>by
        have h1:=HI3.out.below hW;have h2:=(h1.putFirst at_ a hatn).1;have t:=Zuw (bo:=bo) (b:=b) (wr:=W) at_ 7 (.int .i64 (a:Int)) (.int .i64 ((fi+1:Nat):Int));have hz:=hW.size;refine⟨by rw [HFI.out] at h2;exact h2,?_,?_,?_⟩
        ·exact(HB3.out.trans (hW.mono (Nat.le_trans hb HB3.out.size))).trans (t.below (Nat.le_trans (Nat.le_trans hb HB3.out.size) hz) (fun x hx=>by
          obtain⟨b1,b2,_⟩:=HI3.out.base;rcases hx with e|e
          ·omega
          ·omega))
        ·intro x hx;obtain⟨k1,k2,k3,_⟩:=HI3.out.kap x hx
         rw [t.block x (by omega) (fun e=>by
          rcases e with e|e
          ·exact k3 e
          ·exact k2 e),hW.block x k1]
         exact HK3.out x hx
        ·rw [t.block pb (by have:=(Array.getElem?_eq_some_iff.1 HG3.out).1;omega) (fun e=>by
          have h5:=HBL.out;have h6:=HPB.out;rcases e with e|e
          ·omega
          ·omega),hW.block pb (Array.getElem?_eq_some_iff.1 HG3.out).1]
         exact HG3.out)
       go_wp2_with fail;obtain⟨w4,hw4⟩:∃w4,w4=(w3.drewN na).drewN nq:=⟨_,rfl⟩
       rw [<-hw4];have BW4:Hid (Below w3.heap.size w3 (w4.drewN 1)):=zh (by rw [hw4];exact⟨rfl,rfl,rfl,Nat.le_refl _,fun _ _=>rfl⟩);have e0:w4.cell? ⟨b,0,none⟩=some (.slice (some ⟨bo,0,none⟩) n n):=by rw [hw4];exact d0
       have e7:w4.cell? ⟨b,7,none⟩=some (.int .i64 (fi:Int)):=by rw [hw4];exact d7
       have e8:w4.cell? ⟨b,8,none⟩=some (.int .i64 (se:Int)):=by rw [hw4];exact d8
       have c4:=(show w4.cell? ⟨ba,fi,none⟩=some (.int .i64 (a:Int)) from by rw [hw4];exact ca)
       have eo:w4.cell? ⟨bo,at_,none⟩=some (.int .i64 ((toI S'.ord).getD at_ 0)):=by rw [hw4];exact co
       have fo4:w4.frozen? ⟨bo,at_,none⟩=false:=by rw [hw4];exact fo
       have f74:w4.frozen? ⟨b,7,none⟩=false:=by rw [hw4];exact f7
       have f84:w4.frozen? ⟨b,8,none⟩=false:=by rw [hw4];exact f8
       clear hw4 d0 d2 d4 d7 d8 co fo f7 f8 g0
       go_still_tail 13,(by kernel_rfl)
       change wpList _ _ _ _ _ (w4.drewN 1);go_wp2_with fail;go_roundw
       case rel=>exact⟨j+1,{ S' with ord:=S'.ord.set at_ a,first:=fi+1 },by go_num,by omega,by have:=HSUM.out;have:=HTOT.out;omega,⟨(HTL.out _ BW4.out).1,by rw [show R-(j+1)=R-j-1 by omega];exact HM.out.2,⟨HSM.out.cls,HSM.out.asd,HSM.out.reach,HSM.out.ps,HSM.out.laid,HSM.out.made,HSM.out.steps⟩,by have:=HSUM.out;show fi+1+S'.second=_;rw [HSE.out];omega,by have:=HM.out.1;omega,(HTL.out _ BW4.out).2.1,(HTL.out _ BW4.out).2.2.1⟩,(HTL.out _ BW4.out).2.2.2⟩
       case measure=>simp [intOf];omega
      ·have hkki:¬(K a:Int)<=(K c:Int):=by omega
       have hkkd:decide (K a<=K c)=false:=by simp only [decide_eq_false_iff_not];exact hkk
       go_wp2_with fail
       go_quiet ((exact Zuq (HCC.out _ _ (by assumption))))
       have HM:=zh (HS.out.second HBG.out (by rw [HSM.out.laid];exact(HLD.out (by omega))) (by rw [HSE.out,hx2];omega) (Or.inr (by rw [HFI.out,HSE.out,HAE.out,HCE.out];exact hkk)) (S':={ S' with ord:=S'.ord.set at_ c,second:=se+1 }) rfl ⟨rfl,rfl,by rw [HSE.out]⟩ rfl rfl (by rw [HFI.out,HSE.out,HATE.out];rw [HCE.out]) rfl)
       have HTL:Hid (∀W,Below w3.heap.size w3 W->IsSo B ((W.setCell ⟨bo,at_,none⟩ (.int .i64 (c:Int))).setCell ⟨b,8,none⟩ (.int .i64 ((se+1:Nat):Int))) b bo bc ba (.func (.func F) #[] caps) vw n kb { S' with ord:=S'.ord.set at_ c,second:=se+1 }/\Below B w ((W.setCell ⟨bo,at_,none⟩ (.int .i64 (c:Int))).setCell ⟨b,8,none⟩ (.int .i64 ((se+1:Nat):Int)))/\KbSame w ((W.setCell ⟨bo,at_,none⟩ (.int .i64 (c:Int))).setCell ⟨b,8,none⟩ (.int .i64 ((se+1:Nat):Int))) kb /\
         ((W.setCell ⟨bo,at_,none⟩ (.int .i64 (c:Int))).setCell ⟨b,8,none⟩ (.int .i64 ((se+1:Nat):Int))).heap[pb]?=some (.cells #[.int .i64 (p.lo:Int),.int .i64 (p.hi:Int),.bool p.begun] 308 (0,0))):=zh (fun W hW=>by
        have h1:=HI3.out.below hW;have h2:=(h1.putSecond at_ c hatn).1;have t:=Zuw (bo:=bo) (b:=b) (wr:=W) at_ 8 (.int .i64 (c:Int)) (.int .i64 ((se+1:Nat):Int));have hz:=hW.size;refine⟨by rw [HSE.out] at h2;exact h2,?_,?_,?_⟩
        ·exact(HB3.out.trans (hW.mono (Nat.le_trans hb HB3.out.size))).trans (t.below (Nat.le_trans (Nat.le_trans hb HB3.out.size) hz) (fun x hx=>by
          obtain⟨b1,b2,_⟩:=HI3.out.base;rcases hx with e|e
          ·omega
          ·omega))
        ·intro x hx;obtain⟨k1,k2,k3,_⟩:=HI3.out.kap x hx
         rw [t.block x (by omega) (fun e=>by
          rcases e with e|e
          ·exact k3 e
          ·exact k2 e),hW.block x k1]
         exact HK3.out x hx
        ·rw [t.block pb (by have:=(Array.getElem?_eq_some_iff.1 HG3.out).1;omega) (fun e=>by
          have h5:=HBL.out;have h6:=HPB.out;rcases e with e|e
          ·omega
          ·omega),hW.block pb (Array.getElem?_eq_some_iff.1 HG3.out).1]
         exact HG3.out)
       go_wp2_with fail;obtain⟨w4,hw4⟩:∃w4,w4=(w3.drewN na).drewN nq:=⟨_,rfl⟩
       rw [<-hw4];have BW4:Hid (Below w3.heap.size w3 (w4.drewN 1)):=zh (by rw [hw4];exact⟨rfl,rfl,rfl,Nat.le_refl _,fun _ _=>rfl⟩);have e0:w4.cell? ⟨b,0,none⟩=some (.slice (some ⟨bo,0,none⟩) n n):=by rw [hw4];exact d0
       have e7:w4.cell? ⟨b,7,none⟩=some (.int .i64 (fi:Int)):=by rw [hw4];exact d7
       have e8:w4.cell? ⟨b,8,none⟩=some (.int .i64 (se:Int)):=by rw [hw4];exact d8
       have c4:=(show w4.cell? ⟨bo,p.mid+se,none⟩=some (.int .i64 (c:Int)) from by rw [hw4];exact cc)
       have eo:w4.cell? ⟨bo,at_,none⟩=some (.int .i64 ((toI S'.ord).getD at_ 0)):=by rw [hw4];exact co
       have fo4:w4.frozen? ⟨bo,at_,none⟩=false:=by rw [hw4];exact fo
       have f74:w4.frozen? ⟨b,7,none⟩=false:=by rw [hw4];exact f7
       have f84:w4.frozen? ⟨b,8,none⟩=false:=by rw [hw4];exact f8
       clear hw4 d0 d2 d4 d7 d8 co fo f7 f8 g0
       go_still_tail 13,(by kernel_rfl)
       change wpList _ _ _ _ _ (w4.drewN 1);go_wp2_with fail;go_roundw
       case rel=>exact⟨j+1,{ S' with ord:=S'.ord.set at_ c,second:=se+1 },by go_num,by omega,by have:=HSUM.out;have:=HTOT.out;omega,⟨(HTL.out _ BW4.out).1,by rw [show R-(j+1)=R-j-1 by omega];exact HM.out.2,⟨HSM.out.cls,HSM.out.asd,HSM.out.reach,HSM.out.ps,HSM.out.laid,HSM.out.made,HSM.out.steps⟩,by have:=HSUM.out;show S'.first+(se+1)=_;rw [HFI.out];omega,by have:=HM.out.1;omega,(HTL.out _ BW4.out).2.1,(HTL.out _ BW4.out).2.2.1⟩,(HTL.out _ BW4.out).2.2.2⟩
       case measure=>simp [intOf];omega
     ·have hfxd:decide (fi<x1)=false:=by simp only [decide_eq_false_iff_not];exact hfx
      have hfe:fi=x1:=by omega
      go_wp2_with fail
      go_quiet (fail)
      have HM:=zh (HS.out.second HBG.out (by rw [HSM.out.laid];exact(HLD.out (by omega))) (by rw [HSE.out,hx2];omega) (Or.inl (by rw [HFI.out,hx1,hfe])) (S':={ S' with ord:=S'.ord.set at_ c,second:=se+1 }) rfl ⟨rfl,rfl,by rw [HSE.out]⟩ rfl rfl (by rw [HFI.out,HSE.out,HATE.out];rw [HCE.out]) rfl)
      have HTL:Hid (∀W,Below w3.heap.size w3 W->IsSo B ((W.setCell ⟨bo,at_,none⟩ (.int .i64 (c:Int))).setCell ⟨b,8,none⟩ (.int .i64 ((se+1:Nat):Int))) b bo bc ba (.func (.func F) #[] caps) vw n kb { S' with ord:=S'.ord.set at_ c,second:=se+1 }/\Below B w ((W.setCell ⟨bo,at_,none⟩ (.int .i64 (c:Int))).setCell ⟨b,8,none⟩ (.int .i64 ((se+1:Nat):Int)))/\KbSame w ((W.setCell ⟨bo,at_,none⟩ (.int .i64 (c:Int))).setCell ⟨b,8,none⟩ (.int .i64 ((se+1:Nat):Int))) kb /\
        ((W.setCell ⟨bo,at_,none⟩ (.int .i64 (c:Int))).setCell ⟨b,8,none⟩ (.int .i64 ((se+1:Nat):Int))).heap[pb]?=some (.cells #[.int .i64 (p.lo:Int),.int .i64 (p.hi:Int),.bool p.begun] 308 (0,0))):=zh (fun W hW=>by
       have h1:=HI3.out.below hW;have h2:=(h1.putSecond at_ c hatn).1;have t:=Zuw (bo:=bo) (b:=b) (wr:=W) at_ 8 (.int .i64 (c:Int)) (.int .i64 ((se+1:Nat):Int));have hz:=hW.size;refine⟨by rw [HSE.out] at h2;exact h2,?_,?_,?_⟩
       ·exact(HB3.out.trans (hW.mono (Nat.le_trans hb HB3.out.size))).trans (t.below (Nat.le_trans (Nat.le_trans hb HB3.out.size) hz) (fun x hx=>by
         obtain⟨b1,b2,_⟩:=HI3.out.base;rcases hx with e|e
         ·omega
         ·omega))
       ·intro x hx;obtain⟨k1,k2,k3,_⟩:=HI3.out.kap x hx
        rw [t.block x (by omega) (fun e=>by
         rcases e with e|e
         ·exact k3 e
         ·exact k2 e),hW.block x k1]
        exact HK3.out x hx
       ·rw [t.block pb (by have:=(Array.getElem?_eq_some_iff.1 HG3.out).1;omega) (fun e=>by
         have h5:=HBL.out;have h6:=HPB.out;rcases e with e|e
         ·omega
         ·omega),hW.block pb (Array.getElem?_eq_some_iff.1 HG3.out).1]
        exact HG3.out)
      go_wp2_with fail;obtain⟨w4,hw4⟩:∃w4,w4=(w3.drewN na).drewN nq:=⟨_,rfl⟩
      rw [<-hw4];have BW4:Hid (Below w3.heap.size w3 (w4.drewN 1)):=zh (by rw [hw4];exact⟨rfl,rfl,rfl,Nat.le_refl _,fun _ _=>rfl⟩);have e0:w4.cell? ⟨b,0,none⟩=some (.slice (some ⟨bo,0,none⟩) n n):=by rw [hw4];exact d0
      have e7:w4.cell? ⟨b,7,none⟩=some (.int .i64 (fi:Int)):=by rw [hw4];exact d7
      have e8:w4.cell? ⟨b,8,none⟩=some (.int .i64 (se:Int)):=by rw [hw4];exact d8
      have c4:=(show w4.cell? ⟨bo,p.mid+se,none⟩=some (.int .i64 (c:Int)) from by rw [hw4];exact cc)
      have eo:w4.cell? ⟨bo,at_,none⟩=some (.int .i64 ((toI S'.ord).getD at_ 0)):=by rw [hw4];exact co
      have fo4:w4.frozen? ⟨bo,at_,none⟩=false:=by rw [hw4];exact fo
      have f74:w4.frozen? ⟨b,7,none⟩=false:=by rw [hw4];exact f7
      have f84:w4.frozen? ⟨b,8,none⟩=false:=by rw [hw4];exact f8
      clear hw4 d0 d2 d4 d7 d8 co fo f7 f8 g0
      go_still_tail 13,(by kernel_rfl)
      change wpList _ _ _ _ _ (w4.drewN 1);go_wp2_with fail;go_roundw
      case rel=>exact⟨j+1,{ S' with ord:=S'.ord.set at_ c,second:=se+1 },by go_num,by omega,by have:=HSUM.out;have:=HTOT.out;omega,⟨(HTL.out _ BW4.out).1,by rw [show R-(j+1)=R-j-1 by omega];exact HM.out.2,⟨HSM.out.cls,HSM.out.asd,HSM.out.reach,HSM.out.ps,HSM.out.laid,HSM.out.made,HSM.out.steps⟩,by have:=HSUM.out;show S'.first+(se+1)=_;rw [HFI.out];omega,by have:=HM.out.1;omega,(HTL.out _ BW4.out).2.1,(HTL.out _ BW4.out).2.2.1⟩,(HTL.out _ BW4.out).2.2.2⟩
      case measure=>simp [intOf];omega
   ·have hfld:decide (fs<sz)=false:=by simp only [decide_eq_false_iff_not];exact hfl
    go_wp2_with fail;refine ZaF wr.heap.size wr (Below.refl _ _) (by kernel_rfl) (by kernel_rfl) ?_
    repeat (go_big_quiet_step (first
     | (go_at_call 250;rename_i sb;exact Calls.beneath sb (Nat.le_refl _) (HSIZ.out _))))
    refine wpQuiet_nil ?_;rintro _ ⟨sb,rfl⟩
    have HR3:Hid (PutP B w sb.val b bo bc ba n (.func (.func F) #[] caps) vw kb T K S ps p A m R (min k tot) (.returned (.int .i64 (j:Int)))):=zh (by
     have e:min k tot=j:=by have:=HTOT.out;have:=HSUM.out;omega
     rw [e];exact⟨rfl,S',HI.out.below sb.is,HS.out,HSM.out,by rw [HFI.out,HSE.out];exact HSUM.out,hjR,HB.out.trans (sb.is.mono (Nat.le_trans hb HB.out.size)),HKS.out.trans (fun x hx=>sb.is.block x (HI.out.kap x hx).1)⟩)
    clear q4 q5 p0 p1 p2 HI HB HG HKS;generalize sb.val=w3 at *;go_wp2_with fail;go_ret;exact HR3.out
  ·have hjid:decide (j<k)=false:=by simp only [decide_eq_false_iff_not];exact hjl
   have HR3:Hid (∀W,Below wr.heap.size wr W->PutP B w W b bo bc ba n (.func (.func F) #[] caps) vw kb T K S ps p A m R (min k tot) (.returned (.int .i64 (j:Int)))):=zh (fun W hW=>by
    have e:min k tot=j:=by omega
    rw [e];exact⟨rfl,S',HI.out.below hW,HS.out,HSM.out,by rw [HFI.out,HSE.out];exact HSUM.out,hjR,HB.out.trans (hW.mono (Nat.le_trans hb HB.out.size)),HKS.out.trans (fun x hx=>hW.block x (HI.out.kap x hx).1)⟩)
   go_wp2_with fail
   go_quiet (fail)
   go_wp2_with fail;go_ret;exact HR3.out _ ⟨rfl,rfl,rfl,Nat.le_refl _,fun _ _=>rfl⟩
end
end
section
open Go.RowKit BwtM SrtM PkM
def Due (T:List UInt8) (K:Nat->Nat) (S:SS) (n R:Nat):Prop:=
 (∃ps p A m,Srt T K S ps p A m R/\(p.begun=true->S.first+S.second<p.hi-p.lo))\/∃m,Num T K S m R/\S.made<n
theorem Due.pos {T:List UInt8} {K:Nat->Nat} {S:SS} {n R:Nat} (h:Due T K S n R) (hT:T.length=n) (h0:0<n):0<R:=by
 rcases h with⟨ps,p,A,m,h,hp⟩|⟨m,h,hm⟩
 ·have hl:=h.left;rw [ZiS] at hl;have hf:=h.fit;rcases h.top with⟨_,e1,e2,e3,_⟩|⟨hb,_⟩
  ·rw [e1,e2,e3] at hl;omega
  ·have hbd:=h.bounds hb;have hla:=(h.on hb).2.1;rw [h.cost_on hb] at hl;omega
 ·have:=h.left;omega
def SoSt (B:Nat) (w:World) (b n:Nat) (T:List UInt8) (Z:List Nat) (st R:Nat):Prop:=
 ∃(bo bc ba:Nat) (vk vw:Value) (kb:List Nat) (S:SS),IsSo B w b bo bc ba vk vw n (kb++Z) S/\(S.steps=st/\S.reach<=2*n/\∀g∈kb,g∉Z) /\
  ((vk=.nilFunc/\ZlG T S.ord/\R=0) \/
   ∃K,KeyH T (bytesBy S.reach) K/\KeyV w vk kb bc n S.cls K/\(∀i,i<n->K i<=1000000000000)/\Due T K S n R)
theorem KbSame.refl (w:World) (kb:List Nat):KbSame w w kb:=fun _ _=>rfl
theorem KbSame.part {w w':World} {kb Z:List Nat} (h:KbSame w w' (kb++Z)):KbSame w w' Z:=fun g hg=>h g (List.mem_append_right _ hg)
theorem SoSt.with {B:Nat} {w w':World} {b n:Nat} {T:List UInt8} {Z:List Nat} {st R:Nat} (h:SoSt B w b n T Z st R) (ht:Below w.heap.size w w') (Y:List Nat) (hY:∀g∈Y,w.heap.size<=g/\g<w'.heap.size):SoSt B w' b n T (Z++Y) st R:=by
 obtain⟨bo,bc,ba,vk,vw,kb,S,h1,⟨h2a,h2b,h2c⟩,h3⟩:=h;have h4:=h1.below ht;refine⟨bo,bc,ba,vk,vw,kb,S,⟨h4.obj,h4.ro,h4.rc,h4.ra,h4.lo,h4.lc,h4.la,h4.wt,h4.apart,h4.wap,h4.base,?_⟩,⟨h2a,h2b,?_⟩,?_⟩
 ·intro g hg;rw [<-List.append_assoc] at hg;rcases List.mem_append.1 hg with hg|hg
  ·exact h4.kap g hg
  ·obtain⟨a1,a2⟩:=hY g hg;have l1:=h1.obj.lt;have l2:=h1.ro.lt;have l3:=h1.rc.lt;have l4:=h1.ra.lt;exact⟨a2,by omega,by omega,by omega,by omega,fun e=>by have:=(h1.wt.lt g e).2;omega⟩
 ·intro g hg hz;rcases List.mem_append.1 hz with hz|hz
  ·exact h2c g hg hz
  ·have:=(h1.kap g (List.mem_append_left _ hg)).1;have:=(hY g hz).1;omega
 ·rcases h3 with h3|⟨K,k1,k2,k3⟩
  ·exact Or.inl h3
  ·exact Or.inr ⟨K,k1,k2.same (fun g hg=>ht.block g (h1.kap g (List.mem_append_left _ hg)).1),k3⟩
theorem SoSt.touched {B:Nat} {w w':World} {b n:Nat} {T:List UInt8} {Z:List Nat} {st R:Nat} (h:SoSt B w b n T Z st R) {X:Nat->Prop} (ht:Touch X w w') (hX:∀k,k<w.heap.size->X k->k∈Z):SoSt B w' b n T Z st R:=by
 obtain⟨bo,bc,ba,vk,vw,kb,S,h1,⟨h2a,h2b,h2c⟩,h3⟩:=h;have hz:∀k,k<w.heap.size->X k->k≠b/\k≠bo/\k≠bc/\k≠ba/\vw.ownBlock≠some k:=fun k hk hx=>(h1.kap k (List.mem_append_right _ (hX k hk hx))).2
 refine⟨bo,bc,ba,vk,vw,kb,S,⟨h1.obj.other ht (fun e=>(hz b h1.obj.lt e).1 rfl),h1.ro.other ht (fun e=>(hz bo h1.ro.lt e).2.1 rfl),h1.rc.other ht (fun e=>(hz bc h1.rc.lt e).2.2.1 rfl),h1.ra.other ht (fun e=>(hz ba h1.ra.lt e).2.2.2.1 rfl),h1.lo,h1.lc,h1.la,h1.wt.same (fun k hk=>ht.block k (h1.wt.lt k hk).2 (fun e=>(hz k (h1.wt.lt k hk).2 e).2.2.2.2 hk)),h1.apart,h1.wap,h1.base,fun g hg=>⟨Nat.lt_of_lt_of_le (h1.kap g hg).1 ht.size,(h1.kap g hg).2⟩⟩,⟨h2a,h2b,h2c⟩,?_⟩;rcases h3 with h3|⟨K,k1,k2,k3⟩
 ·exact Or.inl h3
 ·exact Or.inr ⟨K,k1,k2.same (fun g hg=>by
   have hl:=(h1.kap g (List.mem_append_left _ hg)).1;exact ht.block g hl (fun e=>h2c g hg (hX g hl e))),k3⟩
def swapS (S:SS):SS:={ S with cls:=S.asd,asd:=S.cls,made:=0 }
section
variable {B : Nat} {b bo bc ba n : Nat} {vk vw : Value} {kb : List Nat} {S : SS}
theorem IsSo.swapped {w:World} (h:IsSo B w b bo bc ba vk vw n kb S) :
  IsSo B (((w.setCell ⟨b,1,none⟩ (.slice (some ⟨ba,0,none⟩) n n)).setCell ⟨b,2,none⟩ (.slice (some ⟨bc,0,none⟩) n n)).setCell ⟨b,9,none⟩ (.int .i64 0)) b bo ba bc vk vw n kb (swapS S) /\
  Touch (·=b) w (((w.setCell ⟨b,1,none⟩ (.slice (some ⟨ba,0,none⟩) n n)).setCell ⟨b,2,none⟩ (.slice (some ⟨bc,0,none⟩) n n)).setCell ⟨b,9,none⟩ (.int .i64 0)):=by
 have ht:Touch (·=b) w (((w.setCell ⟨b,1,none⟩ (.slice (some ⟨ba,0,none⟩) n n)).setCell ⟨b,2,none⟩ (.slice (some ⟨bc,0,none⟩) n n)).setCell ⟨b,9,none⟩ (.int .i64 0)):=Zaa (Zaa (Zaa (Touch.refl _ _)));obtain⟨a1,a2,a3,a4,a5,a6⟩:=h.apart;refine⟨⟨h.obj.swap.set9 0,h.ro.other ht (fun e=>a1 e.symm),h.ra.other ht (fun e=>a3 e.symm),h.rc.other ht (fun e=>a2 e.symm),h.lo,h.la,h.lc,h.wt.same (fun k hk=>ht.block k (h.wt.lt k hk).2 (h.wap k hk).1),⟨a1,a3,a2,a5,a4,fun e=>a6 e.symm⟩,?_,?_,?_⟩,ht⟩
 ·intro k hk;obtain⟨k1,k2,k3,k4⟩:=h.wap k hk;exact⟨k1,k2,k4,k3⟩
 ·obtain⟨k1,k2,k3,k4⟩:=h.base;exact⟨k1,k2,k4,k3⟩
 ·intro g hg;obtain⟨k1,k2,k3,k4,k5,k6⟩:=h.kap g hg;exact⟨Nat.lt_of_lt_of_le k1 ht.size,k2,k3,k5,k4,k6⟩
theorem IsSo.keyNone {w:World} (h:IsSo B w b bo bc ba vk vw n kb S) :
  IsSo B (w.setCell ⟨b,4,none⟩ .nilFunc) b bo bc ba .nilFunc vw n kb S/\Touch (·=b) w (w.setCell ⟨b,4,none⟩ .nilFunc):=by
 have ht:Touch (·=b) w (w.setCell ⟨b,4,none⟩ .nilFunc):=Zaa (Touch.refl _ _);obtain⟨a1,a2,a3,a4,a5,a6⟩:=h.apart;exact⟨⟨h.obj.set4 .nilFunc,h.ro.other ht (fun e=>a1 e.symm),h.rc.other ht (fun e=>a2 e.symm),h.ra.other ht (fun e=>a3 e.symm),h.lo,h.lc,h.la,h.wt.same (fun k hk=>ht.block k (h.wt.lt k hk).2 (h.wap k hk).1),h.apart,h.wap,h.base,fun g hg=>⟨Nat.lt_of_lt_of_le (h.kap g hg).1 ht.size,(h.kap g hg).2⟩⟩,ht⟩
theorem IsSo.keyed {w:World} (h:IsSo B w b bo bc ba vk vw n kb S) (kb':List Nat) (hk:∀g∈kb',g<w.heap.size/\g≠b/\g≠bo/\g≠bc/\g≠ba/\vw.ownBlock≠some g):IsSo B w b bo bc ba vk vw n kb' S:=
 ⟨h.obj,h.ro,h.rc,h.ra,h.lo,h.lc,h.la,h.wt,h.apart,h.wap,h.base,hk⟩
end
theorem KeyV.more {w:World} {vk:Value} {kb:List Nat} {bc n:Nat} {C:List Nat} {K:Nat->Nat} (h:KeyV w vk kb bc n C K) (Z:List Nat):KeyV w vk (kb++Z) bc n C K:=by
 obtain⟨F,caps,h1,h2,h3⟩:=h;exact⟨F,caps,h1,h2,fun w' h4 h5=>h3 w' (fun g hg=>h4 g (List.mem_append_left _ hg)) h5⟩
theorem ZuE (w:World) (bc n r:Nat) (hn:n<=900000) (h0:0<n) (hr:r<=1000000000) :
  Calls Tryz.prog 290 #[.slice (some ⟨bc,0,none⟩) n n,.int .i64 (r:Int)] w fun e w'=>∃g1 g2 g3,e=.returned (.func (.func 301) #[] #[.pointer (some ⟨g1,0,none⟩),.pointer (some ⟨g2,0,none⟩),.pointer (some ⟨g3,0,none⟩)])/\Caught16 w' g1 g2 g3 bc n r/\Below w.heap.size w w' /\
   (∀g∈[g1,g2,g3],w.heap.size<=g/\g<w'.heap.size):=by
 have hq:(r:Int).tmod (n:Int)=((r % n:Nat):Int):=by rw [Int.tmod_eq_emod_of_nonneg (by omega)];rfl
 have hrn:r % n<n:=Nat.mod_lt _ h0;obtain⟨q,hqq⟩:∃q,r % n=q:=⟨_,rfl⟩
 rw [hqq] at hq hrn;have hqw:IntKind.i64.wrap (q:Int)=(q:Int):=IntWalk.i64_in _ (by omega);have hn0:((n:Int)==0)=false:=by rw [beq_eq_false_iff_ne];omega
 have HF:∀(o1 o2 o3:Obj) (x1 x2 x3:Value),o1=.cells #[x1] 79->o2=.cells #[x2] 3->o3=.cells #[x3] 3 ->
   (((w.alloc o1).alloc o2).alloc o3).cell? ⟨w.heap.size+1,0,none⟩=some x2/\(((w.alloc o1).alloc o2).alloc o3).cell? ⟨w.heap.size+1+1,0,none⟩=some x3/\(((w.alloc o1).alloc o2).alloc o3).cell? ⟨w.heap.size,0,none⟩=some x1:=by
  rintro o1 o2 o3 x1 x2 x3 rfl rfl rfl;have z1:(w.alloc (.cells #[x1] 79)).heap.size=w.heap.size+1:=by simp
  have z2:((w.alloc (.cells #[x1] 79)).alloc (.cells #[x2] 3)).heap.size=w.heap.size+1+1:=by simp
  have h1:=heap_alloc_new w (.cells #[x1] 79);have h2:=heap_alloc_new (w.alloc (.cells #[x1] 79)) (.cells #[x2] 3);have h3:=heap_alloc_new ((w.alloc (.cells #[x1] 79)).alloc (.cells #[x2] 3)) (.cells #[x3] 3);rw [z1] at h2;rw [z2] at h3;have c1:=cell_of_row _ _ 0 _ _ _ h1;have c2:=cell_of_row _ _ 0 _ _ _ h2;have c3:=cell_of_row _ _ 0 _ _ _ h3;refine⟨?_,c3,?_⟩
  ·rw [World.cell?_alloc_some _ _ _ (by rw [c2];rfl),c2];rfl
  ·rw [World.cell?_alloc_some _ _ _ (by rw [World.cell?_alloc_some _ _ _ (by rw [c1];rfl),c1];rfl),World.cell?_alloc_some _ _ _ (by rw [c1];rfl),c1];rfl
 have HFF:=zh (HF _ _ _ (.slice (some ⟨bc,0,none⟩) n n) (.int .i64 (q:Int)) (.int .i64 (n:Int)) rfl rfl rfl);have HBB:Hid (Below w.heap.size w (((w.alloc (.cells #[.slice (some ⟨bc,0,none⟩) n n] 79)).alloc (.cells #[.int .i64 (q:Int)] 3)).alloc (.cells #[.int .i64 (n:Int)] 3))):=zh ((((Below.refl w.heap.size w).alloc (Nat.le_refl _) _).alloc (by simp) _).alloc (by simp;omega) _);have HSZ:Hid ((((w.alloc (.cells #[.slice (some ⟨bc,0,none⟩) n n] 79)).alloc (.cells #[.int .i64 (q:Int)] 3)).alloc (.cells #[.int .i64 (n:Int)] 3)).heap.size=w.heap.size+3):=zh (by simp);clear HF;go_enter Tryz.func290,Tryz.ntmps290;go_wp2_with fail;go_ret;refine⟨_,_,_,rfl,?_,HBB.out,?_⟩
 ·obtain⟨c1,c2,c3⟩:=HFF.out;exact⟨by rw [hqq];exact c1,c2,c3⟩
 ·intro g hg;have:=HSZ.out;simp only [List.mem_cons,List.not_mem_nil,or_false] at hg;rcases hg with rfl|rfl|rfl<;>omega
end
section
open Go.RowKit BwtM SrtM PkM
section
variable {B : Nat} {b bo bc ba n : Nat} {vk vw : Value} {kb Z : List Nat} {S : SS}
def EndP (B:Nat) (w w':World) (b n:Nat) (T:List UInt8) (Z:List Nat) (st R:Nat) (e:Ending):Prop:=
 e=.returned (.tuple #[])/\SoSt B w' b n T Z st R/\Below B w w'/\KbSame w w' Z
theorem Zwl (T:List UInt8) (K:Nat->Nat) (w5 w6:World) (m R r2 g1 g2 g3:Nat) (vk2 vw2:Value) (hN:Num T K S m R) (hK:KeyH T (bytesBy S.reach) K) (hmd:S.made=n) (hT:T.length=n) (h0:0<n) (hn:n<=900000) (hla:S.asd.length=n) (hne:¬SrtM.Ends T S.reach) (hr:r2=bytesBy S.reach)
  (hvk:vk2=.func (.func 301) #[] #[.pointer (some ⟨g1,0,none⟩),.pointer (some ⟨g2,0,none⟩),.pointer (some ⟨g3,0,none⟩)]) (hC:Caught16 w5 g1 g2 g3 ba n r2) (hI:IsSo B w6 b bo ba bc vk2 vw2 n ([g1,g2,g3]++Z) (passSS (swapS S) r2 [⟨0,n,false⟩])) (hkb:KbSame w5 w6 ([g1,g2,g3]++Z)) (hkz:∀g∈[g1,g2,g3],g∉Z):SoSt B w6 b n T Z S.steps R:=by
 subst hT hr hvk;have hnum:=hN.num;rw [hmd] at hnum;have hck:=(Zuv hK hN.ord hnum).2;obtain⟨hk2,m2,hs⟩:=hN.pass hK hmd hne (S':=passSS (swapS S) (bytesBy S.reach) [⟨0,T.length,false⟩]) rfl ⟨rfl,rfl,rfl⟩ rfl rfl rfl
 have hrn:S.reach<T.length:=by
  rcases Nat.lt_or_ge S.reach T.length with c|c
  ·exact c
  ·exact absurd (Or.inr c) hne
 refine⟨bo,ba,bc,_,vw2,[g1,g2,g3],_,hI,⟨rfl,?_,hkz⟩,Or.inr ⟨_,hk2,((Zvf w5 g1 g2 g3 ba T.length _ S.asd hC hla (by omega) h0 hck).same (fun g hg=>hkb g (List.mem_append_left _ hg))),?_,Or.inl ⟨[],_,S.ord,m2,hs,fun e=>by cases e⟩⟩⟩
 ·show bytesBy S.reach<=_;unfold bytesBy;split<;>omega
 ·intro i hi;show S.asd.getD i 0*T.length+S.asd.getD ((i+bytesBy S.reach) % T.length) 0<=_;have a1:=hck i hi;have a2:=hck ((i+bytesBy S.reach) % T.length) (Nat.mod_lt _ h0);have a3:S.asd.getD i 0*T.length<=900000*900000:=Nat.mul_le_mul (by omega) hn;omega
theorem Zwm (T:List UInt8) (K:Nat->Nat) (w:World) (m R:Nat) (h:IsSo B w b bo bc ba vk vw n (kb++Z) S) (hK:KeyH T (bytesBy S.reach) K) (hN:Num T K S m R) (hmd:S.made=n) (hT:T.length=n) (h0:0<n) (hn:n<=900000) (hrc:S.reach<=2*n) (hkz:∀g∈kb,g∉Z) (hb:B<=w.heap.size) :
  Calls Tryz.prog 270 #[.pointer (some ⟨b,0,none⟩)] w fun e w'=>EndP B w w' b n T Z S.steps R e:=by
 have hnum:=hN.num;rw [hmd,<-hT] at hnum;have hck:=Zuv hK hN.ord hnum;have hcu:=ZuZ hK hN.ord hnum (by omega);rw [hT] at hcu hck;obtain⟨nm,hnm⟩:∃nm,n-1=nm:=⟨_,rfl⟩
 rw [hnm] at hcu;obtain⟨o,ho⟩:∃o,S.ord.getD nm 0=o:=⟨_,rfl⟩
 rw [ho] at hcu;obtain⟨c,hc⟩:∃c,S.asd.getD o 0=c:=⟨_,rfl⟩
 rw [hc] at hcu
 have hon:o<n:=by
  have:=Zuk hN.ord.1 (j:=nm) (by omega);rw [ho] at this;omega
 have hcn:c<n:=by
  have:=hck.2 o hon;rw [hc] at this;exact this
 have HCK:=zh hck.2;have HBS:=zh h.base.1;have HKAP:=zh h.kap;have HN:=zh hN;have HK:=zh hK;have HCU:=zh hcu;have HHT:=zh hT;have HMD:=zh hmd;have HPS:=zh hN.stk;have HB:=zh h.obj.lt;obtain⟨d0,d1,d2,d3,d4,_,_,_,_,d9,_⟩:=h.obj.cells;have e1:=h.obj.frozen 1 (by omega);have e2:=h.obj.frozen 2 (by omega);have e9:=h.obj.frozen 9 (by omega);have HSW:=zh h.swapped;obtain⟨rr,hrr⟩:∃rr,S.reach=rr:=⟨_,rfl⟩
 have HRR:=zh hrr;rw [hrr] at d3 hrc;rw [hmd] at d9;clear hck hcu hN hK hmd h hT hrr hnum;go_enter Tryz.func270,Tryz.ntmps270;go_wp2_with fail
 go_region
 have HT2:=zh HSW.out.2;have H2:=zh HSW.out.1;clear HSW d0 d1 d2 d3 d4 d9 e1 e2 e9;generalize (((w.setCell ⟨b,1,none⟩ (.slice (some ⟨ba,0,none⟩) n n)).setCell ⟨b,2,none⟩ (.slice (some ⟨bc,0,none⟩) n n)).setCell ⟨b,9,none⟩ (.int .i64 0))=w2 at *;have H3:Hid (IsSo B w2.drew b bo ba bc vk vw n (kb++Z) (swapS S)):=zh (H2.out.drewN 1);have HT3:Hid (Touch (·=b) w w2.drew):=zh (HT2.out.trans (Zad (·=b) w2 1) (fun _ h=>Or.inl h));generalize w2.drew=w3 at *;clear H2 HT2;have HBS3:Hid (Below B w w3):=zh (HT3.out.below hb (fun k hk=>by have:=HBS.out;have e:k=b:=hk;omega));have HKS3:Hid (KbSame w w3 (kb++Z)):=zh (fun x hx=>HT3.out.block x (HKAP.out x hx).1 (HKAP.out x hx).2.1);obtain⟨d0,d1,d2,d3,d4,_,_,_,_,d9,_⟩:=H3.out.obj.cells;rw [show(swapS S).reach=rr from HRR.out] at d3;have e4:=H3.out.obj.frozen 4 (by omega);have cO:=(H3.out.ro.cell (i:=nm) (by rw [toI_length,H3.out.lo];omega)).1;rw [toI_getD,show(swapS S).ord.getD nm 0=o from ho] at cO;have cC:=(H3.out.rc.cell (i:=o) (by rw [toI_length,H3.out.lc];omega)).1;rw [toI_getD,show(swapS S).cls.getD o 0=c from hc] at cC;have hnmi:(n:Int)-1=(nm:Int):=by omega
 have hnmw:IntKind.i64.wrap (nm:Int)=(nm:Int):=IntWalk.i64_in _ (by omega);have hnmn:(nm:Int)<(n:Int):=by omega
 have honi:(o:Int)<(n:Int):=by omega
 have HNMN:=zh hnm;clear d2 d9 ho hc hnm;by_cases hcn2:c=nm
 ·have hE:((c:Int)==(nm:Int))=true:=by rw [beq_iff_eq];omega
  have hdone:=HN.out.done (by rw [HMD.out,HHT.out]) (Or.inl (by
   have:=HCU.out.1 hcn2;unfold Unlike;rw [HHT.out];exact this))
  go_wp2_with fail
  go_quiet (fail)
  have H5:=zh ((H3.out.drewN nq).keyNone);have HB5:Hid (Below B w ((w3.drewN nq).setCell ⟨b,4,none⟩ .nilFunc)):=zh ((HBS3.out.trans (ZiU B w3 nq)).setCell (p:=⟨b,4,none⟩) HBS.out _);have HK5:Hid (KbSame w ((w3.drewN nq).setCell ⟨b,4,none⟩ .nilFunc) (kb++Z)):=zh (HKS3.out.trans (fun x hx=>H5.out.2.block x (H3.out.kap x hx).1 (H3.out.kap x hx).2.1));have HSS:Hid (SoSt B ((w3.drewN nq).setCell ⟨b,4,none⟩ .nilFunc) b n T Z S.steps R):=zh ⟨bo,ba,bc,_,vw,kb,swapS S,H5.out.1,⟨rfl,by show S.reach<=_;rw [HRR.out];exact hrc,hkz⟩,Or.inl ⟨rfl,hdone.2,hdone.1⟩⟩;clear hdone;go_wp2_with fail;refine bodyPost_ret (results_none rfl _ _ _) rfl ?_;exact⟨rfl,HSS.out,HB5.out,HK5.out.part⟩
 ·have hE:((c:Int)==(nm:Int))=false:=by rw [beq_eq_false_iff_ne];omega
  by_cases hrn:n<=rr
  ·have hG:(rr:Int)>=(n:Int):=by omega
   have hdone:=HN.out.done (by rw [HMD.out,HHT.out]) (Or.inr (by rw [HHT.out,HRR.out];exact hrn));go_wp2_with fail
   go_quiet (fail)
   have H5:=zh ((H3.out.drewN nq).keyNone);have HB5:Hid (Below B w ((w3.drewN nq).setCell ⟨b,4,none⟩ .nilFunc)):=zh ((HBS3.out.trans (ZiU B w3 nq)).setCell (p:=⟨b,4,none⟩) HBS.out _);have HK5:Hid (KbSame w ((w3.drewN nq).setCell ⟨b,4,none⟩ .nilFunc) (kb++Z)):=zh (HKS3.out.trans (fun x hx=>H5.out.2.block x (H3.out.kap x hx).1 (H3.out.kap x hx).2.1));have HSS:Hid (SoSt B ((w3.drewN nq).setCell ⟨b,4,none⟩ .nilFunc) b n T Z S.steps R):=zh ⟨bo,ba,bc,_,vw,kb,swapS S,H5.out.1,⟨rfl,by show S.reach<=_;rw [HRR.out];exact hrc,hkz⟩,Or.inl ⟨rfl,hdone.2,hdone.1⟩⟩;clear hdone;go_wp2_with fail;refine bodyPost_ret (results_none rfl _ _ _) rfl ?_;exact⟨rfl,HSS.out,HB5.out,HK5.out.part⟩
  ·have hG:¬(rr:Int)>=(n:Int):=by omega
   have hne:¬SrtM.Ends T S.reach:=fun he=>by
    rcases he with he|he
    ·unfold Unlike at he;rw [HHT.out] at he;exact hcn2 (HCU.out.2 he)
    ·rw [HHT.out,HRR.out] at he;exact hrn he
   have HNE:=zh hne;obtain⟨q,hq⟩:∃q,2*rr=q:=⟨_,rfl⟩
   have hqi:(2:Int)*(rr:Int)=(q:Int):=by omega
   have hqw:IntKind.i64.wrap (q:Int)=(q:Int):=IntWalk.i64_in _ (by omega);clear hne;go_wp2_with fail
   go_quiet (fail)
   have HDQ:Hid (IsSo B (w3.drewN nq) b bo ba bc vk vw n (kb++Z) (swapS S)):=zh (H3.out.drewN nq);have HBQ:Hid (Below B w (w3.drewN nq)):=zh (HBS3.out.trans (ZiU B w3 nq));have HKQ:Hid (KbSame w (w3.drewN nq) (kb++Z)):=zh HKS3.out
   have HTL:Hid (∀(r2:Nat),r2=bytesBy S.reach->∀w5 g1 g2 g3,Caught16 w5 g1 g2 g3 ba n r2->Below (w3.drewN nq).heap.size (w3.drewN nq) w5->(∀g∈[g1,g2,g3],(w3.drewN nq).heap.size<=g/\g<w5.heap.size) ->
     IsSo B w5 b bo ba bc vk vw n ([g1,g2,g3]++Z) (swapS S)/\B<=w5.heap.size/\∀w6 vw2 vk2,vk2=.func (.func 301) #[] #[.pointer (some ⟨g1,0,none⟩),.pointer (some ⟨g2,0,none⟩),.pointer (some ⟨g3,0,none⟩)]->IsSo B w6 b bo ba bc vk2 vw2 n ([g1,g2,g3]++Z) (passSS (swapS S) r2 [⟨0,n,false⟩])->Below B w5 w6->KbSame w5 w6 ([g1,g2,g3]++Z) ->
      EndP B w w6 b n T Z S.steps R (.returned (.tuple #[]))):=zh (by
    intro r2 hr w5 g1 g2 g3 hC hB5 hg5;have h5:=HDQ.out.below hB5;have hz:=hB5.size;have hz0:=HBQ.out.size;refine⟨h5.keyed _ ?_,by omega,?_⟩
    ·intro g hg;rcases List.mem_append.1 hg with hg|hg
     ·obtain⟨k1,k2⟩:=hg5 g hg;have l1:=HDQ.out.obj.lt;have l2:=HDQ.out.ro.lt;have l3:=HDQ.out.rc.lt;have l4:=HDQ.out.ra.lt;exact⟨k2,by omega,by omega,by omega,by omega,fun e=>by have:=(HDQ.out.wt.lt g e).2;omega⟩
     ·exact h5.kap g (List.mem_append_right _ hg)
    ·intro w6 vw2 vk2 hvk hI hB6 hK6;refine⟨rfl,Zwl T K w5 w6 m R r2 g1 g2 g3 vk2 vw2 HN.out HK.out HMD.out HHT.out h0 hn HDQ.out.lc HNE.out hr hvk hC hI hK6 (fun g hg hz=>by have h1:=(hg5 g hg).1;have h2:=(HDQ.out.kap g (List.mem_append_right _ hz)).1;omega),(HBQ.out.trans (hB5.mono (by omega))).trans hB6,?_⟩;exact(HKQ.out.part).trans (KbSame.trans (w1:=w5) (fun x hx=>hB5.block x (HDQ.out.kap x (List.mem_append_right _ hx)).1) hK6.part))
   have HPSW:Hid ((swapS S).ps=[]):=HPS;by_cases hq1:1<q
   ·have hq1i:(1:Int)<(q:Int):=by omega
    have HR2:Hid (q=bytesBy S.reach):=zh (by rw [HRR.out,<-hq];unfold bytesBy;split<;>omega);go_wp2_with fail;refine(ZuE (w3.drewN nq) ba n q hn h0 (by omega)).mono ?_;rintro e w5 ⟨g1,g2,g3,rfl,hC,hB5,hg5⟩;have HC:=zh hC;have HT5:=zh (HTL.out q HR2.out w5 g1 g2 g3 hC hB5 hg5);clear hC hB5 hg5;go_wp2_with fail;refine(Zuo w5 q _ _ HT5.out.1 HPSW.out HT5.out.2.1 (by omega)).mono ?_;rintro e w6 ⟨rfl,vw2,hI,hB6,hK6⟩;have HR6:=zh (HT5.out.2.2 w6 vw2 _ rfl hI hB6 hK6);clear hI hB6 hK6;go_wp2_with fail;refine bodyPost_end (results_none rfl _ _ _) rfl ?_;exact HR6.out
   ·have hq1i:¬(1:Int)<(q:Int):=by omega
    have HR2:Hid (1=bytesBy S.reach):=zh (by rw [HRR.out];unfold bytesBy;split<;>omega);go_wp2_with fail;refine(ZuE (w3.drewN nq) ba n 1 hn h0 (by omega)).mono ?_;rintro e w5 ⟨g1,g2,g3,rfl,hC,hB5,hg5⟩;have HC:=zh hC;have HT5:=zh (HTL.out 1 HR2.out w5 g1 g2 g3 hC hB5 hg5);clear hC hB5 hg5;go_wp2_with fail;refine(Zuo w5 1 _ _ HT5.out.1 HPSW.out HT5.out.2.1 (by omega)).mono ?_;rintro e w6 ⟨rfl,vw2,hI,hB6,hK6⟩;have HR6:=zh (HT5.out.2.2 w6 vw2 _ rfl hI hB6 hK6);clear hI hB6 hK6;go_wp2_with fail;refine bodyPost_end (results_none rfl _ _ _) rfl ?_;exact HR6.out
end
end
section
open Go.RowKit BwtM SrtM PkM
section
variable {B : Nat} {b bo bc ba n : Nat} {vk vw : Value} {kb Z : List Nat} {S : SS}
def numS (S:SS) (l:List Nat) (j:Nat):SS:={ S with asd:=l,made:=S.made+j }
def SomeP (B:Nat) (w w':World) (b n:Nat) (T:List UInt8) (Z:List Nat) (st R k:Nat) (e:Ending):Prop:=
 ∃g:Nat,e=.returned (.int .i64 (g:Int))/\(1<=g/\g<=k/\g<=R)/\SoSt B w' b n T Z st (R-g)/\Below B w w'/\KbSame w w' Z
theorem IsSo.putClass {wr:World} (h:IsSo B wr b bo bc ba vk vw n kb S) (i x:Nat) (hi:i<n) :
  IsSo B ((wr.setCell ⟨ba,i,none⟩ (.int .i64 (x:Int))).setCell ⟨b,9,none⟩ (.int .i64 ((S.made+1:Nat):Int))) b bo bc ba vk vw n kb { S with asd:=S.asd.set i x,made:=S.made+1 } /\
  Touch (fun k=>k=ba\/k=b) wr ((wr.setCell ⟨ba,i,none⟩ (.int .i64 (x:Int))).setCell ⟨b,9,none⟩ (.int .i64 ((S.made+1:Nat):Int))):=by
 have hr:=(h.ra.cell (i:=i) (by rw [toI_length,h.la];exact hi)).2.2 (x:Int);have e:(toI S.asd).set i (x:Int)=toI (S.asd.set i x):=by unfold toI;rw [List.map_set]
 rw [e] at hr;have h1:=h.inAsd (Zaa (Touch.refl _ _)) (S.asd.set i x) (by rw [List.length_set];exact h.la) hr;refine⟨h1.own (Zaa (Touch.refl _ _)) (h1.obj.set9 (S.made+1)) rfl rfl rfl rfl,?_⟩;have t1:Touch (·=ba) wr (wr.setCell ⟨ba,i,none⟩ (.int .i64 (x:Int))):=Zaa (Touch.refl _ _);have t2:Touch (·=b) (wr.setCell ⟨ba,i,none⟩ (.int .i64 (x:Int))) ((wr.setCell ⟨ba,i,none⟩ (.int .i64 (x:Int))).setCell ⟨b,9,none⟩ (.int .i64 ((S.made+1:Nat):Int))):=Zaa (Touch.refl _ _);exact(t1.mono (fun _ h=>Or.inl h)).trans (t2.mono (fun _ h=>Or.inr h)) (fun _ h=>Or.inl h)
def NumAtP (B:Nat) (w wr:World) (b bo bc ba n:Nat) (vk vw:Value) (kb:List Nat) (T:List UInt8) (K:Nat->Nat) (S:SS) (m R j:Nat):Prop:=
 ∃l,IsSo B wr b bo bc ba vk vw n kb (numS S l j)/\Num T K (numS S l j) m (R-j)/\j<=R/\Below B w wr/\KbSame w wr kb
theorem Zvw (T:List UInt8) (K:Nat->Nat) (w:World) (m R k:Nat) (h:IsSo B w b bo bc ba vk vw n (kb++Z) S) (hK:KeyH T (bytesBy S.reach) K) (hkey:KeyV w vk kb bc n S.cls K) (hKb:∀i,i<n->K i<=1000000000000) (hN:Num T K S m R) (hmd:S.made<n) (hT:T.length=n) (h0:0<n) (hn:n<=900000) (hrc:S.reach<=2*n) (hkz:∀g∈kb,g∉Z)
  (hk1:1<=k) (hk:k<=9223372036854775807) (hb:B<=w.heap.size) :
  Calls Tryz.prog 246 #[.pointer (some ⟨b,0,none⟩),.int .i64 (k:Int)] w fun e w'=>SomeP B w w' b n T Z S.steps R k e:=by
 obtain⟨F,caps,rfl,he,hcall⟩:=hkey;have HCALL:=zh hcall;have HKAP:=zh h.kap;have HKH:=zh hK;have HHT:=zh hT;have H0:=zh h;have HN:=zh hN;have hperm:=hN.ord.1
 have HORD:Hid (∀i,i<n->S.ord.getD i 0<n):=zh (fun i hi=>by
  have:=Zuk hperm (j:=i) (by omega);omega)
 obtain⟨md,hmdE⟩:∃md,S.made=md:=⟨_,rfl⟩
 have HMD:=zh hmdE;rw [hmdE] at hmd;obtain⟨lf,hlf⟩:∃lf,n-md=lf:=⟨_,rfl⟩
 have hlfi:(n:Int)-(md:Int)=(lf:Int):=by omega
 have hlfw:IntKind.i64.wrap (lf:Int)=(lf:Int):=IntWalk.i64_in _ (by omega);obtain⟨g,hg⟩:∃g,min k lf=g:=⟨_,rfl⟩
 have hgk:g<=k/\g<=lf/\1<=g/\(g<k->g=lf):=by omega
 have hmin:(if lf<k then(lf:Int) else(k:Int))=(g:Int):=by rw [<-hg];split<;>omega
 have HG:=zh hgk;have HLF:=zh hlf;have HB0:Hid (Below B w w):=zh (Below.refl _ _);obtain⟨d0,_,_,_,_,_,_,_,_,d9,_⟩:=h.obj.cells;rw [hmdE] at d9;clear h hK hN hcall hT hperm hmdE hlf;go_enter Tryz.func246,Tryz.ntmps246;go_wp2_with fail
 go_quiet (fail)
 have HQ:Hid (NumAtP B w (w.drewN nq) b bo bc ba n (.func (.func F) #[] caps) vw (kb++Z) T K S m R 0):=zh ⟨S.asd,H0.out.drewN nq,HN.out,Nat.zero_le _,ZiU _ _ _,KbSame.refl _ _⟩;clear d0 d9 hmin hlfi;generalize w.drewN nq=wq at *;go_wp2_with fail
 go_loopw [22] (fun vg wr=>∃(j:Nat),vg=.int .i64 (j:Int)/\j<=g/\NumAtP B w wr b bo bc ba n (.func (.func F) #[] caps) vw (kb++Z) T K S m R j) (fun vg _=>g-(intOf vg).toNat)
 case atStart=>exact⟨0,rfl,by omega,HQ.out⟩
 case round=>
  clear HQ;obtain⟨j,rfl,hjg,l,hI,hS,hjR,hB,hKB⟩:=hrel;have HI:=zh hI;have HS:=zh hS;have HB:=zh hB;have HKS:=zh hKB;obtain⟨d0,_,d2,_,d4,_,_,_,_,d9,_⟩:=hI.obj.cells;obtain⟨M,hM⟩:∃M,md+j=M:=⟨_,rfl⟩
  have HME:Hid (S.made+j=M):=zh (by rw [HMD.out];exact hM);rw [show(numS S l j).made=M from HME.out] at d9;have hMn:=HG.out;have hlf:=HLF.out;clear hI hS hB hKB;by_cases hjl:j<g
  ·have hji:(j:Int)<(g:Int):=by omega
   have hMl:M<n:=by omega
   have hMi:(M:Int)<(n:Int):=by omega
   have hil:=HORD.out M hMl;obtain⟨i,hi⟩:∃i,S.ord.getD M 0=i:=⟨_,rfl⟩
   rw [hi] at hil;have hii:(i:Int)<(n:Int):=by omega
   have cI:=(HI.out.ro.cell (i:=M) (by rw [toI_length,HI.out.lo];exact hMl)).1;rw [toI_getD,show(numS S l j).ord.getD M 0=i from hi] at cI;have cA:=(HI.out.ra.cell (i:=i) (by rw [toI_length,HI.out.la];exact hil)).1;have fA:=(HI.out.ra.cell (i:=i) (by rw [toI_length,HI.out.la];exact hil)).2.1;have f9:=HI.out.obj.frozen 9 (by omega);have hbba:¬b=ba:=HI.out.apart.2.2.1;obtain⟨x,hx⟩:∃x,cN K S.ord M=x:=⟨_,rfl⟩
   have hxM:x<=M:=by rw [<-hx];exact ZvQ K S.ord M
   have HTL:Hid (∀W,Below wr.heap.size wr W->NumAtP B w ((W.setCell ⟨ba,i,none⟩ (.int .i64 (x:Int))).setCell ⟨b,9,none⟩ (.int .i64 ((M+1:Nat):Int))) b bo bc ba n (.func (.func F) #[] caps) vw (kb++Z) T K S m R (j+1)):=zh (fun W hW=>by
    have h1:=HI.out.below hW;have h2:=h1.putClass i x hil
    have h3:=HS.out.next (S':=numS S (l.set i x) (j+1)) (by rw [HHT.out];show S.made+j<n;rw [HME.out];exact hMl) (by rw [HHT.out];exact HI.out.la) rfl ⟨rfl,rfl,rfl⟩ rfl rfl rfl (by
     show l.set i x=l.set (S.ord.getD (S.made+j) 0) (cN K S.ord (S.made+j));rw [HME.out,hi,hx])
    rw [show(numS S l j).made=M from HME.out] at h2;refine⟨l.set i x,?_,by rw [show R-(j+1)=R-j-1 by omega];exact h3.2,by have:=h3.1;omega,?_,?_⟩
    ·have e:({ (numS S l j) with asd:=(numS S l j).asd.set i x,made:=M+1 }:SS)=numS S (l.set i x) (j+1):=by
      show({ S with asd:=l.set i x,made:=M+1 }:SS)={ S with asd:=l.set i x,made:=S.made+(j+1) };rw [show S.made+(j+1)=M+1 by rw [<-HME.out];omega]
     rw [e] at h2;exact h2.1
    ·exact(HB.out.trans (hW.mono (Nat.le_trans hb HB.out.size))).trans (h2.2.below (Nat.le_trans (Nat.le_trans hb HB.out.size) hW.size) (fun y hy=>by
      obtain⟨b1,b2,b3,b4⟩:=HI.out.base;rcases hy with e|e
      ·omega
      ·omega))
    ·intro y hy;obtain⟨k1,k2,k3,k4,k5,_⟩:=HI.out.kap y hy
     rw [h2.2.block y (Nat.lt_of_lt_of_le k1 hW.size) (fun e=>by
      rcases e with e|e
      ·exact k5 e
      ·exact k2 e),hW.block y k1]
     exact HKS.out y hy)
   have HCC:Hid (∀q m2,q<n->Calls Tryz.prog F (#[.int .i64 (q:Int)]++caps) (wr.drewN m2) fun e w'=>e=.returned (.int .i64 (K q:Int))/\∃m3,w'=(wr.drewN m2).drewN m3):=zh (fun q m2 hq=>HCALL.out (wr.drewN m2) (fun x hx=>HKS.out x (List.mem_append_left _ hx)) HI.out.rc q hq);have HXN:=zh hx;have HIE:=zh hi;clear hx hi;by_cases hM0:M=0
   ·have hx0:x=0:=by rw [<-HXN.out,hM0];rfl
    have hMg:¬(M:Int)>0:=by omega
    clear hM0;subst hx0;go_wp2_with fail
    go_quiet (fail)
    have HRR:Hid (NumAtP B w (((wr.drewN nq).setCell ⟨ba,i,none⟩ (.int .i64 ((0:Nat):Int))).setCell ⟨b,9,none⟩ (.int .i64 ((M+1:Nat):Int))) b bo bc ba n (.func (.func F) #[] caps) vw (kb++Z) T K S m R (j+1)):=zh (HTL.out _ (Zai _ _));clear HTL;go_wp2_with fail;go_roundw
    case rel=>exact⟨j+1,by go_num,by omega,HRR.out⟩
    case measure=>simp [intOf];omega
   ·have hMg:(M:Int)>0:=by omega
    obtain⟨M1,hM1⟩:∃M1,M-1=M1:=⟨_,rfl⟩
    have hM1i:(M:Int)-1=(M1:Int):=by omega
    have hM1w:IntKind.i64.wrap (M1:Int)=(M1:Int):=IntWalk.i64_in _ (by omega);have hM1n:(M1:Int)<(n:Int):=by omega
    have hal:=HORD.out M1 (by omega);obtain⟨a,ha⟩:∃a,S.ord.getD M1 0=a:=⟨_,rfl⟩
    rw [ha] at hal;have hai:(a:Int)<(n:Int):=by omega
    have cM:=(HI.out.ro.cell (i:=M1) (by rw [toI_length,HI.out.lo];omega)).1;rw [toI_getD,show(numS S l j).ord.getD M1 0=a from ha] at cM;have cC:=(HI.out.ra.cell (i:=a) (by rw [toI_length,HI.out.la];exact hal)).1;rw [toI_getD] at cC
    have hca:(numS S l j).asd.getD a 0=cN K S.ord M1:=by
     have:=HS.out.num M1 (by show M1<S.made+j;rw [HME.out];omega);rw [show(numS S l j).ord=S.ord from rfl,ha] at this;exact this
    rw [hca] at cC;obtain⟨ca,hcaE⟩:∃ca,cN K S.ord M1=ca:=⟨_,rfl⟩
    rw [hcaE] at cC;have hcaM:ca<=M1:=by rw [<-hcaE];exact ZvQ K S.ord M1
    have hxc:x=if K i=K a then ca else ca+1:=by
     rw [<-HXN.out,show M=M1+1 by omega];show(if K (S.ord.getD (M1+1) 0)=K (S.ord.getD M1 0) then cN K S.ord M1 else cN K S.ord M1+1)=_;rw [ha,hcaE,show M1+1=M by omega,HIE.out]
    obtain⟨ki,hki⟩:∃ki,K i=ki:=⟨_,rfl⟩
    obtain⟨ka,hka⟩:∃ka,K a=ka:=⟨_,rfl⟩
    rw [hki,hka] at hxc;have HCI:Hid (∀m2,Calls Tryz.prog F (#[.int .i64 (i:Int)]++caps) (wr.drewN m2) fun e w'=>e=.returned (.int .i64 (ki:Int))/\∃m3,w'=(wr.drewN m2).drewN m3):=zh (fun m2=>by rw [<-hki];exact HCC.out i m2 hil);have HCA:Hid (∀m2,Calls Tryz.prog F (#[.int .i64 (a:Int)]++caps) (wr.drewN m2) fun e w'=>e=.returned (.int .i64 (ka:Int))/\∃m3,w'=(wr.drewN m2).drewN m3):=zh (fun m2=>by rw [<-hka];exact HCC.out a m2 hal);clear HCC hca hcaE ha hki hka hM1;by_cases hkk:ki=ka
    ·have hT1:((ki:Int) != (ka:Int))=false:=by rw [bne_eq_false_iff_eq];omega
     rw [if_pos hkk] at hxc;subst hxc;go_wp2_with fail
     go_quiet (fail)
     revert nq
     intro na;go_wp2_with fail
     go_quiet (fail)
     revert nq
     intro nb;go_wp2_with fail
     go_quiet ((first|exact Zuq (HCI.out _)|exact Zuq (HCA.out _)))
     revert nq
     intro nc;have HRR:Hid (NumAtP B w (((wr.drewN (na+nb+nc)).setCell ⟨ba,i,none⟩ (.int .i64 ((x:Nat):Int))).setCell ⟨b,9,none⟩ (.int .i64 ((M+1:Nat):Int))) b bo bc ba n (.func (.func F) #[] caps) vw (kb++Z) T K S m R (j+1)):=zh (HTL.out _ (Zai _ _));clear HTL;go_wp2_with fail;go_roundw
     case rel=>exact⟨j+1,by go_num,by omega,HRR.out⟩
     case measure=>simp [intOf];omega
    ·have hT1:((ki:Int) != (ka:Int))=true:=by rw [bne_iff_ne];omega
     rw [if_neg hkk] at hxc;subst hxc;go_wp2_with fail
     go_quiet (fail)
     revert nq
     intro na;go_wp2_with fail
     go_quiet (fail)
     revert nq
     intro nb;go_wp2_with fail
     go_quiet ((first|exact Zuq (HCI.out _)|exact Zuq (HCA.out _)))
     revert nq
     intro nc;have HRR:Hid (NumAtP B w (((wr.drewN (na+nb+nc)).setCell ⟨ba,i,none⟩ (.int .i64 ((ca+1:Nat):Int))).setCell ⟨b,9,none⟩ (.int .i64 ((M+1:Nat):Int))) b bo bc ba n (.func (.func F) #[] caps) vw (kb++Z) T K S m R (j+1)):=zh (HTL.out _ (Zai _ _));clear HTL;go_wp2_with fail;go_roundw
     case rel=>exact⟨j+1,by go_num,by omega,HRR.out⟩
     case measure=>simp [intOf];omega
  ·have HE:Hid (j=g):=zh (by omega);have hjid:¬(j:Int)<(g:Int):=by omega
   have hgg:j=g:=HE.out;subst hgg;by_cases hMn:M=n
   ·have hE1:((M:Int)==(n:Int))=true:=by rw [beq_iff_eq];omega
    go_wp2_with fail
    go_quiet (fail)
    go_wp2_with fail;refine(Zwm T K (wr.drewN nq) m (R-j) (HI.out.drewN nq) HKH.out HS.out (by show S.made+j=n;rw [HME.out];exact hMn) HHT.out h0 hn hrc hkz (Nat.le_trans hb HB.out.size)).mono ?_;rintro e w5 ⟨rfl,hs5,hb5,hk5⟩
    have HR5:Hid (SomeP B w w5 b n T Z S.steps R k (.returned (.int .i64 (j:Int)))):=zh (by
     have hg:=HG.out;exact⟨j,rfl,⟨hg.2.2.1,hg.1,hjR⟩,hs5,HB.out.trans ((ZiU _ _ nq).trans hb5),KbSame.trans (w1:=wr.drewN nq) HKS.out.part hk5⟩)
    clear hs5 hb5 hk5;go_wp2_with fail;go_ret;exact HR5.out
   ·have hE1:((M:Int)==(n:Int))=false:=by rw [beq_eq_false_iff_ne];omega
    have HSS:Hid (∀q,SomeP B w (wr.drewN q) b n T Z S.steps R k (.returned (.int .i64 (j:Int)))):=zh (fun q=>by
     have hlt:S.made+j<n:=by rw [HME.out];omega
     have hg:=HG.out;refine⟨j,rfl,⟨hg.2.2.1,hg.1,hjR⟩,⟨bo,bc,ba,_,vw,kb,numS S l j,HI.out.drewN q,⟨rfl,hrc,hkz⟩,Or.inr ⟨K,HKH.out,⟨F,caps,rfl,he,fun W hW hR=>HCALL.out W (fun x hx=>(hW x hx).trans (HKS.out x (List.mem_append_left _ hx))) hR⟩,hKb,Or.inr ⟨m,HS.out,hlt⟩⟩⟩,HB.out.trans (ZiU _ _ _),HKS.out.part⟩)
    go_wp2_with fail
    go_quiet (fail)
    go_wp2_with fail;go_ret;exact HSS.out _
end
end
end Go.Proofs.YtnachbjhhpnadaaGreatDoor

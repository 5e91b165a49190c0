import Derived.Test.YtlfpbcadcfaboaaGreatDoorTcD
import Derived.Test.YtlfpbcadcfaboaaGreatDoorTcE
import Derived.Shelf.Abstract
set_option linter.unusedVariables false
set_option linter.unusedSimpArgs false
set_option maxHeartbeats 8000000
set_option maxRecDepth 100000
namespace Go.Proofs.YtlfpbcadcfaboaaGreatDoor
section
open Go.RowKit SymM
theorem Zf6 {w:Int->Int} {d:Row} {a s m e b:Nat} (h:Cut w d a s m e b) (hg:¬(a<s/\s<s+(e-m))):Srt w (rot d s m e) a (s+(e-m)):=by
 obtain⟨s1,s2,s3,s4⟩:=h.srt;have:=h.o1;by_cases h1:a<s
 ·rw [show s+(e-m)=s by omega];exact s1
 ·rw [show a=s by omega];exact s2
theorem Zo2 {w:Int->Int} {d:Row} {a s m e b:Nat} (h:Cut w d a s m e b) (hg:¬(s+(e-m)<e/\e<b)):Srt w (rot d s m e) (s+(e-m)) b:=by
 obtain⟨s1,s2,s3,s4⟩:=h.srt;have:=h.o2;have:=h.o3;have:=h.o4;by_cases h1:s+(e-m)<e
 ·rw [show b=e by omega];exact s3
 ·rw [show s+(e-m)=e by omega];exact s4
section
variable {F : FuncId} {caps : Array Value} {g n : Nat} {wt : Int -> Int} {I : World -> Prop}
structure MerP (wt:Int->Int) (g n:Nat) (I:World->Prop) (d:Row) (a m b:Nat) (w:World):Prop where
 row:RowD w g n d
 inv:I w
 rng:Rng n d
 sl:Srt wt d a m
 sr:Srt wt d m b
 low:Low d a m b
theorem Zio (hC:CmpF F caps g n wt I) {d:Row} {a s m e b:Nat} {w:World} (h:Cut wt d a s m e b) (hr:Rng n d) (hb:b<=n) (hR:RowD w g n (rot d s m e)) (hI:I w):MerP wt g n I (rot d s m e) a s (s+(e-m)) w:=by
 obtain⟨s1,s2,s3,s4⟩:=h.srt;exact⟨hR,hI,hr.pm (Zin d h.o2 h.o3) (by have:=h.o4;omega),s1,s2,h.low1⟩
theorem Zg8 (hC:CmpF F caps g n wt I) {d D:Row} {a s m e b:Nat} {w:World} (h:Cut wt d a s m e b) (hr:Rng n d) (hb:b<=n) (hp:Pm (rot d s m e) D a (s+(e-m))) (hR:RowD w g n D) (hI:I w):MerP wt g n I D (s+(e-m)) e b w:=by
 obtain⟨s1,s2,s3,s4⟩:=h.srt;have o2:=h.o2;have o3:=h.o3;have o4:=h.o4;have l2:=h.low2;refine⟨hR,hI,(hr.pm (Zin d o2 o3) (by omega)).pm hp (by omega),?_,?_,?_⟩
 ·intro i j hi hij hj;rw [hp.out i (by omega),hp.out j (by omega)];exact s3 i j hi hij hj
 ·intro i j hi hij hj;rw [hp.out i (by omega),hp.out j (by omega)];exact s4 i j hi hij hj
 ·intro i j hi hij hj hjb;rw [hp.out i (by omega),hp.out j (by omega)];exact l2 i j hi hij hj hjb
def LeftP (wt:Int->Int) (g n:Nat) (d:Row) (a s m e:Nat) (w w':World):Prop:=(∃D,RowD w' g n D/\Pm (rot d s m e) D a (s+(e-m))/\Srt wt D a (s+(e-m)))/\Touch (·=g) w w'
theorem Zf7 {d:Row} {a s m e b:Nat} {w w':World} (h:Cut wt d a s m e b) (hL:LeftP wt g n d a s m e w w') (hg:¬(s+(e-m)<e/\e<b)):SrtP wt g n d a b w w':=by
 obtain⟨⟨D,hR,hp,hs⟩,hT⟩:=hL;have o2:=h.o2;have o3:=h.o3;have hr:=Zo2 h hg
 obtain⟨p,q⟩:=ZkE h hp (Pm.refl D _ b) hs (by
  intro i j hi hij hj;rw [hp.out i (by omega),hp.out j (by omega)];exact hr i j hi hij hj)
 exact⟨⟨D,hR,p,q⟩,hT⟩
theorem ZfC {d D:Row} {a s m e b:Nat} {w w1 w':World} (h:Cut wt d a s m e b) (hp:Pm (rot d s m e) D a (s+(e-m))) (hs:Srt wt D a (s+(e-m))) (hT:Touch (·=g) w w1) (hS:SrtP wt g n D (s+(e-m)) b w1 w'):SrtP wt g n d a b w w':=by
 obtain⟨⟨D3,hR3,hp3,hs3⟩,hT3⟩:=hS;obtain⟨p,q⟩:=ZkE h hp hp3 hs hs3;exact⟨⟨D3,hR3,p,q⟩,hT.trans hT3 (fun i hi=>Or.inl hi)⟩
end
end
section
open Go.RowKit SymM
section
variable {F : FuncId} {caps : Array Value} {g n : Nat} {wt : Int -> Int} {I : World -> Prop}
theorem Zs6 (hC:CmpF F caps g n wt I) (hn:n<=1000000) (K:Nat) (ih:∀(a m b:Nat) (d:Row) (w:World),b<=a+K->a<m->m<b->b<=n->MerP wt g n I d a m b w ->
  Calls Tryz.prog 238 #[.slice (some ⟨g,0,none⟩) n n,.int .i64 (a:Int),.int .i64 (m:Int),.int .i64 (b:Int),.func (.func F) #[] caps] w fun e w'=>
   e=.returned (.tuple #[])/\SrtP wt g n d a b w w')
  (a m b:Nat) (d:Row) (w:World) (hK:b<=a+(K+1)) (ham:a<m) (hmb:m<b) (hbn:b<=n) (hP:MerP wt g n I d a m b w) (hf:¬m=a+1) (hl:¬b=m+1) (hc:(a+b) / 2<m) :
  Calls Tryz.prog 238 #[.slice (some ⟨g,0,none⟩) n n,.int .i64 (a:Int),.int .i64 (m:Int),.int .i64 (b:Int),.func (.func F) #[] caps] w fun e w'=>
   e=.returned (.tuple #[])/\SrtP wt g n d a b w w':=by
  have he:=hC.enter;have HC:=zh hC;have HIH:=zh ih;have HP:=zh hP;have hone0:((m:Int)-(a:Int)==1)=false:=by rw [beq_eq_false_iff_ne];omega
  have hone1:((b:Int)-(m:Int)==1)=false:=by rw [beq_eq_false_iff_ne];omega
  obtain⟨mid,hmid⟩:∃mid,(a+b) / 2=mid:=⟨_,rfl⟩
  obtain⟨N,hN⟩:∃N,mid+m=N:=⟨_,rfl⟩
  obtain⟨p,hp⟩:∃p,N-1=p:=⟨_,rfl⟩
  have hmid2:((a:Int)+(b:Int)) / 2=(mid:Int):=by omega
  have hN2:(mid:Int)+(m:Int)=(N:Int):=by omega
  have hp2:(N:Int)-1=(p:Int):=by omega
  have hNb:N<=2000000:=by omega
  have hpb:p<=2000000:=by omega
  have ham2:a<mid:=by omega
  have hmb2:mid<b:=by omega
  have hmm:mid<m:=by omega
  have HMID:=zh hmid;have HN:=zh hN;have HPP:=zh hp;clear hC ih hP hf hl hmid hN hp hc;go_enter Tryz.func238,Tryz.ntmps238;have hmm2:(mid:Int)<(m:Int):=by omega
  obtain⟨lo,hlo⟩:∃lo,N-b=lo:=⟨_,rfl⟩
  have hlo2:(N:Int)-(b:Int)=(lo:Int):=by have:=HN.out;omega
  have hlo3:lo<=mid:=by have:=HN.out;omega
  have HLO:Hid (lo=if mid<m then mid+m-b else a):=zh (by rw [if_pos hmm];have:=HN.out;omega);have HR0:Hid (mid=if mid<m then mid else m):=zh (by rw [if_pos hmm]);clear hlo;go_wp2_with fail
  go_loopw [20,21] (fun vi vj wr=>∃s r q:Nat,vi=.int .i64 s/\vj=.int .i64 r/\lo<=s/\s<=r/\r<=mid/\(s=lo\/wt (d (s-1))<=wt (d (mid+m-1-(s-1))))/\(r=mid\/wt (d (mid+m-1-r))<wt (d r))/\wr=w.drewN q) (fun vi vj _=>(intOf vj).toNat-(intOf vi).toNat)
  case atStart=>exact⟨lo,mid,0,rfl,rfl,Nat.le_refl _,by omega,Nat.le_refl _,Or.inl rfl,Or.inl rfl,rfl⟩
  case round=>
   obtain⟨s,r,q,rfl,rfl,hls,hsr,hrr,h1,h2,hw⟩:=hrel;have HRW:Hid (RowD wr g n d):=zh (by rw [hw];exact HP.out.row.drewN q);have HIW:Hid (I wr):=zh (by rw [hw];exact HC.out.keep _ _ HP.out.inv (Zan _ w q));have HT:Hid (Touch (·=g) w wr):=zh (by rw [hw];exact Zan _ w q);have HW:=zh hw;have H1:=zh h1;have H2:=zh h2;clear hw h1 h2;by_cases hlt:s<r
   ·have hlt2:(s:Int)<(r:Int):=by omega
    obtain⟨c,hc⟩:∃c,(s+r) / 2=c:=⟨_,rfl⟩
    have hcI:((s:Int)+(r:Int)) / 2=(c:Int):=by omega
    have hci:s<=c:=by omega
    have hcj:c<r:=by omega
    have hcn:c<n:=by omega
    have hcn2:(c:Int)<(n:Int):=by omega
    obtain⟨u,hu⟩:∃u,p-c=u:=⟨_,rfl⟩
    have hu2:(p:Int)-(c:Int)=(u:Int):=by have:=HN.out;have:=HPP.out;omega
    have hun:u<n:=by have:=HN.out;have:=HPP.out;have:=HMID.out;omega
    have hun2:(u:Int)<(n:Int):=by omega
    have HU:Hid (mid+m-1-c=u):=zh (by have:=HN.out;have:=HPP.out;omega);obtain⟨c1,f1⟩:=HRW.out.cell hcn;obtain⟨c2,f2⟩:=HRW.out.cell hun;obtain⟨x,hx⟩:∃x,d u=x:=⟨_,rfl⟩
    obtain⟨y,hy⟩:∃y,d c=y:=⟨_,rfl⟩
    rw [hy] at c1;rw [hx] at c2;obtain⟨z,hz,hz1,hz2,hcall⟩:=HC.out.at HIW.out HP.out.rng hun hcn x y hx hy;have HX:=zh hx;have HY:=zh hy;have HCALL:=zh hcall;have HZ:=zh hz;clear hx hy hcall hz hc hu;by_cases hz0:z<0
    ·have hz3:(!decide (z<0))=false:=by simp;omega
     go_wp2_with fail
     go_quiet ((exact Calls.quiet_of (HCALL.out _)))
     go_wp2_with fail;go_roundw
     case rel=>exact⟨s,c,_,rfl,by go_num,hls,hci,by omega,H1.out,Or.inr (by rw [HU.out,HX.out,HY.out];have:=HZ.out;omega),by rw [HW.out];exact World.drewN_drewN ..⟩
     case measure=>simp [intOf];omega
    ·have hz3:(!decide (z<0))=true:=by simp;omega
     go_wp2_with fail
     go_quiet ((exact Calls.quiet_of (HCALL.out _)))
     go_wp2_with fail;go_roundw
     case rel=>exact⟨c+1,r,_,by go_num,rfl,by omega,by omega,hrr,Or.inr (by rw [Nat.add_sub_cancel,HU.out,HX.out,HY.out];have:=HZ.out;omega),H2.out,by rw [HW.out];exact World.drewN_drewN ..⟩
     case measure=>simp [intOf];omega
   ·have hlt2:¬(s:Int)<(r:Int):=by omega
    obtain rfl:r=s:=by omega
    have hsm:r<=m:=by omega
    have hsd:r<=mid:=by omega
    have has:a<=r:=by have:=HN.out;omega
    obtain⟨E,hE⟩:∃E,N-r=E:=⟨_,rfl⟩
    have hE2:(N:Int)-(r:Int)=(E:Int):=by have:=HN.out;omega
    have hEb:E<=b:=by have:=HN.out;have:=HMID.out;omega
    have HCUT:Hid (Cut wt d a r m E b):=zh (by
     have:=ZoZ (s:=r) HP.out.sl HP.out.sr HP.out.low ham hmb HMID.out.symm HLO.out HR0.out hls hrr (by
      rcases H1.out with e|e
      ·exact Or.inl e
      ·exact Or.inr (by omega)) H2.out
     rw [HN.out,hE] at this;exact this)
    have HM:Hid (r+(E-m)=mid):=zh (by have:=HN.out;omega);have hmE:m<=E:=by have:=HN.out;omega
    have HE:Hid (E+r=mid+m):=zh (by have:=HN.out;omega);clear hE H1 H2;by_cases hA:r<m/\r<mid
    ·obtain⟨hA1,hA2⟩:=hA;by_cases hL:a<r
     ·by_cases hQ:E<b
      ·have t1:(r:Int)<(m:Int):=by have:=HE.out;first|omega|(have:=HB.out;omega)
       have t2:(m:Int)<(E:Int):=by have:=HE.out;first|omega|(have:=HB.out;omega)
       have t3:(a:Int)<(r:Int):=by have:=HE.out;first|omega|(have:=HB.out;omega)
       have t4:(r:Int)<(mid:Int):=by have:=HE.out;first|omega|(have:=HB.out;omega)
       have t5:(mid:Int)<(E:Int):=by have:=HE.out;first|omega|(have:=HB.out;omega)
       have t6:(E:Int)<(b:Int):=by have:=HE.out;first|omega|(have:=HB.out;omega)
       go_wp2_with fail;refine(ZfB g n r m E d wr _ HRW.out (by omega) (by omega) (by omega) hn).mono ?_;rintro e w1 ⟨rfl,hR1,hT1⟩;have HR1:=zh hR1;have HT1:Hid (Touch (·=g) w w1):=zh (HT.out.trans hT1 (fun i hi=>Or.inl hi));have HI1:Hid (I w1):=zh (HC.out.keep _ _ HIW.out hT1);clear hR1 hT1;go_wp2_with fail;refine(HIH.out a r mid (rot d r m E) w1 (by omega) (by omega) (by omega) (by omega) (by rw [<-HM.out];exact Zio HC.out HCUT.out HP.out.rng hbn HR1.out HI1.out)).mono ?_;rintro e w2 ⟨rfl,hS2⟩;have HT2:Hid (Touch (·=g) w w2):=zh (HT1.out.trans hS2.2 (fun i hi=>Or.inl hi));have HI2:Hid (I w2):=zh (HC.out.keep _ _ HI1.out hS2.2);have HS2:Hid (LeftP wt g n d a r m E w w2):=zh (by rw [<-HM.out] at hS2;exact⟨hS2.1,HT2.out⟩);clear hS2;go_wp2_with fail;obtain⟨⟨D,hRD,hPD,hSD⟩,_⟩:=HS2.out;have HPD:=zh hPD;have HSD:=zh hSD;have HRD:=zh hRD;clear hPD hSD hRD;refine(HIH.out mid E b D w2 (by omega) (by omega) (by omega) (by omega) (by rw [<-HM.out];exact Zg8 HC.out HCUT.out HP.out.rng hbn HPD.out HRD.out HI2.out)).mono ?_;rintro e w3 ⟨rfl,hS3⟩;have HS3:=zh hS3;clear hS3;go_wp2_with fail;go_end0;refine⟨rfl,ZfC HCUT.out HPD.out HSD.out HT2.out ?_⟩;rw [HM.out];exact HS3.out
      ·have t1:(r:Int)<(m:Int):=by have:=HE.out;first|omega|(have:=HB.out;omega)
       have t2:(m:Int)<(E:Int):=by have:=HE.out;first|omega|(have:=HB.out;omega)
       have t3:(a:Int)<(r:Int):=by have:=HE.out;first|omega|(have:=HB.out;omega)
       have t4:(r:Int)<(mid:Int):=by have:=HE.out;first|omega|(have:=HB.out;omega)
       have t5:(mid:Int)<(E:Int):=by have:=HE.out;first|omega|(have:=HB.out;omega)
       have t6:¬(E:Int)<(b:Int):=by have:=HE.out;first|omega|(have:=HB.out;omega)
       go_wp2_with fail;refine(ZfB g n r m E d wr _ HRW.out (by omega) (by omega) (by omega) hn).mono ?_;rintro e w1 ⟨rfl,hR1,hT1⟩;have HR1:=zh hR1;have HT1:Hid (Touch (·=g) w w1):=zh (HT.out.trans hT1 (fun i hi=>Or.inl hi));have HI1:Hid (I w1):=zh (HC.out.keep _ _ HIW.out hT1);clear hR1 hT1;go_wp2_with fail;refine(HIH.out a r mid (rot d r m E) w1 (by omega) (by omega) (by omega) (by omega) (by rw [<-HM.out];exact Zio HC.out HCUT.out HP.out.rng hbn HR1.out HI1.out)).mono ?_;rintro e w2 ⟨rfl,hS2⟩;have HT2:Hid (Touch (·=g) w w2):=zh (HT1.out.trans hS2.2 (fun i hi=>Or.inl hi));have HI2:Hid (I w2):=zh (HC.out.keep _ _ HI1.out hS2.2);have HS2:Hid (LeftP wt g n d a r m E w w2):=zh (by rw [<-HM.out] at hS2;exact⟨hS2.1,HT2.out⟩);clear hS2;go_wp2_with fail;go_end0;exact⟨rfl,Zf7 HCUT.out HS2.out (by have:=HM.out;have:=HE.out;omega)⟩
     ·by_cases hQ:E<b
      ·have t1:(r:Int)<(m:Int):=by have:=HE.out;first|omega|(have:=HB.out;omega)
       have t2:(m:Int)<(E:Int):=by have:=HE.out;first|omega|(have:=HB.out;omega)
       have t3:¬(a:Int)<(r:Int):=by have:=HE.out;first|omega|(have:=HB.out;omega)
       have t4:(r:Int)<(mid:Int):=by have:=HE.out;first|omega|(have:=HB.out;omega)
       have t5:(mid:Int)<(E:Int):=by have:=HE.out;first|omega|(have:=HB.out;omega)
       have t6:(E:Int)<(b:Int):=by have:=HE.out;first|omega|(have:=HB.out;omega)
       go_wp2_with fail;refine(ZfB g n r m E d wr _ HRW.out (by omega) (by omega) (by omega) hn).mono ?_;rintro e w1 ⟨rfl,hR1,hT1⟩;have HR1:=zh hR1;have HT1:Hid (Touch (·=g) w w1):=zh (HT.out.trans hT1 (fun i hi=>Or.inl hi));have HI1:Hid (I w1):=zh (HC.out.keep _ _ HIW.out hT1);clear hR1 hT1;go_wp2_with fail;have HT2:=HT1;have HI2:=HI1;have HS2:Hid (LeftP wt g n d a r m E w w1):=zh ⟨⟨_,HR1.out,Pm.refl _ _ _,Zf6 HCUT.out (by have:=HM.out;have:=HE.out;omega)⟩,HT1.out⟩;obtain⟨⟨D,hRD,hPD,hSD⟩,_⟩:=HS2.out;have HPD:=zh hPD;have HSD:=zh hSD;have HRD:=zh hRD;clear hPD hSD hRD;refine(HIH.out mid E b D w1 (by omega) (by omega) (by omega) (by omega) (by rw [<-HM.out];exact Zg8 HC.out HCUT.out HP.out.rng hbn HPD.out HRD.out HI2.out)).mono ?_;rintro e w3 ⟨rfl,hS3⟩;have HS3:=zh hS3;clear hS3;go_wp2_with fail;go_end0;refine⟨rfl,ZfC HCUT.out HPD.out HSD.out HT2.out ?_⟩;rw [HM.out];exact HS3.out
      ·have t1:(r:Int)<(m:Int):=by have:=HE.out;first|omega|(have:=HB.out;omega)
       have t2:(m:Int)<(E:Int):=by have:=HE.out;first|omega|(have:=HB.out;omega)
       have t3:¬(a:Int)<(r:Int):=by have:=HE.out;first|omega|(have:=HB.out;omega)
       have t4:(r:Int)<(mid:Int):=by have:=HE.out;first|omega|(have:=HB.out;omega)
       have t5:(mid:Int)<(E:Int):=by have:=HE.out;first|omega|(have:=HB.out;omega)
       have t6:¬(E:Int)<(b:Int):=by have:=HE.out;first|omega|(have:=HB.out;omega)
       go_wp2_with fail;refine(ZfB g n r m E d wr _ HRW.out (by omega) (by omega) (by omega) hn).mono ?_;rintro e w1 ⟨rfl,hR1,hT1⟩;have HR1:=zh hR1;have HT1:Hid (Touch (·=g) w w1):=zh (HT.out.trans hT1 (fun i hi=>Or.inl hi));have HI1:Hid (I w1):=zh (HC.out.keep _ _ HIW.out hT1);clear hR1 hT1;go_wp2_with fail;have HT2:=HT1;have HI2:=HI1;have HS2:Hid (LeftP wt g n d a r m E w w1):=zh ⟨⟨_,HR1.out,Pm.refl _ _ _,Zf6 HCUT.out (by have:=HM.out;have:=HE.out;omega)⟩,HT1.out⟩;go_end0;exact⟨rfl,Zf7 HCUT.out HS2.out (by have:=HM.out;have:=HE.out;omega)⟩
    ·have HB:Hid (r=mid):=zh (by omega);have HEM:Hid (E=m):=zh (by have:=HE.out;have:=HB.out;omega);have t1:(r:Int)<(m:Int):=by have:=HE.out;first|omega|(have:=HB.out;omega)
     have t2:¬(m:Int)<(E:Int):=by have:=HE.out;first|omega|(have:=HB.out;omega)
     have t3:(a:Int)<(r:Int):=by have:=HE.out;first|omega|(have:=HB.out;omega)
     have t4:¬(r:Int)<(mid:Int):=by have:=HE.out;first|omega|(have:=HB.out;omega)
     have t5:(mid:Int)<(E:Int):=by have:=HE.out;first|omega|(have:=HB.out;omega)
     have t6:(E:Int)<(b:Int):=by have:=HE.out;first|omega|(have:=HB.out;omega)
     go_wp2_with fail;have HR1:Hid (RowD wr g n (rot d r m E)):=zh (by rw [HEM.out,ZmF];exact HRW.out);have HT1:=HT;have HI1:=HIW;have HT2:=HT1;have HI2:=HI1;have HS2:Hid (LeftP wt g n d a r m E w wr):=zh ⟨⟨_,HR1.out,Pm.refl _ _ _,Zf6 HCUT.out (by have:=HM.out;have:=HE.out;omega)⟩,HT1.out⟩;obtain⟨⟨D,hRD,hPD,hSD⟩,_⟩:=HS2.out;have HPD:=zh hPD;have HSD:=zh hSD;have HRD:=zh hRD;clear hPD hSD hRD;refine(HIH.out mid E b D wr (by omega) (by omega) (by omega) (by omega) (by rw [<-HM.out];exact Zg8 HC.out HCUT.out HP.out.rng hbn HPD.out HRD.out HI2.out)).mono ?_;rintro e w3 ⟨rfl,hS3⟩;have HS3:=zh hS3;clear hS3;go_wp2_with fail;go_end0;refine⟨rfl,ZfC HCUT.out HPD.out HSD.out HT2.out ?_⟩;rw [HM.out];exact HS3.out
end
end
section
open Go.RowKit SymM
section
variable {F : FuncId} {caps : Array Value} {g n : Nat} {wt : Int -> Int} {I : World -> Prop}
theorem Zs7 (hC:CmpF F caps g n wt I) (hn:n<=1000000) (K:Nat) (ih:∀(a m b:Nat) (d:Row) (w:World),b<=a+K->a<m->m<b->b<=n->MerP wt g n I d a m b w ->
  Calls Tryz.prog 238 #[.slice (some ⟨g,0,none⟩) n n,.int .i64 (a:Int),.int .i64 (m:Int),.int .i64 (b:Int),.func (.func F) #[] caps] w fun e w'=>
   e=.returned (.tuple #[])/\SrtP wt g n d a b w w')
  (a m b:Nat) (d:Row) (w:World) (hK:b<=a+(K+1)) (ham:a<m) (hmb:m<b) (hbn:b<=n) (hP:MerP wt g n I d a m b w) (hf:¬m=a+1) (hl:¬b=m+1) (hc:¬(a+b) / 2<m) :
  Calls Tryz.prog 238 #[.slice (some ⟨g,0,none⟩) n n,.int .i64 (a:Int),.int .i64 (m:Int),.int .i64 (b:Int),.func (.func F) #[] caps] w fun e w'=>
   e=.returned (.tuple #[])/\SrtP wt g n d a b w w':=by
  have he:=hC.enter;have HC:=zh hC;have HIH:=zh ih;have HP:=zh hP;have hone0:((m:Int)-(a:Int)==1)=false:=by rw [beq_eq_false_iff_ne];omega
  have hone1:((b:Int)-(m:Int)==1)=false:=by rw [beq_eq_false_iff_ne];omega
  obtain⟨mid,hmid⟩:∃mid,(a+b) / 2=mid:=⟨_,rfl⟩
  obtain⟨N,hN⟩:∃N,mid+m=N:=⟨_,rfl⟩
  obtain⟨p,hp⟩:∃p,N-1=p:=⟨_,rfl⟩
  have hmid2:((a:Int)+(b:Int)) / 2=(mid:Int):=by omega
  have hN2:(mid:Int)+(m:Int)=(N:Int):=by omega
  have hp2:(N:Int)-1=(p:Int):=by omega
  have hNb:N<=2000000:=by omega
  have hpb:p<=2000000:=by omega
  have ham2:a<mid:=by omega
  have hmb2:mid<b:=by omega
  have hmm:¬mid<m:=by omega
  have HMID:=zh hmid;have HN:=zh hN;have HPP:=zh hp;clear hC ih hP hf hl hmid hN hp hc;go_enter Tryz.func238,Tryz.ntmps238;have hmm2:¬(mid:Int)<(m:Int):=by omega
  have HLO:Hid (a=if mid<m then mid+m-b else a):=zh (by rw [if_neg hmm]);have HR0:Hid (m=if mid<m then mid else m):=zh (by rw [if_neg hmm]);go_wp2_with fail
  go_loopw [20,21] (fun vi vj wr=>∃s r q:Nat,vi=.int .i64 s/\vj=.int .i64 r/\a<=s/\s<=r/\r<=m/\(s=a\/wt (d (s-1))<=wt (d (mid+m-1-(s-1))))/\(r=m\/wt (d (mid+m-1-r))<wt (d r))/\wr=w.drewN q) (fun vi vj _=>(intOf vj).toNat-(intOf vi).toNat)
  case atStart=>exact⟨a,m,0,rfl,rfl,Nat.le_refl _,by omega,Nat.le_refl _,Or.inl rfl,Or.inl rfl,rfl⟩
  case round=>
   obtain⟨s,r,q,rfl,rfl,hls,hsr,hrr,h1,h2,hw⟩:=hrel;have HRW:Hid (RowD wr g n d):=zh (by rw [hw];exact HP.out.row.drewN q);have HIW:Hid (I wr):=zh (by rw [hw];exact HC.out.keep _ _ HP.out.inv (Zan _ w q));have HT:Hid (Touch (·=g) w wr):=zh (by rw [hw];exact Zan _ w q);have HW:=zh hw;have H1:=zh h1;have H2:=zh h2;clear hw h1 h2;by_cases hlt:s<r
   ·have hlt2:(s:Int)<(r:Int):=by omega
    obtain⟨c,hc⟩:∃c,(s+r) / 2=c:=⟨_,rfl⟩
    have hcI:((s:Int)+(r:Int)) / 2=(c:Int):=by omega
    have hci:s<=c:=by omega
    have hcj:c<r:=by omega
    have hcn:c<n:=by omega
    have hcn2:(c:Int)<(n:Int):=by omega
    obtain⟨u,hu⟩:∃u,p-c=u:=⟨_,rfl⟩
    have hu2:(p:Int)-(c:Int)=(u:Int):=by have:=HN.out;have:=HPP.out;omega
    have hun:u<n:=by have:=HN.out;have:=HPP.out;have:=HMID.out;omega
    have hun2:(u:Int)<(n:Int):=by omega
    have HU:Hid (mid+m-1-c=u):=zh (by have:=HN.out;have:=HPP.out;omega);obtain⟨c1,f1⟩:=HRW.out.cell hcn;obtain⟨c2,f2⟩:=HRW.out.cell hun;obtain⟨x,hx⟩:∃x,d u=x:=⟨_,rfl⟩
    obtain⟨y,hy⟩:∃y,d c=y:=⟨_,rfl⟩
    rw [hy] at c1;rw [hx] at c2;obtain⟨z,hz,hz1,hz2,hcall⟩:=HC.out.at HIW.out HP.out.rng hun hcn x y hx hy;have HX:=zh hx;have HY:=zh hy;have HCALL:=zh hcall;have HZ:=zh hz;clear hx hy hcall hz hc hu;by_cases hz0:z<0
    ·have hz3:(!decide (z<0))=false:=by simp;omega
     go_wp2_with fail
     go_quiet ((exact Calls.quiet_of (HCALL.out _)))
     go_wp2_with fail;go_roundw
     case rel=>exact⟨s,c,_,rfl,by go_num,hls,hci,by omega,H1.out,Or.inr (by rw [HU.out,HX.out,HY.out];have:=HZ.out;omega),by rw [HW.out];exact World.drewN_drewN ..⟩
     case measure=>simp [intOf];omega
    ·have hz3:(!decide (z<0))=true:=by simp;omega
     go_wp2_with fail
     go_quiet ((exact Calls.quiet_of (HCALL.out _)))
     go_wp2_with fail;go_roundw
     case rel=>exact⟨c+1,r,_,by go_num,rfl,by omega,by omega,hrr,Or.inr (by rw [Nat.add_sub_cancel,HU.out,HX.out,HY.out];have:=HZ.out;omega),H2.out,by rw [HW.out];exact World.drewN_drewN ..⟩
     case measure=>simp [intOf];omega
   ·have hlt2:¬(s:Int)<(r:Int):=by omega
    obtain rfl:r=s:=by omega
    have hsm:r<=m:=by omega
    have hsd:r<=mid:=by omega
    have has:a<=r:=by have:=HN.out;omega
    obtain⟨E,hE⟩:∃E,N-r=E:=⟨_,rfl⟩
    have hE2:(N:Int)-(r:Int)=(E:Int):=by have:=HN.out;omega
    have hEb:E<=b:=by have:=HN.out;have:=HMID.out;omega
    have HCUT:Hid (Cut wt d a r m E b):=zh (by
     have:=ZoZ (s:=r) HP.out.sl HP.out.sr HP.out.low ham hmb HMID.out.symm HLO.out HR0.out hls hrr (by
      rcases H1.out with e|e
      ·exact Or.inl e
      ·exact Or.inr (by omega)) H2.out
     rw [HN.out,hE] at this;exact this)
    have HM:Hid (r+(E-m)=mid):=zh (by have:=HN.out;omega);have hmE:m<=E:=by have:=HN.out;omega
    have HE:Hid (E+r=mid+m):=zh (by have:=HN.out;omega);clear hE H1 H2;by_cases hA:r<m/\r<mid
    ·obtain⟨hA1,hA2⟩:=hA;by_cases hL:a<r
     ·by_cases hQ:E<b
      ·have t1:(r:Int)<(m:Int):=by have:=HE.out;first|omega|(have:=HB.out;omega)
       have t2:(m:Int)<(E:Int):=by have:=HE.out;first|omega|(have:=HB.out;omega)
       have t3:(a:Int)<(r:Int):=by have:=HE.out;first|omega|(have:=HB.out;omega)
       have t4:(r:Int)<(mid:Int):=by have:=HE.out;first|omega|(have:=HB.out;omega)
       have t5:(mid:Int)<(E:Int):=by have:=HE.out;first|omega|(have:=HB.out;omega)
       have t6:(E:Int)<(b:Int):=by have:=HE.out;first|omega|(have:=HB.out;omega)
       go_wp2_with fail;refine(ZfB g n r m E d wr _ HRW.out (by omega) (by omega) (by omega) hn).mono ?_;rintro e w1 ⟨rfl,hR1,hT1⟩;have HR1:=zh hR1;have HT1:Hid (Touch (·=g) w w1):=zh (HT.out.trans hT1 (fun i hi=>Or.inl hi));have HI1:Hid (I w1):=zh (HC.out.keep _ _ HIW.out hT1);clear hR1 hT1;go_wp2_with fail;refine(HIH.out a r mid (rot d r m E) w1 (by omega) (by omega) (by omega) (by omega) (by rw [<-HM.out];exact Zio HC.out HCUT.out HP.out.rng hbn HR1.out HI1.out)).mono ?_;rintro e w2 ⟨rfl,hS2⟩;have HT2:Hid (Touch (·=g) w w2):=zh (HT1.out.trans hS2.2 (fun i hi=>Or.inl hi));have HI2:Hid (I w2):=zh (HC.out.keep _ _ HI1.out hS2.2);have HS2:Hid (LeftP wt g n d a r m E w w2):=zh (by rw [<-HM.out] at hS2;exact⟨hS2.1,HT2.out⟩);clear hS2;go_wp2_with fail;obtain⟨⟨D,hRD,hPD,hSD⟩,_⟩:=HS2.out;have HPD:=zh hPD;have HSD:=zh hSD;have HRD:=zh hRD;clear hPD hSD hRD;refine(HIH.out mid E b D w2 (by omega) (by omega) (by omega) (by omega) (by rw [<-HM.out];exact Zg8 HC.out HCUT.out HP.out.rng hbn HPD.out HRD.out HI2.out)).mono ?_;rintro e w3 ⟨rfl,hS3⟩;have HS3:=zh hS3;clear hS3;go_wp2_with fail;go_end0;refine⟨rfl,ZfC HCUT.out HPD.out HSD.out HT2.out ?_⟩;rw [HM.out];exact HS3.out
      ·have t1:(r:Int)<(m:Int):=by have:=HE.out;first|omega|(have:=HB.out;omega)
       have t2:(m:Int)<(E:Int):=by have:=HE.out;first|omega|(have:=HB.out;omega)
       have t3:(a:Int)<(r:Int):=by have:=HE.out;first|omega|(have:=HB.out;omega)
       have t4:(r:Int)<(mid:Int):=by have:=HE.out;first|omega|(have:=HB.out;omega)
       have t5:(mid:Int)<(E:Int):=by have:=HE.out;first|omega|(have:=HB.out;omega)
       have t6:¬(E:Int)<(b:Int):=by have:=HE.out;first|omega|(have:=HB.out;omega)
       go_wp2_with fail;refine(ZfB g n r m E d wr _ HRW.out (by omega) (by omega) (by omega) hn).mono ?_;rintro e w1 ⟨rfl,hR1,hT1⟩;have HR1:=zh hR1;have HT1:Hid (Touch (·=g) w w1):=zh (HT.out.trans hT1 (fun i hi=>Or.inl hi));have HI1:Hid (I w1):=zh (HC.out.keep _ _ HIW.out hT1);clear hR1 hT1;go_wp2_with fail;refine(HIH.out a r mid (rot d r m E) w1 (by omega) (by omega) (by omega) (by omega) (by rw [<-HM.out];exact Zio HC.out HCUT.out HP.out.rng hbn HR1.out HI1.out)).mono ?_;rintro e w2 ⟨rfl,hS2⟩;have HT2:Hid (Touch (·=g) w w2):=zh (HT1.out.trans hS2.2 (fun i hi=>Or.inl hi));have HI2:Hid (I w2):=zh (HC.out.keep _ _ HI1.out hS2.2);have HS2:Hid (LeftP wt g n d a r m E w w2):=zh (by rw [<-HM.out] at hS2;exact⟨hS2.1,HT2.out⟩);clear hS2;go_wp2_with fail;go_end0;exact⟨rfl,Zf7 HCUT.out HS2.out (by have:=HM.out;have:=HE.out;omega)⟩
     ·by_cases hQ:E<b
      ·have t1:(r:Int)<(m:Int):=by have:=HE.out;first|omega|(have:=HB.out;omega)
       have t2:(m:Int)<(E:Int):=by have:=HE.out;first|omega|(have:=HB.out;omega)
       have t3:¬(a:Int)<(r:Int):=by have:=HE.out;first|omega|(have:=HB.out;omega)
       have t4:(r:Int)<(mid:Int):=by have:=HE.out;first|omega|(have:=HB.out;omega)
       have t5:(mid:Int)<(E:Int):=by have:=HE.out;first|omega|(have:=HB.out;omega)
       have t6:(E:Int)<(b:Int):=by have:=HE.out;first|omega|(have:=HB.out;omega)
       go_wp2_with fail;refine(ZfB g n r m E d wr _ HRW.out (by omega) (by omega) (by omega) hn).mono ?_;rintro e w1 ⟨rfl,hR1,hT1⟩;have HR1:=zh hR1;have HT1:Hid (Touch (·=g) w w1):=zh (HT.out.trans hT1 (fun i hi=>Or.inl hi));have HI1:Hid (I w1):=zh (HC.out.keep _ _ HIW.out hT1);clear hR1 hT1;go_wp2_with fail;have HT2:=HT1;have HI2:=HI1;have HS2:Hid (LeftP wt g n d a r m E w w1):=zh ⟨⟨_,HR1.out,Pm.refl _ _ _,Zf6 HCUT.out (by have:=HM.out;have:=HE.out;omega)⟩,HT1.out⟩;obtain⟨⟨D,hRD,hPD,hSD⟩,_⟩:=HS2.out;have HPD:=zh hPD;have HSD:=zh hSD;have HRD:=zh hRD;clear hPD hSD hRD;refine(HIH.out mid E b D w1 (by omega) (by omega) (by omega) (by omega) (by rw [<-HM.out];exact Zg8 HC.out HCUT.out HP.out.rng hbn HPD.out HRD.out HI2.out)).mono ?_;rintro e w3 ⟨rfl,hS3⟩;have HS3:=zh hS3;clear hS3;go_wp2_with fail;go_end0;refine⟨rfl,ZfC HCUT.out HPD.out HSD.out HT2.out ?_⟩;rw [HM.out];exact HS3.out
      ·have t1:(r:Int)<(m:Int):=by have:=HE.out;first|omega|(have:=HB.out;omega)
       have t2:(m:Int)<(E:Int):=by have:=HE.out;first|omega|(have:=HB.out;omega)
       have t3:¬(a:Int)<(r:Int):=by have:=HE.out;first|omega|(have:=HB.out;omega)
       have t4:(r:Int)<(mid:Int):=by have:=HE.out;first|omega|(have:=HB.out;omega)
       have t5:(mid:Int)<(E:Int):=by have:=HE.out;first|omega|(have:=HB.out;omega)
       have t6:¬(E:Int)<(b:Int):=by have:=HE.out;first|omega|(have:=HB.out;omega)
       go_wp2_with fail;refine(ZfB g n r m E d wr _ HRW.out (by omega) (by omega) (by omega) hn).mono ?_;rintro e w1 ⟨rfl,hR1,hT1⟩;have HR1:=zh hR1;have HT1:Hid (Touch (·=g) w w1):=zh (HT.out.trans hT1 (fun i hi=>Or.inl hi));have HI1:Hid (I w1):=zh (HC.out.keep _ _ HIW.out hT1);clear hR1 hT1;go_wp2_with fail;have HT2:=HT1;have HI2:=HI1;have HS2:Hid (LeftP wt g n d a r m E w w1):=zh ⟨⟨_,HR1.out,Pm.refl _ _ _,Zf6 HCUT.out (by have:=HM.out;have:=HE.out;omega)⟩,HT1.out⟩;go_end0;exact⟨rfl,Zf7 HCUT.out HS2.out (by have:=HM.out;have:=HE.out;omega)⟩
    ·have HB:Hid (r=m):=zh (by omega);by_cases hL:r<mid
     ·have t1:¬(r:Int)<(m:Int):=by have:=HE.out;first|omega|(have:=HB.out;omega)
      have t3:(a:Int)<(r:Int):=by have:=HE.out;first|omega|(have:=HB.out;omega)
      have t4:(r:Int)<(mid:Int):=by have:=HE.out;first|omega|(have:=HB.out;omega)
      have t5:¬(mid:Int)<(E:Int):=by have:=HE.out;first|omega|(have:=HB.out;omega)
      go_wp2_with fail;have HR1:Hid (RowD wr g n (rot d r m E)):=zh (by rw [HB.out,Zg6];exact HRW.out);have HT1:=HT;have HI1:=HIW;refine(HIH.out a r mid (rot d r m E) wr (by omega) (by omega) (by omega) (by omega) (by rw [<-HM.out];exact Zio HC.out HCUT.out HP.out.rng hbn HR1.out HI1.out)).mono ?_;rintro e w2 ⟨rfl,hS2⟩;have HT2:Hid (Touch (·=g) w w2):=zh (HT1.out.trans hS2.2 (fun i hi=>Or.inl hi));have HI2:Hid (I w2):=zh (HC.out.keep _ _ HI1.out hS2.2);have HS2:Hid (LeftP wt g n d a r m E w w2):=zh (by rw [<-HM.out] at hS2;exact⟨hS2.1,HT2.out⟩);clear hS2;go_wp2_with fail;go_end0;exact⟨rfl,Zf7 HCUT.out HS2.out (by have:=HM.out;have:=HE.out;omega)⟩
     ·have t1:¬(r:Int)<(m:Int):=by have:=HE.out;first|omega|(have:=HB.out;omega)
      have t3:(a:Int)<(r:Int):=by have:=HE.out;first|omega|(have:=HB.out;omega)
      have t4:¬(r:Int)<(mid:Int):=by have:=HE.out;first|omega|(have:=HB.out;omega)
      have t5:¬(mid:Int)<(E:Int):=by have:=HE.out;first|omega|(have:=HB.out;omega)
      go_wp2_with fail;have HR1:Hid (RowD wr g n (rot d r m E)):=zh (by rw [HB.out,Zg6];exact HRW.out);have HT1:=HT;have HI1:=HIW;have HT2:=HT1;have HI2:=HI1;have HS2:Hid (LeftP wt g n d a r m E w wr):=zh ⟨⟨_,HR1.out,Pm.refl _ _ _,Zf6 HCUT.out (by have:=HM.out;have:=HE.out;omega)⟩,HT1.out⟩;go_end0;exact⟨rfl,Zf7 HCUT.out HS2.out (by have:=HM.out;have:=HE.out;omega)⟩
end
end
section
open Go.RowKit SymM
namespace SymM
theorem Half.mer {w:Int->Int} {n B t a b:Nat} {d:Row} (h:Half w n B t d) (ha:a=2*B*t) (hb:b=min (a+2*B) n) (hab:a+B<=b):Srt w d a (a+B)/\Srt w d (a+B) b/\Low d a (a+B) b:=by
 obtain⟨h1,h2⟩:=h;have hB:B*(2*t)=2*B*t:=by rw [Nat.mul_comm 2 B,Nat.mul_assoc]
 have hB1:B*(2*t+1)=2*B*t+B:=by rw [Nat.mul_add,Nat.mul_one,hB]
 have k1:=h2 (2*t) (by omega);have k2:=h2 (2*t+1) (by omega);rw [hB,<-ha] at k1;rw [hB1,<-ha] at k2;have e1:min (a+B) n=a+B:=by omega
 have e2:min (a+B+B) n=b:=by omega
 rw [e1] at k1;rw [e2] at k2;exact⟨k1.srt,k2.srt,k1.low k2⟩
end SymM
section
variable {F : FuncId} {caps : Array Value} {g n : Nat} {wt : Int -> Int} {I : World -> Prop}
theorem Zo3 (hC:CmpF F caps g n wt I) (hn:n<=1000000):∀(K a m b:Nat) (d:Row) (w:World),b<=a+K->a<m->m<b->b<=n->MerP wt g n I d a m b w ->
  Calls Tryz.prog 238 #[.slice (some ⟨g,0,none⟩) n n,.int .i64 (a:Int),.int .i64 (m:Int),.int .i64 (b:Int),.func (.func F) #[] caps] w fun e w'=>
   e=.returned (.tuple #[])/\SrtP wt g n d a b w w':=by
 intro K
 induction K with
 | zero=>intro a m b d w h1 h2 h3;omega
 | succ K ih=>
  intro a m b d w hK ham hmb hbn hP;by_cases hf:m=a+1
  ·have h2:=hP.low;have h3:=hP.sr;subst hf;exact Zo1 hC a b d w hP.row hP.inv (by omega) hbn hn hP.rng h3 h2 _ rfl
  ·by_cases hl:b=m+1
   ·have h2:=hP.low;subst hl;exact ZqT hC a m d w hP.row hP.inv (by omega) hbn hn hP.rng hP.sl h2 _ rfl
   ·by_cases hc:(a+b) / 2<m
    ·exact Zs6 hC hn K ih a m b d w hK ham hmb hbn hP hf hl hc
    ·exact Zs7 hC hn K ih a m b d w hK ham hmb hbn hP hf hl hc
theorem Znq (hC:CmpF F caps g n wt I) (hn:n<=100000) (w:World) (hR:RowD w g n (fun k=>(k:Int))) (hI:I w) :
  Calls Tryz.prog 235 #[.slice (some ⟨g,0,none⟩) n n,.int .i64 (n:Int),.func (.func F) #[] caps] w fun e w'=>
   e=.returned (.tuple #[])/\(∃D,RowD w' g n D/\Blk wt D 0 n)/\Touch (·=g) w w':=by
 have he:=hC.enter;have HR0:=zh hR;have HI0:=zh hI;have HC:=zh hC;have hr0:Hid (Rng n (fun k=>(k:Int))):=zh (fun k hk=>⟨Int.natCast_nonneg k,by show(k:Int)<(n:Int);omega⟩);clear hR hI hC;go_enter Tryz.func235,Tryz.ntmps235;go_wp2_with fail
 go_loopw [7,8] (fun va vb wr=>∃(t A B:Nat) (D:Row),va=.int .i64 A/\vb=.int .i64 B/\A=20*t/\B=A+20/\A<=n/\RowD wr g n D/\Ins wt n 20 t D/\Rng n D/\Touch (·=g) w wr) (fun va _ _=>n+1-(intOf va).toNat)
 case atStart=>exact⟨0,0,20,_,rfl,rfl,rfl,rfl,Nat.zero_le _,HR0.out,⟨fun q hq=>by omega,fun k _=>rfl⟩,hr0.out,Touch.refl _ w⟩
 case round=>
  obtain⟨t,A,B,D,rfl,rfl,hA,hB,hAn,hR,hIns,hrn,hT⟩:=hrel;have HR:=zh hR;have HIN:=zh hIns;have HRN:=zh hrn;have HT:=zh hT;have HAA:=zh hA;have HBB:=zh hB;have hB1:B<=A+20:=by omega
  have hB2:A+20<=B:=by omega
  have HIW:Hid (I wr):=zh (HC.out.keep _ _ HI0.out hT);clear hR hIns hrn hT hA hB;by_cases hlt:B<=n
  ·have hlt2:(B:Int)<=(n:Int):=by omega
   go_wp2_with fail
   refine(Zo0 HC.out A B D wr HR.out HIW.out (by omega) hlt (by omega) HRN.out (fun i j h1 h2 h3=>by
    have:=HAA.out;rw [HIN.out.2 i (by omega),HIN.out.2 j (by omega)];omega)).mono ?_
   rintro e w' ⟨rfl,⟨D2,hR2,hP2,hS2⟩,hT2⟩;have HR2:=zh hR2;have HP2:=zh hP2;have HS2:=zh hS2;have HT2:=zh hT2;clear hR2 hP2 hS2 hT2;go_wp2_with fail;go_roundw
   case rel=>exact⟨t+1,B,B+20,D2,rfl,by go_num,by have:=HAA.out;omega,rfl,hlt,HR2.out,HIN.out.next HAA.out (by omega) HP2.out HS2.out,HRN.out.pm HP2.out hlt,HT.out.trans HT2.out (fun i hi=>Or.inl hi)⟩
   case measure=>simp [intOf];omega
  ·have hlt2:¬(B:Int)<=(n:Int):=by omega
   go_wp2_with fail
   refine(Zo0 HC.out A n D wr HR.out HIW.out hAn (Nat.le_refl _) (by omega) HRN.out (fun i j h1 h2 h3=>by
    have:=HAA.out;rw [HIN.out.2 i (by omega),HIN.out.2 j (by omega)];omega)).mono ?_
   rintro e w' ⟨rfl,⟨D2,hR2,hP2,hS2⟩,hT2⟩;have HR2:=zh hR2;have HBL:Hid (Blks wt n 20 D2):=zh ((HIN.out.next HAA.out (show n=min (A+20) n by omega) hP2 hS2).end_ (by have:=HAA.out;omega));have HRN2:Hid (Rng n D2):=zh (HRN.out.pm hP2 (Nat.le_refl _));have HT2:Hid (Touch (·=g) w w'):=zh (HT.out.trans hT2 (fun i hi=>Or.inl hi));clear hR2 hP2 hS2 hT2;go_wp2_with fail
   go_loopw [6,7,8,9] (fun vs va vb vm wr=>∃(S:Nat) (D:Row),vs=.int .i64 S/\1<=S/\S<=200000/\RowD wr g n D/\Blks wt n S D/\Rng n D/\Touch (·=g) w wr) (fun vs _ _ _ _=>n-(intOf vs).toNat)
   case atStart=>exact⟨20,D2,rfl,by omega,by omega,HR2.out,HBL.out,HRN2.out,HT2.out⟩
   case round=>
    obtain⟨S,D3,rfl,hS1,hS2,hR3,hB3,hrn3,hT3⟩:=hrel;have HR3:=zh hR3;have HB3:=zh hB3;have HRN3:=zh hrn3;have HT3:=zh hT3;clear hR3 hB3 hrn3 hT3;by_cases hSn:S<n
    ·have hSn2:(S:Int)<(n:Int):=by omega
     go_wp2_with fail
     go_loopw [7,8] (fun va vb w3=>∃(t A B:Nat) (D:Row),va=.int .i64 A/\vb=.int .i64 B/\A=2*S*t/\B<=A+2*S/\A+2*S<=B/\A<=n/\RowD w3 g n D/\Half wt n S t D/\Rng n D/\Touch (·=g) w w3) (fun va _ _=>n+1-(intOf va).toNat)
     case atStart=>exact⟨0,0,2*S,D3,rfl,by go_num,rfl,by omega,by omega,Nat.zero_le _,HR3.out,Half.start HB3.out,HRN3.out,HT3.out⟩
     case round=>
      obtain⟨t,A,B,D4,rfl,rfl,hA,hB1,hB2,hAn,hR4,hH4,hrn4,hT4⟩:=hrel;have HR4:=zh hR4;have HH4:=zh hH4;have HRN4:=zh hrn4;have HT4:=zh hT4;have HAA:=zh hA;obtain⟨M,hM⟩:∃M,A+S=M:=⟨_,rfl⟩
      have hM2:(A:Int)+(S:Int)=(M:Int):=by omega
      have HM:=zh hM;have hM3:A<M:=by omega
      have hM4:M<B:=by omega
      have HIW:Hid (I wr):=zh (HC.out.keep _ _ HI0.out hT4);clear hR4 hH4 hrn4 hT4 hA hM;by_cases hlt:B<=n
      ·have hlt2:(B:Int)<=(n:Int):=by omega
       go_wp2_with fail
       refine(Zo3 HC.out (by omega) B A M B D4 wr (by omega) hM3 hM4 hlt (by
        obtain⟨q1,q2,q3⟩:=HH4.out.mer HAA.out (show B=min (A+2*S) n by omega) (by omega);rw [HM.out] at q1 q2 q3;exact⟨HR4.out,HIW.out,HRN4.out,q1,q2,q3⟩)).mono ?_
       rintro e w' ⟨rfl,⟨D5,hR5,hP5,hS5⟩,hT5⟩;have HR5:=zh hR5;have HP5:=zh hP5;have HS5:=zh hS5;have HT5:=zh hT5;clear hR5 hP5 hS5 hT5;go_wp2_with fail;go_roundw
       case rel=>exact⟨t+1,B,B+2*S,D5,rfl,by go_num,by have:=HAA.out;rw [Nat.mul_add,<-this];omega,by omega,by omega,hlt,HR5.out,HH4.out.next HAA.out (by omega) (by omega) HP5.out HS5.out,HRN4.out.pm HP5.out hlt,HT4.out.trans HT5.out (fun i hi=>Or.inl hi)⟩
       case measure=>simp [intOf];omega
      ·have hlt2:¬(B:Int)<=(n:Int):=by omega
       by_cases hMn:M<n
       ·have hMn2:(M:Int)<(n:Int):=by omega
        go_wp2_with fail
        refine(Zo3 HC.out (by omega) n A M n D4 wr (by omega) hM3 hMn (Nat.le_refl _) (by
         obtain⟨q1,q2,q3⟩:=HH4.out.mer HAA.out (show n=min (A+2*S) n by omega) (by have:=HM.out;omega);rw [HM.out] at q1 q2 q3;exact⟨HR4.out,HIW.out,HRN4.out,q1,q2,q3⟩)).mono ?_
        rintro e w' ⟨rfl,⟨D5,hR5,hP5,hS5⟩,hT5⟩;have HR5:=zh hR5;have HB5:Hid (Blks wt n (2*S) D5):=zh ((HH4.out.next HAA.out (show n=min (A+2*S) n by omega) (by have:=HM.out;omega) hP5 hS5).full (a:=A+2*S) (by have:=HAA.out;rw [Nat.mul_add,<-this];omega) (by omega));have HRN5:Hid (Rng n D5):=zh (HRN4.out.pm hP5 (Nat.le_refl _));have HT5:Hid (Touch (·=g) w w'):=zh (HT4.out.trans hT5 (fun i hi=>Or.inl hi));clear hR5 hP5 hS5 hT5;go_wp2_with fail;go_roundw
        case rel=>exact⟨2*S,D5,by go_num,by omega,by omega,HR5.out,HB5.out,HRN5.out,HT5.out⟩
        case measure=>simp [intOf];omega
       ·have hMn2:¬(M:Int)<(n:Int):=by omega
        have HB5:Hid (Blks wt n (2*S) D4):=zh (HH4.out.end_ HAA.out (by have:=HM.out;omega));go_wp2_with fail;go_roundw
        case rel=>exact⟨2*S,D4,by go_num,by omega,by omega,HR4.out,HB5.out,HRN4.out,HT4.out⟩
        case measure=>simp [intOf];omega
    ·have hSn2:¬(S:Int)<(n:Int):=by omega
     go_wp2_with fail;go_end0;exact⟨rfl,⟨D3,HR3.out,HB3.out.all (by omega)⟩,HT3.out⟩
theorem Zi4 (hC:CmpF F caps g n wt I) (hn:n<=100000) (w:World) (hR:RowD w g n (fun k=>(k:Int))) (hI:I w) :
  Calls Tryz.prog 232 #[.slice (some ⟨g,0,none⟩) n n,.func (.func F) #[] caps] w fun e w'=>
   e=.returned (.tuple #[])/\(∃D,RowD w' g n D/\Blk wt D 0 n)/\Touch (·=g) w w':=by
 have HR:=zh hR;have HI:=zh hI;have HC:=zh hC;clear hR hI hC;go_enter Tryz.func232,Tryz.ntmps232;go_wp2_with fail;refine(Znq HC.out hn w HR.out HI.out).mono ?_;rintro e w' ⟨rfl,h1,h2⟩;have H1:=zh h1;have H2:=zh h2;clear h1 h2;go_wp2_with fail;go_end0;exact⟨rfl,H1.out,H2.out⟩
end
end
section
open Go.RowKit SymM HufM
theorem ZeD (x:Int) (w:World):Calls Tryz.prog 236 #[.int .i64 x] w fun e w'=>e=.returned (.bool false)/\w'=w:=by
 have h:(x != x)=false:=by simp
 go_enter Tryz.func236,Tryz.ntmps236;go_wp2_with fail;go_ret;exact⟨rfl,rfl⟩
theorem ZlH (x y:Int) (w:World):Calls Tryz.prog 234 #[.int .i64 x,.int .i64 y] w fun e w'=>e=.returned (.int .i64 (sgn x y))/\w'=w:=by
 unfold sgn;by_cases h1:x<y
 ·rw [if_pos h1];go_enter Tryz.func234,Tryz.ntmps234;go_wp2_with fail;refine(ZeD x w).mono ?_;rintro e w' ⟨rfl,rfl⟩;go_wp2_with fail;refine(ZeD y _).mono ?_;rintro e w' ⟨rfl,rfl⟩;go_wp2_with fail;go_ret;exact⟨rfl,rfl⟩
 ·rw [if_neg h1];by_cases h2:y<x
  ·rw [if_pos h2];go_enter Tryz.func234,Tryz.ntmps234;go_wp2_with fail;refine(ZeD x w).mono ?_;rintro e w' ⟨rfl,rfl⟩;go_wp2_with fail;refine(ZeD y _).mono ?_;rintro e w' ⟨rfl,rfl⟩;go_wp2_with fail;go_ret;exact⟨rfl,rfl⟩
  ·rw [if_neg h2];go_enter Tryz.func234,Tryz.ntmps234;go_wp2_with fail;refine(ZeD x w).mono ?_;rintro e w' ⟨rfl,rfl⟩;go_wp2_with fail;refine(ZeD y _).mono ?_;rintro e w' ⟨rfl,rfl⟩;go_wp2_with fail;go_ret;exact⟨rfl,rfl⟩
def wtOf (zs:List Int) (x:Int):Int:=zs.getD x.toNat 0
theorem ZqU (bx:Nat) (v:Value) (zs:List Int) (w:World) (x y:Int) (hc:w.cell? ⟨bx,0,none⟩=some v) (hv:IsInts w v zs) (hz:zs.length<=100000) (hx0:0<=x) (hx:x<zs.length) (hy0:0<=y) (hy:y<zs.length) :
  Calls Tryz.prog 233 #[.int .i64 x,.int .i64 y,.pointer (some ⟨bx,0,none⟩)] w fun e w'=>e=.returned (.int .i64 (sgn (wtOf zs x) (wtOf zs y)))/\∃q,w'=w.drewN q:=by
 obtain⟨i,rfl⟩:=Int.eq_ofNat_of_zero_le hx0;obtain⟨j,rfl⟩:=Int.eq_ofNat_of_zero_le hy0;have HV:=zh hv;obtain⟨b1,o1,k1,he1,c1⟩:=HV.out.cell (show i<zs.length by omega);obtain⟨b2,o2,k2,he2,c2⟩:=HV.out.cell (show j<zs.length by omega);subst he1;simp only [Value.slice.injEq,Option.some.injEq,Addr.mk.injEq] at he2;obtain⟨⟨rfl,rfl,_⟩,_,rfl⟩:=he2;obtain⟨X,hX⟩:∃X,zs.getD i 0=X:=⟨_,rfl⟩
 obtain⟨Y,hY⟩:∃Y,zs.getD j 0=Y:=⟨_,rfl⟩
 have e1:wtOf zs (i:Int)=X:=by unfold wtOf;rw [Int.toNat_natCast];exact hX
 have e2:wtOf zs (j:Int)=Y:=by unfold wtOf;rw [Int.toNat_natCast];exact hY
 rw [e1,e2];rw [hX] at c1;rw [hY] at c2;clear hX hY e1 e2 hx0 hy0;go_enter Tryz.func233,Tryz.ntmps233;go_wp2_with fail
 go_quiet ((go_at_call 234;exact Calls.quiet_of_same (ZlH X Y _)))
 go_wp2_with fail;go_ret;exact⟨rfl,_,rfl⟩
theorem RowD.congr {w:World} {g n:Nat} {d e:Row} (h:RowD w g n d) (he:∀i,i<n->d i=e i):RowD w g n e:=by
 unfold RowD at *;have:(List.range n).map d=(List.range n).map e:=List.map_congr_left (fun i hi=>he i (List.mem_range.1 hi));rw [<-this];exact h
theorem RowD.made (w:World) (n:Nat):RowD (w.alloc (.cells (madeCells #[Value.int .i64 0] n) 3)) w.heap.size n (fun _=>0):=by
 have:=RowI.made w n;unfold RowD
 have e:List.replicate n (0:Int)=(List.range n).map (fun _=>0):=by
  apply List.ext_getElem
  ·simp
  ·intro j h1 h2;simp
 rw [<-e];exact this
def ByP (zs:List Int) (v:Value) (w w':World):Prop:=∃(g:Nat) (D:Row),v=.slice (some ⟨g,0,none⟩) zs.length zs.length/\w.heap.size<=g/\RowD w' g zs.length D/\Blk (wtOf zs) D 0 zs.length/\Below w.heap.size w w'
theorem ZkF (v:Value) (zs:List Int) (w:World) (hv:IsInts w v zs) (hz:zs.length<=100000) :
  Calls Tryz.prog 230 #[v] w fun e w'=>∃r,e=.returned r/\ByP zs r w w':=by
 have HV0:=zh hv;obtain⟨a,cap,rfl,_⟩:=hv;obtain⟨n,hn⟩:∃n,zs.length=n:=⟨_,rfl⟩
 have HN:=zh hn;obtain⟨wA,hwA⟩:∃wA,w.alloc (.cells #[.slice a n cap] 106)=wA:=⟨_,rfl⟩
 have hs1:wA.heap.size=w.heap.size+1:=by rw [<-hwA];simp
 have hbx:wA.cell? ⟨w.heap.size,0,none⟩=some (.slice a n cap):=by rw [<-hwA];simp
 have HVA:Hid (IsInts wA (.slice a n cap) zs):=zh (by rw [<-hwA,<-hn];exact HV0.out.below ((Below.refl _ w).alloc (Nat.le_refl _) _));have HB1:Hid (Below w.heap.size w wA):=zh (by rw [<-hwA];exact(Below.refl _ w).alloc (Nat.le_refl _) _);have HWA:=zh hwA;obtain⟨g,hg⟩:∃g,w.heap.size+1=g:=⟨_,rfl⟩
 have hmk:=ZbS n (by omega) (w.alloc (.cells #[.slice a n cap] 106));have hmade:=RowD.made (w.alloc (.cells #[.slice a n cap] 106)) n;have hs2:(w.alloc (.cells #[.slice a n cap] 106)).heap.size=g:=by rw [<-hg];simp
 rw [hs2] at hmk hmade;have HR0:=zh hmade;have HBX:=zh hbx;have HG:Hid (wA.heap.size=g):=zh (by rw [hs1];exact hg);have HG2:Hid (w.heap.size+1=g):=zh hg;have hb0:Hid (Below g wA ((w.alloc (.cells #[.slice a n cap] 106)).alloc (.cells (madeCells #[Value.int .i64 0] n) 3))):=zh (by rw [hwA,<-HG.out];exact(Below.refl _ wA).alloc (Nat.le_refl _) _);rw [hn] at hz ⊢;clear hwA hn hbx hmade hs1 hg;go_enter Tryz.func230,Tryz.ntmps230;go_wp2_with fail;generalize (w.alloc (.cells #[.slice a n cap] 106)).alloc (.cells (madeCells #[Value.int .i64 0] n) 3)=w1 at *;go_wp2_with fail
 go_loopw [10] (fun i wr=>∃k:Nat,k<=n/\i=.int .i64 k/\RowD wr g n (fun j=>if j<k then(j:Int) else 0)/\Below g wA wr) (fun i _=>n-(intOf i).toNat)
 case atStart=>exact⟨0,Nat.zero_le _,rfl,HR0.out.congr (fun j _=>by simp),hb0.out⟩
 case round=>
  obtain⟨k,hk,rfl,hR,hB⟩:=hrel;have HR:=zh hR;have HB:=zh hB;clear hR hB;by_cases hlk:k<n
  ·have hki:(k:Int)<(n:Int):=by omega
   obtain⟨c1,f1⟩:=HR.out.cell hlk;go_wp2_with fail;go_roundw
   case rel=>exact⟨k+1,by omega,by go_num,(HR.out.set hlk k).congr (fun j _=>by
    by_cases e:j=k
    ·subst e;simp
    ·have:(j<k+1)=(j<k):=by apply propext;omega
     simp [e,this]),HB.out.setCell (p:=⟨g,k,none⟩) (Nat.le_refl _) _⟩
   case measure=>simp [intOf];omega
  ·have hki:¬(k:Int)<(n:Int):=by omega
   obtain rfl:n=k:=by omega
   have HRF:Hid (RowD wr g n (fun j=>(j:Int))):=zh (HR.out.congr (fun j hj=>by simp [hj]))
   have hcmp:Hid (CmpF 233 #[.pointer (some ⟨w.heap.size,0,none⟩)] g n (wtOf zs) (Below g wA)):=zh ⟨enters_of Tryz.func233 (by kernel_rfl) rfl,
    fun W W' h ht=>⟨ht.os.trans h.os,ht.tape.trans h.tape,ht.output.trans h.output,Nat.le_trans h.size ht.size,fun i hi=>(ht.block i (by have:=h.size;have:=HG.out;omega) (fun e=>by have e':i=g:=e;omega)).trans (h.block i hi)⟩,
    fun W x y hI hx0 hx hy0 hy=>by
     have hgw:=HG.out;have hIn:IsInts W (.slice a n cap) zs:=HVA.out.below (by rw [hgw];exact hI);have hcl:W.cell? ⟨w.heap.size,0,none⟩=some (.slice a n cap):=(hI.cell (p:=⟨w.heap.size,0,none⟩) (by show w.heap.size<g;have:=HG2.out;omega)).trans HBX.out;exact ZqU w.heap.size (.slice a n cap) zs W x y hcl hIn (by rw [HN.out];exact hz) hx0 (by rw [HN.out];exact hx) hy0 (by rw [HN.out];exact hy)⟩
   go_wp2_with fail;refine(Zi4 hcmp.out hz wr HRF.out HB.out).mono ?_;rintro e w' ⟨rfl,⟨D,hD,hBlk⟩,hT⟩;have HD:=zh hD;have HBL:=zh hBlk;have HT:=zh hT;clear hD hBlk hT;go_wp2_with fail;go_ret;have hn:=HN.out;have hg2:=HG2.out;refine⟨.slice (some ⟨g,0,none⟩) n n,rfl,g,D,by rw [hn],by omega,by rw [hn];exact HD.out,by rw [hn];exact HBL.out,?_⟩;exact(HB1.out.trans (HB.out.mono (by omega))).trans (HT.out.below (B:=w.heap.size) (by have:=HB.out.size;have:=HG.out;omega) (fun i hi=>by have e':i=g:=hi;omega))
theorem ZmI {k:IntKind} {a b:Int} (h:a=b):Ending.returned (.int k a)=.returned (.int k b):=by rw [h]
def ArrD (t:TypeId) (w:World) (b N:Nat) (d:Row):Prop:=w.heap[b]?=some (.cells (((List.range N).map d).map iv64).toArray t (0,0))
theorem ArrD.cell {t:TypeId} {w:World} {g n:Nat} {d:Row} (h:ArrD t w g n d) {i:Nat} (hi:i<n):w.cell? ⟨g,i,none⟩=some (.int .i64 (d i))/\w.frozen? ⟨g,i,none⟩=false:=by
 refine⟨?_,frozen_of_row _ _ _ _ _ h⟩;rw [cell_of_row _ _ _ _ _ _ h,List.getElem?_toArray,List.getElem?_map,List.getElem?_map,List.getElem?_range hi];rfl
theorem ArrD.set {t:TypeId} {w:World} {g n:Nat} {d:Row} (h:ArrD t w g n d) {i:Nat} (hi:i<n) (x:Int):ArrD t (w.setCell ⟨g,i,none⟩ (.int .i64 x)) g n (fun k=>if k=i then x else d k):=by
 have:=heap_setCell_same w g i _ _ (.int .i64 x) h;unfold ArrD;rw [this];congr 2;apply Array.toList_inj.1;rw [Array.toList_setIfInBounds];apply List.ext_getElem
 ·simp
 ·intro j h1 h2;rw [List.getElem_set];by_cases e:i=j
  ·subst e;simp [iv64]
  ·rw [if_neg e];have:¬j=i:=fun h=>e h.symm
   simp [this]
theorem ArrD.other {t:TypeId} {w w':World} {g n:Nat} {d:Row} (h:ArrD t w g n d) {S:Nat->Prop} (ht:Touch S w w') (hS:¬S g):ArrD t w' g n d:=
 (ht.block g (Array.getElem?_eq_some_iff.1 h).1 hS).trans h
def Box (w:World) (b:Nat) (x:Int):Prop:=w.heap[b]?=some (.cells #[.int .i64 x] 3 (0,0))
theorem Box.cell {w:World} {b:Nat} {x:Int} (h:Box w b x):w.cell? ⟨b,0,none⟩=some (.int .i64 x)/\w.frozen? ⟨b,0,none⟩=false:=⟨by rw [cell_of_row _ _ _ _ _ _ h];rfl,frozen_of_row _ _ _ _ _ h⟩
theorem Box.set {w:World} {b:Nat} {x:Int} (h:Box w b x) (y:Int):Box (w.setCell ⟨b,0,none⟩ (.int .i64 y)) b y:=by
 have:=heap_setCell_same w b 0 _ _ (.int .i64 y) h;unfold Box;rw [this];rfl
theorem Box.other {w w':World} {b:Nat} {x:Int} (h:Box w b x) {S:Nat->Prop} (ht:Touch S w w') (hS:¬S b):Box w' b x:=(ht.block b (Array.getElem?_eq_some_iff.1 h).1 hS).trans h
structure At where
 W:Nat
 A:Nat
 nb:Nat
 ob:Nat
 sb:Nat
 jb:Nat
 xb:Nat
 g:Nat
def At.Apart (p:At):Prop:=[p.W,p.A,p.nb,p.ob,p.sb,p.jb,p.xb,p.g].Pairwise (·≠·)
structure Queue (p:At) (n:Nat) (D wf ab:Row) (S J K:Nat) (w:World):Prop where
 hW:ArrD 275 w p.W 515 wf
 hA:ArrD 275 w p.A 515 ab
 hn:Box w p.nb n
 ho:w.heap[p.ob]?=some (.cells #[.slice (some ⟨p.g,0,none⟩) n n] 106 (0,0))
 hs:Box w p.sb S
 hj:Box w p.jb J
 hx:Box w p.xb K
 hg:RowD w p.g n D
 apart:p.Apart
def At.caps (p:At):Array Value:=#[.pointer (some ⟨p.jb,0,none⟩),.pointer (some ⟨p.xb,0,none⟩),.pointer (some ⟨p.sb,0,none⟩),.pointer (some ⟨p.nb,0,none⟩),.pointer (some ⟨p.W,0,none⟩),.pointer (some ⟨p.ob,0,none⟩)]
section
variable {p : At} {n : Nat} {D wf ab : Row} {S J K : Nat} {w : World}
theorem Queue.touch {w':World} (h:Queue p n D wf ab S J K w) (ht:Touch (fun _=>False) w w'):Queue p n D wf ab S J K w':=
 ⟨h.hW.other ht (fun h=>h),h.hA.other ht (fun h=>h),h.hn.other ht (fun h=>h),(ht.block _ (Array.getElem?_eq_some_iff.1 h.ho).1 (fun h=>h)).trans h.ho,h.hs.other ht (fun h=>h),h.hj.other ht (fun h=>h),h.hx.other ht (fun h=>h),RowD.other h.hg ht (fun h=>h),h.apart⟩
theorem Queue.drewN (h:Queue p n D wf ab S J K w) (k:Nat):Queue p n D wf ab S J K (w.drewN k):=h.touch (Zan _ _ _)
theorem Queue.keep {b:Nat} {w':World} (h:Queue p n D wf ab S J K w) (ht:Touch (·=b) w w') :
  (p.W≠b->ArrD 275 w' p.W 515 wf)/\(p.A≠b->ArrD 275 w' p.A 515 ab)/\(p.nb≠b->Box w' p.nb n)/\(p.ob≠b->w'.heap[p.ob]?=some (.cells #[.slice (some ⟨p.g,0,none⟩) n n] 106 (0,0))) /\
  (p.sb≠b->Box w' p.sb S)/\(p.jb≠b->Box w' p.jb J)/\(p.xb≠b->Box w' p.xb K)/\(p.g≠b->RowD w' p.g n D):=by
 obtain⟨hW,hA,hn,ho,hs,hj,hx,hg,hap⟩:=h;refine⟨fun e=>hW.other ht e,fun e=>hA.other ht e,fun e=>hn.other ht e,fun e=>?_,fun e=>hs.other ht e,fun e=>hj.other ht e,fun e=>hx.other ht e,fun e=>RowD.other hg ht e⟩;exact(ht.block p.ob (Array.getElem?_eq_some_iff.1 ho).1 e).trans ho
theorem At.Apart.all (ha:p.Apart):(p.W≠p.A/\p.W≠p.nb/\p.W≠p.ob/\p.W≠p.sb/\p.W≠p.jb/\p.W≠p.xb/\p.W≠p.g)/\(p.A≠p.nb/\p.A≠p.ob/\p.A≠p.sb/\p.A≠p.jb/\p.A≠p.xb/\p.A≠p.g) /\
  (p.nb≠p.ob/\p.nb≠p.sb/\p.nb≠p.jb/\p.nb≠p.xb/\p.nb≠p.g)/\(p.ob≠p.sb/\p.ob≠p.jb/\p.ob≠p.xb/\p.ob≠p.g)/\(p.sb≠p.jb/\p.sb≠p.xb/\p.sb≠p.g)/\(p.jb≠p.xb/\p.jb≠p.g)/\p.xb≠p.g:=by
 simp only [At.Apart,List.pairwise_cons,List.mem_cons,List.not_mem_nil,or_false,forall_eq_or_imp,forall_eq] at ha;obtain⟨a1,a2,a3,a4,a5,a6,a7,_⟩:=ha;exact⟨a1,a2,a3,a4,a5,a6,a7⟩
theorem Queue.single (h:Queue p n D wf ab S J K w) (x:Nat):Queue p n D wf ab x J K (w.setCell ⟨p.sb,0,none⟩ (.int .i64 x)):=by
 obtain⟨⟨a1,a2,a3,a4,a5,a6,a7⟩,⟨b2,b3,b4,b5,b6,b7⟩,⟨c3,c4,c5,c6,c7⟩,⟨d4,d5,d6,d7⟩,⟨e5,e6,e7⟩,⟨f6,f7⟩,g7⟩:=h.apart.all;have ht:Touch (·=p.sb) w (w.setCell ⟨p.sb,0,none⟩ (.int .i64 x)):=Zae (Touch.refl _ w);obtain⟨kW,kA,kn,ko,ks,kj,kx,kg⟩:=h.keep ht;exact⟨kW a4,kA b4,kn c4,ko d4,h.hs.set x,kj (Ne.symm e5),kx (Ne.symm e6),kg (Ne.symm e7),h.apart⟩
theorem Queue.joined (h:Queue p n D wf ab S J K w) (x:Nat):Queue p n D wf ab S x K (w.setCell ⟨p.jb,0,none⟩ (.int .i64 x)):=by
 obtain⟨⟨a1,a2,a3,a4,a5,a6,a7⟩,⟨b2,b3,b4,b5,b6,b7⟩,⟨c3,c4,c5,c6,c7⟩,⟨d4,d5,d6,d7⟩,⟨e5,e6,e7⟩,⟨f6,f7⟩,g7⟩:=h.apart.all;have ht:Touch (·=p.jb) w (w.setCell ⟨p.jb,0,none⟩ (.int .i64 x)):=Zae (Touch.refl _ w);obtain⟨kW,kA,kn,ko,ks,kj,kx,kg⟩:=h.keep ht;exact⟨kW a5,kA b5,kn c5,ko d5,ks e5,h.hj.set x,kx (Ne.symm f6),kg (Ne.symm f7),h.apart⟩
theorem Queue.next (h:Queue p n D wf ab S J K w) (x:Nat):Queue p n D wf ab S J x (w.setCell ⟨p.xb,0,none⟩ (.int .i64 x)):=by
 obtain⟨⟨a1,a2,a3,a4,a5,a6,a7⟩,⟨b2,b3,b4,b5,b6,b7⟩,⟨c3,c4,c5,c6,c7⟩,⟨d4,d5,d6,d7⟩,⟨e5,e6,e7⟩,⟨f6,f7⟩,g7⟩:=h.apart.all;have ht:Touch (·=p.xb) w (w.setCell ⟨p.xb,0,none⟩ (.int .i64 x)):=Zae (Touch.refl _ w);obtain⟨kW,kA,kn,ko,ks,kj,kx,kg⟩:=h.keep ht;exact⟨kW a6,kA b6,kn c6,ko d6,ks e6,kj f6,h.hx.set x,kg (Ne.symm g7),h.apart⟩
theorem Queue.weight (h:Queue p n D wf ab S J K w) {i:Nat} (hi:i<515) (x:Int):Queue p n D (fun k=>if k=i then x else wf k) ab S J K (w.setCell ⟨p.W,i,none⟩ (.int .i64 x)):=by
 obtain⟨⟨a1,a2,a3,a4,a5,a6,a7⟩,⟨b2,b3,b4,b5,b6,b7⟩,⟨c3,c4,c5,c6,c7⟩,⟨d4,d5,d6,d7⟩,⟨e5,e6,e7⟩,⟨f6,f7⟩,g7⟩:=h.apart.all;have ht:Touch (·=p.W) w (w.setCell ⟨p.W,i,none⟩ (.int .i64 x)):=Zae (Touch.refl _ w);obtain⟨kW,kA,kn,ko,ks,kj,kx,kg⟩:=h.keep ht;exact⟨h.hW.set hi x,kA (Ne.symm a1),kn (Ne.symm a2),ko (Ne.symm a3),ks (Ne.symm a4),kj (Ne.symm a5),kx (Ne.symm a6),kg (Ne.symm a7),h.apart⟩
theorem Queue.above (h:Queue p n D wf ab S J K w) {i:Nat} (hi:i<515) (x:Int):Queue p n D wf (fun k=>if k=i then x else ab k) S J K (w.setCell ⟨p.A,i,none⟩ (.int .i64 x)):=by
 obtain⟨⟨a1,a2,a3,a4,a5,a6,a7⟩,⟨b2,b3,b4,b5,b6,b7⟩,⟨c3,c4,c5,c6,c7⟩,⟨d4,d5,d6,d7⟩,⟨e5,e6,e7⟩,⟨f6,f7⟩,g7⟩:=h.apart.all;have ht:Touch (·=p.A) w (w.setCell ⟨p.A,i,none⟩ (.int .i64 x)):=Zae (Touch.refl _ w);obtain⟨kW,kA,kn,ko,ks,kj,kx,kg⟩:=h.keep ht;exact⟨kW a1,h.hA.set hi x,kn (Ne.symm b2),ko (Ne.symm b3),ks (Ne.symm b4),kj (Ne.symm b5),kx (Ne.symm b6),kg (Ne.symm b7),h.apart⟩
def Took (p:At) (n:Nat) (D wf ab:Row) (S J K:Nat) (w w':World) (t:Int):Prop:=
 (((J=K/\S<n)\/(S<n/\wf (D S).toNat<=wf J))/\t=D S/\Queue p n D wf ab (S+1) J K w'/\Touch (·=p.sb) w w') \/
 (¬J=K/\¬(S<n/\wf (D S).toNat<=wf J)/\t=(J:Int)/\Queue p n D wf ab S (J+1) K w'/\Touch (·=p.jb) w w')
theorem ZkG (h:Queue p n D wf ab S J K w) (hn:n<=258) (hS:S<=n) (hJK:J<=K) (hK:K<=515) (hD:Rng n D) (h0:J=K->S<n) :
  Calls Tryz.prog 231 p.caps w fun e w'=>∃t,e=.returned (.int .i64 t)/\Took p n D wf ab S J K w w' t:=by
 have HQ:=zh h;obtain⟨cj,fj⟩:=h.hj.cell;obtain⟨cx,fx⟩:=h.hx.cell;obtain⟨cs,fs⟩:=h.hs.cell;obtain⟨cn,fn⟩:=h.hn.cell;have co:w.cell? ⟨p.ob,0,none⟩=some (.slice (some ⟨p.g,0,none⟩) n n):=by rw [cell_of_row _ _ _ _ _ _ h.ho];rfl
 have take_s:Hid (∀s:Int,S<n->D S=s->((J=K/\S<n)\/(S<n/\wf (D S).toNat<=wf J))->∀q,Took p n D wf ab S J K w ((w.drewN q).setCell ⟨p.sb,0,none⟩ (.int .i64 ((S+1:Nat):Int))) s):=zh (fun s h1 h2 h3 q=>
  Or.inl ⟨h3,h2.symm,(HQ.out.drewN q).single (S+1),Zae (Zan _ _ q)⟩)
 have take_j:Hid (¬J=K->¬(S<n/\wf (D S).toNat<=wf J)->∀q,Took p n D wf ab S J K w ((w.drewN q).setCell ⟨p.jb,0,none⟩ (.int .i64 ((J+1:Nat):Int))) (J:Int)):=zh (fun h1 h2 q=>
  Or.inr ⟨h1,h2,rfl,(HQ.out.drewN q).joined (J+1),Zae (Zan _ _ q)⟩)
 have hcs:Hid (∀q (x:Int),((w.drewN q).setCell ⟨p.sb,0,none⟩ (.int .i64 x)).cell? ⟨p.ob,0,none⟩=some (.slice (some ⟨p.g,0,none⟩) n n)/\((w.drewN q).setCell ⟨p.sb,0,none⟩ (.int .i64 x)).cell? ⟨p.sb,0,none⟩=some (.int .i64 x)):=zh (fun q x=>by
  have hap:=HQ.out.apart.all;have ht:Touch (·=p.sb) w ((w.drewN q).setCell ⟨p.sb,0,none⟩ (.int .i64 x)):=Zae (Zan _ _ q);refine⟨?_,((HQ.out.drewN q).hs.set x).cell.1⟩;rw [cell_of_row _ _ _ _ _ _ ((ht.block _ (Array.getElem?_eq_some_iff.1 HQ.out.ho).1 (fun e=>by have e':p.ob=p.sb:=e;omega)).trans HQ.out.ho)];rfl)
 have hrow:S<n->∃s:Nat,D S=(s:Int)/\s<n/\w.cell? ⟨p.g,S,none⟩=some (.int .i64 (s:Int))/\w.cell? ⟨p.W,s,none⟩=some (.int .i64 (wf s)):=fun hSn=>by
  obtain⟨h1,h2⟩:=hD S hSn;obtain⟨s,hs⟩:=Int.eq_ofNat_of_zero_le h1;have h3:=(h.hg.cell hSn).1;rw [hs] at h3 h2;exact⟨s,hs,by omega,h3,(h.hW.cell (show s<515 by omega)).1⟩
 have HR:=zh hrow;have HWC:Hid (∀i,i<515->w.cell? ⟨p.W,i,none⟩=some (.int .i64 (wf i))):=zh (fun i hi=>(h.hW.cell hi).1)
 have hgo:Hid (∀q x,S<n->∀s:Int,D S=s->((w.drewN q).setCell ⟨p.sb,0,none⟩ (.int .i64 x)).cell? ⟨p.g,S,none⟩=some (.int .i64 s)):=zh (fun q x hSn s hs=>by
  have hap:=HQ.out.apart.all;have ht:Touch (·=p.sb) w ((w.drewN q).setCell ⟨p.sb,0,none⟩ (.int .i64 x)):=Zae (Zan _ _ q);rw [<-hs];exact(RowD.cell (RowD.other HQ.out.hg ht (fun e=>by have e':p.g=p.sb:=e;omega)) hSn).1)
 have hcj:Hid (∀q (x:Int),((w.drewN q).setCell ⟨p.jb,0,none⟩ (.int .i64 x)).cell? ⟨p.jb,0,none⟩=some (.int .i64 x)):=zh (fun q x=>((HQ.out.drewN q).hj.set x).cell.1);have hS1:(S:Int)+1=((S+1:Nat):Int):=by omega
 have hJ1:(J:Int)+1=((J+1:Nat):Int):=by omega
 have HS1:=zh hS1;have HJ1:=zh hJ1;have HH0:=zh h0;clear h hrow hD h0 hS1 hJ1;unfold At.caps;have hSI:(S:Int)+1-1=(S:Int):=by omega
 have hJI:(J:Int)+1-1=(J:Int):=by omega
 by_cases e:J=K
 ·have hSn:=HH0.out e;obtain⟨s,hs1,hs2,c1,c2⟩:=HR.out hSn;have HS:=zh hs1;have HSN:=zh hSn;have hje:((J:Int)==(K:Int))=true:=by rw [beq_iff_eq];omega
  have HE:=zh e;have hSn2:(S:Int)<(n:Int):=by omega
  clear e hs1;go_enter Tryz.func231,Tryz.ntmps231;go_wp2_with fail
  go_quiet (fail)
  have k1:=fun q x=>(hcs.out q x).1
  have k2:=fun q x=>(hcs.out q x).2
  have k3:=fun q x=>hgo.out q x HSN.out _ HS.out
  go_wp2_with fail;go_ret;refine⟨_,rfl,?_⟩;have:=HS1.out;rw [this];exact take_s.out _ HSN.out HS.out (Or.inl ⟨HE.out,HSN.out⟩) _
 ·have hje:((J:Int)==(K:Int))=false:=by rw [beq_eq_false_iff_ne];omega
  have HE:=zh e;have hJ515:J<515:=by omega
  have hJ5:(J:Int)<515:=by omega
  have c3:=HWC.out J hJ515;clear e;by_cases hSn:S<n
  ·obtain⟨s,hs1,hs2,c1,c2⟩:=HR.out hSn;have HS:=zh hs1;have HSN:=zh hSn;have hSn2:(S:Int)<(n:Int):=by omega
   have hs5:(s:Int)<515:=by omega
   obtain⟨X,hX⟩:∃X,wf s=X:=⟨_,rfl⟩
   obtain⟨Y,hY⟩:∃Y,wf J=Y:=⟨_,rfl⟩
   rw [hX] at c2;rw [hY] at c3;have HX:=zh hX;have HY:=zh hY;have HW:Hid (wf (D S).toNat=X):=zh (by rw [hs1,Int.toNat_natCast];exact hX);clear hs1 hX hY;by_cases hle:X<=Y
   ·have HLE:=zh hle;go_enter Tryz.func231,Tryz.ntmps231;go_wp2_with fail
    go_quiet (fail)
    have k1:=fun q x=>(hcs.out q x).1
    have k2:=fun q x=>(hcs.out q x).2
    have k3:=fun q x=>hgo.out q x HSN.out _ HS.out
    go_wp2_with fail;go_ret;refine⟨_,rfl,?_⟩;have:=HS1.out;rw [this];exact take_s.out _ HSN.out HS.out (Or.inr ⟨HSN.out,by rw [HW.out,HY.out];exact HLE.out⟩) _
   ·have HLE:=zh hle;have hle2:decide (X<=Y)=false:=by simp only [decide_eq_false_iff_not];exact hle
    go_enter Tryz.func231,Tryz.ntmps231;go_wp2_with fail
    go_quiet (fail)
    have k1:=fun q x=>hcj.out q x
    go_wp2_with fail;go_ret;refine⟨_,ZmI (show _=(J:Int) by omega),?_⟩;have:=HJ1.out;rw [this];exact take_j.out HE.out (fun h=>absurd h.2 (by rw [HW.out,HY.out];have:=HLE.out;omega)) _
  ·have hSn2:decide ((S:Int)<(n:Int))=false:=by simp only [decide_eq_false_iff_not];omega
   have HSN:=zh hSn;go_enter Tryz.func231,Tryz.ntmps231;go_wp2_with fail
   go_quiet (fail)
   have k1:=fun q x=>hcj.out q x
   go_wp2_with fail;go_ret;refine⟨_,ZmI (show _=(J:Int) by omega),?_⟩;have:=HJ1.out;rw [this];exact take_j.out HE.out (fun h=>HSN.out h.1) _
end
end
end Go.Proofs.YtlfpbcadcfaboaaGreatDoor

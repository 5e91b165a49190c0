import Derived.Test.YtlfpbcadcfaboaaGreatDoorTcA
import Derived.Test.YtlfpbcadcfaboaaGreatDoorTcB
import Derived.Test.YtlfpbcadcfaboaaGreatDoorTcC
import Derived.Test.YtlfpbcadcfaboaaGreatDoorTcI
import Derived.Test.YtlfpbcadcfaboaaGreatDoorTcL
import Derived.Test.YtlfpbcadcfaboaaGreatDoorTcM
import Derived.Test.YtlfpbcadcfaboaaGreatDoorTcN
import Derived.Test.YtlfpbcadcfaboaaGreatDoorTcO
import Derived.BigRegion
import Derived.StillTailTactics
import Derived.BigQuiet
import Derived.Laws.EntriesVeiled
import Derived.Test.YtlfpbcadcfaboaaGreatDoorCards
import Derived.Test.YtlfpbcadcfaboaaGreatDoorTie
import Derived.LaidMore
import Derived.Stop.Joined
set_option linter.unusedVariables false
set_option linter.unusedSimpArgs false
set_option maxHeartbeats 8000000
set_option maxRecDepth 100000
namespace Go.Proofs.YtlfpbcadcfaboaaGreatDoor
section
open Go.RowKit BwtM SrtM PkM
section
variable {B : Nat} {b n : Nat} {Z : List Nat}
theorem Due.pos0 {T:List UInt8} {K:Nat->Nat} {S:SS} {R:Nat} (h:Due T K S n R) (hT:T.length=n):0<R:=by
 rcases Nat.eq_zero_or_pos n with h0|h0
 ·rcases h with⟨ps,p,A,m,h,hp⟩|⟨m,h,hm⟩
  ·have hl:=h.left;rw [Za7] at hl;have hf:=h.fits p (by simp);have hfit:=h.fit;rcases h.top with⟨e0,e1,e2,e3,_⟩|⟨hb,_⟩
   ·have:1<=p.cost:=by
     unfold Part.cost;rw [e0];exact ZkY _
    omega
   ·have:=hf.2.2 hb;omega
  ·omega
 ·exact h.pos hT h0
theorem SoSt.done {T:List UInt8} {w:World} {st R:Nat} (h:SoSt B w b n T Z st R) (hT:T.length=n):Calls Tryz.prog 128 #[.pointer (some ⟨b,0,none⟩)] w fun e w'=>e=.returned (.bool (R==0))/\w'=w:=by
 obtain⟨bo,bc,ba,vk,vw,kb,S,h1,h2,h3⟩:=h;rcases h3 with⟨rfl,_,rfl⟩|⟨K,k1,⟨F,caps,rfl,_⟩,k3,hd⟩
 ·exact ZpN w h1.obj
 ·have hp:=hd.pos0 hT;have e:(R==0)=false:=by rw [beq_eq_false_iff_ne];omega
  rw [e];exact Zrv F caps w h1.obj
theorem SoSt.zlt {T:List UInt8} {w:World} {st R:Nat} (h:SoSt B w b n T Z st R):∀g∈Z,g<w.heap.size/\g≠b:=by
 obtain⟨bo,bc,ba,vk,vw,kb,S,h1,h2,h3⟩:=h;exact fun g hg=>⟨(h1.kap g (List.mem_append_right _ hg)).1,(h1.kap g (List.mem_append_right _ hg)).2.1⟩
theorem SoSt.someSteps {T:List UInt8} {w:World} {st R k:Nat} (h:SoSt B w b n T Z st R) (hT:T.length=n) (h0:0<n) (hn:n<=20000) (hR:R<=800000) (hR0:0<R) (hk1:1<=k) (hk:k<=9223372036854775807) (hb:B<=w.heap.size) :
  Calls Tryz.prog 160 #[.pointer (some ⟨b,0,none⟩),.int .i64 (k:Int)] w fun e w'=>SomeP B w w' b n T Z st R k e:=by
 obtain⟨bo,bc,ba,vk,vw,kb,S,h1,⟨rfl,hrc,hkz⟩,h3⟩:=h;rcases h3 with⟨_,_,e⟩|⟨K,k1,k2,k3,hd⟩
 ·omega
 ·rcases hd with⟨ps,p,A,m,hs,hsz⟩|⟨m,hN,hmd⟩
  ·exact ZpV T K w ps p A m R k h1 k1 k2 k3 hs hsz hT h0 hn hrc hkz hR hk1 hk hb
  ·exact ZpU T K w m R k h1 k1 k2 k3 hN hmd hT h0 (by omega) hrc hkz hk1 hk hb
theorem SoSt.count {T:List UInt8} {w:World} {st R:Nat} (h:SoSt B w b n T Z st R):w.cell? ⟨b,10,none⟩=some (.int .i64 (st:Int))/\w.frozen? ⟨b,10,none⟩=false/\∀x:Nat,SoSt B (w.setCell ⟨b,10,none⟩ (.int .i64 (x:Int))) b n T Z x R/\Below B w (w.setCell ⟨b,10,none⟩ (.int .i64 (x:Int)))/\KbSame w (w.setCell ⟨b,10,none⟩ (.int .i64 (x:Int))) Z:=by
 obtain⟨bo,bc,ba,vk,vw,kb,S,h1,⟨rfl,hrc,hkz⟩,h3⟩:=h;obtain⟨_,_,_,_,_,_,_,_,_,_,d10⟩:=h1.obj.cells;refine⟨d10,h1.obj.frozen 10 (by omega),fun x=>?_⟩;have t:Touch (·=b) w (w.setCell ⟨b,10,none⟩ (.int .i64 (x:Int))):=Zae (Touch.refl _ _);have hks:KbSame w (w.setCell ⟨b,10,none⟩ (.int .i64 (x:Int))) (kb++Z):=fun g hg=>t.block g (h1.kap g hg).1 (h1.kap g hg).2.1
 have h4:=h1.own t (h1.obj.set10 x) rfl rfl rfl rfl;refine⟨⟨bo,bc,ba,vk,vw,kb,_,h4,⟨rfl,hrc,hkz⟩,?_⟩,(Below.refl B w).setCell (p:=⟨b,10,none⟩) h1.base.1 _,hks.part⟩;rcases h3 with h3|⟨K,k1,k2,k3,hd⟩
 ·exact Or.inl h3
 ·refine Or.inr ⟨K,k1,k2.same (fun g hg=>hks g (List.mem_append_left _ hg)),k3,?_⟩;rcases hd with⟨ps,p,A,m,hs,hsz⟩|⟨m,hN,hmd⟩
  ·exact Or.inl ⟨ps,p,A,m,⟨hs.stk,hs.made,hs.perm,hs.goal,hs.rem,hs.fits,hs.top,hs.left⟩,hsz⟩
  ·exact Or.inr ⟨m,⟨hN.stk,hN.zero,hN.ord,hN.num,hN.made,hN.rem,hN.left⟩,hmd⟩
def StepSP (B:Nat) (w w':World) (b n:Nat) (T:List UInt8) (Z:List Nat) (st R g:Nat) (e:Ending):Prop:=
 e=.returned (.int .i64 (g:Int))/\SoSt B w' b n T Z (st+g) (R-g)/\Below B w w'/\KbSame w w' Z
theorem ZpW (T:List UInt8) (w:World) (st R k:Nat) (h:SoSt B w b n T Z st R) (hT:T.length=n) (h0:0<n\/R=0) (hn:n<=20000) (hR:R<=800000) (hst:st<=1000000) (hk:k<=9223372036854775807) (hb:B<=w.heap.size) :
  Calls Tryz.prog 127 #[.pointer (some ⟨b,0,none⟩),.int .i64 (k:Int)] w fun e w'=>StepSP B w w' b n T Z st R (min k R) e:=by
 have H:=zh h;have HT:=zh hT;have HB0:Hid (Below B w w):=zh (Below.refl _ _);clear h hT;go_enter Tryz.func127,Tryz.ntmps127;go_wp2_with fail
 go_loopw [5] (fun vg wr=>∃(j:Nat),vg=.int .i64 (j:Int)/\j<=k/\j<=R/\SoSt B wr b n T Z st (R-j)/\Below B w wr/\KbSame w wr Z) (fun vg _=>R-(intOf vg).toNat)
 case atStart=>exact⟨0,rfl,by omega,by omega,H.out,HB0.out,KbSame.refl _ _⟩
 case round=>
  obtain⟨j,rfl,hjk,hjR,hS,hB,hZ⟩:=hrel;have HS:=zh hS;have HB:=zh hB;have HZ:=zh hZ;have HD:=zh (hS.done HT.out);clear hS hB hZ;by_cases hjl:j<k
  ·have hji:(j:Int)<(k:Int):=by omega
   by_cases hd:R-j=0
   ·have e:(R-j==0)=true:=by rw [beq_iff_eq];exact hd
    rw [e] at HD;have HJM:Hid (min k R=j):=zh (by omega);obtain⟨d10,f10,hset⟩:=HS.out.count
    have HF:Hid (∀x:Nat,x=st+j->StepSP B w (wr.setCell ⟨b,10,none⟩ (.int .i64 (x:Int))) b n T Z st R (min k R) (.returned (.int .i64 (j:Int)))):=zh (fun x hx=>by
     subst hx;rw [HJM.out];obtain⟨h1,h2,h3⟩:=hset (st+j);exact⟨rfl,h1,HB.out.trans h2,HZ.out.trans h3⟩)
    obtain⟨sj,hsj⟩:∃sj,st+j=sj:=⟨_,rfl⟩
    have hsji:(st:Int)+(j:Int)=(sj:Int):=by omega
    have hsjw:IntKind.i64.wrap (sj:Int)=(sj:Int):=IntWalk.i64_in _ (by omega);have HR:=zh (HF.out sj hsj.symm);clear HF hset hsj;go_wp2_with fail;refine HD.out.mono ?_;rintro e w2 ⟨rfl,rfl⟩;go_wp2_with fail;go_ret;exact HR.out
   ·have e:(R-j==0)=false:=by rw [beq_eq_false_iff_ne];exact hd
    rw [e] at HD;obtain⟨k2,hk2⟩:∃k2,k-j=k2:=⟨_,rfl⟩
    have hk2i:(k:Int)-(j:Int)=(k2:Int):=by omega
    have hk2w:IntKind.i64.wrap (k2:Int)=(k2:Int):=IntWalk.i64_in _ (by omega);have HC:=zh (HS.out.someSteps (k:=k2) HT.out (by omega) hn (by omega) (by omega) (by omega) (by omega) (Nat.le_trans hb HB.out.size));go_wp2_with fail;refine HD.out.mono ?_;rintro e w2 ⟨rfl,rfl⟩;go_wp2_with fail;refine HC.out.mono ?_;rintro e w3 ⟨g,rfl,⟨g1,g2,g3⟩,hS3,hB3,hZ3⟩;have HS3:Hid (SoSt B w3 b n T Z st (R-(j+g))):=zh (by rw [show R-(j+g)=R-j-g by omega];exact hS3);have HB3:=zh (HB.out.trans hB3);have HZ3:=zh (HZ.out.trans hZ3);obtain⟨jg,hjg⟩:∃jg,j+g=jg:=⟨_,rfl⟩
    have hjgi:(j:Int)+(g:Int)=(jg:Int):=by omega
    have hjgw:IntKind.i64.wrap (jg:Int)=(jg:Int):=IntWalk.i64_in _ (by omega);have hjgb:jg<=k/\jg<=R/\j<jg:=by omega
    rw [hjg] at HS3;clear hS3 hB3 hZ3 hjg;go_wp2_with fail;go_roundw
    case rel=>exact⟨jg,rfl,hjgb.1,hjgb.2.1,HS3.out,HB3.out,HZ3.out⟩
    case measure=>simp [intOf];omega
  ·have hji:¬(j:Int)<(k:Int):=by omega
   have HJM:Hid (min k R=j):=zh (by omega);obtain⟨d10,f10,hset⟩:=HS.out.count
   have HF:Hid (∀x:Nat,x=st+j->StepSP B w (wr.setCell ⟨b,10,none⟩ (.int .i64 (x:Int))) b n T Z st R (min k R) (.returned (.int .i64 (j:Int)))):=zh (fun x hx=>by
    subst hx;rw [HJM.out];obtain⟨h1,h2,h3⟩:=hset (st+j);exact⟨rfl,h1,HB.out.trans h2,HZ.out.trans h3⟩)
   obtain⟨sj,hsj⟩:∃sj,st+j=sj:=⟨_,rfl⟩
   have hsji:(st:Int)+(j:Int)=(sj:Int):=by omega
   have hsjw:IntKind.i64.wrap (sj:Int)=(sj:Int):=IntWalk.i64_in _ (by omega);have HR:=zh (HF.out sj hsj.symm);clear HF hset hsj;go_wp2_with fail;go_ret;exact HR.out
end
end
section
open Go.RowKit BwtM SrtM PkM
def StepsOf (T:List UInt8) (R:Nat):Prop:=(T.length<2/\R=0)\/(2<=T.length/\∃m,Rem T 0 m/\R=each T.length*(m+1))
theorem StepsOf.le {T:List UInt8} {R b:Nat} (h:StepsOf T R) (hb:T.length<=2^b):R<=T.length*(4+3*b)*(b+2):=by
 rcases h with⟨h1,rfl⟩|⟨h1,m,h2,rfl⟩
 ·exact Nat.zero_le _
 ·obtain⟨k,hk,hr⟩:=ZmY T b hb;rw [h2.one hr];exact Zrt (by omega) hb hk
def zeroS (n j:Nat):SS:={ ord:=List.range j++List.replicate (n-j) 0,cls:=List.replicate n 0,asd:=List.replicate n 0,reach:=0,ps:=[],laid:=0,first:=0,second:=0,made:=0,steps:=0 }
theorem ZnP {n j:Nat} (h:j<n):(List.range j++List.replicate (n-j) 0).set j j=List.range (j+1)++List.replicate (n-(j+1)) 0:=by
 rw [List.set_append_right _ _ (by rw [List.length_range];exact Nat.le_refl _),List.length_range,Nat.sub_self,show n-j=(n-(j+1))+1 by omega,List.replicate_succ,List.set_cons_zero,List.range_succ,List.append_assoc];rfl
theorem Zkc (w:World) (g n:Nat) (h:w.heap[g]?=some (.cells (madeCells #[.int .i64 0] n) 3)):RowI w g (toI (List.replicate n 0)):=by
 unfold RowI;rw [h];congr 2;apply Array.toList_inj.1;rw [toList_madeCells_one];simp [toI,iv64]
theorem ZjE (w:World) (n bo bc ba:Nat) (h1:w.heap.size<=bo/\bo<=w.heap.size+2) (h2:w.heap.size<=bc/\bc<=w.heap.size+2) (h3:w.heap.size<=ba/\ba<=w.heap.size+2) (h4:bo≠bc/\bo≠ba/\bc≠ba) :
  IsSo w.heap.size (((((w.alloc (.cells (madeCells #[.int .i64 0] n) 3)).alloc (.cells (madeCells #[.int .i64 0] n) 3)).alloc (.cells (madeCells #[.int .i64 0] n) 3)).alloc (.cells #[.slice (some ⟨bo,0,none⟩) n n,.slice (some ⟨bc,0,none⟩) n n,.slice (some ⟨ba,0,none⟩) n n,.int .i64 0,.nilFunc,.slice none 0 0,.int .i64 0,.int .i64 0,.int .i64 0,.int .i64 0,.int .i64 0] 228)).drew) (w.heap.size+1+1+1) bo bc ba .nilFunc (.slice none 0 0) n [] (zeroS n 0)/\Below w.heap.size w (((((w.alloc (.cells (madeCells #[.int .i64 0] n) 3)).alloc (.cells (madeCells #[.int .i64 0] n) 3)).alloc (.cells (madeCells #[.int .i64 0] n) 3)).alloc (.cells #[.slice (some ⟨bo,0,none⟩) n n,.slice (some ⟨bc,0,none⟩) n n,.slice (some ⟨ba,0,none⟩) n n,.int .i64 0,.nilFunc,.slice none 0 0,.int .i64 0,.int .i64 0,.int .i64 0,.int .i64 0,.int .i64 0] 228)).drew):=by
 obtain⟨o1,ho1⟩:∃o1:Obj,o1=.cells (madeCells #[.int .i64 0] n) 3:=⟨_,rfl⟩
 obtain⟨o2,ho2⟩:∃o2:Obj,o2=.cells #[.slice (some ⟨bo,0,none⟩) n n,.slice (some ⟨bc,0,none⟩) n n,.slice (some ⟨ba,0,none⟩) n n,.int .i64 0,.nilFunc,.slice none 0 0,.int .i64 0,.int .i64 0,.int .i64 0,.int .i64 0,.int .i64 0] 228:=⟨_,rfl⟩
 rw [<-ho1,<-ho2];have z1:(w.alloc o1).heap.size=w.heap.size+1:=by simp
 have z2:((w.alloc o1).alloc o1).heap.size=w.heap.size+1+1:=by simp
 have z3:(((w.alloc o1).alloc o1).alloc o1).heap.size=w.heap.size+1+1+1:=by simp
 have z4:((((w.alloc o1).alloc o1).alloc o1).alloc o2).drew.heap.size=w.heap.size+1+1+1+1:=by show((((w.alloc o1).alloc o1).alloc o1).alloc o2).heap.size=_;simp
 have a1:=heap_alloc_new w o1;have a2:=heap_alloc_new (w.alloc o1) o1;have a3:=heap_alloc_new ((w.alloc o1).alloc o1) o1;have a4:=heap_alloc_new (((w.alloc o1).alloc o1).alloc o1) o2;rw [z1] at a2;rw [z2] at a3;rw [z3] at a4
 have r:∀k,w.heap.size<=k->k<=w.heap.size+2->((((w.alloc o1).alloc o1).alloc o1).alloc o2).drew.heap[k]?=some o1:=by
  intro k hk1 hk2;show((((w.alloc o1).alloc o1).alloc o1).alloc o2).heap[k]?=some o1;rw [Zam (by omega)];rcases(by omega:k=w.heap.size\/k=w.heap.size+1\/k=w.heap.size+1+1) with e|e|e
  ·rw [e,Zam (by omega),Zam (by omega),a1]
  ·rw [e,Zam (by omega),a2]
  ·rw [e,a3]
 have hB:Below w.heap.size w ((((w.alloc o1).alloc o1).alloc o1).alloc o2).drew:=by
  have:=((((Below.refl w.heap.size w).alloc (Nat.le_refl _) o1).alloc (by omega) o1).alloc (by omega) o1).alloc (by omega) o2;exact⟨this.os,this.tape,this.output,this.size,this.block⟩
 refine⟨⟨⟨fun k=>([.slice (some ⟨bo,0,none⟩) n n,.slice (some ⟨bc,0,none⟩) n n,.slice (some ⟨ba,0,none⟩) n n,.int .i64 0,.nilFunc,.slice none 0 0,.int .i64 0,.int .i64 0,.int .i64 0,.int .i64 0,.int .i64 0]:List Value).getD k undef,?_,⟨rfl,rfl,rfl,rfl,rfl,rfl,rfl,rfl,rfl,rfl,rfl⟩⟩,?_,?_,?_,?_,?_,?_,SOwnP.nil _ _,⟨by omega,by omega,by omega,h4⟩,fun k hk=>(by cases hk),⟨by omega,h1.1,h2.1,h3.1⟩,fun g hg=>(by cases hg)⟩,hB⟩
 ·show((((w.alloc o1).alloc o1).alloc o1).alloc o2).heap[w.heap.size+1+1+1]?=_;rw [a4,ho2];rfl
 ·show RowI _ bo (toI (List.range 0++List.replicate (n-0) 0));rw [Nat.sub_zero];exact Zkc _ _ _ ((r bo h1.1 h1.2).trans (by rw [ho1]))
 ·exact Zkc _ _ _ ((r bc h2.1 h2.2).trans (by rw [ho1]))
 ·exact Zkc _ _ _ ((r ba h3.1 h3.2).trans (by rw [ho1]))
 ·show(List.range 0++List.replicate (n-0) 0).length=n;simp
 ·show(List.replicate n 0).length=n;simp
 ·show(List.replicate n 0).length=n;simp
theorem Zgc {B:Nat} {wr:World} {b bo bc ba n j:Nat} (h:IsSo B wr b bo bc ba .nilFunc (.slice none 0 0) n [] (zeroS n j)) (hj:j<n) :
  IsSo B (wr.setCell ⟨bo,j,none⟩ (.int .i64 (j:Int))) b bo bc ba .nilFunc (.slice none 0 0) n [] (zeroS n (j+1))/\Below B wr (wr.setCell ⟨bo,j,none⟩ (.int .i64 (j:Int))):=by
 have hr:=(h.ro.cell (i:=j) (by rw [toI_length,h.lo];exact hj)).2.2 (j:Int)
 have e:(toI (zeroS n j).ord).set j (j:Int)=toI (zeroS n (j+1)).ord:=by
  show(toI (List.range j++List.replicate (n-j) 0)).set j (j:Int)=toI (List.range (j+1)++List.replicate (n-(j+1)) 0);rw [<-ZnP hj];unfold toI;rw [List.map_set]
 rw [e] at hr;exact⟨h.inOrd (Zae (Touch.refl _ _)) (zeroS n (j+1)).ord (by show(List.range (j+1)++List.replicate (n-(j+1)) 0).length=n;rw [List.length_append,List.length_range,List.length_replicate];omega) hr,(Below.refl B wr).setCell (p:=⟨bo,j,none⟩) h.base.2.1 _⟩
theorem ZpX (n:Nat):(zeroS n n).ord=List.range n:=by
 show List.range n++List.replicate (n-n) 0=_;rw [Nat.sub_self];simp
def NewP (w w':World) (n:Nat) (T:List UInt8) (e:Ending):Prop:=
 ∃b R,e=.returned (.tuple #[.pointer (some ⟨b,0,none⟩),.int .i64 0])/\SoSt w.heap.size w' b n T [] 0 R/\StepsOf T R/\Below w.heap.size w w'
theorem ZeI {w w':World} {b bo bc ba n:Nat} {T:List UInt8} (hT:T.length=n) (h:IsSo w.heap.size w' b bo bc ba .nilFunc (.slice none 0 0) n [] (zeroS n n)) (hn:n<2) (hB:Below w.heap.size w w'):NewP w w' n T (.returned (.tuple #[.pointer (some ⟨b,0,none⟩),.int .i64 0])):=by
 refine⟨b,0,rfl,⟨bo,bc,ba,_,_,[],_,h,⟨rfl,Nat.zero_le _,fun g hg=>(by cases hg)⟩,Or.inl ⟨rfl,?_,rfl⟩⟩,Or.inl ⟨by omega,rfl⟩,hB⟩;rw [ZpX,<-hT];refine⟨List.Perm.refl _,?_⟩;rcases(by omega:T.length=0\/T.length=1) with e|e
 ·rw [e];exact List.Pairwise.nil
 ·rw [e];exact List.pairwise_singleton _ _
theorem ZhC {w w5 w':World} {b bo bc ba n g:Nat} {s:ByteArray} {vw:Value} (hT:s.size=n) (hn:2<=n) (hn2:n<=900000) (ht:Txt w5 g s) (hk:KbSame w5 w' [g])
  (h:IsSo w.heap.size w' b bo bc ba (.func (.func 189) #[] #[.pointer (some ⟨g,0,none⟩)]) vw n [g] (passSS (zeroS n n) 0 [⟨0,n,false⟩])) (hB:Below w.heap.size w w'):NewP w w' n s.data.toList (.returned (.tuple #[.pointer (some ⟨b,0,none⟩),.int .i64 0])):=by
 have hl:s.data.toList.length=n:=hT;obtain⟨m,hm,hr⟩:=ZmY s.data.toList 20 (by rw [hl];omega);refine⟨b,each n*(m+1),rfl,⟨bo,bc,ba,_,vw,[g],_,h,⟨rfl,Nat.zero_le _,fun g hg hz=>(by cases hz)⟩,Or.inr ⟨bt s.data.toList,KeyH.first _,(ZpR s w5 g bc n _ ht (by omega) hT.symm).same hk,fun i _=>?_,Or.inl ⟨[],⟨0,n,false⟩,List.range n,m,?_,fun e=>by cases e⟩⟩⟩,Or.inr ⟨by omega,m,hr,by rw [hl]⟩,hB⟩
 ·have:=Ztl s.data.toList i;omega
 ·have:=Srt.start s.data.toList (S:=passSS (zeroS n n) 0 [⟨0,n,false⟩]) (m:=m) (by rw [hl];rfl) ⟨rfl,rfl,rfl⟩ rfl rfl (by rw [hl];exact ZpX n) hr;rw [hl] at this;exact this
theorem ZrB (s:ByteArray) (n:Nat) (w:World) (hn:s.size=n) (hs:n<=900000):Calls Tryz.prog 125 #[.string s] w fun e w'=>NewP w w' n s.data.toList e:=by
 have h1:¬(n:Int)>900000:=by omega
 have hmk:=ZbS n (by omega);have HN:=zh hn;go_enter Tryz.func125,Tryz.ntmps125;go_wp2_with fail
 go_region
 ·have HI0:=zh (ZjE w n (w.heap.size) (w.heap.size+1) (w.heap.size+1+1) (by omega) (by omega) (by omega) (by omega));generalize ((((w.alloc (.cells (madeCells #[.int .i64 0] n) 3)).alloc (.cells (madeCells #[.int .i64 0] n) 3)).alloc (.cells (madeCells #[.int .i64 0] n) 3)).alloc (.cells #[.slice (some ⟨w.heap.size,0,none⟩) n n,.slice (some ⟨w.heap.size+1,0,none⟩) n n,.slice (some ⟨w.heap.size+1+1,0,none⟩) n n,.int .i64 0,.nilFunc,.slice none 0 0,.int .i64 0,.int .i64 0,.int .i64 0,.int .i64 0,.int .i64 0] 228)).drew=w4 at *;obtain⟨d0,_⟩:=HI0.out.1.obj.cells;clear hmk;go_wp2_with fail
  go_loopw [25,6] (fun vg _ wr=>∃(j:Nat),vg=.int .i64 (j:Int)/\j<=n/\IsSo w.heap.size wr (w.heap.size+1+1+1) (w.heap.size) (w.heap.size+1) (w.heap.size+1+1) .nilFunc (.slice none 0 0) n [] (zeroS n j)/\Below w.heap.size w wr) (fun vg _ _=>n-(intOf vg).toNat)
  case atStart=>exact⟨0,rfl,Nat.zero_le _,HI0.out.1,HI0.out.2⟩
  case round=>
   clear d0 HI0;obtain⟨j,rfl,hj,hI,hB⟩:=hrel;have HI:=zh hI;have HB:=zh hB;obtain⟨d0,_⟩:=hI.obj.cells;clear hI hB;by_cases hjn:j<n
   ·have hji:(j:Int)<(n:Int):=by omega
    have cO:=(HI.out.ro.cell (i:=j) (by rw [toI_length,HI.out.lo];exact hjn)).1;have fO:=(HI.out.ro.cell (i:=j) (by rw [toI_length,HI.out.lo];exact hjn)).2.1;have HF:=zh (Zgc HI.out hjn);have HB2:=zh (HB.out.trans HF.out.2);go_wp2_with fail;go_roundw
    case rel=>exact⟨j+1,by go_num,by omega,HF.out.1,HB2.out⟩
    case measure=>simp [intOf];omega
   ·have hji:¬(j:Int)<(n:Int):=by omega
    have hjE:j=n:=by omega
    by_cases hn2:n<2
    ·have h2i:¬(n:Int)>=2:=by omega
     have HR:Hid (NewP w wr n s.data.toList (.returned (.tuple #[.pointer (some ⟨w.heap.size+1+1+1,0,none⟩),.int .i64 0]))):=zh (ZeI HN.out (hjE▸HI.out) hn2 HB.out);go_wp2_with fail;go_ret2;exact HR.out
    ·have h2i:(n:Int)>=2:=by omega
     go_wp2_with fail;refine(ZdK s wr).mono ?_;rintro e w5 ⟨rfl,hT,hB5,hZ5⟩;have HT5:=zh hT;have HB5:=zh (HB.out.trans (hB5.mono HB.out.size))
     have H5:=zh ((HI.out.below hB5).keyed [wr.heap.size] (fun x hx=>by
      rw [List.mem_singleton] at hx;subst hx;have l1:=HI.out.obj.lt;have l2:=HI.out.ro.lt;have l3:=HI.out.rc.lt;have l4:=HI.out.ra.lt;exact⟨by omega,by omega,by omega,by omega,by omega,fun e=>by cases e⟩))
     have HPS:Hid ((zeroS n j).ps=[]):=zh rfl;have HLT:Hid (w.heap.size<=w5.heap.size):=zh HB5.out.size;clear hT hB5 hZ5;go_wp2_with fail;refine(Zdt w5 0 _ _ H5.out HPS.out HLT.out (by omega)).mono ?_;rintro e w6 ⟨rfl,vw6,hI6,hB6,hK6⟩;have HR:Hid (NewP w w6 n s.data.toList (.returned (.tuple #[.pointer (some ⟨w.heap.size+1+1+1,0,none⟩),.int .i64 0]))):=zh (ZhC HN.out (by omega) hs HT5.out hK6 (hjE▸hI6) (HB5.out.trans hB6));clear hI6 hB6 hK6;go_wp2_with fail;go_ret2;exact HR.out
 ·have HI0:=zh (ZjE w n (w.heap.size) (w.heap.size+1+1) (w.heap.size+1) (by omega) (by omega) (by omega) (by omega));generalize ((((w.alloc (.cells (madeCells #[.int .i64 0] n) 3)).alloc (.cells (madeCells #[.int .i64 0] n) 3)).alloc (.cells (madeCells #[.int .i64 0] n) 3)).alloc (.cells #[.slice (some ⟨w.heap.size,0,none⟩) n n,.slice (some ⟨w.heap.size+1+1,0,none⟩) n n,.slice (some ⟨w.heap.size+1,0,none⟩) n n,.int .i64 0,.nilFunc,.slice none 0 0,.int .i64 0,.int .i64 0,.int .i64 0,.int .i64 0,.int .i64 0] 228)).drew=w4 at *;obtain⟨d0,_⟩:=HI0.out.1.obj.cells;clear hmk;go_wp2_with fail
  go_loopw [25,6] (fun vg _ wr=>∃(j:Nat),vg=.int .i64 (j:Int)/\j<=n/\IsSo w.heap.size wr (w.heap.size+1+1+1) (w.heap.size) (w.heap.size+1+1) (w.heap.size+1) .nilFunc (.slice none 0 0) n [] (zeroS n j)/\Below w.heap.size w wr) (fun vg _ _=>n-(intOf vg).toNat)
  case atStart=>exact⟨0,rfl,Nat.zero_le _,HI0.out.1,HI0.out.2⟩
  case round=>
   clear d0 HI0;obtain⟨j,rfl,hj,hI,hB⟩:=hrel;have HI:=zh hI;have HB:=zh hB;obtain⟨d0,_⟩:=hI.obj.cells;clear hI hB;by_cases hjn:j<n
   ·have hji:(j:Int)<(n:Int):=by omega
    have cO:=(HI.out.ro.cell (i:=j) (by rw [toI_length,HI.out.lo];exact hjn)).1;have fO:=(HI.out.ro.cell (i:=j) (by rw [toI_length,HI.out.lo];exact hjn)).2.1;have HF:=zh (Zgc HI.out hjn);have HB2:=zh (HB.out.trans HF.out.2);go_wp2_with fail;go_roundw
    case rel=>exact⟨j+1,by go_num,by omega,HF.out.1,HB2.out⟩
    case measure=>simp [intOf];omega
   ·have hji:¬(j:Int)<(n:Int):=by omega
    have hjE:j=n:=by omega
    by_cases hn2:n<2
    ·have h2i:¬(n:Int)>=2:=by omega
     have HR:Hid (NewP w wr n s.data.toList (.returned (.tuple #[.pointer (some ⟨w.heap.size+1+1+1,0,none⟩),.int .i64 0]))):=zh (ZeI HN.out (hjE▸HI.out) hn2 HB.out);go_wp2_with fail;go_ret2;exact HR.out
    ·have h2i:(n:Int)>=2:=by omega
     go_wp2_with fail;refine(ZdK s wr).mono ?_;rintro e w5 ⟨rfl,hT,hB5,hZ5⟩;have HT5:=zh hT;have HB5:=zh (HB.out.trans (hB5.mono HB.out.size))
     have H5:=zh ((HI.out.below hB5).keyed [wr.heap.size] (fun x hx=>by
      rw [List.mem_singleton] at hx;subst hx;have l1:=HI.out.obj.lt;have l2:=HI.out.ro.lt;have l3:=HI.out.rc.lt;have l4:=HI.out.ra.lt;exact⟨by omega,by omega,by omega,by omega,by omega,fun e=>by cases e⟩))
     have HPS:Hid ((zeroS n j).ps=[]):=zh rfl;have HLT:Hid (w.heap.size<=w5.heap.size):=zh HB5.out.size;clear hT hB5 hZ5;go_wp2_with fail;refine(Zdt w5 0 _ _ H5.out HPS.out HLT.out (by omega)).mono ?_;rintro e w6 ⟨rfl,vw6,hI6,hB6,hK6⟩;have HR:Hid (NewP w w6 n s.data.toList (.returned (.tuple #[.pointer (some ⟨w.heap.size+1+1+1,0,none⟩),.int .i64 0]))):=zh (ZhC HN.out (by omega) hs HT5.out hK6 (hjE▸hI6) (HB5.out.trans hB6));clear hI6 hB6 hK6;go_wp2_with fail;go_ret2;exact HR.out
 ·have HI0:=zh (ZjE w n (w.heap.size+1) (w.heap.size) (w.heap.size+1+1) (by omega) (by omega) (by omega) (by omega));generalize ((((w.alloc (.cells (madeCells #[.int .i64 0] n) 3)).alloc (.cells (madeCells #[.int .i64 0] n) 3)).alloc (.cells (madeCells #[.int .i64 0] n) 3)).alloc (.cells #[.slice (some ⟨w.heap.size+1,0,none⟩) n n,.slice (some ⟨w.heap.size,0,none⟩) n n,.slice (some ⟨w.heap.size+1+1,0,none⟩) n n,.int .i64 0,.nilFunc,.slice none 0 0,.int .i64 0,.int .i64 0,.int .i64 0,.int .i64 0,.int .i64 0] 228)).drew=w4 at *;obtain⟨d0,_⟩:=HI0.out.1.obj.cells;clear hmk;go_wp2_with fail
  go_loopw [25,6] (fun vg _ wr=>∃(j:Nat),vg=.int .i64 (j:Int)/\j<=n/\IsSo w.heap.size wr (w.heap.size+1+1+1) (w.heap.size+1) (w.heap.size) (w.heap.size+1+1) .nilFunc (.slice none 0 0) n [] (zeroS n j)/\Below w.heap.size w wr) (fun vg _ _=>n-(intOf vg).toNat)
  case atStart=>exact⟨0,rfl,Nat.zero_le _,HI0.out.1,HI0.out.2⟩
  case round=>
   clear d0 HI0;obtain⟨j,rfl,hj,hI,hB⟩:=hrel;have HI:=zh hI;have HB:=zh hB;obtain⟨d0,_⟩:=hI.obj.cells;clear hI hB;by_cases hjn:j<n
   ·have hji:(j:Int)<(n:Int):=by omega
    have cO:=(HI.out.ro.cell (i:=j) (by rw [toI_length,HI.out.lo];exact hjn)).1;have fO:=(HI.out.ro.cell (i:=j) (by rw [toI_length,HI.out.lo];exact hjn)).2.1;have HF:=zh (Zgc HI.out hjn);have HB2:=zh (HB.out.trans HF.out.2);go_wp2_with fail;go_roundw
    case rel=>exact⟨j+1,by go_num,by omega,HF.out.1,HB2.out⟩
    case measure=>simp [intOf];omega
   ·have hji:¬(j:Int)<(n:Int):=by omega
    have hjE:j=n:=by omega
    by_cases hn2:n<2
    ·have h2i:¬(n:Int)>=2:=by omega
     have HR:Hid (NewP w wr n s.data.toList (.returned (.tuple #[.pointer (some ⟨w.heap.size+1+1+1,0,none⟩),.int .i64 0]))):=zh (ZeI HN.out (hjE▸HI.out) hn2 HB.out);go_wp2_with fail;go_ret2;exact HR.out
    ·have h2i:(n:Int)>=2:=by omega
     go_wp2_with fail;refine(ZdK s wr).mono ?_;rintro e w5 ⟨rfl,hT,hB5,hZ5⟩;have HT5:=zh hT;have HB5:=zh (HB.out.trans (hB5.mono HB.out.size))
     have H5:=zh ((HI.out.below hB5).keyed [wr.heap.size] (fun x hx=>by
      rw [List.mem_singleton] at hx;subst hx;have l1:=HI.out.obj.lt;have l2:=HI.out.ro.lt;have l3:=HI.out.rc.lt;have l4:=HI.out.ra.lt;exact⟨by omega,by omega,by omega,by omega,by omega,fun e=>by cases e⟩))
     have HPS:Hid ((zeroS n j).ps=[]):=zh rfl;have HLT:Hid (w.heap.size<=w5.heap.size):=zh HB5.out.size;clear hT hB5 hZ5;go_wp2_with fail;refine(Zdt w5 0 _ _ H5.out HPS.out HLT.out (by omega)).mono ?_;rintro e w6 ⟨rfl,vw6,hI6,hB6,hK6⟩;have HR:Hid (NewP w w6 n s.data.toList (.returned (.tuple #[.pointer (some ⟨w.heap.size+1+1+1,0,none⟩),.int .i64 0]))):=zh (ZhC HN.out (by omega) hs HT5.out hK6 (hjE▸hI6) (HB5.out.trans hB6));clear hI6 hB6 hK6;go_wp2_with fail;go_ret2;exact HR.out
 ·have HI0:=zh (ZjE w n (w.heap.size+1+1) (w.heap.size) (w.heap.size+1) (by omega) (by omega) (by omega) (by omega));generalize ((((w.alloc (.cells (madeCells #[.int .i64 0] n) 3)).alloc (.cells (madeCells #[.int .i64 0] n) 3)).alloc (.cells (madeCells #[.int .i64 0] n) 3)).alloc (.cells #[.slice (some ⟨w.heap.size+1+1,0,none⟩) n n,.slice (some ⟨w.heap.size,0,none⟩) n n,.slice (some ⟨w.heap.size+1,0,none⟩) n n,.int .i64 0,.nilFunc,.slice none 0 0,.int .i64 0,.int .i64 0,.int .i64 0,.int .i64 0,.int .i64 0] 228)).drew=w4 at *;obtain⟨d0,_⟩:=HI0.out.1.obj.cells;clear hmk;go_wp2_with fail
  go_loopw [25,6] (fun vg _ wr=>∃(j:Nat),vg=.int .i64 (j:Int)/\j<=n/\IsSo w.heap.size wr (w.heap.size+1+1+1) (w.heap.size+1+1) (w.heap.size) (w.heap.size+1) .nilFunc (.slice none 0 0) n [] (zeroS n j)/\Below w.heap.size w wr) (fun vg _ _=>n-(intOf vg).toNat)
  case atStart=>exact⟨0,rfl,Nat.zero_le _,HI0.out.1,HI0.out.2⟩
  case round=>
   clear d0 HI0;obtain⟨j,rfl,hj,hI,hB⟩:=hrel;have HI:=zh hI;have HB:=zh hB;obtain⟨d0,_⟩:=hI.obj.cells;clear hI hB;by_cases hjn:j<n
   ·have hji:(j:Int)<(n:Int):=by omega
    have cO:=(HI.out.ro.cell (i:=j) (by rw [toI_length,HI.out.lo];exact hjn)).1;have fO:=(HI.out.ro.cell (i:=j) (by rw [toI_length,HI.out.lo];exact hjn)).2.1;have HF:=zh (Zgc HI.out hjn);have HB2:=zh (HB.out.trans HF.out.2);go_wp2_with fail;go_roundw
    case rel=>exact⟨j+1,by go_num,by omega,HF.out.1,HB2.out⟩
    case measure=>simp [intOf];omega
   ·have hji:¬(j:Int)<(n:Int):=by omega
    have hjE:j=n:=by omega
    by_cases hn2:n<2
    ·have h2i:¬(n:Int)>=2:=by omega
     have HR:Hid (NewP w wr n s.data.toList (.returned (.tuple #[.pointer (some ⟨w.heap.size+1+1+1,0,none⟩),.int .i64 0]))):=zh (ZeI HN.out (hjE▸HI.out) hn2 HB.out);go_wp2_with fail;go_ret2;exact HR.out
    ·have h2i:(n:Int)>=2:=by omega
     go_wp2_with fail;refine(ZdK s wr).mono ?_;rintro e w5 ⟨rfl,hT,hB5,hZ5⟩;have HT5:=zh hT;have HB5:=zh (HB.out.trans (hB5.mono HB.out.size))
     have H5:=zh ((HI.out.below hB5).keyed [wr.heap.size] (fun x hx=>by
      rw [List.mem_singleton] at hx;subst hx;have l1:=HI.out.obj.lt;have l2:=HI.out.ro.lt;have l3:=HI.out.rc.lt;have l4:=HI.out.ra.lt;exact⟨by omega,by omega,by omega,by omega,by omega,fun e=>by cases e⟩))
     have HPS:Hid ((zeroS n j).ps=[]):=zh rfl;have HLT:Hid (w.heap.size<=w5.heap.size):=zh HB5.out.size;clear hT hB5 hZ5;go_wp2_with fail;refine(Zdt w5 0 _ _ H5.out HPS.out HLT.out (by omega)).mono ?_;rintro e w6 ⟨rfl,vw6,hI6,hB6,hK6⟩;have HR:Hid (NewP w w6 n s.data.toList (.returned (.tuple #[.pointer (some ⟨w.heap.size+1+1+1,0,none⟩),.int .i64 0]))):=zh (ZhC HN.out (by omega) hs HT5.out hK6 (hjE▸hI6) (HB5.out.trans hB6));clear hI6 hB6 hK6;go_wp2_with fail;go_ret2;exact HR.out
 ·have HI0:=zh (ZjE w n (w.heap.size+1) (w.heap.size+1+1) (w.heap.size) (by omega) (by omega) (by omega) (by omega));generalize ((((w.alloc (.cells (madeCells #[.int .i64 0] n) 3)).alloc (.cells (madeCells #[.int .i64 0] n) 3)).alloc (.cells (madeCells #[.int .i64 0] n) 3)).alloc (.cells #[.slice (some ⟨w.heap.size+1,0,none⟩) n n,.slice (some ⟨w.heap.size+1+1,0,none⟩) n n,.slice (some ⟨w.heap.size,0,none⟩) n n,.int .i64 0,.nilFunc,.slice none 0 0,.int .i64 0,.int .i64 0,.int .i64 0,.int .i64 0,.int .i64 0] 228)).drew=w4 at *;obtain⟨d0,_⟩:=HI0.out.1.obj.cells;clear hmk;go_wp2_with fail
  go_loopw [25,6] (fun vg _ wr=>∃(j:Nat),vg=.int .i64 (j:Int)/\j<=n/\IsSo w.heap.size wr (w.heap.size+1+1+1) (w.heap.size+1) (w.heap.size+1+1) (w.heap.size) .nilFunc (.slice none 0 0) n [] (zeroS n j)/\Below w.heap.size w wr) (fun vg _ _=>n-(intOf vg).toNat)
  case atStart=>exact⟨0,rfl,Nat.zero_le _,HI0.out.1,HI0.out.2⟩
  case round=>
   clear d0 HI0;obtain⟨j,rfl,hj,hI,hB⟩:=hrel;have HI:=zh hI;have HB:=zh hB;obtain⟨d0,_⟩:=hI.obj.cells;clear hI hB;by_cases hjn:j<n
   ·have hji:(j:Int)<(n:Int):=by omega
    have cO:=(HI.out.ro.cell (i:=j) (by rw [toI_length,HI.out.lo];exact hjn)).1;have fO:=(HI.out.ro.cell (i:=j) (by rw [toI_length,HI.out.lo];exact hjn)).2.1;have HF:=zh (Zgc HI.out hjn);have HB2:=zh (HB.out.trans HF.out.2);go_wp2_with fail;go_roundw
    case rel=>exact⟨j+1,by go_num,by omega,HF.out.1,HB2.out⟩
    case measure=>simp [intOf];omega
   ·have hji:¬(j:Int)<(n:Int):=by omega
    have hjE:j=n:=by omega
    by_cases hn2:n<2
    ·have h2i:¬(n:Int)>=2:=by omega
     have HR:Hid (NewP w wr n s.data.toList (.returned (.tuple #[.pointer (some ⟨w.heap.size+1+1+1,0,none⟩),.int .i64 0]))):=zh (ZeI HN.out (hjE▸HI.out) hn2 HB.out);go_wp2_with fail;go_ret2;exact HR.out
    ·have h2i:(n:Int)>=2:=by omega
     go_wp2_with fail;refine(ZdK s wr).mono ?_;rintro e w5 ⟨rfl,hT,hB5,hZ5⟩;have HT5:=zh hT;have HB5:=zh (HB.out.trans (hB5.mono HB.out.size))
     have H5:=zh ((HI.out.below hB5).keyed [wr.heap.size] (fun x hx=>by
      rw [List.mem_singleton] at hx;subst hx;have l1:=HI.out.obj.lt;have l2:=HI.out.ro.lt;have l3:=HI.out.rc.lt;have l4:=HI.out.ra.lt;exact⟨by omega,by omega,by omega,by omega,by omega,fun e=>by cases e⟩))
     have HPS:Hid ((zeroS n j).ps=[]):=zh rfl;have HLT:Hid (w.heap.size<=w5.heap.size):=zh HB5.out.size;clear hT hB5 hZ5;go_wp2_with fail;refine(Zdt w5 0 _ _ H5.out HPS.out HLT.out (by omega)).mono ?_;rintro e w6 ⟨rfl,vw6,hI6,hB6,hK6⟩;have HR:Hid (NewP w w6 n s.data.toList (.returned (.tuple #[.pointer (some ⟨w.heap.size+1+1+1,0,none⟩),.int .i64 0]))):=zh (ZhC HN.out (by omega) hs HT5.out hK6 (hjE▸hI6) (HB5.out.trans hB6));clear hI6 hB6 hK6;go_wp2_with fail;go_ret2;exact HR.out
 ·have HI0:=zh (ZjE w n (w.heap.size+1+1) (w.heap.size+1) (w.heap.size) (by omega) (by omega) (by omega) (by omega));generalize ((((w.alloc (.cells (madeCells #[.int .i64 0] n) 3)).alloc (.cells (madeCells #[.int .i64 0] n) 3)).alloc (.cells (madeCells #[.int .i64 0] n) 3)).alloc (.cells #[.slice (some ⟨w.heap.size+1+1,0,none⟩) n n,.slice (some ⟨w.heap.size+1,0,none⟩) n n,.slice (some ⟨w.heap.size,0,none⟩) n n,.int .i64 0,.nilFunc,.slice none 0 0,.int .i64 0,.int .i64 0,.int .i64 0,.int .i64 0,.int .i64 0] 228)).drew=w4 at *;obtain⟨d0,_⟩:=HI0.out.1.obj.cells;clear hmk;go_wp2_with fail
  go_loopw [25,6] (fun vg _ wr=>∃(j:Nat),vg=.int .i64 (j:Int)/\j<=n/\IsSo w.heap.size wr (w.heap.size+1+1+1) (w.heap.size+1+1) (w.heap.size+1) (w.heap.size) .nilFunc (.slice none 0 0) n [] (zeroS n j)/\Below w.heap.size w wr) (fun vg _ _=>n-(intOf vg).toNat)
  case atStart=>exact⟨0,rfl,Nat.zero_le _,HI0.out.1,HI0.out.2⟩
  case round=>
   clear d0 HI0;obtain⟨j,rfl,hj,hI,hB⟩:=hrel;have HI:=zh hI;have HB:=zh hB;obtain⟨d0,_⟩:=hI.obj.cells;clear hI hB;by_cases hjn:j<n
   ·have hji:(j:Int)<(n:Int):=by omega
    have cO:=(HI.out.ro.cell (i:=j) (by rw [toI_length,HI.out.lo];exact hjn)).1;have fO:=(HI.out.ro.cell (i:=j) (by rw [toI_length,HI.out.lo];exact hjn)).2.1;have HF:=zh (Zgc HI.out hjn);have HB2:=zh (HB.out.trans HF.out.2);go_wp2_with fail;go_roundw
    case rel=>exact⟨j+1,by go_num,by omega,HF.out.1,HB2.out⟩
    case measure=>simp [intOf];omega
   ·have hji:¬(j:Int)<(n:Int):=by omega
    have hjE:j=n:=by omega
    by_cases hn2:n<2
    ·have h2i:¬(n:Int)>=2:=by omega
     have HR:Hid (NewP w wr n s.data.toList (.returned (.tuple #[.pointer (some ⟨w.heap.size+1+1+1,0,none⟩),.int .i64 0]))):=zh (ZeI HN.out (hjE▸HI.out) hn2 HB.out);go_wp2_with fail;go_ret2;exact HR.out
    ·have h2i:(n:Int)>=2:=by omega
     go_wp2_with fail;refine(ZdK s wr).mono ?_;rintro e w5 ⟨rfl,hT,hB5,hZ5⟩;have HT5:=zh hT;have HB5:=zh (HB.out.trans (hB5.mono HB.out.size))
     have H5:=zh ((HI.out.below hB5).keyed [wr.heap.size] (fun x hx=>by
      rw [List.mem_singleton] at hx;subst hx;have l1:=HI.out.obj.lt;have l2:=HI.out.ro.lt;have l3:=HI.out.rc.lt;have l4:=HI.out.ra.lt;exact⟨by omega,by omega,by omega,by omega,by omega,fun e=>by cases e⟩))
     have HPS:Hid ((zeroS n j).ps=[]):=zh rfl;have HLT:Hid (w.heap.size<=w5.heap.size):=zh HB5.out.size;clear hT hB5 hZ5;go_wp2_with fail;refine(Zdt w5 0 _ _ H5.out HPS.out HLT.out (by omega)).mono ?_;rintro e w6 ⟨rfl,vw6,hI6,hB6,hK6⟩;have HR:Hid (NewP w w6 n s.data.toList (.returned (.tuple #[.pointer (some ⟨w.heap.size+1+1+1,0,none⟩),.int .i64 0]))):=zh (ZhC HN.out (by omega) hs HT5.out hK6 (hjE▸hI6) (HB5.out.trans hB6));clear hI6 hB6 hK6;go_wp2_with fail;go_ret2;exact HR.out
end
section
open Go.RowKit BwtM PkM
theorem ZjF (s:ByteArray) (h:0<s.size):s.toList.isEmpty=false:=by
 rw [ByteArray.toList_eq];have h2:=Zbr s;cases hl:s.data.toList with
 | nil=>rw [hl] at h2;simp at h2;omega
 | cons a t=>rfl
end
section
open Go.RowKit
def OwnY (W:World) (B:Nat) (v:Value) (l:List UInt8):Prop:=W.ownsRow B 5 1 v l.length (l.map u8v)
theorem OwnY.nil (W:World) (B:Nat):OwnY W B (.slice none 0 0) []:=World.ownsRow_nil _ _ _ _
theorem OwnY.slice {W:World} {B:Nat} {v:Value} {l:List UInt8} (h:OwnY W B v l):∃a cap,v=.slice a l.length cap:=Zao h
theorem OwnY.lt {W:World} {B:Nat} {v:Value} {l:List UInt8} (h:OwnY W B v l):∀k,v.ownBlock=some k->B<=k/\k<W.heap.size:=World.ownsRow.lt h
theorem OwnY.same {W W':World} {B:Nat} {v:Value} {l:List UInt8} (h:OwnY W B v l) (he:∀k,v.ownBlock=some k->W'.heap[k]?=W.heap[k]?):OwnY W' B v l:=Zag h he
theorem Zp0:(Tryz.prog.info? 5).map (fun i=>(i.zero,i.size,i.bytes))=some (some (.int .u8 0),1,1):=by kernel_rfl
theorem Zgo {ops:Array Oper} {o:Oper} {a:Act} {K:Act->World->Prop} {Q:Exit->Act->World->Prop} {E:Prop} (W:World) (hg:o.guard=none) (s x:Operand)
  (ho:o.op=.call { callee:=.builtin .append,args:=#[s,x],argTypes:=#[73,73] })
  (B G:Nat) (v:Value) (l:List UInt8) (y:UInt8) (hown:OwnY W B v l) (hs:a.eval s=v) (hx:a.eval x=.slice (some ⟨G,0,none⟩) 1 1) (hG:W.cell? ⟨G,0,none⟩=some (u8v y))
  (hlen:l.length<=1000000) (hb:B<=W.heap.size)
  (h:∀v' w',OwnY w' B v' (l++[y])->Below B W w'->(∀k,k<W.heap.size->v.ownBlock≠some k->w'.heap[k]?=W.heap[k]?)->(∀k,v'.ownBlock=some k->v.ownBlock=some k\/W.heap.size<=k)->K (a.put o.dst v') w') :
  if Region.wanted o (yielded ops a.tmps)=true then Oper.wp Tryz.prog o a W K Q else E:=by
 obtain⟨i0,hi,hz0,hz1,hz2⟩:=info_parts Zp0;refine Zdz hg s x 73 ho B 5 i0 (.int .u8 0) 1 1 Tryz.underlying73 hi hz0 hz1 hz2 rfl (by decide) v l.length (l.map u8v) hs hown ⟨G,0,none⟩ 1 1 [u8v y] hx rfl ?_ ?_ ?_ ?_ hb ?_
 ·intro j u hu;have hj:j<1:=(List.getElem?_eq_some_iff.1 hu).1;obtain rfl:j=0:=by omega
  have e:u8v y=u:=by simpa using hu
  rw [Addr.add_lit,<-e];exact hG
 ·intro u hu;rw [List.mem_singleton] at hu;subst hu;rfl
 ·unfold maxLen;omega
 ·omega
 ·intro v' w' hown' hg' hv;refine h v' w' ?_ (Below.grown (Below.refl B W) hg' hb (fun j hj=>(World.ownsRow.lt hown j hj).1)) (fun k hk hne=>hg'.block k hk (fun e=>hne e.symm)) hv;unfold OwnY;rw [List.length_append,List.map_append];exact hown'
end
section
open Go.ChangeShapes Go.WideShapes Go.RowKit
theorem ZrE {H:Type} {enc:TypeId×Value->H} {P:Program} {w:World} {base:Nat} {sp:Nat->Bool} {held:Bool} {fuel:Nat} {t:TypeId} {k:IntKind} {cs:List Value} {y:DataW H×List MemPlace} {n:Int}
  (ht:P.underlying t=some (.int k)) (h:DataW.trod enc P w base sp held fuel t cs=some y) (hy:y.1=.lit (.int k n)):cs=[.int k n]:=by
 obtain⟨m,rfl,e,_⟩:=DataW.trod_int ht h;rw [e] at hy;simp at hy;rw [hy]
theorem Zmb {H:Type} {enc:TypeId×Value->H} {P:Program} {w:World} {base:Nat} {sp:Nat->Bool} {held:Bool} {fuel n:Nat} {t e:TypeId} {k:IntKind} {cs:List Value} {ps:List MemPlace} {ns:List Int}
  (ht:P.underlying t=some (.array n e)) (he:P.underlying e=some (.int k)) (hc:P.cellsOf e=1)
  (h:DataW.trod enc P w base sp held fuel t cs=some (.agg (ns.map fun x=>.lit (.int k x)),ps)):∀(j:Nat) (x:Int),ns[j]?=some x->cs[j]?=some (.int k x):=by
 intro j x hj;obtain⟨xs,m,hx0,hx,hl,hn,hel⟩:=DataW.trod_array ht h;have hjl:=(List.getElem?_eq_some_iff.1 hj).1;simp only [Prod.mk.injEq,DataW.agg.injEq] at hx
 have hlen:xs.length=ns.length:=by
  have:=congrArg List.length hx.1;simpa using this.symm
 have h1:=hel j (by omega);have hxj:xs[j]?=some (xs[j]'(by omega)):=List.getElem?_eq_getElem _;rw [hxj,hc] at h1
 have h2:=ZrE (n:=x) he h1 (by
  have:=congrArg (fun l=>l[j]?) hx.1;simp only [List.getElem?_map,hj,hxj,Option.map_some,Option.some.injEq] at this;exact this.symm)
 have h3:=congrArg (fun l=>l[0]?) h2;simpa using h3
theorem Zke {W : World} (h : laidMetH Tryz.prog [("baler/rle.sizes", Rows.laid_baler_rle_sizes)] W) : Sizes W := by
 rw [MakeChecks.laidMetH_plain _ _ _ (by kernel_rfl)] at h;obtain⟨ps,⟨g0,t0,cs0,f0,p0,q0,hg0,ht0,hv0,hd0,_,_⟩,_,_⟩:=h;have e0:some g0=some 1:=hg0.symm.trans (by kernel_rfl);obtain rfl:g0=1:=Option.some.inj e0;have e1:some t0=some 261:=ht0.symm.trans (by kernel_rfl);obtain rfl:t0=261:=Option.some.inj e1;have hc:=Zmb (ns:=[0,1,2,3,5]) Tryz.underlying261 Tryz.underlying3 (by kernel_rfl) hd0
 have at_:∀(j:Nat) (x:Int),([0,1,2,3,5]:List Int)[j]?=some x->W.cell? ⟨1,j,none⟩=some (.int .i64 x):=fun j x hj=>by
  rw [World.var?_cell hg0 hv0 j,<-hc j x hj];simp
 exact⟨at_ 0 0 rfl,at_ 1 1 rfl,at_ 2 2 rfl,at_ 3 3 rfl,at_ 4 5 rfl⟩
end
section
open Go.RowKit
end
section
open Go.ChangeShapes Go.WideShapes Go.RowKit
theorem Zmc {H:Type} {enc:TypeId×Value->H} {P:Program} {w:World} {base:Nat} {sp:Nat->Bool} {held:Bool} {fuel:Nat} {t:TypeId} {k:IntKind} {cs:List Value} {y:DataW H×List MemPlace} {n:Int}
  (ht:P.underlying t=some (.int k)) (h:DataW.trod enc P w base sp held fuel t cs=some y) (hy:y.1=.lit (.int k n)):cs=[.int k n]:=by
 obtain⟨m,rfl,e,_⟩:=DataW.trod_int ht h;rw [e] at hy;simp at hy;rw [hy]
theorem Zp8 {H:Type} {enc:TypeId×Value->H} {P:Program} {w:World} {base:Nat} {sp:Nat->Bool} {held:Bool} {fuel n:Nat} {t e:TypeId} {k:IntKind} {cs:List Value} {ps:List MemPlace} {ns:List Int}
  (ht:P.underlying t=some (.array n e)) (he:P.underlying e=some (.int k)) (hc:P.cellsOf e=1) (hct:P.cellsOf t=ns.length)
  (h:DataW.trod enc P w base sp held fuel t cs=some (.agg (ns.map fun x=>.lit (.int k x)),ps)):cs=ns.map fun x=>.int k x:=by
 obtain⟨xs,m,hx0,hx,hl,hn,hel⟩:=DataW.trod_array ht h;simp only [Prod.mk.injEq,DataW.agg.injEq] at hx
 have hlen:xs.length=ns.length:=by
  have:=congrArg List.length hx.1;simpa using this.symm
 apply List.ext_getElem?;intro j;by_cases hj:j<ns.length
 ·have h1:=hel j (by omega);have hxj:xs[j]?=some (xs[j]'(by omega)):=List.getElem?_eq_getElem _;rw [hxj,hc] at h1;have hnj:ns[j]?=some ns[j]:=List.getElem?_eq_getElem hj
  have h2:=Zmc (n:=ns[j]) he h1 (by
   have:=congrArg (fun l=>l[j]?) hx.1;simp only [List.getElem?_map,hnj,hxj,Option.map_some,Option.some.injEq] at this;exact this.symm)
  have h3:=congrArg (fun l=>l[0]?) h2;rw [List.getElem?_map,hnj];simpa using h3
 ·rw [List.getElem?_eq_none (by omega),List.getElem?_eq_none (by simp;omega)]
theorem Zi8 {W : World} (h : laidMetH Tryz.prog [("baler/tables.bounds", Rows.laid_baler_tables_bounds)] W) : Bnds W := by
 rw [MakeChecks.laidMetH_plain _ _ _ (by kernel_rfl)] at h;obtain⟨ps,⟨g0,t0,cs0,f0,p0,q0,hg0,ht0,hv0,hd0,_,_⟩,_,_⟩:=h;have e0:some g0=some 2:=hg0.symm.trans (by kernel_rfl);obtain rfl:g0=2:=Option.some.inj e0;have e1:some t0=some 262:=ht0.symm.trans (by kernel_rfl);obtain rfl:t0=262:=Option.some.inj e1;have hc:=Zp8 (ns:=[200,600,1200,2400]) Tryz.underlying262 Tryz.underlying3 (by kernel_rfl) (by kernel_rfl) hd0;simp only [World.var?,hg0,Option.bind_some] at hv0;split at hv0
 ·rename_i cs t fr hh
  have hcs:cs=Zf9:=by
   have:cs=cs0:=by simpa using hv0
   rw [this];apply Array.toList_inj.1;exact hc
  exact⟨t,fr,by rw [<-hcs];exact hh⟩
 ·cases hv0
end
end Go.Proofs.YtlfpbcadcfaboaaGreatDoor

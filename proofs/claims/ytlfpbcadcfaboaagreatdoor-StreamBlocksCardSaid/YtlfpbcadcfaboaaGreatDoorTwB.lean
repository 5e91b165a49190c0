import Derived.Test.YtlfpbcadcfaboaaGreatDoorTcA
import Derived.Test.YtlfpbcadcfaboaaGreatDoorTcB
import Derived.Test.YtlfpbcadcfaboaaGreatDoorTcC
import Derived.Test.YtlfpbcadcfaboaaGreatDoorTcD
import Derived.Test.YtlfpbcadcfaboaaGreatDoorTcE
import Derived.Test.YtlfpbcadcfaboaaGreatDoorTcF
import Derived.Test.YtlfpbcadcfaboaaGreatDoorTcG
import Derived.Test.YtlfpbcadcfaboaaGreatDoorTcH
import Derived.Test.YtlfpbcadcfaboaaGreatDoorTcI
import Derived.Test.YtlfpbcadcfaboaaGreatDoorTcJ
import Derived.Test.YtlfpbcadcfaboaaGreatDoorTcK
import Derived.Test.YtlfpbcadcfaboaaGreatDoorTcL
import Derived.Test.YtlfpbcadcfaboaaGreatDoorTwA
import Derived.WalkMore
import Derived.BigQuiet
import Derived.WalkKit
import Derived.Deep.RegionLaw
import Derived.Laws.StandIn
import Derived.Laws.CopyRow
import Derived.StillTailTactics
import Derived.BigRegion
import Derived.IntWalk
import Derived.Deep.AppendSrc
import Derived.Deep.Upon
import Derived.Deep.Cut
import Derived.Shelf.Abstract
import Derived.Lib.SliceRun
import Derived.Deep.LoopGhost
import Derived.Laws.BitsAllLaws
import Derived.Deep.RegionHeld3
set_option linter.unusedVariables false
set_option linter.unusedSimpArgs false
set_option maxHeartbeats 8000000
set_option maxRecDepth 100000
namespace Go.Proofs.YtlfpbcadcfaboaaGreatDoor
section
open Go.RowKit ZerM
def room (N:Nat) (s:St):List Int:=s.out++List.replicate (N-s.out.length) 0
theorem Zfa (m:Nat) (hm:m<=17592186044416):∀w:World,Calls Tryz.prog 111 #[.int .i64 (m:Int)] w fun e w'=>∃v,e=.returned v/\OwnI w' w.heap.size v (rowC m)/\Below w.heap.size w w':=by
 induction m using Nat.strongRecOn with
 | _ m ih=>
  intro w;by_cases h0:m=0
  ·subst h0;go_enter Tryz.func111,Tryz.ntmps111;go_wp2_with fail;go_ret;exact⟨_,rfl,by rw [ZdX];exact OwnI.nil _ _,Below.refl _ _⟩
  ·have h0i:((m:Int)==0)=false:=by rw [beq_eq_false_iff_ne];omega
   obtain⟨i,hi⟩:∃i,(m-1) / 2=i:=⟨_,rfl⟩
   have HC:=zh (fun w=>ih i (by omega) (by omega) w);have hil:i<=17592186044416:=by omega
   have hrl:=Zbn i;have q1:IntKind.i64.wrap ((m:Int)-1)=(m:Int)-1:=IntWalk.i64_in _ (by omega);have q5:IntKind.i64.wrap ((m:Int)-2)=(m:Int)-2:=IntWalk.i64_in _ (by omega);have q4:IntKind.i64.wrap (i:Int)=(i:Int):=IntWalk.i64_in _ (by omega);by_cases h1:m % 2=1
   ·have r1:(m:Int).tmod 2=1:=by rw [Int.tmod_eq_emod_of_nonneg (by omega)];omega
    have r2:(m:Int) % 2=1:=by omega
    have q2:((m:Int)-1).tdiv 2=(i:Int):=by rw [Int.tdiv_eq_ediv_of_nonneg (by omega)];omega
    have q3:((m:Int)-1) / 2=(i:Int):=by omega
    have HR:=zh (Zhb m h1);rw [hi] at HR;clear h1 ih;go_enter Tryz.func111,Tryz.ntmps111;go_wp2_with (at_builtin;refine Zaf w rfl _ _ rfl w.heap.size _ [] 0 (OwnI.nil w w.heap.size) rfl rfl (by decide) (Nat.le_refl _) ?_);intro v1 w1 hO1 hB1;have HO1:=zh hO1;have HB1:=zh hB1;clear hO1 hB1;go_wp2_with fail;refine(HC.out w1).mono ?_;rintro e w2 ⟨u,rfl,hO2,hB2⟩;have HO2:=zh hO2;have HO3:=zh (HO1.out.below hB2);have HB2:=zh (HB1.out.trans (hB2.mono HB1.out.size));have hbw:w.heap.size<=w2.heap.size:=HB2.out.size;clear hO2 hB2;go_wp2_with (at_builtin;refine ZaF w2 rfl _ _ rfl w.heap.size _ ([]++[0]) w1.heap.size _ (rowC i) HO3.out HO2.out rfl rfl (by simp;omega) hbw ?_);intro v3 w3 hO3 hB3;have HO4:=zh hO3;have HB3:=zh (HB2.out.trans hB3);clear hO3 hB3;go_wp2_with fail;go_ret;exact⟨_,rfl,by rw [HR.out];exact HO4.out,HB3.out⟩
   ·have r1:((m:Int).tmod 2==1)=false:=by rw [Int.tmod_eq_emod_of_nonneg (by omega),beq_eq_false_iff_ne];omega
    have r2:(m:Int) % 2=0:=by omega
    have q2:((m:Int)-2).tdiv 2=(i:Int):=by rw [Int.tdiv_eq_ediv_of_nonneg (by omega)];omega
    have q3:((m:Int)-2) / 2=(i:Int):=by omega
    have HR:=zh (ZfE m (by omega) (by omega));rw [hi] at HR;clear h1 ih;go_enter Tryz.func111,Tryz.ntmps111;go_wp2_with (at_builtin;refine Zaf w rfl _ _ rfl w.heap.size _ [] 1 (OwnI.nil w w.heap.size) rfl rfl (by decide) (Nat.le_refl _) ?_);intro v1 w1 hO1 hB1;have HO1:=zh hO1;have HB1:=zh hB1;clear hO1 hB1;go_wp2_with fail;refine(HC.out w1).mono ?_;rintro e w2 ⟨u,rfl,hO2,hB2⟩;have HO2:=zh hO2;have HO3:=zh (HO1.out.below hB2);have HB2:=zh (HB1.out.trans (hB2.mono HB1.out.size));have hbw:w.heap.size<=w2.heap.size:=HB2.out.size;clear hO2 hB2;go_wp2_with (at_builtin;refine ZaF w2 rfl _ _ rfl w.heap.size _ ([]++[1]) w1.heap.size _ (rowC i) HO3.out HO2.out rfl rfl (by simp;omega) hbw ?_);intro v3 w3 hO3 hB3;have HO4:=zh hO3;have HB3:=zh (HB2.out.trans hB3);clear hO3 hB3;go_wp2_with fail;go_ret;exact⟨_,rfl,by rw [HR.out];exact HO4.out,HB3.out⟩
theorem Zcv (v:Value) (zs:List Int) (n:Int) (w:World) (hv:IsInts w v zs) (hz:zs.length<=1000000) :
  Calls Tryz.prog 71 #[v,.int .i64 n] w fun e w'=>∃(u:Value) (ys:List Int) (err:Nat),e=.returned (.tuple #[u,.int .i64 (err:Int)])/\IsInts w' u ys/\Below w.heap.size w w'/\ZerM.EncP zs n ys err:=by
 have HV:=zh hv;obtain⟨a,cap,rfl,_⟩:=hv;by_cases hn1:1<=n
 ·by_cases hn2:n<=256
  ·have hn1':¬n<1:=by omega
   have hn2':¬256<n:=by omega
   have HRO:=zh (fun m (hm:m<=17592186044416) w=>Zfa m hm w);go_enter Tryz.func71,Tryz.ntmps71;go_wp2_with fail
   go_loopw [6,7,18] (fun c z i wr=>∃(k:Nat) (u:Value),k<=zs.length/\i=.int .i64 k/\c=u/\z=.int .i64 ((encF (zs.take k)).2:Int)/\OwnI wr w.heap.size u (encF (zs.take k)).1/\Below w.heap.size w wr/\∀j,j<k->0<=zs.getD j 0/\zs.getD j 0<n) (fun _ _ i _=>zs.length-(intOf i).toNat)
   case atStart=>exact⟨0,_,by omega,rfl,rfl,rfl,OwnI.nil _ _,Below.refl _ _,fun j hj=>by omega⟩
   case round=>
    obtain⟨k,u,hk,rfl,rfl,rfl,hO,hB,hA⟩:=hrel;have hle:=Zhy (zs.take k);have htk:(zs.take k).length=k:=by rw [List.length_take];omega
    have HT:=zh (ZfF zs k);have hbw:w.heap.size<=wr.heap.size:=hB.size;have HB:=zh hB;have HA:=zh hA;clear hA;by_cases hlk:k<zs.length
    ·have hki:(k:Int)<(zs.length:Int):=by omega
     have HV2:=zh (HV.out.below HB.out);obtain⟨b1,o1,k1,he1,c1⟩:=HV2.out.cell hlk;simp only [Value.slice.injEq] at he1;obtain⟨rfl,_,rfl⟩:=he1;obtain⟨x,hx⟩:∃x,zs.getD k 0=x:=⟨_,rfl⟩
     have HM:Hid (x∈zs):=zh (by
      rw [<-hx,List.getD_eq_getElem?_getD,List.getElem?_eq_getElem hlk];exact List.getElem_mem hlk)
     rw [hx] at c1;have HT2:=zh (HT.out hlk);rw [hx] at HT2;have HX:=zh hx;clear hx HT hB;obtain⟨A,hA⟩:∃A,(encF (zs.take k)).1=A:=⟨_,rfl⟩
     obtain⟨Z,hZ⟩:∃Z,(encF (zs.take k)).2=Z:=⟨_,rfl⟩
     have hpair:encF (zs.take k)=(A,Z):=by rw [<-hA,<-hZ]
     rw [hpair] at HT2 hle hO;rw [hZ];simp only at hO hle;have HO:=zh hO;clear hO hpair hA hZ;by_cases hxn:x<0
     ·go_wp2_with fail;go_ret2;exact⟨_,[],1,rfl,IsInts.nil _,HB.out,Or.inl ⟨fun h=>by have:=(h.2.2 x HM.out).1;omega,rfl,rfl⟩⟩
     ·by_cases hxm:n<=x
      ·go_wp2_with fail;go_ret2;exact⟨_,[],1,rfl,IsInts.nil _,HB.out,Or.inl ⟨fun h=>by have:=(h.2.2 x HM.out).2;omega,rfl,rfl⟩⟩
      ·have HA2:Hid (∀j,j<k+1->0<=zs.getD j 0/\zs.getD j 0<n):=zh (fun j hj=>by
        by_cases e:j=k
        ·subst e;rw [HX.out];omega
        ·exact HA.out j (by omega))
       by_cases h0:x=0
       ·subst h0;have HT3:Hid (encF (zs.take (k+1))=(A,Z+1)):=zh (by rw [HT2.out];rfl);clear HT2;have hz1:IntKind.i64.wrap ((Z:Int)+1)=(Z:Int)+1:=IntWalk.i64_in _ (by omega);go_wp2_with fail;go_roundw
        case rel=>exact⟨k+1,_,by omega,by go_num,rfl,by rw [HT3.out];rfl,by rw [HT3.out];exact HO.out,HB.out,HA2.out⟩
        case measure=>simp [intOf];omega
       ·have HT3:Hid (encF (zs.take (k+1))=(A++rowC Z++[x+1],0)):=zh (by rw [HT2.out];unfold encS;rw [if_neg h0]);clear HT2;have h0b:(x==0)=false:=by rw [beq_eq_false_iff_ne];exact h0
        have hrl:=Zbn Z;have HC:=zh (HRO.out Z (by omega) wr);have hx1:IntKind.i64.wrap (x+1)=x+1:=IntWalk.i64_in _ (by omega);have hal:A.length+(rowC Z).length<=17592186044416:=by omega
        have hal2:(A++rowC Z).length+1<=17592186044416:=by rw [List.length_append];omega
        go_wp2_with fail;refine HC.out.mono ?_;rintro e w2 ⟨u2,rfl,hO2,hB2⟩;have HO2:=zh hO2;have HO1:=zh (HO.out.below hB2);have HB2:=zh (HB.out.trans (hB2.mono HB.out.size));have hbw2:w.heap.size<=w2.heap.size:=HB2.out.size;clear hO2 hB2 HC;go_wp2_with (at_builtin;refine ZaF w2 rfl _ _ rfl w.heap.size _ A wr.heap.size _ (rowC Z) HO1.out HO2.out rfl rfl hal hbw2 ?_);intro v3 w3 hO3 hB3;have HO3:=zh hO3;have HB3:=zh (HB2.out.trans hB3);have hbw3:w.heap.size<=w3.heap.size:=HB3.out.size;clear hO3 hB3;go_wp2_with (at_builtin;refine Zaf w3 rfl _ _ rfl w.heap.size _ (A++rowC Z) (x+1) HO3.out rfl rfl hal2 hbw3 ?_);intro v4 w4 hO4 hB4;have HO4:=zh hO4;have HB4:=zh (HB3.out.trans hB4);clear hO4 hB4;go_wp2_with fail;go_roundw
        case rel=>exact⟨k+1,_,by omega,by go_num,rfl,by rw [HT3.out];rfl,by rw [HT3.out];simpa only [List.append_assoc] using HO4.out,HB4.out,HA2.out⟩
        case measure=>simp [intOf];omega
    ·obtain rfl:k=zs.length:=by omega
     clear HT hB htk;rw [List.take_of_length_le (Nat.le_refl _)] at hO hle;rw [List.take_of_length_le (Nat.le_refl _)];have hen:enc zs n=(encF zs).1++rowC (encF zs).2++[n+1]:=rfl
     have hok:EncOk zs n:=⟨hn1,hn2,fun p hp=>by
      obtain⟨i,hi,rfl⟩:=List.getElem_of_mem hp;have:=HA.out i hi;rw [List.getD_eq_getElem?_getD,List.getElem?_eq_getElem hi] at this;exact this⟩
     have HOK:=zh hok;have HO:=zh hO;have HEN:=zh hen;clear hO hen hok HA;generalize (encF zs).1=A at *;generalize (encF zs).2=Z at *;have hrl:=Zbn Z;have HC:=zh (HRO.out Z (by omega) wr);have hx1:IntKind.i64.wrap (n+1)=n+1:=IntWalk.i64_in _ (by omega);have hal:A.length+(rowC Z).length<=17592186044416:=by omega
     have hal2:(A++rowC Z).length+1<=17592186044416:=by rw [List.length_append];omega
     go_wp2_with fail;refine HC.out.mono ?_;rintro e w2 ⟨u2,rfl,hO2,hB2⟩;have HO2:=zh hO2;have HO1:=zh (HO.out.below hB2);have HB2:=zh (HB.out.trans (hB2.mono HB.out.size));have hbw2:w.heap.size<=w2.heap.size:=HB2.out.size;clear hO2 hB2 HC;go_wp2_with (at_builtin;refine ZaF w2 rfl _ _ rfl w.heap.size _ A wr.heap.size _ (rowC Z) HO1.out HO2.out rfl rfl hal hbw2 ?_);intro v3 w3 hO3 hB3;have HO3:=zh hO3;have HB3:=zh (HB2.out.trans hB3);have hbw3:w.heap.size<=w3.heap.size:=HB3.out.size;clear hO3 hB3;go_wp2_with (at_builtin;refine Zaf w3 rfl _ _ rfl w.heap.size _ (A++rowC Z) (n+1) HO3.out rfl rfl hal2 hbw3 ?_);intro v4 w4 hO4 hB4;have HO4:=zh hO4;have HB4:=zh (HB3.out.trans hB4);clear hO4 hB4;go_wp2_with fail;go_ret2;exact⟨_,_,0,rfl,HO4.out.ints,HB4.out,Or.inr ⟨HOK.out,by rw [HEN.out,List.append_assoc],rfl⟩⟩
  ·have hn2':256<n:=by omega
   have hn1':¬n<1:=by omega
   go_enter Tryz.func71,Tryz.ntmps71;go_wp2_with fail;go_ret2;exact⟨_,[],1,rfl,IsInts.nil _,Below.refl _ _,Or.inl ⟨fun h=>by have:=h.2.1;omega,rfl,rfl⟩⟩
 ·have hn1':n<1:=by omega
  go_enter Tryz.func71,Tryz.ntmps71;go_wp2_with fail;go_ret2;exact⟨_,[],1,rfl,IsInts.nil _,Below.refl _ _,Or.inl ⟨fun h=>by have:=h.1;omega,rfl,rfl⟩⟩
end
section
open Go.RowKit PkM BitM
theorem ZiR (p:Nat) (hp:p<6) (W:World):(Instr.index 9 (.string ⟨#[48,49,50,51,52,53]⟩) (.int .i64 (p:Int))).run Tryz.prog W=.ok (.int .u8 ((48+p:Nat):Int)) W:=by
 rw [run_index_string W 9 _ .i64 (p:Int) Tryz.underlying9];rcases(by omega:p=0\/p=1\/p=2\/p=3\/p=4\/p=5) with rfl|rfl|rfl|rfl|rfl|rfl<;>rfl
theorem Zfb (I:Nat) (hI:I<6):(⟨#[49,49,49,49,49,49]⟩:ByteArray).extract 0 I=txt (List.replicate I true):=by
 rcases(by omega:I=0\/I=1\/I=2\/I=3\/I=4\/I=5) with rfl|rfl|rfl|rfl|rfl|rfl<;>rfl
theorem ZgG (p:Nat) (hp:p<6):(UInt8.ofNat (48+p)).toNat=48+p:=by
 rcases(by omega:p=0\/p=1\/p=2\/p=3\/p=4\/p=5) with rfl|rfl|rfl|rfl|rfl|rfl<;>rfl
theorem Zd7 (o:List Nat):(⟨(lets o).toArray⟩:ByteArray).data.toList=lets o:=rfl
theorem Zcw (l:Value) (ps:List Nat) (t:Nat) (w:World) (hv:IsInts w l (toI ps)) (hm:May ps t) :
  Calls Tryz.prog 113 #[l,.int .i64 (t:Int)] w fun e w'=>e=.returned (.string (txt (allB ps t)))/\∃m,w'=w.drewN m:=by
 have HV:=zh hv;have HM:=zh hm;have hlz:=toI_length ps;have hn1:=hm.2.2.1;have hn2:=hm.2.2.2.1;have ht2:=hm.1;have ht6:=hm.2.1;obtain⟨ad,cap,rfl,_⟩:=hv;obtain⟨N,hN⟩:∃N,ps.length=N:=⟨_,rfl⟩
 rw [hlz] at HV ⊢;rw [hN] at hn1 hn2 hlz HV ⊢;have HZ:=zh hlz;have HN:=zh hN;have HALL:Hid (allB ps t=field t 3++field N 15++PkM.encK ps N):=zh (by unfold allB;rw [hN,PkM.encK_all ps N (by omega)]);have hc1:IntKind.u32.wrap (t:Int)=(t:Int):=by simp [IntKind.wrap,IntKind.bits,IntKind.signed];omega
 have hc2:IntKind.u32.wrap (N:Int)=(N:Int):=by simp [IntKind.wrap,IntKind.bits,IntKind.signed];omega
 have HF1:=zh (fun W=>Zak t 3 W (by omega) (by omega));have HF2:=zh (fun W=>Zak N 15 W (by omega) (by omega));have hs1:(txt (field t 3)).size=3:=by rw [Zac,Zaa]
 have hs2:(txt (field N 15)).size=15:=by rw [Zac,Zaa]
 have HTT:Hid (txt (field t 3)++txt (field N 15)=txt (field t 3++field N 15)):=zh (Zab _ _);obtain⟨Q0,hQ0⟩:∃Q0,field t 3++field N 15=Q0:=⟨_,rfl⟩
 have HQ0l:Hid (Q0.length=18):=zh (by rw [<-hQ0,List.length_append,Zaa,Zaa]);rw [hQ0] at HTT HALL;clear hm hlz hN hQ0;generalize txt (field t 3)=S1 at *;generalize txt (field N 15)=S2 at *;go_enter Tryz.func113,Tryz.ntmps113;go_wp2_with fail;refine(HF1.out _).mono ?_;rintro e w1 ⟨rfl,rfl⟩;go_wp2_with fail;refine(HF2.out _).mono ?_;rintro e w2 ⟨rfl,rfl⟩;go_wp2_with fail;rw [HTT.out];clear hs1 hs2 HTT HF1 HF2
 go_loopw [5,6,20] (fun vout vord vk wr=>∃k m:Nat,vk=.int .i64 (k:Int)/\k<=N/\vout=.string (txt (Q0++PkM.encK ps k))/\vord=.string ⟨(lets (ordK ps k)).toArray⟩/\wr=w.drewN m) (fun _ _ vk _=>N-(intOf vk).toNat)
 case atStart=>exact⟨0,0,rfl,by omega,by rw [show PkM.encK ps 0=[] from rfl,List.append_nil],rfl,rfl⟩
 case round=>
  obtain⟨k,m,rfl,hk,rfl,rfl,rfl⟩:=hrel;have hkl:=PkM.encK_len ps HM.out.2.1 HM.out.2.2.2.2 k (by rw [HN.out];exact hk);by_cases hlk:k<N
  ·have hki:(k:Int)<(N:Int):=by omega
   have hkp:k<ps.length:=by rw [HN.out];exact hlk
   obtain⟨b1,o1,k1,he1,c1⟩:=HV.out.cell (k:=k) (by rw [HZ.out];exact hlk);rw [HZ.out] at he1;simp only [Value.slice.injEq] at he1;obtain⟨rfl,_,rfl⟩:=he1;rw [toI_getD] at c1;have c2:(w.drewN m).cell? ⟨b1,o1+k,none⟩=some (.int .i64 ((ps.getD k 0:Nat):Int)):=c1
   have hpm:ps.getD k 0<t:=by
    rw [List.getD_eq_getElem?_getD,List.getElem?_eq_getElem hkp];exact HM.out.2.2.2.2 _ (List.getElem_mem _)
   have hO:=ZeP ps HM.out.2.1 HM.out.2.2.2.2 k (by omega);have hpo:ps.getD k 0∈ordK ps k:=List.mem_of_mem_take ((hO.1.2 _).1 hpm);have hIl:=(hO.1.place HM.out.2.1 hpm).1;have hol:=Zcp (ordK ps k);rw [hO.1.1] at hol;have hPL:=fun W=>Zb0 ⟨(lets (ordK ps k)).toArray⟩ (UInt8.ofNat (48+ps.getD k 0)) W (by rw [Zaj,hol];omega)
   rw [Zd7,Zdg hO.2 hpo,ZgG _ (by omega)] at hPL;have hTC:=fun W=>Zbt (lets (ordK ps k)) ((ordK ps k).idxOf (ps.getD k 0)) W (by rw [hol];omega) (by rw [hol];omega)
   rw [Ze4,<-Zex ps hkp] at hTC;have HEN:=zh (PkM.ZtI ps hkp);have hix:=fun W=>ZiR (ps.getD k 0) (by omega) W
   obtain⟨I,hI⟩:∃I,(ordK ps k).idxOf (ps.getD k 0)=I:=⟨_,rfl⟩
   rw [hI] at HEN hPL hTC hIl;obtain⟨x,hx⟩:∃x,ps.getD k 0=x:=⟨_,rfl⟩
   rw [hx] at c2 hPL hix;obtain⟨C,hC⟩:∃C,48+x=C:=⟨_,rfl⟩
   rw [hC] at hPL hix;have HPL:=zh hPL;have HTC:=zh hTC;have hI0:(0:Int)<=(I:Int):=by omega
   have hI6:(I:Int)<=6:=by omega
   have hcut:=Zfb I (by omega);have hS:(txt (Q0++PkM.encK ps k)).size<=200000:=by rw [Zac,List.length_append];have:=HQ0l.out;omega
   have hR:(txt (List.replicate I true)).size<=6:=by rw [Zac,List.length_replicate];omega
   have HT:Hid (txt (Q0++PkM.encK ps k)++txt (List.replicate I true)++⟨#[48]⟩=txt (Q0++PkM.encK ps (k+1))):=zh (by
    rw [HEN.out,Zab,<-List.append_assoc Q0,<-List.append_assoc];exact Zab _ [false])
   generalize txt (Q0++PkM.encK ps k)=S at *;generalize txt (List.replicate I true)=R at *;have hSR:(S++R).size<=200006:=by rw [ByteArray.size_append];omega
   have hx6:x<6:=by omega
   clear hpm hO hpo hI hx hkp hol hPL hTC hC c1 hkl;go_wp2_with fail;refine(HPL.out _).mono ?_;rintro e w3 ⟨rfl,rfl⟩;go_wp2_with fail;refine(HTC.out _).mono ?_;rintro e w4 ⟨rfl,m4,rfl⟩;go_wp2_with fail;go_roundw
   case rel=>exact⟨k+1,_,by go_num,by omega,by rw [<-HT.out],rfl,rfl⟩
   case measure=>simp [intOf];omega
  ·have hki:¬(k:Int)<(N:Int):=by omega
   obtain rfl:k=N:=by omega
   go_wp2_with fail;go_ret;exact⟨by rw [HALL.out];rfl,m,rfl⟩
end
section
open Go.RowKit DelM BitM
def mvI (a b i:Nat):List Bool:=two false (min i a)++two true (min i b)
theorem Zfc (a b:Nat):mvI a b 0=[]:=by unfold mvI;rw [Nat.zero_min,Nat.zero_min];rfl
theorem ZiS {a b i:Nat} (hi:i<a) (hb:b=0):mvI a b (i+1)=mvI a b i++[true,false]:=by
 subst hb;unfold mvI;rw [Nat.min_zero,Nat.min_zero,Nat.min_eq_left (by omega),Nat.min_eq_left (by omega)];simp [two]
theorem Zfd {a b i:Nat} (hi:i<b) (ha:a=0):mvI a b (i+1)=mvI a b i++[true,true]:=by
 subst ha;unfold mvI;rw [Nat.min_zero,Nat.min_zero,Nat.min_eq_left (by omega),Nat.min_eq_left (by omega)];simp [two]
theorem ZgH {a b i:Nat} (ha:¬i<a) (hb:¬i<b):mvI a b (i+1)=mvI a b i:=by
 unfold mvI;rw [Nat.min_eq_right (by omega),Nat.min_eq_right (by omega),Nat.min_eq_right (by omega),Nat.min_eq_right (by omega)]
theorem ZgI {p x:Int} (hp:1<=p/\p<=20) (hx:1<=x/\x<=20):mvI (x-p).toNat (p-x).toNat 40=mv p x:=by
 unfold mvI mv;rw [Nat.min_eq_right (by omega),Nat.min_eq_right (by omega)]
theorem ZgJ (a b i:Nat) (ha:a<=20) (hb:b<=20):(mvI a b i).length<=80:=by
 unfold mvI;rw [List.length_append,ZaN,ZaN];omega
theorem Zcx (l:Value) (zs:List Int) (w:World) (hv:IsInts w l zs) (hm:May zs) :
  Calls Tryz.prog 114 #[l] w fun e w'=>e=.returned (.string (txt (allB zs)))/\w'=w:=by
 have HV:=zh hv;have HM:=zh hm;have h3:=hm.1;have h258:=hm.2.1;obtain⟨ad,cap,rfl,_⟩:=hv;have HL:Hid (∀k,k<=zs.length->(DelM.encK zs k).length<=11000):=zh (fun k hk=>by have:=(DelM.encK_le HM.out hk).1;omega);obtain⟨N,hN⟩:∃N,zs.length=N:=⟨_,rfl⟩
 have HN:=zh hN;rw [hN] at h3 h258 HV ⊢;clear hm hN;obtain⟨b1,o1,k1,he1,c1⟩:=HV.out.cell (k:=0) (by rw [HN.out];omega);rw [HN.out] at he1;simp only [Value.slice.injEq] at he1;obtain⟨rfl,_,rfl⟩:=he1;have hz0:=HM.out.at_ (k:=0) (by rw [HN.out];omega);obtain⟨x0,hx0⟩:∃x0,zs.getD 0 0=x0:=⟨_,rfl⟩
 rw [hx0] at c1 hz0;rw [Nat.add_zero] at c1;obtain⟨X0,rfl⟩:∃X0:Nat,x0=(X0:Int):=⟨x0.toNat,by omega⟩
 have hX20:X0<=20:=by omega
 have HALL:Hid (allB zs=field X0 5++DelM.encK zs N):=zh (by unfold allB;rw [hx0,HN.out];rfl);have HPRV:Hid (prv zs 0=(X0:Int)):=zh hx0;have hc32:IntKind.u32.wrap (X0:Int)=(X0:Int):=by simp [IntKind.wrap,IntKind.bits,IntKind.signed];omega
 clear hx0 hz0;have hN0:(0:Int)<(N:Int):=by omega
 go_enter Tryz.func114,Tryz.ntmps114;go_wp2_with fail;refine(Zak X0 5 _ (by omega) (by omega)).mono ?_;rintro e w' ⟨rfl,rfl⟩;go_wp2_with fail
 go_loopw [3,4,18] (fun vo vl vk wr=>∃k:Nat,vk=.int .i64 (k:Int)/\k<=N/\vl=.int .i64 (prv zs k)/\vo=.string (txt (field X0 5++DelM.encK zs k))/\wr=w) (fun _ _ vk _=>N-(intOf vk).toNat)
 case atStart=>exact⟨0,rfl,by omega,by rw [HPRV.out],by rw [show DelM.encK zs 0=[] from rfl,List.append_nil],rfl⟩
 case round=>
  obtain⟨k,rfl,hk,rfl,rfl,rfl⟩:=hrel;by_cases hlk:k<N
  ·have hki:(k:Int)<(N:Int):=by omega
   have hkz:k<zs.length:=by rw [HN.out];exact hlk
   obtain⟨b1,o1,k1,he1,c1⟩:=HV.out.cell hkz;rw [HN.out] at he1;simp only [Value.slice.injEq] at he1;obtain⟨he1,_,rfl⟩:=he1;simp only [Option.some.injEq,Addr.mk.injEq,and_true] at he1;obtain⟨rfl,rfl⟩:=he1;have hzk:=HM.out.at_ hkz;have hpk:=HM.out.prv (k:=k) (by omega);have HLk:=zh (HL.out k (by rw [HN.out];omega));have HEN:Hid (DelM.encK zs (k+1)=DelM.encK zs k++(mv (prv zs k) (zs.getD k 0)++[false])):=zh rfl;have HPS:Hid (prv zs (k+1)=zs.getD k 0):=zh rfl;obtain⟨x,hx⟩:∃x,zs.getD k 0=x:=⟨_,rfl⟩
   obtain⟨p,hp⟩:∃p,prv zs k=p:=⟨_,rfl⟩
   rw [hx] at c1 hzk HEN HPS;rw [hp] at hpk HEN ⊢;obtain⟨Q,hQ⟩:∃Q,field X0 5++DelM.encK zs k=Q:=⟨_,rfl⟩
   have HQ:=zh hQ
   have hQl:Q.length<=20000:=by
    have:=HLk.out;rw [<-hQ,List.length_append,Zaa];omega
   rw [hQ];obtain⟨A,hA⟩:∃A,(x-p).toNat=A:=⟨_,rfl⟩
   obtain⟨B,hB⟩:∃B,(p-x).toNat=B:=⟨_,rfl⟩
   have hA20:A<=20:=by omega
   have hB20:B<=20:=by omega
   have HMA:Hid (mvI A B 40=mv p x):=zh (by rw [<-hA,<-hB];exact ZgI hpk hzk);have HAB:Hid ((∀i:Nat,i<A↔(i:Int)<x-p)/\(∀i:Nat,i<B↔(i:Int)<p-x)/\(A=0\/B=0)):=zh ⟨fun i=>by omega,fun i=>by omega,by omega⟩;clear hx hp hQ hA hB;go_wp2_with fail
   go_loopw [3,22] (fun vo vi wr2=>∃i:Nat,vi=.int .i64 (i:Int)/\i<=40/\vo=.string (txt (Q++mvI A B i))/\wr2=wr) (fun _ vi _=>40-(intOf vi).toNat)
   case atStart=>exact⟨0,rfl,by omega,by rw [Zfc,List.append_nil],rfl⟩
   case round=>
    obtain⟨i,rfl,hi,rfl,rfl⟩:=hrel;have hml:=ZgJ A B i hA20 hB20;by_cases hi40:i<40
    ·have hi40i:(i:Int)<40:=by omega
     have hS:(txt (Q++mvI A B i)).size<=20080:=by rw [Zac,List.length_append];omega
     by_cases hu:i<A
     ·have hui:=(HAB.out.1 i).1 hu;have hdi:¬(i:Int)<p-x:=by omega
      have HT:Hid (txt (Q++mvI A B i)++⟨#[49,48]⟩=txt (Q++mvI A B (i+1))):=zh (by
       rw [ZiS hu (by have:=HAB.out.2.2;omega),<-List.append_assoc];exact Zab _ [true,false])
      clear hu hml;generalize txt (Q++mvI A B i)=S at *;go_wp2_with fail;go_roundw
      case rel=>exact⟨i+1,by go_num,by omega,by rw [<-HT.out],by first|rfl|trivial⟩
      case measure=>simp [intOf];omega
     ·have hui:¬(i:Int)<x-p:=fun h=>hu ((HAB.out.1 i).2 h)
      by_cases hd:i<B
      ·have hdi:=(HAB.out.2.1 i).1 hd
       have HT:Hid (txt (Q++mvI A B i)++⟨#[49,49]⟩=txt (Q++mvI A B (i+1))):=zh (by
        rw [Zfd hd (by have:=HAB.out.2.2;omega),<-List.append_assoc];exact Zab _ [true,true])
       clear hu hd hml;generalize txt (Q++mvI A B i)=S at *;go_wp2_with fail;go_roundw
       case rel=>exact⟨i+1,by go_num,by omega,by rw [<-HT.out],by first|rfl|trivial⟩
       case measure=>simp [intOf];omega
      ·have hdi:¬(i:Int)<p-x:=fun h=>hd ((HAB.out.2.1 i).2 h)
       have HT:Hid (txt (Q++mvI A B i)=txt (Q++mvI A B (i+1))):=zh (by rw [ZgH hu hd]);clear hu hd hml;generalize txt (Q++mvI A B i)=S at *;go_wp2_with fail;go_roundw
       case rel=>exact⟨i+1,by go_num,by omega,by rw [<-HT.out],by first|rfl|trivial⟩
       case measure=>simp [intOf];omega
    ·obtain rfl:i=40:=by omega
     have hS:(txt (Q++mvI A B 40)).size<=20080:=by rw [Zac,List.length_append];omega
     have HT:Hid (txt (Q++mvI A B 40)++⟨#[48]⟩=txt (field X0 5++DelM.encK zs (k+1))):=zh (by
      rw [HMA.out,HEN.out,<-List.append_assoc,HQ.out,<-List.append_assoc];exact Zab _ [false])
     clear hml;generalize txt (Q++mvI A B 40)=S at *;go_wp2_with fail;go_roundw
     case rel=>exact⟨k+1,by go_num,by omega,by rw [HPS.out],by rw [<-HT.out],by first|rfl|trivial⟩
     case measure=>simp [intOf];omega
  ·have hki:¬(k:Int)<(N:Int):=by omega
   obtain rfl:k=N:=by omega
   go_wp2_with fail;go_ret;exact⟨by rw [HALL.out];rfl,rfl⟩
end
section
namespace CanM
open Go.RowKit HufM BitM
def nxtL:List Bool->List Bool×Bool
 | []=>([],true)
 | b::t=>((b != (nxtL t).2)::(nxtL t).1,(nxtL t).2 && b)
theorem Zar:∀t,(nxtL t).1.length=t.length
 | []=>rfl
 | b::t=>by simp only [nxtL,List.length_cons,Zar t]
theorem Zc1 (b:Bool) (t:List Bool):num (b::t)=bn b*2^t.length+num t:=by
 have:=ZaZ [b] t;rw [List.singleton_append] at this;rw [this,show num [b]=bn b from Nat.zero_add _]
theorem Zd8:∀t,num (nxtL t).1+bn (nxtL t).2*2^t.length=num t+1
 | []=>rfl
 | b::t=>by
  have ih:=Zd8 t;have h1:=Zbg t;have h2:=Zbg (nxtL t).1;rw [Zar] at h2;simp only [nxtL,List.length_cons];rw [Zc1,Zc1,Zar,Nat.pow_succ];generalize num (nxtL t).1=A at *;generalize num t=T at *;generalize 2^t.length=P at *;generalize (nxtL t).2=c at *;cases b<;>cases c<;>simp [bn] at*<;> omega
def nxtC (C:List Bool) (n:Nat):List Bool:=(nxtL C).1++List.replicate (n-C.length) false
theorem ZgK {C:List Bool} {n X:Nat} (hm:C.length<=n) (hX:(num C+1)*2^(n-C.length)=X) (hlt:X<2^n):nxtC C n=field X n:=by
 have h1:=Zd8 C;have hl:=Zar C;have hp:0<2^(n-C.length):=Nat.pow_pos (by decide);have hn:2^n=2^C.length*2^(n-C.length):=by rw [<-Nat.pow_add];congr 1;omega
 have h2:num C+1<2^C.length:=by
  rw [<-hX,hn] at hlt;exact Nat.lt_of_mul_lt_mul_right hlt
 have h3:num (nxtL C).1=num C+1:=by
  cases h:(nxtL C).2
  ·rw [h] at h1;simp [bn] at h1;exact h1
  ·rw [h] at h1;simp only [bn,if_true,Nat.one_mul] at h1;omega
 apply ZcO
 ·unfold nxtC;rw [List.length_append,List.length_replicate,hl,Zaa];omega
 ·unfold nxtC;rw [Zba,h3,hX,Zax,Nat.mod_eq_of_lt hlt]
theorem Zdj (n:Nat):field 0 n=List.replicate n false:=by
 apply ZcO
 ·rw [Zaa,List.length_replicate]
 ·rw [Zax,Nat.zero_mod];have:=Zba [] n;rw [List.nil_append] at this;rw [this];simp [num]
def nxtX (l:List Int) (n i:Nat):Nat:=fcod l n+rank l n i
theorem Zd9 {l:List Int} {n i:Nat} (h:¬ln l i=n):nxtX l n (i+1)=nxtX l n i:=by
 unfold nxtX;rw [ZbK,if_neg (show ¬(l.getD i 0).toNat=n from h)];rfl
theorem Zea {l:List Int} {n i:Nat} (h:ln l i=n):nxtX l n (i+1)=nxtX l n i+1:=by
 unfold nxtX;rw [ZbK,if_pos (show(l.getD i 0).toNat=n from h)];omega
theorem Zeb {l:List Int} {n:Nat} (h:n<20):nxtX l (n+1) 0=2*nxtX l n l.length:=by
 unfold nxtX;rw [ZcR l h];show _+0=_;rfl
theorem Zfe {l:List Int} {n i:Nat} (hi:i<l.length) (h:ln l i=n):nxtX l n i=cod l (ln l i,i):=by
 rw [h,Zg5 hi n h];rfl
def CodeAt (C:List Bool) (n X:Nat):Prop:=(C=[]/\X=0)\/(C≠[]/\C.length<=n/\(num C+1)*2^(n-C.length)=X)
theorem CodeAt.next {C:List Bool} {n X:Nat} (h:CodeAt C n X):CodeAt C (n+1) (2*X):=by
 rcases h with⟨h1,h2⟩|⟨h1,h2,h3⟩
 ·exact Or.inl ⟨h1,by rw [h2]⟩
 ·refine Or.inr ⟨h1,by omega,?_⟩;rw [<-h3,show n+1-C.length=n-C.length+1 by omega,Nat.pow_succ,<-Nat.mul_assoc,Nat.mul_comm]
theorem CodeAt.took {n X:Nat} (h1:1<=n) (hX:X<2^n):CodeAt (field X n) n (X+1):=by
 refine Or.inr ⟨?_,by rw [Zaa];exact Nat.le_refl _,?_⟩
 ·intro h;have:=Zaa X n;rw [h] at this;simp at this;omega
 ·rw [Zaa,Zax,Nat.mod_eq_of_lt hX,Nat.sub_self,Nat.pow_zero,Nat.mul_one]
end CanM
end
section
open Go.RowKit CanM HufM BitM
theorem Zff (q:List Bool) (k:Nat) (hk:k<q.length) (h:k<(txt q).size):(txt q)[k]=chr q[k]:=by
 have h2:(txt q).data[k]'(by simpa [txt] using hk)=chr q[k]:=by simp [txt]
 exact h2
theorem ZbH (b:Bool) (q:List Bool):txt [b]++txt q=txt (b::q):=Zab [b] q
theorem Zfg (C:List Bool) (n:Nat) (w:World) (hC:C.length<=n) (hn:n<=20) :
  Calls Tryz.prog 153 #[.string (txt C),.int .i64 (n:Int)] w fun e w'=>e=.returned (.string (txt (nxtC C n)))/\w'=w:=by
 obtain⟨m,hm⟩:∃m,C.length=m:=⟨_,rfl⟩
 have hsz:(txt C).size=m:=by rw [Zac,hm]
 have HM:=zh hm;rw [hm] at hC;clear hm;go_enter Tryz.func153,Tryz.ntmps153;go_wp2_with fail
 go_loopw [5,6,7] (fun vo vc vi wr=>∃t:Nat,vi=.int .i64 ((t:Int)-1)/\t<=m/\vo=.string (txt (nxtL (C.drop t)).1)/\vc=.bool (nxtL (C.drop t)).2/\wr=w) (fun _ _ vi _=>(intOf vi+1).toNat)
 case atStart=>
  have e:C.drop m=[]:=List.drop_of_length_le (by rw [HM.out];exact Nat.le_refl _);exact⟨m,rfl,Nat.le_refl _,by rw [e];rfl,by rw [e];rfl,rfl⟩
 case round=>
  obtain⟨t,rfl,ht,rfl,rfl,rfl⟩:=hrel;have hol:(nxtL (C.drop t)).1.length<=20:=by rw [Zar,List.length_drop,HM.out];omega
  by_cases ht0:0<t
  ·obtain⟨s,rfl⟩:∃s,t=s+1:=⟨t-1,by omega⟩
   have hi:(((s+1:Nat):Int)-1)=(s:Int):=by omega
   rw [hi];have hsC:s<C.length:=by rw [HM.out];omega
   have hsm:(s:Int)<(m:Int):=by omega
   have hdrop:C.drop s=C[s]::C.drop (s+1):=List.drop_eq_getElem_cons hsC;obtain⟨b,hb⟩:∃b,C[s]=b:=⟨_,rfl⟩
   have hidx:∀h:s<(txt C).size,(((txt C)[s]'h).toNat:Int)=((chr b).toNat:Int):=fun h=>by rw [Zff C s hsC h,hb]
   rw [hb] at hdrop;have HN:Hid ((nxtL (C.drop s)).1=(b != (nxtL (C.drop (s+1))).2)::(nxtL (C.drop (s+1))).1/\(nxtL (C.drop s)).2=((nxtL (C.drop (s+1))).2 && b)):=zh (by rw [hdrop];exact⟨rfl,rfl⟩);obtain⟨o,ho⟩:∃o,(nxtL (C.drop (s+1))).1=o:=⟨_,rfl⟩
   obtain⟨cc,hcc⟩:∃cc,(nxtL (C.drop (s+1))).2=cc:=⟨_,rfl⟩
   rw [ho,hcc] at HN;rw [ho] at hol;rw [ho,hcc];have hos:(txt o).size<=20:=by rw [Zac];exact hol
   clear hdrop hb ho hcc hi hol hsC;cases b
   ·have hidx0:∀h:s<(txt C).size,(((txt C)[s]'h).toNat:Int)=48:=hidx;clear hidx;cases cc
    ·go_wp2_with fail;go_roundw
     case rel=>exact⟨s,by go_num,by omega,by rw [HN.out.1];exact congrArg Value.string (ZbH false o),by rw [HN.out.2];rfl,by first|rfl|trivial⟩
     case measure=>first|(simp [intOf];done)|(simp [intOf];omega)
    ·go_wp2_with fail;go_roundw
     case rel=>exact⟨s,by go_num,by omega,by rw [HN.out.1];exact congrArg Value.string (ZbH true o),by rw [HN.out.2];rfl,by first|rfl|trivial⟩
     case measure=>first|(simp [intOf];done)|(simp [intOf];omega)
   ·have hidx0:∀h:s<(txt C).size,(((txt C)[s]'h).toNat:Int)=49:=hidx;clear hidx;cases cc
    ·go_wp2_with fail;go_roundw
     case rel=>exact⟨s,by go_num,by omega,by rw [HN.out.1];exact congrArg Value.string (ZbH true o),by rw [HN.out.2];rfl,by first|rfl|trivial⟩
     case measure=>first|(simp [intOf];done)|(simp [intOf];omega)
    ·go_wp2_with fail;go_roundw
     case rel=>exact⟨s,by go_num,by omega,by rw [HN.out.1];exact congrArg Value.string (ZbH false o),by rw [HN.out.2];rfl,by first|rfl|trivial⟩
     case measure=>first|(simp [intOf];done)|(simp [intOf];omega)
  ·obtain rfl:t=0:=by omega
   rw [List.drop_zero] at hol ⊢;obtain⟨o,ho⟩:∃o,(nxtL C).1=o:=⟨_,rfl⟩
   obtain⟨cc,hcc⟩:∃cc,(nxtL C).2=cc:=⟨_,rfl⟩
   have HOL:Hid (o.length=m):=zh (by rw [<-ho,Zar,HM.out]);have HRES:Hid (nxtC C n=o++List.replicate (n-m) false):=zh (by unfold nxtC;rw [ho,HM.out]);rw [ho,hcc];clear ho hcc hol;go_wp2_with fail;obtain⟨wz,hwz⟩:∃wz:World,wz=wr:=⟨_,rfl⟩
   subst hwz
   go_loopw [5] (fun vo wr=>∃e:Nat,m+e<=n/\vo=.string (txt (o++List.replicate e false))/\wr=wz) (fun vo _=>n-(match vo with|.string s=>s.size|_=>0))
   case atStart=>exact⟨0,by omega,by simp,rfl⟩
   case round=>
    obtain⟨e,he,rfl,rfl⟩:=hrel;have hs1:(txt (o++List.replicate e false)).size=m+e:=by rw [Zac,List.length_append,List.length_replicate,HOL.out]
    have HT:Hid (txt (o++List.replicate e false)++txt [false]=txt (o++List.replicate (e+1) false)):=zh (by rw [Zab,List.append_assoc,List.replicate_succ']);have hs2:Hid ((txt (o++List.replicate (e+1) false)).size=m+(e+1)):=zh (by rw [Zac,List.length_append,List.length_replicate,HOL.out]);by_cases hen:m+e<n
    ·have heni:((m+e:Nat):Int)<(n:Int):=by omega
     generalize txt (o++List.replicate e false)=T at *;go_wp2_with fail;go_roundw
     case rel=>exact⟨e+1,by omega,congrArg Value.string HT.out,by first|rfl|trivial⟩
     case measure=>
      have h2:=hs2.out;rw [<-HT.out] at h2;have h3:(T++(⟨#[48]⟩:ByteArray)).size=m+(e+1):=h2;simp only [h3,hs1];omega
    ·have heni:¬((m+e:Nat):Int)<(n:Int):=by omega
     have HE:Hid (nxtC C n=o++List.replicate e false):=zh (by rw [HRES.out,show n-m=e by omega]);go_wp2_with fail;go_ret;rw [HE.out];exact⟨rfl,rfl⟩
end
section
open Go.RowKit
def RowS (w:World) (g N:Nat) (F:Nat->ByteArray):Prop:=w.heap[g]?=some (.cells (cellsF N (fun i=>.string (F i))) 9 (0,0))
theorem RowS.lt {w:World} {g N:Nat} {F:Nat->ByteArray} (h:RowS w g N F):g<w.heap.size:=(Array.getElem?_eq_some_iff.1 h).1
theorem RowS.below {w w':World} {g N:Nat} {F:Nat->ByteArray} (h:RowS w g N F) (hb:Below w.heap.size w w'):RowS w' g N F:=(hb.block g h.lt).trans h
theorem RowS.other {w w':World} {g N:Nat} {F:Nat->ByteArray} (h:RowS w g N F) {S:Nat->Prop} (ht:Touch S w w') (hS:¬S g):RowS w' g N F:=(ht.block g h.lt hS).trans h
theorem Zbx {M:Nat} {F G:Nat->Value} (h:∀i,i<M->F i=G i):cellsF M F=cellsF M G:=by
 unfold cellsF;congr 1;exact List.map_congr_left fun i hi=>h i (List.mem_range.1 hi)
theorem RowS.ext {w:World} {g N:Nat} {F G:Nat->ByteArray} (h:RowS w g N F) (he:∀i,i<N->F i=G i):RowS w g N G:=by
 unfold RowS at h ⊢;rw [h,Zbx (G:=fun i=>.string (G i)) (fun i hi=>by rw [he i hi])]
theorem RowS.cell {w:World} {g N:Nat} {F:Nat->ByteArray} (h:RowS w g N F) {i:Nat} (hi:i<N):w.cell? ⟨g,i,none⟩=some (.string (F i))/\w.frozen? ⟨g,i,none⟩=false /\
  ∀x:ByteArray,RowS (w.setCell ⟨g,i,none⟩ (.string x)) g N (fun k=>if k=i then x else F k):=by
 refine⟨(cell_of_row _ _ _ _ _ _ h).trans (Zc6 N _ hi),frozen_of_row _ _ _ _ _ h,fun x=>?_⟩;have:=heap_setCell_same w g i _ _ (.string x) h;rw [ZdG] at this;unfold RowS;rw [this,Zbx (G:=fun k=>.string (if k=i then x else F k))];intro j _;unfold upd;split<;>rfl
theorem RowS.made (w:World) (n:Nat):RowS (w.alloc (.cells (madeCells #[Value.string ⟨#[]⟩] n) 9)) w.heap.size n (fun _=>⟨#[]⟩):=by
 have e:madeCells #[Value.string ⟨#[]⟩] n=cellsF n (fun _=>.string ⟨#[]⟩):=by
  apply Array.toList_inj.1;rw [toList_madeCells_one];unfold cellsF;show List.replicate n _=(List.range n).map fun _=>_
  rw [List.map_const',List.length_range]
 unfold RowS;rw [<-e];exact heap_alloc_new _ _
theorem Zec (n:Nat) (hn:n<=1000000) (W:World):(Instr.makeSlice 171 (.int .i64 (n:Int)) (.int .i64 (n:Int))).run Tryz.prog W=.ok (.slice (some ⟨W.heap.size,0,none⟩) n n) (W.alloc (.cells (madeCells #[Value.string ⟨#[]⟩] n) 9)):=by
 obtain⟨i0,hi,hz0,hz1,hz2⟩:=info_parts (show(Tryz.prog.info? 9).map (fun i=>(i.zero,i.size,i.bytes))=some (some (.string ⟨#[]⟩),1,16) by kernel_rfl);have:=run_make (P:=Tryz.prog) W 171 9 i0 (.string ⟨#[]⟩) Tryz.underlying171 hi hz0 .i64 .i64 (n:Int) (n:Int) (by omega) (by omega) (by rw [hz2];omega) (by omega);rw [hz1] at this;simpa [Value.cells] using this
end
section
open Go.RowKit CanM HufM BitM
theorem Zb5 (q:List Bool) (r:Bool) (h:r=true↔q=[]):(txt q).toList.isEmpty=r:=by
 rw [Bool.eq_iff_iff,h,ByteArray.toList_eq,List.isEmpty_iff];constructor
 ·intro e;cases q with
  | nil=>rfl
  | cons a t=>cases e
 ·rintro rfl;rfl
def CodesAt (zs:List Int) (n i:Nat) (F:Nat->ByteArray):Prop:=∀j,j<zs.length->(ln zs j<n\/(ln zs j=n/\j<i))->F j=txt (code zs j)
theorem CodesAt.skip {zs:List Int} {n i:Nat} {F:Nat->ByteArray} (h:CodesAt zs n i F) (hn:¬ln zs i=n):CodesAt zs n (i+1) F:=fun j hj hc=>h j hj (by
 rcases hc with h1|⟨h1,h2⟩
 ·exact Or.inl h1
 ·refine Or.inr ⟨h1,?_⟩;rcases Nat.lt_succ_iff_lt_or_eq.1 h2 with h3|h3
  ·exact h3
  ·exact absurd (h3▸h1) hn)
theorem CodesAt.take {zs:List Int} {n i:Nat} {F:Nat->ByteArray} (h:CodesAt zs n i F) (x:ByteArray) (hx:x=txt (code zs i)):CodesAt zs n (i+1) (fun k=>if k=i then x else F k):=fun j hj hc=>by
 show(if j=i then x else F j)=_;by_cases e:j=i
 ·rw [if_pos e,hx,e]
 ·rw [if_neg e];exact h j hj (by omega)
theorem CodesAt.next {zs:List Int} {n:Nat} {F:Nat->ByteArray} (h:CodesAt zs n zs.length F):CodesAt zs (n+1) 0 F:=fun j hj hc=>h j hj (by omega)
theorem Zed (v:Value) (zs:List Int) (w:World) (hv:IsInts w v zs) (h258:zs.length<=258) (hwh:WholeP zs) :
  Calls Tryz.prog 115 #[v] w fun e w'=>e=.returned (.slice (some ⟨w.heap.size,0,none⟩) zs.length zs.length)/\RowS w' w.heap.size zs.length (fun j=>txt (code zs j))/\Below w.heap.size w w':=by
 have HV:=zh hv;have HW:=zh hwh;obtain⟨a,cap,rfl,_⟩:=hv;obtain⟨N,hN⟩:∃N,zs.length=N:=⟨_,rfl⟩
 have HN:=zh hN;rw [hN] at h258 ⊢;have hmk:=Zec N (by omega) w;have HR0:=zh (RowS.made w N);have HB0:=zh ((Below.refl w.heap.size w).alloc (Nat.le_refl _) (.cells (madeCells #[Value.string ⟨#[]⟩] N) 9));generalize hw1:w.alloc (.cells (madeCells #[Value.string ⟨#[]⟩] N) 9)=w1 at *;clear hw1 hwh hN;go_enter Tryz.func115,Tryz.ntmps115;go_wp2_with fail;generalize hg:w.heap.size=g at *;have HG:=zh hg;clear hg
 go_loopw [4,5] (fun vc vn wr=>∃(n:Nat) (C:List Bool) (F:Nat->ByteArray),vn=.int .i64 (n:Int)/\1<=n/\n<=21/\vc=.string (txt C)/\C.length<=20/\(n<=20->CodeAt C n (nxtX zs n 0))/\CodesAt zs n 0 F/\RowS wr g N F/\Below g w wr) (fun _ vn _=>21-(intOf vn).toNat)
 case atStart=>exact⟨1,[],_,rfl,by omega,by omega,rfl,by simp,fun _=>Or.inl ⟨rfl,by
  unfold nxtX;rw [ZcR zs (by decide:0<20),ZfA,Zez (fun z hz=>(HW.out.1 z hz).1)];rfl⟩,fun j hj hc=>by have:=(Zht (fun z hz=>HW.out.1 z hz) hj).1;omega,HR0.out,HB0.out⟩
 case round=>
  clear HR0 HB0 hmk;obtain⟨n,C,F,rfl,hn1,hn21,rfl,hCl,hCA,hCs,hR,hB⟩:=hrel;have HCA:=zh hCA;have HCS:=zh hCs;have HR:=zh hR;have HB:=zh hB;have HCL:=zh hCl;clear hCA hCs hR hB hCl;by_cases hn20:n<=20
  ·have hni:(n:Int)<=20:=by omega
   have HCA0:=zh (HCA.out hn20);clear HCA;go_wp2_with fail
   try rw [HN.out]
   go_loopw [4,17] (fun vc vi wr2=>∃(i:Nat) (C:List Bool) (F:Nat->ByteArray),vi=.int .i64 (i:Int)/\i<=N/\vc=.string (txt C)/\C.length<=n/\CodeAt C n (nxtX zs n i)/\CodesAt zs n i F/\RowS wr2 g N F/\Below g w wr2) (fun _ vi _=>N-(intOf vi).toNat)
   case atStart=>exact⟨0,C,F,rfl,by omega,rfl,HCA0.out.elim (fun h=>by rw [h.1];exact Nat.zero_le _) (fun h=>h.2.1),HCA0.out,HCS.out,HR.out,HB.out⟩
   case round=>
    clear HCA0 HCS HR HB HCL;obtain⟨i,C,F,rfl,hi,rfl,hCl,hCA,hCs,hR,hB⟩:=hrel;have HCA:=zh hCA;have HCS:=zh hCs;have HR:=zh hR;have HB:=zh hB;clear hCA hCs hR hB;by_cases hlk:i<N
    ·have hki:(i:Int)<(N:Int):=by omega
     have hlz:i<zs.length:=by rw [HN.out];exact hlk
     have HV2:=zh (HV.out.below (HG.out▸HB.out));obtain⟨b1,o1,k1,he1,c1⟩:=HV2.out.cell hlz;simp only [Value.slice.injEq] at he1;obtain⟨rfl,_,rfl⟩:=he1;obtain⟨x,hx⟩:∃x,zs.getD i 0=x:=⟨_,rfl⟩
     have hxr:=HW.out.1 x (by rw [<-hx];exact getD_mem hlz);have hln:Hid (ln zs i=x.toNat):=zh (by unfold ln;rw [hx]);rw [hx] at c1;clear hx;by_cases hxn:x=(n:Int)
     ·subst hxn;have hlnn:Hid (ln zs i=n):=zh (by rw [hln.out];omega);have hXc:=Zfe hlz hlnn.out;have hcl:=Zjl (x:=(ln zs i,i)) (ZhL hlz) HW.out.2 (by show ln zs i<=20;rw [hlnn.out];exact hn20)
      have hcode:code zs i=field (nxtX zs n i) n:=by
       unfold code;rw [<-hXc,hlnn.out]
      rw [<-hXc] at hcl
      have hcl:nxtX zs n i<2^n:=by
       have h2:nxtX zs n i<2^ln zs i:=hcl;rw [hlnn.out] at h2;exact h2
      have HNX:Hid (CodeAt (field (nxtX zs n i) n) n (nxtX zs n (i+1))):=zh (by
       rw [Zea hlnn.out];exact CodeAt.took hn1 hcl)
      have HCODE:=zh hcode;have HCLT:=zh hcl;obtain⟨d0,d1,d2⟩:=HR.out.cell (i:=i) hlk;have HD2:=zh (d2 (txt (code zs i)));have HB2:=zh (HB.out.setCell (p:=⟨g,i,none⟩) (Nat.le_refl _) (.string (txt (code zs i))));clear hXc hcl hcode d2;by_cases hCe:C=[]
      ·subst hCe
       have hz:nxtX zs n i=0:=by
        rcases HCA.out with h|h
        ·exact h.2
        ·exact absurd rfl h.1
       have HFZ:Hid (code zs i=List.replicate n false):=zh (by rw [HCODE.out,hz,Zdj]);have hte:=Zb5 [] true ⟨fun _=>rfl,fun _=>rfl⟩;clear hz;go_wp2_with fail;obtain⟨wz,hwz⟩:∃wz:World,wz=wr:=⟨_,rfl⟩
       subst hwz
       go_loopw [4,28] (fun vc vk wr3=>∃k:Nat,vk=.int .i64 (k:Int)/\k<=n/\vc=.string (txt (List.replicate k false))/\wr3=wz) (fun _ vk _=>n-(intOf vk).toNat)
       case atStart=>exact⟨0,rfl,by omega,rfl,rfl⟩
       case round=>
        obtain⟨k,rfl,hk,rfl,rfl⟩:=hrel;by_cases hkn:k<n
        ·have hkni:(k:Int)<(n:Int):=by omega
         have hs1:(txt (List.replicate k false)).size<=20:=by rw [Zac,List.length_replicate];omega
         have HT:Hid (txt (List.replicate k false)++txt [false]=txt (List.replicate (k+1) false)):=zh (by rw [Zab,List.replicate_succ']);generalize txt (List.replicate k false)=T at *;go_wp2_with fail;go_roundw
         case rel=>exact⟨k+1,by go_num,by omega,congrArg Value.string HT.out,by first|rfl|trivial⟩
         case measure=>simp [intOf];omega
        ·obtain rfl:k=n:=by omega
         rw [<-HFZ.out];go_wp2_with fail;go_roundw
         case rel=>exact⟨i+1,code zs i,_,by go_num,by omega,rfl,by rw [ZaL,hlnn.out];exact Nat.le_refl _,by rw [HCODE.out];exact HNX.out,HCS.out.take _ rfl,HD2.out,HB2.out⟩
         case measure=>simp [intOf];omega
      ·have hte:=Zb5 C false ⟨fun h=>(by cases h),fun h=>absurd h hCe⟩
       have HNE:Hid (nxtC C n=code zs i):=zh (by
        rcases HCA.out with h|h
        ·exact absurd h.1 hCe
        ·rw [HCODE.out];exact ZgK h.2.1 h.2.2 HCLT.out)
       clear hCe;go_wp2_with fail;refine(Zfg C n _ hCl hn20).mono ?_;rintro e w3 ⟨rfl,rfl⟩;rw [HNE.out];go_wp2_with fail;go_roundw
       case rel=>exact⟨i+1,code zs i,_,by go_num,by omega,rfl,by rw [ZaL,hlnn.out];exact Nat.le_refl _,by rw [HCODE.out];exact HNX.out,HCS.out.take _ rfl,HD2.out,HB2.out⟩
       case measure=>simp [intOf];omega
     ·have hxn2:(x==(n:Int))=false:=by rw [beq_eq_false_iff_ne];exact hxn
      have hlnn:Hid (¬ln zs i=n):=zh (by rw [hln.out];omega);go_wp2_with fail;go_roundw
      case rel=>exact⟨i+1,C,F,by go_num,by omega,rfl,hCl,by rw [Zd9 hlnn.out];exact HCA.out,HCS.out.skip hlnn.out,HR.out,HB.out⟩
      case measure=>simp [intOf];omega
    ·obtain rfl:i=N:=by omega
     go_wp2_with fail;go_roundw
     case rel=>exact⟨n+1,C,F,by go_num,by omega,by omega,rfl,by omega,fun h=>by rw [Zeb (by omega),HN.out];exact HCA.out.next,CodesAt.next (by rw [HN.out];exact HCS.out),HR.out,HB.out⟩
     case measure=>simp [intOf];omega
  ·obtain rfl:n=21:=by omega
   go_wp2_with fail;go_ret;rw [HG.out];exact⟨rfl,HR.out.ext (fun j hj=>HCS.out j (by rw [HN.out];exact hj) (Or.inl (by have:=(Zht (fun z hz=>HW.out.1 z hz) (show j<zs.length by rw [HN.out];exact hj)).2;omega))),HB.out⟩
end
section
open Go.RowKit TabM FreqM HufM
theorem Zee (vg vr:Value) (g:List Int) (rows:List (List Int)) (N:Nat) (w:World) (hg:IsInts w vg g) (hr:IsRR w vr rows) (hsy:Syms g (N:Int)) (hok:TabOk N rows) (hg50:g.length<=50) (hN:N<=258) :
  Calls Tryz.prog 151 #[vg,vr] w fun e w'=>e=.returned (.int .i64 (pickM g rows:Int))/\Below w.heap.size w w':=by
 have HG:=zh hg;have HR:=zh hr;have HOK:=zh hok;obtain⟨hl2,hl6,_⟩:=hok
 have HBD:Hid (∀k,k<rows.length->0<=costS g (rw_ rows k)/\costS g (rw_ rows k)<=1000):=zh (fun k hk=>by
  obtain⟨h1,h2⟩:=HOK.out.at_ hk;have h3:=Zg9 hsy h1 h2;omega)
 have HCO:Hid (∀(k:Nat) (u:Value) (W:World),k<rows.length->IsInts W vg g->IsInts W u (rw_ rows k)->Calls Tryz.prog 178 #[vg,u] W fun e w'=>e=.returned (.int .i64 (costS g (rw_ rows k)))/\W=w'):=zh (fun k u W hk h1 h2=>by
  obtain⟨h3,h4⟩:=HOK.out.at_ hk;have h5:=HBD.out k hk;have h6:=Zd3 vg u g (rw_ rows k) W h1 h2 (by omega) (by omega) ⟨by rw [h3];exact hsy,fun x hx=>by have:=h4 x hx;omega⟩;rw [Zgk _ (by omega)] at h6;exact h6)
 obtain⟨ag,cg,rfl,_⟩:=hg;obtain⟨ar,cr,rfl,_⟩:=hr;obtain⟨T,hT⟩:∃T,rows.length=T:=⟨_,rfl⟩
 have HT:=zh hT;obtain⟨L,hL⟩:∃L,g.length=L:=⟨_,rfl⟩
 obtain⟨M,hM⟩:∃M,pickM g rows=M:=⟨_,rfl⟩
 have HM:Hid (pk g rows T=M):=zh (by rw [<-hT];exact hM);rw [hM];rw [hL] at HG HCO ⊢;rw [hT] at hl2 hl6 HCO HBD ⊢;clear hT hM hsy hg50 hL HOK;go_enter Tryz.func151,Tryz.ntmps151;go_wp2_with fail
 go_loopw [5,10] (fun vp vk wr=>∃k:Nat,vk=.int .i64 (k:Int)/\k<=T/\vp=.int .i64 (pk g rows k:Int)/\Below w.heap.size w wr) (fun _ vk _=>T-(intOf vk).toNat)
 case atStart=>exact⟨0,rfl,by omega,rfl,Below.refl _ _⟩
 case round=>
  obtain⟨k,rfl,hk,rfl,hB⟩:=hrel;have HB:=zh hB;clear hB;by_cases hkT:k<T
  ·have hki:(k:Int)<(T:Int):=by omega
   have hle:=ZlM g rows k;have HPS:Hid (pk g rows (k+1)=if costS g (rw_ rows k)<costS g (rw_ rows (pk g rows k)) then k else pk g rows k):=zh rfl;obtain⟨p,hp⟩:∃p,pk g rows k=p:=⟨_,rfl⟩
   rw [hp] at HPS hle ⊢;clear hp;have hpT:p<T:=by omega
   have hpi:(p:Int)<(T:Int):=by omega
   have HR2:=zh (HR.out.below HB.out);obtain⟨b,off,cap,u,he,c1,hI⟩:=HR2.out.at_ (show k<rows.length by rw [HT.out];exact hkT);rw [HT.out] at he;simp only [Value.slice.injEq] at he;obtain⟨rfl,he2,rfl⟩:=he;clear he2;obtain⟨b2,off2,cap2,u2,he,c2,hI2⟩:=HR2.out.at_ (show p<rows.length by rw [HT.out];exact hpT);rw [HT.out] at he;simp only [Value.slice.injEq] at he;obtain⟨he1,_,rfl⟩:=he;simp only [Option.some.injEq,Addr.mk.injEq] at he1;obtain⟨rfl,rfl,_⟩:=he1;have HGB:Hid (∀sb:Beneath wr.heap.size wr,IsInts sb.val (.slice ag L cg) g/\IsInts sb.val u (rw_ rows k)/\IsInts sb.val u2 (rw_ rows p)):=zh (fun sb=>⟨(HG.out.below HB.out).below sb.is,hI.below sb.is,hI2.below sb.is⟩);have q2:∀sb:Beneath wr.heap.size wr,sb.val.cell? ⟨b,off+p,none⟩=some u2:=fun sb=>Beneath.cell c2 (ZaE c2) sb
   obtain⟨au,cu,hu,_⟩:=hI;obtain⟨au2,cu2,hu2,_⟩:=hI2;obtain⟨C1,hC1⟩:∃C,costS g (rw_ rows k)=C:=⟨_,rfl⟩
   obtain⟨C2,hC2⟩:∃C,costS g (rw_ rows p)=C:=⟨_,rfl⟩
   have HC1:=zh (fun u W h1 h2=>HCO.out k u W hkT h1 h2);have HC2:=zh (fun u W h1 h2=>HCO.out p u W hpT h1 h2);rw [hC1] at HC1 HPS;rw [hC2] at HC2 HPS;obtain⟨n1,hn1⟩:∃n,(rw_ rows k).length=n:=⟨_,rfl⟩
   obtain⟨n2,hn2⟩:∃n,(rw_ rows p).length=n:=⟨_,rfl⟩
   rw [hn1] at hu;rw [hn2] at hu2;subst hu hu2;clear hC1 hC2 hn1 hn2 c2 HR2 hle hpT
   go_upto_region 5 with fail
   refine Zap wr.heap.size wr (Below.refl _ _) (by kernel_rfl) (by kernel_rfl) ?_
   repeat (go_big_quiet_step (first
    | (go_at_call 178;rename_i sb;exact Calls.beneath_same sb (HC1.out _ _ (HGB.out sb).1 (HGB.out sb).2.1))
    | (go_at_call 178;rename_i sb;exact Calls.beneath_same sb (HC2.out _ _ (HGB.out sb).1 (HGB.out sb).2.2))))
   refine wpQuiet_nil ?_;rintro _ ⟨sb,rfl⟩;have HB6:=zh (HB.out.trans (sb.is.mono HB.out.size));clear HGB q2 HB;generalize sb.val=W6 at *;by_cases hlt:C1<C2
   ·have HNX:Hid (pk g rows (k+1)=k):=zh (by rw [HPS.out,if_pos hlt]);clear HPS;go_wp2_with fail;go_roundw
    case rel=>exact⟨k+1,by go_num,by omega,by rw [HNX.out],HB6.out⟩
    case measure=>simp [intOf];omega
   ·have HNX:Hid (pk g rows (k+1)=p):=zh (by rw [HPS.out,if_neg hlt]);clear HPS;go_wp2_with fail;go_roundw
    case rel=>exact⟨k+1,by go_num,by omega,by rw [HNX.out],HB6.out⟩
    case measure=>simp [intOf];omega
  ·obtain rfl:k=T:=by omega
   have hki:¬(k:Int)<(k:Int):=by omega
   rw [HM.out];go_wp2_with fail;go_ret;exact⟨rfl,HB.out⟩
end
section
open Go.RowKit FreqM
def GrS (zs:List Int) (k q:Nat) (now:List Int):Prop:=(k<zs.length/\50*q<=k/\k<50*q+50/\now=(zs.take k).drop (50*q))\/(k=zs.length/\q=ng zs.length)
theorem Zfh (zs:List Int) (k q:Nat) (h:k<zs.length) (hq:50*q<=k):(zs.take k).drop (50*q)++[zs.getD k 0]=(zs.take (k+1)).drop (50*q):=by
 rw [List.take_succ_eq_append_getElem h,List.drop_append_of_le_length (by rw [List.length_take];omega),List.getD_eq_getElem?_getD,List.getElem?_eq_getElem h];rfl
theorem Zfi (zs:List Int) (k q:Nat) (h:k<zs.length) (hf:k+1=50*q+50\/k+1=zs.length) (hk:k<50*q+50):(zs.take (k+1)).drop (50*q)=grp zs q:=by
 unfold grp;rw [List.drop_take];rcases hf with h1|h1
 ·rw [show k+1-50*q=50 by omega]
 ·rw [List.take_of_length_le (by rw [List.length_drop];omega),List.take_of_length_le (by rw [List.length_drop];omega)]
theorem Zcy (v0:Value) (zs:List Int) (w:World) (hv:IsInts w v0 zs) (hz:zs.length<=1000) :
  Calls Tryz.prog 150 #[v0] w fun e w'=>∃r bn,e=.returned r/\OwnRI w' w.heap.size bn r (grps zs (ng zs.length))/\Below w.heap.size w w':=by
 have HV:=zh hv;obtain⟨a,cap,rfl,_⟩:=hv;go_enter Tryz.func150,Tryz.ntmps150;go_wp2_with fail
 go_loopw [3,4,9] (fun o n i wr=>∃(k q bn:Nat) (now:List Int) (v u:Value),k<=zs.length/\i=.int .i64 k/\v=o/\u=n/\GrS zs k q now/\OwnRI wr w.heap.size bn v (grps zs q)/\OwnI wr bn u now/\Below w.heap.size w wr) (fun _ _ i _=>zs.length-(intOf i).toNat)
 case atStart=>
  refine⟨0,0,w.heap.size,[],.slice none 0 0,.slice none 0 0,by omega,rfl,rfl,rfl,?_,OwnRI.nil _ _ (Nat.le_refl _),OwnI.nil _ _,Below.refl _ _⟩;by_cases h:zs.length=0
  ·exact Or.inr ⟨h.symm,by rw [h];rfl⟩
  ·exact Or.inl ⟨by omega,by omega,by omega,by simp⟩
 case round=>
  obtain⟨k,q,bn,now,v,u,hk,rfl,rfl,rfl,hG,hR,hU,hB⟩:=hrel;have HR:=zh hR;have HU:=zh hU;have HB:=zh hB;have hbn:=hR.2.1;have hBbn:=hR.1;clear hR hU hB;by_cases hlk:k<zs.length
  ·have hki:(k:Int)<(zs.length:Int):=by omega
   obtain⟨_,hq1,hq2,rfl⟩:=hG.resolve_right (fun h=>by omega);have HV2:=zh (HV.out.below HB.out);obtain⟨b1,o1,k1,he1,c1⟩:=HV2.out.cell hlk;simp only [Value.slice.injEq] at he1;obtain⟨rfl,_,rfl⟩:=he1;have HNX:=zh (Zfh zs k q hlk hq1);have HFU:=zh (Zfi zs k q hlk);have HGO:Hid (¬k+1=50*q+50->¬k+1=zs.length->GrS zs (k+1) q ((zs.take (k+1)).drop (50*q))):=zh (fun h1 h2=>Or.inl ⟨by omega,by omega,by omega,rfl⟩);have hnl:((zs.take k).drop (50*q)).length=k-50*q:=by rw [List.length_drop,List.length_take];omega
   have hnl2:((zs.take (k+1)).drop (50*q)).length=k+1-50*q:=by rw [List.length_drop,List.length_take];omega
   have hln:((zs.take k).drop (50*q)).length+1<=17592186044416:=by omega
   have hna:((zs.take (k+1)).drop (50*q)).length+50*q<=k+1:=by omega
   have hnb:k+1<=((zs.take (k+1)).drop (50*q)).length+50*q:=by omega
   clear hnl hnl2 hG;generalize zs.getD k 0=x at *;generalize (zs.take k).drop (50*q)=now at *
   go_upto_region 7 with(at_builtin;go_loud (refine Zaf wr rfl _ _ rfl bn _ now x HU.out rfl rfl hln hbn ?_))
   intro u2 w2 hO2 hB2;rw [HNX.out] at hO2;have HU2:=zh hO2;have HR2:=zh (HR.out.below hB2);have HB2:=zh (HB.out.trans (hB2.mono hBbn));have hbn2:bn<=w2.heap.size:=Nat.le_trans hbn hB2.size;have hBw2:w.heap.size<=w2.heap.size:=HB2.out.size;clear hO2 hB2 HR HU HB HNX hln;generalize (zs.take (k+1)).drop (50*q)=now2 at *;obtain⟨au,cu,rfl⟩:=HU2.out.slice;generalize now2.length=N at *;have hgl:(grps zs q).length+1<=1099511627776:=by rw [Zaz];omega
   have hwk:IntKind.i64.wrap ((k:Int)+1)=(k:Int)+1:=IntWalk.i64_in _ (by omega);by_cases hA:k+1=50*q+50
   ·have hN50:((N:Int)==50)=true:=by rw [beq_iff_eq];omega
    have hN50':N=50:=by omega
    have e1:=HFU.out (Or.inl hA) hq2;subst e1
    have HGS:Hid (GrS zs (k+1) (q+1) []):=zh (by
     by_cases h:k+1<zs.length
     ·exact Or.inl ⟨h,by omega,by omega,by rw [List.drop_eq_nil_of_le (by rw [List.length_take];omega)]⟩
     ·exact Or.inr ⟨by omega,by unfold ng;omega⟩)
    subst hN50';go_wp2_with (at_builtin;go_loud (refine Zbp w2 rfl _ _ rfl w.heap.size bn _ (grps zs q) _ (grp zs q) HR2.out HU2.out.ints (fun k hk=>HU2.out.lt k hk) rfl rfl hgl ?_));intro v3 w3 hR3 hB3 _ _;rw [<-ZbX] at hR3;have HR3:=zh hR3;have HB3:=zh (HB2.out.trans hB3);clear hR3 hB3;go_wp2_with fail;go_roundw
    case rel=>exact⟨k+1,q+1,w3.heap.size,[],v3,_,by omega,by go_num,rfl,rfl,HGS.out,HR3.out,OwnI.nil _ _,HB3.out⟩
    case measure=>simp [intOf];omega
   ·have hN50:((N:Int)==50)=false:=by rw [beq_eq_false_iff_ne];omega
    by_cases hC:k+1=zs.length
    ·have hCI:((k:Int)+1==(zs.length:Int))=true:=by rw [beq_iff_eq];omega
     have e1:=HFU.out (Or.inr hC) hq2;subst e1;have HGS:Hid (GrS zs (k+1) (q+1) []):=zh (Or.inr ⟨hC,by unfold ng;omega⟩);go_wp2_with (at_builtin;go_loud (refine Zbp w2 rfl _ _ rfl w.heap.size bn _ (grps zs q) _ (grp zs q) HR2.out HU2.out.ints (fun k hk=>HU2.out.lt k hk) rfl rfl hgl ?_));intro v3 w3 hR3 hB3 _ _;rw [<-ZbX] at hR3;have HR3:=zh hR3;have HB3:=zh (HB2.out.trans hB3);clear hR3 hB3;go_wp2_with fail;go_roundw
     case rel=>exact⟨k+1,q+1,w3.heap.size,[],v3,_,by omega,by go_num,rfl,rfl,HGS.out,HR3.out,OwnI.nil _ _,HB3.out⟩
     case measure=>simp [intOf];omega
    ·have hCI:((k:Int)+1==(zs.length:Int))=false:=by rw [beq_eq_false_iff_ne];omega
     have HGS:=zh (HGO.out hA hC);clear HGO HFU;go_wp2_with fail;go_roundw
     case rel=>exact⟨k+1,q,bn,now2,v,_,by omega,by go_num,rfl,rfl,HGS.out,HR2.out,HU2.out,HB2.out⟩
     case measure=>simp [intOf];omega
  ·obtain rfl:k=zs.length:=by omega
   have hq:q=ng zs.length:=by
    rcases hG with⟨h,_⟩|⟨_,h⟩
    ·omega
    ·exact h
   subst hq;go_wp2_with fail;go_ret;exact⟨_,_,rfl,HR.out,HB.out⟩
end
section
open Go.RowKit TabM FreqM HufM
theorem Zdk (n:Int) (w:World):Calls Tryz.prog 176 #[.int .i64 n] w fun e w'=>e=.returned (.int .i64 (nTab n:Int))/\w'=w:=by
 by_cases h1:n<200
 ·have e:nTab n=2:=by unfold nTab;rw [if_pos h1]
  rw [e];clear e;go_enter Tryz.func176,Tryz.ntmps176;go_wp2_with fail;go_ret;exact⟨rfl,rfl⟩
 ·by_cases h2:n<600
  ·have e:nTab n=3:=by unfold nTab;rw [if_neg h1,if_pos h2]
   rw [e];clear e;go_enter Tryz.func176,Tryz.ntmps176;go_wp2_with fail;go_ret;exact⟨rfl,rfl⟩
  ·by_cases h3:n<1200
   ·have e:nTab n=4:=by unfold nTab;rw [if_neg h1,if_neg h2,if_pos h3]
    rw [e];clear e;go_enter Tryz.func176,Tryz.ntmps176;go_wp2_with fail;go_ret;exact⟨rfl,rfl⟩
   ·by_cases h4:n<2400
    ·have e:nTab n=5:=by unfold nTab;rw [if_neg h1,if_neg h2,if_neg h3,if_pos h4]
     rw [e];clear e;go_enter Tryz.func176,Tryz.ntmps176;go_wp2_with fail;go_ret;exact⟨rfl,rfl⟩
    ·have e:nTab n=6:=by unfold nTab;rw [if_neg h1,if_neg h2,if_neg h3,if_neg h4]
     rw [e];clear e;go_enter Tryz.func176,Tryz.ntmps176;go_wp2_with fail;go_ret;exact⟨rfl,rfl⟩
theorem Zfj (cs:List Int) (n:Int) (p k:Nat) (hk:k<cs.length):(fRow cs n cs.length p).take (k+1)=(fRow cs n cs.length p).take k++[if tb cs n k=p then 0 else 15]:=by
 rw [List.take_succ_eq_append_getElem (by rw [ZdF];exact hk)];simp [fRow,hk]
theorem ZtH (cs:List Int) (n:Int) (p:Nat):(List.range (p+1)).map (fRow cs n cs.length)=(List.range p).map (fRow cs n cs.length)++[fRow cs n cs.length p]:=by
 rw [List.range_succ,List.map_append];rfl
theorem Zdl (v:Value) (cs:List Int) (n:Int) (w:World) (hv:IsInts w v cs) (hcs:Nums cs) (h258:cs.length<=258) (hn1:1<=n) (hn2:n<=1099511627776) :
  Calls Tryz.prog 148 #[v,.int .i64 n] w fun e w'=>∃u,e=.returned u/\IsRR w' u (firstM cs n)/\Below w.heap.size w w':=by
 have HV:=zh hv;have HCS:=zh hcs;obtain⟨ad,cap,rfl,_⟩:=hv;obtain⟨N,hN⟩:∃N,cs.length=N:=⟨_,rfl⟩
 have HN:=zh hN;obtain⟨T,hT⟩:∃T,nTab n=T:=⟨_,rfl⟩
 have HT:=zh hT;have hTb:=Zc8 n;rw [hT] at hTb;obtain⟨hT2,hT6⟩:=hTb;have HNU:=zh (Zdk n w);rw [hT] at HNU;have HTB:Hid (∀k,min (sm cs k) (n-1)*(T:Int) / n=(tb cs n k:Int)/\tb cs n k<T):=zh (fun k=>by rw [<-hT];exact Znt (fun x hx=>(hcs x hx).1) hn1 k);have HSS:Hid (∀k,k<N->sm cs (k+1)=sm cs k+cs.getD k 0):=zh (fun k hk=>Zhx cs (by omega));have HS0:Hid (∀k,0<=sm cs k):=zh (fun k=>Zns (fun x hx=>(hcs x hx).1) k);have HRO:Hid (∀p k,k<N->(fRow cs n N p).take (k+1)=(fRow cs n N p).take k++[if tb cs n k=p then 0 else 15]):=zh (fun p k hk=>by rw [<-hN];exact Zfj cs n p k (by omega));have HRS:Hid (∀p,(List.range (p+1)).map (fRow cs n N)=(List.range p).map (fRow cs n N)++[fRow cs n N p]):=zh (fun p=>by rw [<-hN];exact ZtH cs n p);have HFL:Hid (∀p,(fRow cs n N p).length=N):=zh (fun p=>by rw [ZdF,hN]);rw [hN] at h258 HV ⊢;have HFM:Hid (firstM cs n=(List.range T).map (fRow cs n N)):=zh (by unfold firstM firstK;rw [hT,hN]);rw [HFM.out];clear hcs hN hT HFM;go_enter Tryz.func148,Tryz.ntmps148;go_wp2_with fail;refine HNU.out.mono ?_;rintro e w1 ⟨rfl,rfl⟩;go_wp2_with fail
 go_loopw [6,15] (fun vo vp wr=>∃(p bn:Nat) (v:Value),vp=.int .i64 (p:Int)/\v=vo/\p<=T/\OwnRR wr w1.heap.size bn v ((List.range p).map (fRow cs n N))/\Below w1.heap.size w1 wr) (fun _ vp _=>T-(intOf vp).toNat)
 case atStart=>exact⟨0,w1.heap.size,_,rfl,rfl,by omega,OwnRR.nil _ _ (Nat.le_refl _),Below.refl _ _⟩
 case round=>
  obtain⟨p,bn,v,rfl,rfl,hp,hR,hB⟩:=hrel;have HR:=zh hR;have HB:=zh hB;have HBN:Hid (bn<=wr.heap.size):=zh hR.2.1;have HBB:Hid (w1.heap.size<=bn):=zh hR.1;clear hR hB;by_cases hpT:p<T
  ·have hpi:(p:Int)<(T:Int):=by omega
   go_wp2_with fail;obtain⟨wa,rfl⟩:∃wa:World,wa=wr:=⟨_,rfl⟩
   go_loopw [8,9,20] (fun vl vb vk wr=>∃(k:Nat) (u:Value) (b:Int),vk=.int .i64 (k:Int)/\u=vl/\k<=N/\vb=.int .i64 b/\min b (n-1)=min (sm cs k) (n-1)/\0<=b/\b<=2199023255552/\OwnI wr bn u ((fRow cs n N p).take k)/\Below bn wa wr) (fun _ _ vk _=>N-(intOf vk).toNat)
   case atStart=>exact⟨0,_,0,rfl,rfl,by omega,rfl,by rw [Zhw],by omega,by omega,by rw [List.take_zero];exact OwnI.nil _ _,Below.refl _ _⟩
   case round=>
    obtain⟨k,u,b,rfl,rfl,hk,rfl,hmin,hb0,hb1,hU,hBI⟩:=hrel;have HU:=zh hU;have HBI:=zh hBI;clear hU hBI;by_cases hkN:k<N
    ·have hki:(k:Int)<(N:Int):=by omega
     have HV2:=zh (HV.out.below (HB.out.trans (HBI.out.mono HBB.out)));obtain⟨b1,o1,k1,he1,c1⟩:=HV2.out.cell (show k<cs.length by rw [HN.out];exact hkN);rw [HN.out] at he1;simp only [Value.slice.injEq] at he1;obtain⟨rfl,_,rfl⟩:=he1;have hxm:=HCS.out _ (FreqM.getD_mem cs k (by rw [HN.out];exact hkN));have hss:=HSS.out k hkN;have hs0:=HS0.out k;obtain⟨x,hx⟩:∃x,cs.getD k 0=x:=⟨_,rfl⟩
     rw [hx] at c1 hxm hss;obtain⟨hq,htT⟩:=HTB.out k;have HROW:=zh (HRO.out p k hkN);obtain⟨t,htt⟩:∃t,tb cs n k=t:=⟨_,rfl⟩
     rw [htt] at hq htT HROW;rw [<-hmin] at hq;have HTK:Hid (((fRow cs n N p).take k).length+1<=17592186044416):=zh (by rw [List.length_take];omega);clear hx htt;by_cases hcl:n-1<b
     ·have hme:min b (n-1)=(n-1):=by omega
      rw [hme] at hmin hq;have HMN:Hid (min ((n-1)+x) (n-1)=min (sm cs (k+1)) (n-1)):=zh (by rw [hss];omega);have hP0:0<=(n-1)*(T:Int):=Int.mul_nonneg (by omega) (by omega);have hP1:(n-1)*(T:Int)<=1099511627776*6:=Int.mul_le_mul (by omega) (by omega) (by omega) (by omega);obtain⟨P,hP⟩:∃P,(n-1)*(T:Int)=P:=⟨_,rfl⟩
      rw [hP] at hq hP0 hP1;have hPt:P.tdiv n=(t:Int):=by rw [Int.tdiv_eq_ediv_of_nonneg hP0,hq]
      have hn0:¬n=0:=by omega
      clear hme hq hss hmin;by_cases hep:t=p
      ·have HNX:Hid ((fRow cs n N p).take (k+1)=(fRow cs n N p).take k++[0]):=zh (by rw [HROW.out,if_pos hep]);have hepb:((t:Int)==(p:Int))=true:=by rw [beq_iff_eq];omega
       clear HROW hep
       go_upto_region 16 with(at_builtin;refine Zaf wr rfl _ _ rfl bn _ ((fRow cs n N p).take k) 0 HU.out rfl rfl HTK.out (Nat.le_trans HBN.out HBI.out.size) ?_)
       intro u2 w2 hO2 hB2;have HU2:Hid (OwnI w2 bn u2 ((fRow cs n N p).take (k+1))):=zh (by rw [HNX.out];exact hO2);have HB2:Hid (Below bn wa w2):=zh (HBI.out.trans hB2);clear hO2 hB2;go_wp2_with fail;go_roundw
       case rel=>exact⟨k+1,u2,(n-1)+x,by go_num,rfl,by omega,by first|rfl|go_num,HMN.out,by omega,by omega,HU2.out,HB2.out⟩
       case measure=>simp [intOf];omega
      ·have HNX:Hid ((fRow cs n N p).take (k+1)=(fRow cs n N p).take k++[15]):=zh (by rw [HROW.out,if_neg hep]);have hepb:((t:Int)==(p:Int))=false:=by rw [beq_eq_false_iff_ne];omega
       clear HROW hep
       go_upto_region 16 with(at_builtin;refine Zaf wr rfl _ _ rfl bn _ ((fRow cs n N p).take k) 15 HU.out rfl rfl HTK.out (Nat.le_trans HBN.out HBI.out.size) ?_)
       intro u2 w2 hO2 hB2;have HU2:Hid (OwnI w2 bn u2 ((fRow cs n N p).take (k+1))):=zh (by rw [HNX.out];exact hO2);have HB2:Hid (Below bn wa w2):=zh (HBI.out.trans hB2);clear hO2 hB2;go_wp2_with fail;go_roundw
       case rel=>exact⟨k+1,u2,(n-1)+x,by go_num,rfl,by omega,by first|rfl|go_num,HMN.out,by omega,by omega,HU2.out,HB2.out⟩
       case measure=>simp [intOf];omega
     ·have hme:min b (n-1)=b:=by omega
      rw [hme] at hmin hq;have HMN:Hid (min (b+x) (n-1)=min (sm cs (k+1)) (n-1)):=zh (by rw [hss];omega);have hP0:0<=b*(T:Int):=Int.mul_nonneg (by omega) (by omega);have hP1:b*(T:Int)<=1099511627776*6:=Int.mul_le_mul (by omega) (by omega) (by omega) (by omega);obtain⟨P,hP⟩:∃P,b*(T:Int)=P:=⟨_,rfl⟩
      rw [hP] at hq hP0 hP1;have hPt:P.tdiv n=(t:Int):=by rw [Int.tdiv_eq_ediv_of_nonneg hP0,hq]
      have hn0:¬n=0:=by omega
      clear hme hq hss hmin;by_cases hep:t=p
      ·have HNX:Hid ((fRow cs n N p).take (k+1)=(fRow cs n N p).take k++[0]):=zh (by rw [HROW.out,if_pos hep]);have hepb:((t:Int)==(p:Int))=true:=by rw [beq_iff_eq];omega
       clear HROW hep
       go_upto_region 16 with(at_builtin;refine Zaf wr rfl _ _ rfl bn _ ((fRow cs n N p).take k) 0 HU.out rfl rfl HTK.out (Nat.le_trans HBN.out HBI.out.size) ?_)
       intro u2 w2 hO2 hB2;have HU2:Hid (OwnI w2 bn u2 ((fRow cs n N p).take (k+1))):=zh (by rw [HNX.out];exact hO2);have HB2:Hid (Below bn wa w2):=zh (HBI.out.trans hB2);clear hO2 hB2;go_wp2_with fail;go_roundw
       case rel=>exact⟨k+1,u2,b+x,by go_num,rfl,by omega,by first|rfl|go_num,HMN.out,by omega,by omega,HU2.out,HB2.out⟩
       case measure=>simp [intOf];omega
      ·have HNX:Hid ((fRow cs n N p).take (k+1)=(fRow cs n N p).take k++[15]):=zh (by rw [HROW.out,if_neg hep]);have hepb:((t:Int)==(p:Int))=false:=by rw [beq_eq_false_iff_ne];omega
       clear HROW hep
       go_upto_region 16 with(at_builtin;refine Zaf wr rfl _ _ rfl bn _ ((fRow cs n N p).take k) 15 HU.out rfl rfl HTK.out (Nat.le_trans HBN.out HBI.out.size) ?_)
       intro u2 w2 hO2 hB2;have HU2:Hid (OwnI w2 bn u2 ((fRow cs n N p).take (k+1))):=zh (by rw [HNX.out];exact hO2);have HB2:Hid (Below bn wa w2):=zh (HBI.out.trans hB2);clear hO2 hB2;go_wp2_with fail;go_roundw
       case rel=>exact⟨k+1,u2,b+x,by go_num,rfl,by omega,by first|rfl|go_num,HMN.out,by omega,by omega,HU2.out,HB2.out⟩
       case measure=>simp [intOf];omega
    ·obtain rfl:k=N:=by omega
     have hki:¬(k:Int)<(k:Int):=by omega
     have HU2:Hid (OwnI wr bn u (fRow cs n k p)):=zh (by have h:=HU.out;rw [List.take_of_length_le (by rw [HFL.out];exact Nat.le_refl _)] at h;exact h);have HR2:=zh (HR.out.below HBI.out);have HB2:Hid (Below w1.heap.size w1 wr):=zh (HB.out.trans (HBI.out.mono HBB.out));have hgl:Hid (((List.range p).map (fRow cs n k)).length+1<=1099511627776):=zh (by rw [List.length_map,List.length_range];omega);clear HU HBI hmin;obtain⟨au,cu,rfl⟩:=HU2.out.slice;rw [HFL.out] at HU2 ⊢;go_wp2_with (at_builtin;go_loud (refine Zh3 wr rfl _ _ rfl w1.heap.size bn _ ((List.range p).map (fRow cs n k)) _ (fRow cs n k p) HR2.out HU2.out rfl rfl hgl.out ?_));intro v3 w3 hR3 hB3;rw [<-HRS.out] at hR3;have HR3:=zh hR3;have HB3:=zh (HB2.out.trans hB3);clear hR3 hB3;go_wp2_with fail;go_roundw
     case rel=>exact⟨p+1,w3.heap.size,v3,by go_num,rfl,by omega,HR3.out,HB3.out⟩
     case measure=>simp [intOf];omega
  ·obtain rfl:p=T:=by omega
   have hpi:¬(p:Int)<(p:Int):=by omega
   have HRR:=zh HR.out.rr;go_wp2_with fail;go_ret;exact⟨_,rfl,HRR.out,HB.out⟩
theorem Zfk:(Tryz.prog.info? 167).map (·.size)=some 2:=by kernel_rfl
end
section
open Go.RowKit HufM
abbrev T3:=Tr×List Int
def tcells (t:T3) (u:Value):List Value:=[.int .i64 (t.1.1:Int),.int .i64 (t.1.2:Int),u]
def tflat:List T3->List Value->List Value
 | t::ts,u::us=>tcells t u++tflat ts us
 | _,_=>[]
theorem ZaV:∀(ts:List T3) (us:List Value) (t:T3) (u:Value),us.length=ts.length->tflat (ts++[t]) (us++[u])=tflat ts us++tcells t u
 | [],[],t,u,_=>by simp [tflat]
 | x::ts,y::us,t,u,h=>by
  simp only [List.cons_append,tflat];rw [ZaV ts us t u (by simpa using h),List.append_assoc]
 | [],y::us,t,u,h=>by simp at h
 | x::ts,[],t,u,h=>by simp at h
theorem Zc2:∀(ts:List T3) (us:List Value) (k:Nat) (t:T3) (u:Value),us.length=ts.length->ts[k]?=some t->us[k]?=some u ->
  (tflat ts us)[k*3]?=some (.int .i64 (t.1.1:Int))/\(tflat ts us)[k*3+1]?=some (.int .i64 (t.1.2:Int))/\(tflat ts us)[k*3+2]?=some u
 | [],_,k,t,u,_,h,_=>by simp at h
 | x::ts,[],k,t,u,hl,_,_=>by simp at hl
 | x::ts,y::us,0,t,u,_,h,h2=>by
  have e1:x=t:=by simpa using h
  have e2:y=u:=by simpa using h2
  subst e1 e2;exact⟨rfl,rfl,rfl⟩
 | x::ts,y::us,k+1,t,u,hl,h,h2=>by
  have ih:=Zc2 ts us k t u (by simpa using hl) (by simpa using h) (by simpa using h2);simp only [tflat];have e:(tcells x y).length=3:=rfl;rw [List.getElem?_append_right (by rw [e];omega),List.getElem?_append_right (by rw [e];omega),List.getElem?_append_right (by rw [e];omega),e];rw [show(k+1)*3-3=k*3 from by omega,show(k+1)*3+1-3=k*3+1 from by omega,show(k+1)*3+2-3=k*3+2 from by omega];exact ih
variable {X : Nat}
def OwnT (X:Nat) (W:World) (base:Nat) (v:Value) (ts:List T3):Prop:=
 ∃us:List Value,us.length=ts.length/\W.ownsRow base 257 3 v ts.length (tflat ts us)/\∀(i:Nat) (t:T3) (u:Value),ts[i]?=some t->us[i]?=some u->OwnI W 0 u t.2/\u.ownBlock≠some X
theorem OwnT.nil (W:World) (base:Nat):OwnT X W base (.slice none 0 0) []:=⟨[],rfl,World.ownsRow_nil _ _ _ _,fun i t u h=>by simp at h⟩
theorem OwnT.slice {W:World} {base:Nat} {v:Value} {ts:List T3} (h:OwnT X W base v ts):∃a cap,v=.slice a ts.length cap:=by
 obtain⟨us,h1,h2,h3⟩:=h;exact Zao h2
theorem OwnT.below {W W':World} {base:Nat} {v:Value} {ts:List T3} (h:OwnT X W base v ts) (hb:Below W.heap.size W W'):OwnT X W' base v ts:=by
 obtain⟨us,h1,h2,h3⟩:=h;exact⟨us,h1,Zag h2 (fun k hk=>hb.block k (World.ownsRow.lt h2 k hk).2),fun i t u ht hu=>⟨(h3 i t u ht hu).1.below hb,(h3 i t u ht hu).2⟩⟩
theorem OwnT.at {W:World} {base:Nat} {v:Value} {ts:List T3} (h:OwnT X W base v ts) {k:Nat} {t:T3} (ht:ts[k]?=some t) :
  ∃g cap u,v=.slice (some ⟨g,0,none⟩) ts.length cap/\g<W.heap.size/\W.cell? ⟨g,k*3,none⟩=some (.int .i64 (t.1.1:Int))/\W.cell? ⟨g,k*3+1,none⟩=some (.int .i64 (t.1.2:Int))/\W.cell? ⟨g,k*3+2,none⟩=some u/\OwnI W 0 u t.2/\u.ownBlock≠some X:=by
 obtain⟨us,h1,h2,h3⟩:=h;have hk:=(List.getElem?_eq_some_iff.1 ht).1;have hc:=h2;rcases h2.2 with⟨rfl,h0⟩|⟨g,cap,cur,rfl,hB,hg,hr⟩
 ·omega
 ·have hu:us[k]?=some (us[k]'(by omega)):=List.getElem?_eq_getElem (by omega);obtain⟨f1,f2,f3⟩:=Zc2 ts us k t _ h1 ht hu;refine⟨g,cap,_,rfl,(Array.getElem?_eq_some_iff.1 hg).1,?_,?_,?_,h3 k t _ ht hu⟩
  ·have:=hc.cells (g:=g) rfl _ _ f1
   rwa [Addr.add_lit,Nat.zero_add] at this
  ·have:=hc.cells (g:=g) rfl _ _ f2
   rwa [Addr.add_lit,Nat.zero_add] at this
  ·have:=hc.cells (g:=g) rfl _ _ f3
   rwa [Addr.add_lit,Nat.zero_add] at this
theorem OwnT.new {W:World} {base Y:Nat} {v:Value} {ts:List T3} (h:OwnT X W base v ts) (hY:W.heap.size<=Y):OwnT Y W base v ts:=by
 obtain⟨us,h1,h2,h3⟩:=h;refine⟨us,h1,h2,fun i t u ht hu=>⟨(h3 i t u ht hu).1,fun e=>?_⟩⟩;have:=(World.ownsRow.lt (h3 i t u ht hu).1 Y e).2;omega
theorem OwnT.set {W W':World} {base:Nat} {v:Value} {ts:List T3} (h:OwnT X W base v ts) {zs:List Int} (hX:RowI W X zs) (ht:Touch (·=X) W W'):OwnT X W' base v ts:=by
 obtain⟨us,h1,h2,h3⟩:=h
 have hlt:∀k,v.ownBlock=some k->k≠X:=fun k hk e=>by
  rcases h2.2 with⟨rfl,_⟩|⟨g,cap,cur,rfl,_,hgc,_⟩
  ·simp [Value.ownBlock] at hk
  ·simp [Value.ownBlock] at hk;subst hk e;unfold RowI at hX;rw [hgc] at hX;simp at hX
 refine⟨us,h1,Zag h2 (fun k hk=>ht.block k (World.ownsRow.lt h2 k hk).2 (hlt k hk)),fun i t u hti hu=>⟨?_,(h3 i t u hti hu).2⟩⟩;have ho:=(h3 i t u hti hu).1
 exact ho.same (fun k hk=>ht.block k (World.ownsRow.lt ho k hk).2 (fun e=>by
  have e':k=X:=e;subst e';exact(h3 i t u hti hu).2 hk))
theorem Zfl:(Tryz.prog.info? 257).map (fun i=>(i.zero,i.size,i.bytes))=some (some (.agg #[.int .i64 0,.int .i64 0,.slice none 0 0]),3,40):=by kernel_rfl
theorem Zbe {ops:Array Oper} {rest:List Oper} {o:Oper} {a:Act} {Q:Exit->Act->World->Prop} (W:World) (hgd:o.guard=none) (s x:Operand)
  (ho:o.op=.call { callee:=.builtin .append,args:=#[s,x],argTypes:=#[255,255] })
  (B G:Nat) (hG:W.heap.size=G) (v:Value) (ts:List T3) (t:T3) (u:Value) (hown:OwnT X W B v ts) (hu:OwnI W 0 u t.2) (hux:u.ownBlock≠some X) (hs:a.eval s=v) (hx:a.eval x=.slice (some ⟨G,0,none⟩) 1 1)
  (hlen:ts.length+1<=1000000) (hB:B<=W.heap.size)
  (h:∀v' w',OwnT X w' B v' (ts++[t])->Below B W w'->wpList Tryz.prog ops Q rest (a.put o.dst v') w') :
  wpList Tryz.prog ops Q (o::rest) a (W.alloc (.cells #[.int .i64 (t.1.1:Int),.int .i64 (t.1.2:Int),u] 257)):=by
 subst hG;obtain⟨i0,hi,hz0,hz1,hz2⟩:=info_parts Zfl;obtain⟨us,h1,h5,h6⟩:=hown;refine Zai hgd s x 255 ho B 257 i0 (.agg #[.int .i64 0,.int .i64 0,.slice none 0 0]) 3 40 Tryz.underlying255 hi hz0 hz1 hz2 rfl (by decide) v ts.length (tflat ts us) (World.ownsRow.alloc h5 _) hs ⟨W.heap.size,0,none⟩ 1 1 (tcells t u) hx rfl ?_ ?_ ?_ ?_ ?_ ?_
 ·exact ZaB _ _ _ _ rfl
 ·intro y hy;obtain⟨a1,c1,rfl⟩:=hu.slice;simp only [tcells,List.mem_cons,List.not_mem_nil,or_false] at hy;rcases hy with rfl|rfl|rfl<;>rfl
 ·unfold maxLen;omega
 ·omega
 ·simp;omega
 ·intro v' w' hown' hg hv;have hBW:Below B W w':=Below.grown ((Below.refl B W).alloc hB _) hg (by simp;omega) (fun j hj=>(World.ownsRow.lt h5 j hj).1)
  have leaf:∀(y:Value) (zs:List Int),OwnI W 0 y zs->OwnI w' 0 y zs:=fun y zs hy=>hy.same (fun k hk=>by
   have hlt:=(World.ownsRow.lt hy k hk).2;refine(hg.block k (by simp;omega) (fun e=>?_)).trans (Zam hlt);rcases h5.2 with⟨rfl,_⟩|⟨g,cap,cur,rfl,_,hgc,_⟩
   ·simp [Value.ownBlock] at e
   ·simp [Value.ownBlock] at e;rcases hy.2 with⟨rfl,_⟩|⟨g2,cap2,cur2,rfl,_,hgc2,_⟩
    ·simp [Value.ownBlock] at hk
    ·simp [Value.ownBlock] at hk;subst e hk;rw [hgc] at hgc2;simp at hgc2)
  refine h v' w' ⟨us++[u],by simp [h1],by rw [List.length_append,ZaV ts us t u h1];exact hown',fun i y z hy hz=>?_⟩ hBW;rw [List.getElem?_append] at hy hz;by_cases hlt:i<ts.length
  ·rw [if_pos hlt] at hy;rw [if_pos (by omega)] at hz;exact⟨leaf _ _ (h6 i y z hy hz).1,(h6 i y z hy hz).2⟩
  ·rw [if_neg hlt] at hy;rw [if_neg (by omega)] at hz
   have hi0:i-ts.length=0:=by
    by_cases h0:i-ts.length=0
    ·exact h0
    ·rw [List.getElem?_eq_none (by simp;omega)] at hy;cases hy
   rw [hi0] at hy;rw [h1,hi0] at hz;simp at hy hz;subst hy hz;exact⟨leaf _ _ hu,hux⟩
def tv (t:T3) (u:Value):Value:=.agg #[.int .i64 (t.1.1:Int),.int .i64 (t.1.2:Int),u]
theorem Zb6 (s t:T3) (u v:Value) (r:Bool) (w:World) (hr:r=true↔lt s.1 t.1) :
  Calls Tryz.prog 221 #[tv s u,tv t v] w fun e w'=>e=.returned (.bool r)/\Below w.heap.size w w':=by
 obtain⟨⟨a,b⟩,l⟩:=s;obtain⟨⟨c,d⟩,m⟩:=t;unfold lt at hr;simp only at hr;have HR:=zh hr;have HB:Hid (∀o o',Below w.heap.size w ((w.alloc o).alloc o')):=zh (fun o o'=>((Below.refl _ w).alloc (Nat.le_refl _) o).alloc (by simp) o');clear hr;unfold tv;simp only;by_cases h1:a<c
 ·have h1i:(a:Int)<(c:Int):=by omega
  obtain rfl:r=true:=HR.out.2 (Or.inl h1);go_enter Tryz.func221,Tryz.ntmps221;go_wp2_with fail;go_ret;exact⟨rfl,HB.out _ _⟩
 ·have h1i:decide ((a:Int)<(c:Int))=false:=by simp only [decide_eq_false_iff_not];omega
  by_cases h2:a=c
  ·have h2i:((a:Int)==(c:Int))=true:=by rw [beq_iff_eq];omega
   have h2n:a<=c:=by omega
   by_cases h3:b<d
   ·have h3i:(b:Int)<(d:Int):=by omega
    obtain rfl:r=true:=HR.out.2 (Or.inr ⟨h2,h3⟩);clear h2;go_enter Tryz.func221,Tryz.ntmps221;go_wp2_with fail;go_ret;exact⟨rfl,HB.out _ _⟩
   ·have h3i:decide ((b:Int)<(d:Int))=false:=by simp only [decide_eq_false_iff_not];omega
    obtain rfl:r=false:=by
     rw [Bool.eq_false_iff,Ne,HR.out];omega
    clear h2;go_enter Tryz.func221,Tryz.ntmps221;go_wp2_with fail;go_ret;exact⟨rfl,HB.out _ _⟩
  ·have h2i:((a:Int)==(c:Int))=false:=by rw [beq_eq_false_iff_ne];omega
   obtain rfl:r=false:=by
    rw [Bool.eq_false_iff,Ne,HR.out];omega
   go_enter Tryz.func221,Tryz.ntmps221;go_wp2_with fail;go_ret;exact⟨rfl,HB.out _ _⟩
def Za5 (ts:List T3) (m k:Nat):Prop:=∀(j:Nat) (t y:T3),j<k->ts[j]?=some t->ts[m]?=some y->¬lt t.1 y.1
theorem Zby (v:Value) (ts:List T3) (w:World) (base:Nat) (hv:OwnT X w base v ts) (h1:1<=ts.length) (hn:ts.length<=1000) :
  Calls Tryz.prog 207 #[v] w fun e w'=>∃at_:Nat,e=.returned (.int .i64 (at_:Int))/\at_<ts.length/\Za5 ts at_ ts.length/\Below w.heap.size w w':=by
 have HV:=zh hv;obtain⟨a0,cap0,rfl⟩:=hv.slice;clear hv;go_enter Tryz.func207,Tryz.ntmps207;go_wp2_with fail
 go_loopw [3,8] (fun va vi wr=>∃k m:Nat,vi=.int .i64 k/\k<=ts.length/\va=.int .i64 m/\m<ts.length/\Za5 ts m k/\Below w.heap.size w wr) (fun _ vi _=>ts.length-(intOf vi).toNat)
 case atStart=>exact⟨0,0,rfl,by omega,rfl,by omega,fun j t y hj=>by omega,Below.refl _ _⟩
 case round=>
  obtain⟨k,m,rfl,hk,rfl,hm,hA,hB⟩:=hrel;have HA:=zh hA;have HB:=zh hB;have HVW:=zh (HV.out.below hB);clear hA hB;by_cases hlk:k<ts.length
  ·have hki:(k:Int)<(ts.length:Int):=by omega
   have hmi:(m:Int)<(ts.length:Int):=by omega
   obtain⟨t,ht⟩:∃t,ts[k]?=some t:=⟨_,List.getElem?_eq_getElem hlk⟩
   obtain⟨y,hy⟩:∃y,ts[m]?=some y:=⟨_,List.getElem?_eq_getElem hm⟩
   obtain⟨g,cap,u,he,hg,c0,c1,c2,ho,hox⟩:=HVW.out.at ht;obtain⟨g2,cap2,u2,he2,hg2,d0,d1,d2,ho2,hox2⟩:=HVW.out.at hy;simp only [Value.slice.injEq] at he he2;obtain⟨rfl,_,rfl⟩:=he;simp only [Option.some.injEq,Addr.mk.injEq] at he2;obtain⟨⟨rfl,_⟩,_,rfl⟩:=he2;obtain⟨ua,uc,rfl⟩:=ho.slice;obtain⟨va,vc,rfl⟩:=ho2.slice;have HT:=zh ht;have HY:=zh hy;have hkn:k*3<3000:=by omega
   have hmn:m*3<3000:=by omega
   have W1:Hid (Below w.heap.size w (wr.alloc (.cells #[.int .i64 (t.1.1:Int),.int .i64 (t.1.2:Int),.slice ua t.2.length uc] 257))):=zh (HB.out.alloc HB.out.size _);have W0:Below wr.heap.size wr (wr.alloc (.cells #[.int .i64 (t.1.1:Int),.int .i64 (t.1.2:Int),.slice ua t.2.length uc] 257)):=(Below.refl _ wr).alloc (Nat.le_refl _) _;have d0':=(W0.cell (p:=⟨g,m*3,none⟩) hg).trans d0;have d1':=(W0.cell (p:=⟨g,m*3+1,none⟩) hg).trans d1;have d2':=(W0.cell (p:=⟨g,m*3+2,none⟩) hg).trans d2;have hnew:(wr.alloc (.cells #[.int .i64 (t.1.1:Int),.int .i64 (t.1.2:Int),.slice ua t.2.length uc] 257)).heap[wr.heap.size]?=some (.cells #[.int .i64 (t.1.1:Int),.int .i64 (t.1.2:Int),.slice ua t.2.length uc] 257 (0,0)):=heap_alloc_new wr _;have n0:(wr.alloc (.cells #[.int .i64 (t.1.1:Int),.int .i64 (t.1.2:Int),.slice ua t.2.length uc] 257)).cell? ⟨wr.heap.size,0,none⟩=some (.int .i64 (t.1.1:Int)):=by rw [cell_of_row _ _ _ _ _ _ hnew];rfl
   have n1:(wr.alloc (.cells #[.int .i64 (t.1.1:Int),.int .i64 (t.1.2:Int),.slice ua t.2.length uc] 257)).cell? ⟨wr.heap.size,1,none⟩=some (.int .i64 (t.1.2:Int)):=by rw [cell_of_row _ _ _ _ _ _ hnew];rfl
   have n2:(wr.alloc (.cells #[.int .i64 (t.1.1:Int),.int .i64 (t.1.2:Int),.slice ua t.2.length uc] 257)).cell? ⟨wr.heap.size,2,none⟩=some (.slice ua t.2.length uc):=by rw [cell_of_row _ _ _ _ _ _ hnew];rfl
   clear ht hy ho ho2 W0 hnew hox hox2;by_cases hlt:lt t.1 y.1
   ·have HL:=zh hlt;have HC:Hid (∀q,Calls Tryz.prog 221 #[tv t (.slice ua t.2.length uc),tv y (.slice va y.2.length vc)] q fun e w'=>e=.returned (.bool true)/\Below q.heap.size q w'):=zh (fun q=>Zb6 t y _ _ true q ⟨fun _=>hlt,fun _=>rfl⟩);clear hlt;go_wp2_with fail;generalize (wr.alloc (.cells #[.int .i64 (t.1.1:Int),.int .i64 (t.1.2:Int),.slice ua t.2.length uc] 257))=w2 at *
    go_still_tail 5,(by kernel_rfl)
    change wpList _ _ _ _ _ (w2.drewN 1);go_wp2_with fail;refine(HC.out _).mono ?_;rintro e w3 ⟨rfl,hb⟩;have HB3:Hid (Below w.heap.size w w3):=zh (W1.out.trans (((Zas w2 1).trans hb).mono W1.out.size));clear hb;go_wp2_with fail;go_roundw
    case rel=>exact⟨k+1,k,by go_num,by omega,rfl,hlk,fun j s z hj hs hz=>by
     rw [HT.out] at hz;cases hz;by_cases e:j=k
     ·subst e;rw [HT.out] at hs;cases hs;exact fun h=>ZdU h h
     ·intro h;exact HA.out j s y (by omega) hs HY.out (lt_trans h HL.out),HB3.out⟩
    case measure=>simp [intOf];omega
   ·have HL:=zh hlt;have HC:Hid (∀q,Calls Tryz.prog 221 #[tv t (.slice ua t.2.length uc),tv y (.slice va y.2.length vc)] q fun e w'=>e=.returned (.bool false)/\Below q.heap.size q w'):=zh (fun q=>Zb6 t y _ _ false q ⟨fun h=>(by cases h),fun h=>absurd h hlt⟩);clear hlt;go_wp2_with fail;generalize (wr.alloc (.cells #[.int .i64 (t.1.1:Int),.int .i64 (t.1.2:Int),.slice ua t.2.length uc] 257))=w2 at *
    go_still_tail 5,(by kernel_rfl)
    change wpList _ _ _ _ _ (w2.drewN 1);go_wp2_with fail;refine(HC.out _).mono ?_;rintro e w3 ⟨rfl,hb⟩;have HB3:Hid (Below w.heap.size w w3):=zh (W1.out.trans (((Zas w2 1).trans hb).mono W1.out.size));clear hb;go_wp2_with fail;go_roundw
    case rel=>exact⟨k+1,m,by go_num,by omega,rfl,hm,fun j s z hj hs hz=>by
     by_cases e:j=k
     ·subst e;rw [HT.out] at hs;rw [HY.out] at hz;cases hs;cases hz;exact HL.out
     ·exact HA.out j s z (by omega) hs hz,HB3.out⟩
    case measure=>simp [intOf];omega
  ·have hki:¬(k:Int)<(ts.length:Int):=by omega
   go_wp2_with fail;go_ret;exact⟨m,rfl,hm,fun j s z hj hs hz=>HA.out j s z (by omega) hs hz,HB.out⟩
def wo (ts:List T3) (m k:Nat):List T3:=(ts.take k).eraseIdx m
theorem ZgL {ts:List T3} {m k:Nat} {t:T3} (ht:ts[k]?=some t) (hne:k≠m):wo ts m (k+1)=wo ts m k++[t]:=by
 have hk:=(List.getElem?_eq_some_iff.1 ht).1;have hl:(ts.take k).length=k:=by rw [List.length_take];omega
 unfold wo;rw [List.take_add_one,ht];show(ts.take k++[t]).eraseIdx m=_;by_cases h:m<k
 ·rw [List.eraseIdx_append_of_lt_length (by omega)]
 ·rw [List.eraseIdx_append_of_length_le (by omega),hl,List.eraseIdx_of_length_le (l:=[t]) (by simp;omega),List.eraseIdx_of_length_le (l:=ts.take k) (by omega)]
theorem ZgM {ts:List T3} {m:Nat} (hm:m<ts.length):wo ts m (m+1)=wo ts m m:=by
 have hl:(ts.take m).length=m:=by rw [List.length_take];omega
 unfold wo;rw [List.take_add_one,List.getElem?_eq_getElem hm];show(ts.take m++[ts[m]]).eraseIdx m=_;rw [List.eraseIdx_append_of_length_le (by omega),hl,List.eraseIdx_of_length_le (l:=ts.take m) (by omega),Nat.sub_self];simp
theorem ZiT (ts:List T3) (m k:Nat):(wo ts m k).length<=ts.length:=by
 unfold wo;have:=List.length_eraseIdx_le (ts.take k) m;rw [List.length_take] at this;omega
theorem ZaW (v:Value) (ts:List T3) (m:Nat) (w:World) (base:Nat) (hv:OwnT X w base v ts) (hm:m<ts.length) (hn:ts.length<=1000) :
  Calls Tryz.prog 208 #[v,.int .i64 (m:Int)] w fun e w'=>∃r,e=.returned r/\OwnT X w' w.heap.size r (ts.eraseIdx m)/\Below w.heap.size w w':=by
 have HV:=zh hv;obtain⟨a0,cap0,rfl⟩:=hv.slice;clear hv;go_enter Tryz.func208,Tryz.ntmps208;go_wp2_with fail
 go_loopw [5,10] (fun vo vi wr=>∃(k:Nat) (o:Value),vi=.int .i64 k/\k<=ts.length/\o=vo/\OwnT X wr w.heap.size o (wo ts m k)/\Below w.heap.size w wr) (fun _ vi _=>ts.length-(intOf vi).toNat)
 case atStart=>exact⟨0,_,rfl,by omega,rfl,by simpa [wo] using OwnT.nil w w.heap.size,Below.refl _ _⟩
 case round=>
  obtain⟨k,o,rfl,hk,rfl,hO,hB⟩:=hrel;have HO:=zh hO;have HB:=zh hB;have HVW:=zh (HV.out.below hB);obtain⟨oa,oc,rfl⟩:=hO.slice;have hol:=ZiT ts m k;obtain⟨OL,hOL⟩:∃OL,(wo ts m k).length=OL:=⟨_,rfl⟩
  rw [hOL] at HO hol ⊢;have HOL:=zh hOL;clear hO hB hOL;by_cases hlk:k<ts.length
  ·have hki:(k:Int)<(ts.length:Int):=by omega
   obtain⟨t,ht⟩:∃t,ts[k]?=some t:=⟨_,List.getElem?_eq_getElem hlk⟩
   obtain⟨g,cap,u,he,hg,c0,c1,c2,ho,hox⟩:=HVW.out.at ht;simp only [Value.slice.injEq] at he;obtain⟨rfl,_,rfl⟩:=he;obtain⟨ua,uc,rfl⟩:=ho.slice;have HT:=zh ht;have hkn:k*3<3000:=by omega
   have W0:Hid (Below wr.heap.size wr (wr.alloc (.cells #[.int .i64 (t.1.1:Int),.int .i64 (t.1.2:Int),.slice ua t.2.length uc] 257))):=zh ((Below.refl _ wr).alloc (Nat.le_refl _) _);have W1:Hid (Below w.heap.size w (wr.alloc (.cells #[.int .i64 (t.1.1:Int),.int .i64 (t.1.2:Int),.slice ua t.2.length uc] 257))):=zh (HB.out.alloc HB.out.size _);have HO2:Hid (OwnT X (wr.alloc (.cells #[.int .i64 (t.1.1:Int),.int .i64 (t.1.2:Int),.slice ua t.2.length uc] 257)) w.heap.size (.slice oa OL oc) (wo ts m k)):=zh (HO.out.below W0.out);have HU2:Hid (OwnI (wr.alloc (.cells #[.int .i64 (t.1.1:Int),.int .i64 (t.1.2:Int),.slice ua t.2.length uc] 257)) 0 (.slice ua t.2.length uc) t.2):=zh (ho.below W0.out);have hnew:(wr.alloc (.cells #[.int .i64 (t.1.1:Int),.int .i64 (t.1.2:Int),.slice ua t.2.length uc] 257)).heap[wr.heap.size]?=some (.cells #[.int .i64 (t.1.1:Int),.int .i64 (t.1.2:Int),.slice ua t.2.length uc] 257 (0,0)):=heap_alloc_new wr _;have n0:(wr.alloc (.cells #[.int .i64 (t.1.1:Int),.int .i64 (t.1.2:Int),.slice ua t.2.length uc] 257)).cell? ⟨wr.heap.size,0,none⟩=some (.int .i64 (t.1.1:Int)):=by rw [cell_of_row _ _ _ _ _ _ hnew];rfl
   have n1:(wr.alloc (.cells #[.int .i64 (t.1.1:Int),.int .i64 (t.1.2:Int),.slice ua t.2.length uc] 257)).cell? ⟨wr.heap.size,1,none⟩=some (.int .i64 (t.1.2:Int)):=by rw [cell_of_row _ _ _ _ _ _ hnew];rfl
   have n2:(wr.alloc (.cells #[.int .i64 (t.1.1:Int),.int .i64 (t.1.2:Int),.slice ua t.2.length uc] 257)).cell? ⟨wr.heap.size,2,none⟩=some (.slice ua t.2.length uc):=by rw [cell_of_row _ _ _ _ _ _ hnew];rfl
   have HOX:=zh hox;clear ht ho hnew hox;by_cases hkm:k=m
   ·have hne:((k:Int) != (m:Int))=false:=by rw [bne_eq_false_iff_eq];omega
    have HKM:=zh hkm;clear hkm;go_wp2_with fail;go_roundw
    case rel=>exact⟨k+1,_,by go_num,by omega,rfl,by
     have:=HKM.out;subst this;rw [ZgM hm];exact HO2.out,W1.out⟩
    case measure=>simp [intOf];omega
   ·have hne:((k:Int) != (m:Int))=true:=by rw [bne_iff_ne];omega
    have HKM:=zh hkm;clear hkm;have HS1:=W1.out.size;go_wp2_with (at_builtin;go_loud (refine Zbe (wr.alloc (.cells #[.int .i64 (t.1.1:Int),.int .i64 (t.1.2:Int),.slice ua t.2.length uc] 257)) rfl _ _ rfl w.heap.size (wr.heap.size+1) (by simp) (.slice oa OL oc) (wo ts m k) t (.slice ua t.2.length uc) HO2.out HU2.out HOX.out rfl rfl (by rw [HOL.out];omega) HS1 ?_));intro v' w' hown hb;have HOWN:=zh hown;have HBB:Hid (Below w.heap.size w w'):=zh (W1.out.trans hb);clear hown hb;go_wp2_with fail;go_roundw
    case rel=>exact⟨k+1,_,by go_num,by omega,rfl,by rw [ZgL HT.out HKM.out];exact HOWN.out,HBB.out⟩
    case measure=>simp [intOf];omega
  ·have hki:¬(k:Int)<(ts.length:Int):=by omega
   have e:wo ts m k=ts.eraseIdx m:=by unfold wo;rw [List.take_of_length_le (by omega)]
   rw [e] at HO;clear e;go_wp2_with fail;go_ret;exact⟨_,rfl,HO.out,HB.out⟩
end
end Go.Proofs.YtlfpbcadcfaboaaGreatDoor

import Derived.Test.YtlfpbcadcfaboaaGreatDoorTcA
import Derived.Test.YtlfpbcadcfaboaaGreatDoorTcC
import Derived.Test.YtlfpbcadcfaboaaGreatDoorTcH
import Derived.Test.YtlfpbcadcfaboaaGreatDoorTcK
import Derived.Deep.Cut
import Derived.Deep.RegionHeld3
import Derived.Laws.EntriesVeiled
import Derived.WalkMore
set_option linter.unusedVariables false
set_option linter.unusedSimpArgs false
set_option maxHeartbeats 8000000
set_option maxRecDepth 100000
namespace Go.Proofs.YtlfpbcadcfaboaaGreatDoor
section
open Go.RowKit BitM HufM CanM CodM PkM
end
section
open Go.RowKit BitM HufM CanM CodM
end
section
open Go.RowKit
end
section
open Go.RowKit BitM HufM CanM CodM
end
section
open Go.RowKit BitM HufM CanM CodM TabM FreqM
theorem May14.len {zs:List Int} {N:Nat} (h:May14 zs (N:Int)) (hz:zs.length<=1000):(allC (rnd zs N 4) (pks zs N) zs).length<=300000:=by
 have h3:3<=N:=by have:=h.1;omega
 have h258:N<=258:=by have:=h.2.1;omega
 have hT6:(rnd zs N 4).length<=6:=(h.pk hz).2.1;have hpl:(pks zs N).length<=32767:=(h.pk hz).2.2.2.1;have h1:=ZfD h3 h258 _ (h.whs hz);have h2:=PkM.encK_len (pks zs N) hT6 (fun x hx=>Zhc x hx) _ (Nat.le_refl _);have h4:=(ZeR (h.tbs hz) zs 0 h.2.2.2.1 (by omega)).2;have h5:=PkM.allB_length (pks zs N) (rnd zs N 4).length;rw [<-PkM.encK_all _ _ (Nat.le_refl _)] at h5;unfold allC symB;rw [List.take_length,List.length_append,List.length_append];omega
end
section
open Go.RowKit
end
section
open Go.RowKit ZerM
theorem ZmV (base:Nat) (v:Value) (zs:List Int) (m:Nat) (w:World) (hv:OwnI w base v zs) (hb:base<=w.heap.size) (hz:zs.length+m<=17592186044416) (hm:m<=9223372036854775807) :
  Calls Tryz.prog 99 #[v,.int .i64 (m:Int)] w fun e w'=>∃v',e=.returned v'/\OwnI w' base v' (zs++rowC m)/\Below base w w':=by
 have HV:=zh hv;clear hv;go_enter Tryz.func99,Tryz.ntmps99;go_wp2_with fail
 go_step3
 go_wp2_with fail
 go_step3
 go_wp2_with fail
 go_loopw [0,1] (fun c i wr=>∃(u:Value) (ys:List Int) (j:Nat),c=u/\i=.int .i64 (j:Int)/\ys++rowC j=zs++rowC m/\ys.length+j<=17592186044416/\j<=9223372036854775807/\OwnI wr base u ys/\Below base w wr) (fun _ i _=>(intOf i).toNat)
 case atStart=>exact⟨v,zs,m,rfl,rfl,rfl,hz,hm,HV.out,Below.refl _ _⟩
 case round=>
  clear HV;obtain⟨u,ys,j,rfl,rfl,he,hl,hj,hO,hB⟩:=hrel;have HE:=zh he;have HO:=zh hO;have HB:=zh hB;have hbw:base<=wr.heap.size:=Nat.le_trans hb hB.size;clear he hO hB;by_cases h0:j=0
  ·subst h0;go_wp2_with fail
   try rw [Exit.noGoto_ret]
   go_ret;refine⟨_,rfl,?_,HB.out⟩;rw [<-HE.out,ZdX,List.append_nil];exact HO.out
  ·have h0i:((j:Int)==0)=false:=by rw [beq_eq_false_iff_ne];omega
   obtain⟨i,hi⟩:∃i,(j-1) / 2=i:=⟨_,rfl⟩
   have q1:IntKind.i64.wrap ((j:Int)-1)=(j:Int)-1:=IntWalk.i64_in _ (by omega);have q2:((j:Int)-1).tdiv 2=(i:Int):=by rw [Int.tdiv_eq_ediv_of_nonneg (by omega)];omega
   have q3:((j:Int)-1) / 2=(i:Int):=by omega
   have q4:IntKind.i64.wrap (i:Int)=(i:Int):=IntWalk.i64_in _ (by omega);by_cases h1:j % 2=1
   ·have r1:(j:Int).tmod 2=1:=by rw [Int.tmod_eq_emod_of_nonneg (by omega)];omega
    have r2:(j:Int) % 2=1:=by omega
    have HR:=zh (Zhb j h1);rw [hi] at HR;clear h1;go_wp2_with (at_builtin;refine Zaf wr rfl _ _ rfl base _ ys 0 HO.out rfl rfl (by omega) hbw ?_);intro v' w2 hO2 hB2;have HO2:=zh hO2;have HB2:=zh (HB.out.trans hB2);clear hO2 hB2;go_wp2_with fail;go_roundw
    case rel=>exact⟨_,_,i,rfl,by go_num,by rw [<-HE.out,HR.out];simp,by simp;omega,by omega,HO2.out,HB2.out⟩
    case measure=>simp [intOf];omega
   ·have r1:((j:Int).tmod 2==1)=false:=by rw [Int.tmod_eq_emod_of_nonneg (by omega),beq_eq_false_iff_ne];omega
    have r2:(j:Int) % 2=0:=by omega
    have HR:=zh (ZfE j (by omega) (by omega));rw [hi] at HR;clear h1;go_wp2_with (at_builtin;refine Zaf wr rfl _ _ rfl base _ ys 1 HO.out rfl rfl (by omega) hbw ?_);intro v' w2 hO2 hB2;have HO2:=zh hO2;have HB2:=zh (HB.out.trans hB2);clear hO2 hB2;go_wp2_with fail;go_roundw
    case rel=>exact⟨_,_,i,rfl,by go_num,by rw [<-HE.out,HR.out];simp,by simp;omega,by omega,HO2.out,HB2.out⟩
    case measure=>simp [intOf];omega
theorem Zjy (n:Int) (r:Bool) (w:World) (hr:r=true↔1<=n/\n<=256):Calls Tryz.prog 97 #[.int .i64 n] w fun e w'=>e=.returned (.bool r)/\w=w':=by
 by_cases h1:1<=n
 ·by_cases h2:n<=256
  ·obtain rfl:r=true:=hr.2 ⟨h1,h2⟩;clear hr;go_enter Tryz.func97,Tryz.ntmps97;go_wp2_with fail;go_ret;exact⟨rfl,rfl⟩
  ·obtain rfl:r=false:=by rw [Bool.eq_false_iff];intro h;exact h2 (hr.1 h).2
   clear hr;go_enter Tryz.func97,Tryz.ntmps97;go_wp2_with fail;go_ret;exact⟨rfl,rfl⟩
 ·obtain rfl:r=false:=by rw [Bool.eq_false_iff];intro h;exact h1 (hr.1 h).1
  clear hr;go_enter Tryz.func97,Tryz.ntmps97;go_wp2_with fail;go_ret;exact⟨rfl,rfl⟩
theorem Zhe (v:Value) (zs:List Int) (n:Int) (r:Bool) (w:World) (hv:IsInts w v zs) (hz:zs.length<=9223372036854775807) (hr:r=true↔∀p∈zs,0<=p/\p<n) :
  Calls Tryz.prog 98 #[v,.int .i64 n] w fun e w'=>e=.returned (.bool r)/\w=w':=by
 have HV:=zh hv;have HR:=zh hr;obtain⟨a,cap,rfl,_⟩:=hv;clear hr;go_enter Tryz.func98,Tryz.ntmps98;go_wp2_with fail
 go_loop [9] (fun i=>∃k:Nat,k<=zs.length/\i=.int .i64 k/\∀j,j<k->0<=zs.getD j 0/\zs.getD j 0<n) (fun i=>zs.length-(intOf i).toNat)
 case atStart=>exact⟨0,by omega,rfl,fun j hj=>by omega⟩
 case round=>
  obtain⟨k,hk,rfl,hA⟩:=hrel;have HA:=zh hA;clear hA;by_cases hlk:k<zs.length
  ·have hki:(k:Int)<(zs.length:Int):=by omega
   obtain⟨b1,o1,k1,he1,c1⟩:=HV.out.cell hlk;simp only [Value.slice.injEq] at he1;obtain⟨rfl,_,rfl⟩:=he1;obtain⟨x,hx⟩:∃x,zs.getD k 0=x:=⟨_,rfl⟩
   have HM:Hid (x∈zs):=zh (by
    rw [<-hx,List.getD_eq_getElem?_getD,List.getElem?_eq_getElem hlk];exact List.getElem_mem hlk)
   rw [hx] at c1;have HX:=zh hx;clear hx;by_cases h0:x<0
   ·obtain rfl:r=false:=by
     rw [Bool.eq_false_iff];intro h;have:=(HR.out.1 h x HM.out).1;omega
    go_wp2_with fail;go_ret;exact⟨rfl,rfl⟩
   ·by_cases h1:n<=x
    ·obtain rfl:r=false:=by
      rw [Bool.eq_false_iff];intro h;have:=(HR.out.1 h x HM.out).2;omega
     go_wp2_with fail;go_ret;exact⟨rfl,rfl⟩
    ·go_wp2_with fail
     go_round
     case rel=>exact⟨k+1,by omega,by go_num,fun j hj=>by
      by_cases e:j=k
      ·subst e;rw [HX.out];omega
      ·exact HA.out j (by omega)⟩
     case measure=>simp [intOf];omega
  ·obtain rfl:k=zs.length:=by omega
   have hrt:r=true:=by
    rw [HR.out];intro p hp;obtain⟨i,hi,rfl⟩:=List.getElem_of_mem hp;have:=HA.out i hi;rw [List.getD_eq_getElem?_getD,List.getElem?_eq_getElem hi] at this;exact this
   subst hrt;go_wp2_with fail;go_ret;exact⟨rfl,rfl⟩
theorem ZlV (v:Value) (zs:List Int) (n:Int) (w:World) (hv:IsInts w v zs) (hz:zs.length<=1000000) :
  Calls Tryz.prog 64 #[v,.int .i64 n] w fun e w'=>∃(u:Value) (ys:List Int) (err:Nat),e=.returned (.tuple #[u,.int .i64 (err:Int)])/\OwnI w' w.heap.size u ys/\Below w.heap.size w w'/\EncP zs n ys err:=by
 have HV:=zh hv;obtain⟨a,cap,rfl,_⟩:=hv;by_cases hn:1<=n/\n<=256
 ·have HS:=zh (Zjy n true w ⟨fun _=>hn,fun _=>rfl⟩);have hn1:=hn.1;have hn2:=hn.2;by_cases hp:∀p∈zs,0<=p/\p<n
  ·have HP:=zh (Zhe _ zs n true w HV.out (by omega) ⟨fun _=>hp,fun _=>rfl⟩);have HOK:=zh (show EncOk zs n from⟨hn1,hn2,hp⟩);clear hp hn;go_enter Tryz.func64,Tryz.ntmps64;go_wp2_with fail;refine HS.out.mono ?_;rintro e w1 ⟨rfl,rfl⟩;go_wp2_with fail;refine HP.out.mono ?_;rintro e w1 ⟨rfl,rfl⟩;clear HS HP;go_wp2_with fail
   go_loopw [6,7,21] (fun c z i wr=>∃(k:Nat) (u:Value),k<=zs.length/\i=.int .i64 k/\c=u/\z=.int .i64 ((encF (zs.take k)).2:Int)/\OwnI wr w.heap.size u (encF (zs.take k)).1/\Below w.heap.size w wr) (fun _ _ i _=>zs.length-(intOf i).toNat)
   case atStart=>exact⟨0,_,by omega,rfl,rfl,rfl,OwnI.nil _ _,Below.refl _ _⟩
   case round=>
    obtain⟨k,u,hk,rfl,rfl,rfl,hO,hB⟩:=hrel;have hle:=Zhy (zs.take k);have htk:(zs.take k).length=k:=by rw [List.length_take];omega
    have HT:=zh (ZfF zs k);have hbw:w.heap.size<=wr.heap.size:=hB.size;have HB:=zh hB;by_cases hlk:k<zs.length
    ·have hki:(k:Int)<(zs.length:Int):=by omega
     have HV2:=zh (HV.out.below HB.out);obtain⟨b1,o1,k1,he1,c1⟩:=HV2.out.cell hlk;simp only [Value.slice.injEq] at he1;obtain⟨rfl,_,rfl⟩:=he1;obtain⟨x,hx⟩:∃x,zs.getD k 0=x:=⟨_,rfl⟩
     have hxr:0<=x/\x<n:=HOK.out.2.2 x (by
      rw [<-hx,List.getD_eq_getElem?_getD,List.getElem?_eq_getElem hlk];exact List.getElem_mem hlk)
     obtain⟨hx0,hxn⟩:=hxr;rw [hx] at c1;have HT2:=zh (HT.out hlk);rw [hx] at HT2;clear hx HT hB;obtain⟨A,hA⟩:∃A,(encF (zs.take k)).1=A:=⟨_,rfl⟩
     obtain⟨Z,hZ⟩:∃Z,(encF (zs.take k)).2=Z:=⟨_,rfl⟩
     have hpair:encF (zs.take k)=(A,Z):=by rw [<-hA,<-hZ]
     rw [hpair] at HT2 hle hO;rw [hZ];simp only at hO hle;have HO:=zh hO;clear hO hpair hA hZ;by_cases h0:x=0
     ·subst h0;have HT3:Hid (encF (zs.take (k+1))=(A,Z+1)):=zh (by rw [HT2.out];rfl);clear HT2;have hz1:IntKind.i64.wrap ((Z:Int)+1)=(Z:Int)+1:=IntWalk.i64_in _ (by omega);go_wp2_with fail;go_roundw
      case rel=>exact⟨k+1,_,by omega,by go_num,rfl,by rw [HT3.out];rfl,by rw [HT3.out];exact HO.out,HB.out⟩
      case measure=>simp [intOf];omega
     ·have HT3:Hid (encF (zs.take (k+1))=(A++rowC Z++[x+1],0)):=zh (by rw [HT2.out];unfold encS;rw [if_neg h0]);clear HT2;have h0b:(x==0)=false:=by rw [beq_eq_false_iff_ne];exact h0
      have hrl:=Zbn Z;have HC:=zh (ZmV w.heap.size _ A Z wr HO.out hbw (by omega) (by omega));have hx1:IntKind.i64.wrap (x+1)=x+1:=IntWalk.i64_in _ (by omega);go_wp2_with fail;refine HC.out.mono ?_;rintro e w2 ⟨u2,rfl,hO2,hB2⟩;have HO2:=zh hO2;have hbw2:w.heap.size<=w2.heap.size:=Nat.le_trans hbw hB2.size;have HB2:=zh (HB.out.trans hB2);clear hO2 hB2 HC;have hal:(A++rowC Z).length+1<=17592186044416:=by rw [List.length_append];omega
      go_wp2_with (at_builtin;refine Zaf w2 rfl _ _ rfl w.heap.size _ (A++rowC Z) (x+1) HO2.out rfl rfl hal hbw2 ?_);intro v' w3 hO3 hB3;have HO3:=zh hO3;have HB3:=zh (HB2.out.trans hB3);clear hO3 hB3;go_wp2_with fail;go_roundw
      case rel=>exact⟨k+1,_,by omega,by go_num,rfl,by rw [HT3.out];rfl,by rw [HT3.out];simpa only [List.append_assoc] using HO3.out,HB3.out⟩
      case measure=>simp [intOf];omega
    ·obtain rfl:k=zs.length:=by omega
     clear HT hB htk;rw [List.take_of_length_le (Nat.le_refl _)] at hO hle;rw [List.take_of_length_le (Nat.le_refl _)];have hen:enc zs n=(encF zs).1++rowC (encF zs).2++[n+1]:=rfl;have HO:=zh hO;have HEN:=zh hen;clear hO hen;generalize (encF zs).1=A at *;generalize (encF zs).2=Z at *;have hrl:=Zbn Z;have HC:=zh (ZmV w.heap.size _ A Z wr HO.out hbw (by omega) (by omega));have hx1:IntKind.i64.wrap (n+1)=n+1:=IntWalk.i64_in _ (by omega);go_wp2_with fail;refine HC.out.mono ?_;rintro e w2 ⟨u2,rfl,hO2,hB2⟩;have HO2:=zh hO2;have hbw2:w.heap.size<=w2.heap.size:=Nat.le_trans hbw hB2.size;have HB2:=zh (HB.out.trans hB2);clear hO2 hB2 HC;have hal:(A++rowC Z).length+1<=17592186044416:=by rw [List.length_append];omega
     go_wp2_with (at_builtin;refine Zaf w2 rfl _ _ rfl w.heap.size _ (A++rowC Z) (n+1) HO2.out rfl rfl hal hbw2 ?_);intro v' w3 hO3 hB3;have HO3:=zh hO3;have HB3:=zh (HB2.out.trans hB3);clear hO3 hB3;go_wp2_with fail;go_ret2;exact⟨_,_,0,rfl,HO3.out,HB3.out,Or.inr ⟨HOK.out,by rw [HEN.out,List.append_assoc],rfl⟩⟩
  ·have HP:=zh (Zhe _ zs n false w HV.out (by omega) ⟨fun e=>(by cases e),fun e=>absurd e hp⟩);have HNO:=zh (show ¬EncOk zs n from fun h=>hp h.2.2);clear hp hn;go_enter Tryz.func64,Tryz.ntmps64;go_wp2_with fail;refine HS.out.mono ?_;rintro e w1 ⟨rfl,rfl⟩;go_wp2_with fail;refine HP.out.mono ?_;rintro e w1 ⟨rfl,rfl⟩;clear HS HP;go_wp2_with fail;go_ret2;exact⟨_,[],1,rfl,OwnI.nil _ _,Below.refl _ _,Or.inl ⟨HNO.out,rfl,rfl⟩⟩
 ·have HS:=zh (Zjy n false w ⟨fun e=>(by cases e),fun e=>absurd e hn⟩);have HNO:=zh (show ¬EncOk zs n from fun h=>hn ⟨h.1,h.2.1⟩);clear hn;go_enter Tryz.func64,Tryz.ntmps64;go_wp2_with fail;refine HS.out.mono ?_;rintro e w1 ⟨rfl,rfl⟩;clear HS;go_wp2_with fail;go_ret2;exact⟨_,[],1,rfl,OwnI.nil _ _,Below.refl _ _,Or.inl ⟨HNO.out,rfl,rfl⟩⟩
end
section
namespace BwtM
open Go.RowKit
def lle:List UInt8->List UInt8->Prop
 | [],_=>True
 | _::_,[]=>False
 | a::s,b::t=>a.toNat<b.toNat\/(a=b/\lle s t)
theorem ZmW:∀s,lle s s
 | []=>trivial
 | a::s=>Or.inr ⟨rfl,ZmW s⟩
theorem Zj7:∀s t,lle s t->lle t s->s=t
 | [],[],_,_=>rfl
 | [],_::_,_,h=>h.elim
 | _::_,[],h,_=>h.elim
 | a::s,b::t,h,k=>by
  rcases h with h|⟨rfl,h⟩
  ·rcases k with k|⟨rfl,k⟩
   ·omega
   ·omega
  ·rcases k with k|⟨_,k⟩
   ·omega
   ·rw [Zj7 s t h k]
theorem ZkV:∀r s t,lle r s->lle s t->lle r t
 | [],_,_,_,_=>trivial
 | _::_,[],_,h,_=>h.elim
 | _::_,_::_,[],_,h=>h.elim
 | a::r,b::s,c::t,h,k=>by
  rcases h with h|⟨rfl,h⟩
  ·rcases k with k|⟨rfl,k⟩
   ·exact Or.inl (by omega)
   ·exact Or.inl h
  ·rcases k with k|⟨rfl,k⟩
   ·exact Or.inl k
   ·exact Or.inr ⟨rfl,ZkV r s t h k⟩
theorem ZkW:∀s t,lle s t\/lle t s
 | [],_=>Or.inl trivial
 | _::_,[]=>Or.inr trivial
 | a::s,b::t=>by
  rcases Nat.lt_trichotomy a.toNat b.toNat with h|h|h
  ·exact Or.inl (Or.inl h)
  ·have e:a=b:=UInt8.toNat_inj.1 h;rcases ZkW s t with k|k
   ·exact Or.inl (Or.inr ⟨e,k⟩)
   ·exact Or.inr (Or.inr ⟨e.symm,k⟩)
  ·exact Or.inr (Or.inl h)
def rot (T:List UInt8) (i:Nat):List UInt8:=T.drop i++T.take i
theorem ZbP (T:List UInt8) (i:Nat) (h:i<=T.length):(rot T i).length=T.length:=by
 unfold rot;rw [List.length_append,List.length_drop,List.length_take];omega
def Ahead (T:List UInt8) (i k:Nat):Prop:=(lle (rot T i) (rot T k)/\rot T i≠rot T k)\/(rot T i=rot T k/\i<k)
theorem ZeH {T:List UInt8} {i k:Nat} (h:Ahead T i k):lle (rot T i) (rot T k):=by
 rcases h with h|h
 ·exact h.1
 ·rw [h.1];exact ZmW _
theorem ZnK {T:List UInt8} {i k:Nat} (h:Ahead T i k):¬Ahead T k i:=by
 intro g;have e:=Zj7 _ _ (ZeH h) (ZeH g);rcases h with h|h
 ·exact h.2 e
 ·rcases g with g|g
  ·exact g.2 e.symm
  ·omega
theorem ZlW {T:List UInt8} {i k m:Nat} (h:Ahead T i k) (g:Ahead T k m):Ahead T i m:=by
 have l:=ZkV _ _ _ (ZeH h) (ZeH g);by_cases e:rot T i=rot T m
 ·have e2:rot T i=rot T k:=Zj7 _ _ (ZeH h) (by rw [e];exact ZeH g);rcases h with h|h
  ·exact absurd e2 h.2
  ·rcases g with g|g
   ·exact absurd (e2.symm.trans e) g.2
   ·exact Or.inr ⟨e,by omega⟩
 ·exact Or.inl ⟨l,e⟩
theorem ZlX {T:List UInt8} {i k:Nat} (h:i≠k):Ahead T i k\/Ahead T k i:=by
 by_cases e:rot T i=rot T k
 ·rcases Nat.lt_or_gt_of_ne h with g|g
  ·exact Or.inl (Or.inr ⟨e,g⟩)
  ·exact Or.inr (Or.inr ⟨e.symm,g⟩)
 ·rcases ZkW (rot T i) (rot T k) with g|g
  ·exact Or.inl (Or.inl ⟨g,e⟩)
  ·exact Or.inr (Or.inl ⟨g,fun h=>e h.symm⟩)
theorem Zjz {α:Type} {R:α->α->Prop} (hR:∀a b,R a b->¬R b a):∀{a b:List α},a.Perm b->a.Pairwise R->b.Pairwise R->a=b
 | [],b,hp,_,_=>by rw [List.nil_perm.1 hp]
 | x::s,[],hp,_,_=>by have:=hp.length_eq;simp at this
 | x::s,y::t,hp,ha,hb=>by
  obtain⟨h1,h2⟩:=List.pairwise_cons.1 ha;obtain⟨h3,h4⟩:=List.pairwise_cons.1 hb
  have e:x=y:=by
   rcases List.mem_cons.1 (hp.mem_iff.1 (List.mem_cons_self ..)) with e|hx
   ·exact e
   ·rcases List.mem_cons.1 (hp.mem_iff.2 (List.mem_cons_self ..)) with e|hy
    ·exact e.symm
    ·exact absurd (h3 x hx) (hR _ _ (h1 y hy))
  subst e;rw [Zjz hR hp.cons_inv h2 h4]
def IsSorted (T:List UInt8) (P:List Nat):Prop:=P.Perm (List.range T.length)/\P.Pairwise (Ahead T)
theorem IsSorted.same {T:List UInt8} {P Q:List Nat} (h:IsSorted T P) (k:IsSorted T Q):P=Q:=Zjz (fun _ _=>ZnK) (h.1.trans k.1.symm) h.2 k.2
open Classical in
noncomputable def insP (T:List UInt8) (i:Nat):List Nat->List Nat
 | []=>[i]
 | k::t=>if Ahead T i k then i::k::t else k::insP T i t
theorem Ziy (T:List UInt8) (i:Nat):∀l,(insP T i l).Perm (i::l)
 | []=>List.Perm.refl _
 | k::t=>by
  unfold insP;split
  ·exact List.Perm.refl _
  ·exact((Ziy T i t).cons k).trans (List.Perm.swap i k t)
theorem Ziz (T:List UInt8) (i:Nat):∀l,l.Pairwise (Ahead T)->i∉l->(insP T i l).Pairwise (Ahead T)
 | [],_,_=>List.pairwise_singleton _ _
 | k::t,h,hn=>by
  obtain⟨h1,h2⟩:=List.pairwise_cons.1 h;unfold insP;split
  ·rename_i ha
   exact List.pairwise_cons.2 ⟨fun x hx=>by
    rcases List.mem_cons.1 hx with rfl|hx
    ·exact ha
    ·exact ZlW ha (h1 x hx),h⟩
  ·rename_i ha;have hki:Ahead T k i:=(ZlX (fun e=>hn (by rw [e];exact List.mem_cons_self ..))).resolve_left ha;refine List.pairwise_cons.2 ⟨fun x hx=>?_,Ziz T i t h2 (fun h=>hn (List.mem_cons_of_mem _ h))⟩;rcases List.mem_cons.1 ((Ziy T i t).mem_iff.1 hx) with rfl|hx
   ·exact hki
   ·exact h1 x hx
noncomputable def sortP (T:List UInt8):Nat->List Nat
 | 0=>[]
 | k+1=>insP T k (sortP T k)
theorem Zbq (T:List UInt8):∀k,(sortP T k).Perm (List.range k)
 | 0=>List.Perm.refl _
 | k+1=>by
  rw [List.range_succ];exact((Ziy T k _).trans ((Zbq T k).cons k)).trans (List.perm_append_comm (l₁:=[k]) (l₂:=List.range k))
theorem ZhQ (T:List UInt8):∀k,(sortP T k).Pairwise (Ahead T)
 | 0=>List.Pairwise.nil
 | k+1=>Ziz T k _ (ZhQ T k) (fun h=>by
  have:=List.mem_range.1 ((Zbq T k).mem_iff.1 h);omega)
theorem ZcT (T:List UInt8):IsSorted T (sortP T T.length):=⟨Zbq T _,ZhQ T _⟩
end BwtM
end
section
namespace BwtM
open Go.RowKit
def bt (T:List UInt8) (i:Nat):Nat:=(T.getD (i % T.length) 0).toNat
theorem ZkX (T:List UInt8) {i:Nat} (h:i<T.length):bt T i=(T.getD i 0).toNat:=by unfold bt;rw [Nat.mod_eq_of_lt h]
theorem ZpB (T:List UInt8) {i:Nat} (h:T.length<=i) (h2:i<2*T.length):bt T i=(T.getD (i-T.length) 0).toNat:=by
 unfold bt;rw [Nat.mod_eq_sub_mod h,Nat.mod_eq_of_lt (by omega)]
theorem ZrT (T:List UInt8) (i t:Nat):bt T (i % T.length+t)=bt T (i+t):=by unfold bt;rw [Nat.mod_add_mod]
theorem Zbo (T:List UInt8) {i j:Nat} (hi:i<=T.length) (hj:j<T.length):((rot T i).getD j 0).toNat=bt T (i+j):=by
 unfold rot;by_cases h:i+j<T.length
 ·rw [ZkX T h,List.getD_eq_getElem?_getD,List.getElem?_append_left (by rw [List.length_drop];omega),List.getElem?_drop,List.getD_eq_getElem?_getD]
 ·rw [ZpB T (by omega) (by omega),List.getD_eq_getElem?_getD,List.getElem?_append_right (by rw [List.length_drop];omega),List.length_drop,List.getElem?_take_of_lt (by omega),List.getD_eq_getElem?_getD];congr 3;omega
def eqH (T:List UInt8) (H i k:Nat):Prop:=∀t,t<H->bt T (i+t)=bt T (k+t)
def ltH (T:List UInt8) (H i k:Nat):Prop:=∃t,t<H/\eqH T t i k/\bt T (i+t)<bt T (k+t)
theorem eqH.symm {T:List UInt8} {H i k:Nat} (h:eqH T H i k):eqH T H k i:=fun t ht=>(h t ht).symm
theorem eqH.mono {T:List UInt8} {H G i k:Nat} (h:eqH T H i k) (hg:G<=H):eqH T G i k:=fun t ht=>h t (by omega)
theorem eqH.more {T:List UInt8} {H i k:Nat} (h:eqH T H i k) (e:bt T (i+H)=bt T (k+H)):eqH T (H+1) i k:=fun t ht=>by
 by_cases h1:t<H
 ·exact h t h1
 ·obtain rfl:t=H:=by omega
  exact e
theorem ltH.mono {T:List UInt8} {H G i k:Nat} (h:ltH T H i k) (hg:H<=G):ltH T G i k:=by
 obtain⟨t,h1,h2⟩:=h;exact⟨t,by omega,h2⟩
theorem ltH.noteq {T:List UInt8} {H i k:Nat} (h:ltH T H i k):¬eqH T H i k:=fun e=>by
 obtain⟨t,h1,h2,h3⟩:=h;have:=e t h1;omega
theorem ltH.asym {T:List UInt8} {H i k:Nat} (h:ltH T H i k):¬ltH T H k i:=fun g=>by
 obtain⟨t,h1,h2,h3⟩:=h;obtain⟨u,g1,g2,g3⟩:=g;rcases Nat.lt_trichotomy t u with c|rfl|c
 ·have:=g2 t c;omega
 ·omega
 ·have:=h2 u c;omega
theorem ZiA (T:List UInt8) (i k:Nat):∀H,ltH T H i k\/eqH T H i k\/ltH T H k i
 | 0=>Or.inr (Or.inl fun t ht=>by omega)
 | H+1=>by
  rcases ZiA T i k H with h|h|h
  ·exact Or.inl (h.mono (by omega))
  ·rcases Nat.lt_trichotomy (bt T (i+H)) (bt T (k+H)) with c|c|c
   ·exact Or.inl ⟨H,by omega,h,c⟩
   ·exact Or.inr (Or.inl (h.more c))
   ·exact Or.inr (Or.inr ⟨H,by omega,h.symm,c⟩)
  ·exact Or.inr (Or.inr (h.mono (by omega)))
theorem Zsy {T:List UInt8} {i k:Nat} (h:eqH T T.length i k) (t:Nat):bt T (i+t)=bt T (k+t):=by
 by_cases hn:0<T.length
 ·have e:∀x,bt T (x+t)=bt T (x+t % T.length):=fun x=>by unfold bt;rw [Nat.add_mod_mod]
  rw [e i,e k];exact h _ (Nat.mod_lt _ hn)
 ·unfold bt;have:T=[]:=List.eq_nil_of_length_eq_zero (by omega);subst this;rfl
theorem Ztj {T:List UInt8} {H G i k:Nat} (h:eqH T H i k) (hn:T.length<=H):eqH T G i k:=fun t _=>Zsy (h.mono hn) t
theorem Zrp {T:List UInt8} {H i k:Nat} (h:ltH T H i k):ltH T T.length i k:=by
 rcases ZiA T i k T.length with g|g|g
 ·exact g
 ·exact absurd (Ztj g (Nat.le_refl _)) h.noteq
 ·exfalso
  obtain⟨t,h1,h2,h3⟩:=h;obtain⟨u,g1,g2,g3⟩:=g;rcases Nat.lt_trichotomy t u with c|rfl|c
  ·have:=g2 t c;omega
  ·omega
  ·have:=h2 u c;omega
theorem Zsz {T:List UInt8} {H G i k:Nat}:eqH T (H+G) i k↔eqH T H i k/\eqH T G (i+H) (k+H):=by
 constructor
 ·intro h;exact⟨h.mono (by omega),fun t ht=>by have:=h (H+t) (by omega);rwa [Nat.add_assoc,Nat.add_assoc]⟩
 ·rintro⟨h,g⟩ t ht;by_cases c:t<H
  ·exact h t c
  ·have:=g (t-H) (by omega)
   rwa [Nat.add_assoc,Nat.add_assoc,show H+(t-H)=t by omega] at this
theorem ZsA {T:List UInt8} {H G i k:Nat}:ltH T (H+G) i k↔ltH T H i k\/(eqH T H i k/\ltH T G (i+H) (k+H)):=by
 constructor
 ·rintro⟨t,h1,h2,h3⟩;by_cases c:t<H
  ·exact Or.inl ⟨t,c,h2,h3⟩
  ·refine Or.inr ⟨h2.mono (by omega),t-H,by omega,fun u hu=>?_,?_⟩
   ·have:=h2 (H+u) (by omega);rwa [Nat.add_assoc,Nat.add_assoc]
   ·rwa [Nat.add_assoc,Nat.add_assoc,show H+(t-H)=t by omega]
 ·rintro(h|⟨h,t,g1,g2,g3⟩)
  ·exact h.mono (by omega)
  ·refine⟨H+t,by omega,Zsz.2 ⟨h,g2⟩,?_⟩
   rwa [Nat.add_assoc,Nat.add_assoc] at g3
theorem ZsB (T:List UInt8) (H i k:Nat):eqH T H (i % T.length) (k % T.length)↔eqH T H i k:=by
 unfold eqH;simp only [ZrT]
theorem ZsC (T:List UInt8) (H i k:Nat):ltH T H (i % T.length) (k % T.length)↔ltH T H i k:=by
 unfold ltH;simp only [ZrT,ZsB]
theorem ZlY:∀(r s:List UInt8),r.length=s.length->((∀t,t<r.length->(r.getD t 0).toNat=(s.getD t 0).toNat)↔r=s)/\((∃t,t<r.length/\(∀u,u<t->(r.getD u 0).toNat=(s.getD u 0).toNat)/\(r.getD t 0).toNat<(s.getD t 0).toNat)↔lle r s/\r≠s)
 | [],[],_=>⟨⟨fun _=>rfl,fun _ t ht=>by simp at ht⟩,⟨fun⟨t,ht,_⟩=>by simp at ht,fun h=>absurd rfl h.2⟩⟩
 | [],_::_,h=>by simp at h
 | _::_,[],h=>by simp at h
 | a::r,b::s,h=>by
  obtain⟨i1,i2⟩:=ZlY r s (by simpa using h);have hab:a.toNat=b.toNat↔a=b:=UInt8.toNat_inj;constructor
  ·constructor
   ·intro g;have g0:=g 0 (by simp);rw [(hab.1 (by simpa using g0)),i1.1 (fun t ht=>by simpa using g (t+1) (by simpa using ht))]
   ·rintro⟨rfl,rfl⟩ t _;rfl
  ·constructor
   ·rintro⟨t,ht,g1,g2⟩;cases t with
    | zero=>
     simp at g2;exact⟨Or.inl g2,fun e=>by injection e with e1 _;subst e1;omega⟩
    | succ t=>
     have g0:=hab.1 (by simpa using g1 0 (by omega));obtain⟨j1,j2⟩:=i2.1 ⟨t,by simpa using ht,fun u hu=>by simpa using g1 (u+1) (by omega),by simpa using g2⟩;exact⟨Or.inr ⟨g0,j1⟩,fun e=>by injection e with _ e2;exact j2 e2⟩
   ·rintro⟨g|⟨rfl,g⟩,hne⟩
    ·exact⟨0,by simp,fun u hu=>by omega,by simpa using g⟩
    ·obtain⟨t,ht,g1,g2⟩:=i2.2 ⟨g,fun e=>hne (by rw [e])⟩;refine⟨t+1,by simpa using ht,fun u hu=>?_,by simpa using g2⟩;cases u with
     | zero=>simp
     | succ u=>simpa using g1 u (by omega)
theorem ZsD {T:List UInt8} {i k:Nat} (hi:i<=T.length) (hk:k<=T.length):eqH T T.length i k↔rot T i=rot T k:=by
 have:=(ZlY (rot T i) (rot T k) (by rw [ZbP T i hi,ZbP T k hk])).1;rw [<-this,ZbP T i hi];unfold eqH;constructor
 ·intro h t ht;rw [Zbo T hi ht,Zbo T hk ht];exact h t ht
 ·intro h t ht;have:=h t ht;rwa [Zbo T hi ht,Zbo T hk ht] at this
theorem ZsE {T:List UInt8} {i k:Nat} (hi:i<=T.length) (hk:k<=T.length):ltH T T.length i k↔lle (rot T i) (rot T k)/\rot T i≠rot T k:=by
 have:=(ZlY (rot T i) (rot T k) (by rw [ZbP T i hi,ZbP T k hk])).2;rw [<-this,ZbP T i hi];unfold ltH eqH;constructor
 ·rintro⟨t,h1,h2,h3⟩;exact⟨t,h1,fun u hu=>by rw [Zbo T hi (by omega),Zbo T hk (by omega)];exact h2 u hu,by rw [Zbo T hi h1,Zbo T hk h1];exact h3⟩
 ·rintro⟨t,h1,h2,h3⟩;exact⟨t,h1,fun u hu=>by have:=h2 u hu;rwa [Zbo T hi (by omega),Zbo T hk (by omega)] at this,by rwa [Zbo T hi h1,Zbo T hk h1] at h3⟩
theorem ZfJ {T:List UInt8} {i k:Nat} (hi:i<=T.length) (hk:k<=T.length):Ahead T i k↔ltH T T.length i k\/(eqH T T.length i k/\i<k):=by
 unfold Ahead;rw [ZsE hi hk,ZsD hi hk]
end BwtM
end
section
namespace BwtM
open Go.RowKit
theorem ZcU {n:Nat} {P:List Nat} (h:P.Perm (List.range n)):P.length=n:=by rw [h.length_eq,List.length_range]
theorem Zcg {n:Nat} {P:List Nat} (h:P.Perm (List.range n)) {j:Nat} (hj:j<n):P.getD j 0<n:=by
 have hl:=ZcU h;have:P.getD j 0∈P:=by rw [List.getD_eq_getElem?_getD,List.getElem?_eq_getElem (by omega)];exact List.getElem_mem _
 exact List.mem_range.1 (h.mem_iff.1 this)
end BwtM
end
section
namespace SrtM
open Go.RowKit BwtM
def passS (n:Nat):Nat:=if h:n<2 then 1 else 1+passS (n / 2)+passS (n-n / 2)+n / 2+n
termination_by n
decreasing_by all_goals omega
theorem ZeU {n:Nat} (h:n<2):passS n=1:=by rw [passS];simp [h]
theorem ZiB {n:Nat} (h:2<=n):passS n=1+passS (n / 2)+passS (n-n / 2)+n / 2+n:=by
 conv=>lhs;rw [passS]
 simp [show ¬n<2 by omega]
theorem ZkY (n:Nat):1<=passS n:=by
 by_cases h:n<2
 ·rw [ZeU h];exact Nat.le_refl _
 ·rw [ZiB (by omega)];omega
theorem Zj8:∀(n b:Nat),1<=n->n<=2^b->passS n<=n*(3+3*b)
 | n,0,h1,h2=>by
  obtain rfl:n=1:=by simp at h2;omega
  rw [ZeU (by omega)];decide
 | n,b+1,h1,h2=>by
  by_cases h:n<2
  ·obtain rfl:n=1:=by omega
   rw [ZeU (by omega)];omega
  ·have e:2^(b+1)=2*2^b:=by rw [Nat.pow_succ,Nat.mul_comm]
   rw [e] at h2;have i1:=Zj8 (n / 2) b (by omega) (by omega);have i2:=Zj8 (n-n / 2) b (by omega) (by omega);rw [ZiB (by omega)]
   have e2:n*(3+3*(b+1))=(n / 2)*(3+3*b)+(n-n / 2)*(3+3*b)+3*n:=by
    rw [<-Nat.add_mul,show n / 2+(n-n / 2)=n by omega,show 3+3*(b+1)=(3+3*b)+3 by omega,Nat.mul_add n (3+3*b) 3,Nat.mul_comm n 3]
   rw [e2];omega
def mrg (K:Nat->Nat) (l r:List Nat):List Nat:=List.merge l r (fun a b=>decide (K a<=K b))
theorem ZlZ (K:Nat->Nat) (r:List Nat):mrg K [] r=r:=by simp [mrg]
theorem ZiC (K:Nat->Nat) (l:List Nat):mrg K l []=l:=by simp [mrg]
theorem ZrU {K:Nat->Nat} {a b:Nat} (l r:List Nat) (h:K a<=K b):mrg K (a::l) (b::r)=a::mrg K l (b::r):=by simp [mrg,h]
theorem ZrV {K:Nat->Nat} {a b:Nat} (l r:List Nat) (h:¬K a<=K b):mrg K (a::l) (b::r)=b::mrg K (a::l) r:=by simp [mrg,h]
theorem Zhf (K:Nat->Nat) (l r:List Nat):(mrg K l r).Perm (l++r):=List.merge_perm_append ..
theorem ZnL (K:Nat->Nat) (l r:List Nat):(mrg K l r).length=l.length+r.length:=by rw [(Zhf K l r).length_eq,List.length_append]
def Lt (K:Nat->Nat) (x y:Nat):Prop:=K x<K y\/(K x=K y/\x<y)
theorem Lt.le {K:Nat->Nat} {x y:Nat} (h:Lt K x y):K x<=K y:=by rcases h with h|h<;>omega
theorem ZhB (K:Nat->Nat):∀(l r:List Nat),l.Pairwise (Lt K)->r.Pairwise (Lt K)->(∀x∈l,∀y∈r,K x=K y->x<y)->(mrg K l r).Pairwise (Lt K)
 | [],r,_,h,_=>by rw [ZlZ];exact h
 | a::l,[],h,_,_=>by rw [ZiC];exact h
 | a::l,b::r,hl,hr,hx=>by
  obtain⟨hl1,hl2⟩:=List.pairwise_cons.1 hl;obtain⟨hr1,hr2⟩:=List.pairwise_cons.1 hr;by_cases h:K a<=K b
  ·rw [ZrU l r h];refine List.pairwise_cons.2 ⟨fun y hy=>?_,ZhB K l (b::r) hl2 hr (fun x h1 y h2=>hx x (List.mem_cons_of_mem _ h1) y h2)⟩;rcases List.mem_append.1 ((Zhf K l (b::r)).mem_iff.1 hy) with hy|hy
   ·exact hl1 y hy
   ·have h2:K b<=K y:=by
     rcases List.mem_cons.1 hy with rfl|hy2
     ·exact Nat.le_refl _
     ·exact(hr1 y hy2).le
    by_cases e:K a=K y
    ·exact Or.inr ⟨e,hx a (List.mem_cons_self ..) y hy e⟩
    ·exact Or.inl (by omega)
  ·rw [ZrV l r h];refine List.pairwise_cons.2 ⟨fun y hy=>?_,ZhB K (a::l) r hl hr2 (fun x h1 y h2=>hx x h1 y (List.mem_cons_of_mem _ h2))⟩;rcases List.mem_append.1 ((Zhf K (a::l) r).mem_iff.1 hy) with hy|hy
   ·have h2:K a<=K y:=by
     rcases List.mem_cons.1 hy with rfl|hy2
     ·exact Nat.le_refl _
     ·exact(hl1 y hy2).le
    exact Or.inl (by omega)
   ·exact hr1 y hy
termination_by l r=>l.length+r.length
def msort (K:Nat->Nat) (l:List Nat):List Nat:=if h:l.length<2 then l else mrg K (msort K (l.take (l.length / 2))) (msort K (l.drop (l.length / 2)))
termination_by l.length
decreasing_by
 ·rw [List.length_take];omega
 ·rw [List.length_drop];omega
theorem Zgz {K:Nat->Nat} {l:List Nat} (h:l.length<2):msort K l=l:=by rw [msort];simp [h]
theorem ZiD {K:Nat->Nat} {l:List Nat} (h:2<=l.length):msort K l=mrg K (msort K (l.take (l.length / 2))) (msort K (l.drop (l.length / 2))):=by
 conv=>lhs;rw [msort]
 simp [show ¬l.length<2 by omega]
theorem Zdb (K:Nat->Nat):∀(m:Nat) (l:List Nat),l.length<=m->(msort K l).Perm l
 | m,l,hm=>by
  by_cases h:l.length<2
  ·rw [Zgz h]
  ·match m,hm with
   | 0,hm=>omega
   | m+1,hm=>
    rw [ZiD (by omega)];refine(Zhf ..).trans ?_
    conv=>rhs;rw [<-List.take_append_drop (l.length / 2) l]
    exact(Zdb K m _ (by rw [List.length_take];omega)).append (Zdb K m _ (by rw [List.length_drop];omega))
theorem Zes (K:Nat->Nat) (l:List Nat):(msort K l).length=l.length:=(Zdb K _ l (Nat.le_refl _)).length_eq
theorem ZfK (K:Nat->Nat):∀(m:Nat) (l:List Nat),l.length<=m->l.Pairwise (fun x y=>K x=K y->x<y)->(msort K l).Pairwise (Lt K)
 | m,l,hm,hp=>by
  by_cases h:l.length<2
  ·rw [Zgz h]
   match l,h with
   | [],_=>exact List.Pairwise.nil
   | [x],_=>exact List.pairwise_singleton _ _
   | _::_::_,h=>simp at h;omega
  ·match m,hm with
   | 0,hm=>omega
   | m+1,hm=>
    rw [ZiD (by omega)];have hp2:=hp;rw [<-List.take_append_drop (l.length / 2) l,List.pairwise_append] at hp2;obtain⟨h1,h2,h3⟩:=hp2;refine ZhB K _ _ (ZfK K m _ (by rw [List.length_take];omega) h1) (ZfK K m _ (by rw [List.length_drop];omega) h2) (fun x hx y hy=>?_);exact h3 x ((Zdb K _ _ (Nat.le_refl _)).mem_iff.1 hx) y ((Zdb K _ _ (Nat.le_refl _)).mem_iff.1 hy)
structure MrgAt (K:Nat->Nat) (X Y:List Nat) (f s:Nat):Prop where
 fl:f<=X.length
 sl:s<=Y.length
 eq:(mrg K X Y).drop (f+s)=mrg K (X.drop f) (Y.drop s)
theorem MrgAt.start (K:Nat->Nat) (X Y:List Nat):MrgAt K X Y 0 0:=⟨Nat.zero_le _,Nat.zero_le _,by simp⟩
theorem ZkZ {M:List Nat} {j a:Nat} {R:List Nat} (h:M.drop j=a::R):M.getD j 0=a/\M.drop (j+1)=R:=by
 have hj:j<M.length:=by
  have:=congrArg List.length h;rw [List.length_drop] at this;simp at this;omega
 rw [List.drop_eq_getElem_cons hj] at h;obtain⟨h1,h2⟩:=List.cons.inj h;exact⟨by rw [List.getD_eq_getElem?_getD,List.getElem?_eq_getElem hj];exact h1,h2⟩
theorem Zj9 {X:List Nat} {f:Nat} (h:f<X.length):X.drop f=X.getD f 0::X.drop (f+1):=by
 rw [List.getD_eq_getElem?_getD,List.getElem?_eq_getElem h];exact List.drop_eq_getElem_cons h
theorem MrgAt.first {K:Nat->Nat} {X Y:List Nat} {f s:Nat} (h:MrgAt K X Y f s) (hf:f<X.length) (hc:s=Y.length\/K (X.getD f 0)<=K (Y.getD s 0)):(mrg K X Y).getD (f+s) 0=X.getD f 0/\MrgAt K X Y (f+1) s:=by
 have he:=h.eq
 have h2:mrg K (X.drop f) (Y.drop s)=X.getD f 0::mrg K (X.drop (f+1)) (Y.drop s):=by
  rw [Zj9 hf];by_cases e:s=Y.length
  ·rw [e,List.drop_length,ZiC,ZiC]
  ·have hs:s<Y.length:=by have:=h.sl;omega
   rw [Zj9 hs];exact ZrU _ _ (hc.resolve_left e)
 rw [h2] at he;obtain⟨e1,e2⟩:=ZkZ he;exact⟨e1,by omega,h.sl,by rw [show f+1+s=f+s+1 by omega];exact e2⟩
theorem MrgAt.second {K:Nat->Nat} {X Y:List Nat} {f s:Nat} (h:MrgAt K X Y f s) (hs:s<Y.length) (hc:f=X.length\/¬K (X.getD f 0)<=K (Y.getD s 0)):(mrg K X Y).getD (f+s) 0=Y.getD s 0/\MrgAt K X Y f (s+1):=by
 have he:=h.eq
 have h2:mrg K (X.drop f) (Y.drop s)=Y.getD s 0::mrg K (X.drop f) (Y.drop (s+1)):=by
  rw [Zj9 hs];by_cases e:f=X.length
  ·rw [e,List.drop_length,ZlZ,ZlZ]
  ·have hf:f<X.length:=by have:=h.fl;omega
   rw [Zj9 hf];exact ZrV _ _ (hc.resolve_left e)
 rw [h2] at he;obtain⟨e1,e2⟩:=ZkZ he;exact⟨e1,h.fl,by omega,by rw [show f+(s+1)=f+s+1 by omega];exact e2⟩
structure Part where
 lo:Nat
 hi:Nat
 begun:Bool
def Part.mid (p:Part):Nat:=(p.lo+p.hi) / 2
def Part.cost (p:Part):Nat:=if p.begun then(p.hi-p.lo) / 2+(p.hi-p.lo) else passS (p.hi-p.lo)
def opP (K:Nat->Nat) (p:Part) (A:List Nat):List Nat:=
 A.take p.lo++(if p.begun then mrg K ((A.drop p.lo).take (p.mid-p.lo)) ((A.drop p.mid).take (p.hi-p.mid)) else msort K ((A.drop p.lo).take (p.hi-p.lo)))++A.drop p.hi
theorem ZiE {K:Nat->Nat} {P X Q:List Nat} {lo hi:Nat} (h1:P.length=lo) (h2:lo+X.length=hi):opP K ⟨lo,hi,false⟩ (P++X++Q)=P++msort K X++Q:=by
 unfold opP;simp only [Bool.false_eq_true,if_false];have e1:(P++X++Q).take lo=P:=by rw [List.append_assoc,<-h1,List.take_left]
 have e2:(P++X++Q).drop lo=X++Q:=by rw [List.append_assoc,<-h1,List.drop_left]
 have e3:(P++X++Q).drop hi=Q:=by rw [<-h2,<-h1,<-List.length_append,List.drop_left]
 have e4:(X++Q).take (hi-lo)=X:=by rw [show hi-lo=X.length by omega,List.take_left]
 rw [e1,e2,e3,e4]
theorem Zrq {K:Nat->Nat} {P X Y Q:List Nat} {lo hi:Nat} (h1:P.length=lo) (h2:(⟨lo,hi,true⟩:Part).mid=lo+X.length) (h3:lo+X.length+Y.length=hi):opP K ⟨lo,hi,true⟩ (P++(X++Y)++Q)=P++mrg K X Y++Q:=by
 unfold opP;simp only [if_true,h2];have e1:(P++(X++Y)++Q).take lo=P:=by rw [List.append_assoc,<-h1,List.take_left]
 have e2:(P++(X++Y)++Q).drop lo=X++(Y++Q):=by rw [List.append_assoc,<-h1,List.drop_left,List.append_assoc]
 have e3:(P++(X++Y)++Q).drop hi=Q:=by rw [<-h3,<-h1,show P.length+X.length+Y.length=(P++(X++Y)).length by simp;omega,List.drop_left]
 have e4:(X++(Y++Q)).take (lo+X.length-lo)=X:=by rw [show lo+X.length-lo=X.length by omega,List.take_left]
 have e5:(P++(X++Y)++Q).drop (lo+X.length)=Y++Q:=by rw [<-h1,show P++(X++Y)++Q=(P++X)++(Y++Q) by simp,show P.length+X.length=(P++X).length by simp,List.drop_left]
 have e6:(Y++Q).take (hi-(lo+X.length))=Y:=by rw [show hi-(lo+X.length)=Y.length by omega,List.take_left]
 rw [e1,e2,e3,e4,e5,e6]
theorem Zrr {K:Nat->Nat} {A:List Nat} {lo hi:Nat} (h1:lo<=hi) (h2:hi<=A.length) (h3:hi-lo<2):opP K ⟨lo,hi,false⟩ A=A:=by
 have e:A=A.take lo++(A.drop lo).take (hi-lo)++A.drop hi:=by
  conv=>lhs;rw [<-List.take_append_drop lo A,<-List.take_append_drop (hi-lo) (A.drop lo),List.drop_drop,show lo+(hi-lo)=hi by omega]
  rw [List.append_assoc]
 conv=>lhs;rw [e]
 rw [ZiE (by rw [List.length_take];omega) (by rw [List.length_take,List.length_drop];omega),Zgz (by rw [List.length_take];omega),<-e]
theorem Zh4 (lo hi:Nat) (b:Bool) (h:lo<=hi):(⟨lo,hi,b⟩:Part).mid=lo+(hi-lo) / 2:=by
 show(lo+hi) / 2=_;omega
theorem ZpC {K:Nat->Nat} {A:List Nat} {lo hi:Nat} (h1:lo+2<=hi) (h2:hi<=A.length) :
  opP K ⟨lo,hi,true⟩ (opP K ⟨lo+(hi-lo) / 2,hi,false⟩ (opP K ⟨lo,lo+(hi-lo) / 2,false⟩ A))=opP K ⟨lo,hi,false⟩ A:=by
 obtain⟨P,X,Q,rfl,hP,hX⟩:∃P X Q,A=P++X++Q/\P.length=lo/\X.length=hi-lo:=⟨A.take lo,(A.drop lo).take (hi-lo),A.drop hi,by
  conv=>lhs;rw [<-List.take_append_drop lo A,<-List.take_append_drop (hi-lo) (A.drop lo),List.drop_drop,show lo+(hi-lo)=hi by omega]
  rw [List.append_assoc],by rw [List.length_take];omega,by rw [List.length_take,List.length_drop];omega⟩
 have ha:(X.take (X.length / 2)).length=(hi-lo) / 2:=by rw [List.length_take,hX];omega
 have hb:(X.drop (X.length / 2)).length=(hi-lo)-(hi-lo) / 2:=by rw [List.length_drop,hX]
 have e1:opP K ⟨lo,hi,false⟩ (P++X++Q)=P++msort K X++Q:=ZiE hP (by omega)
 have e0:P++X++Q=P++X.take (X.length / 2)++(X.drop (X.length / 2)++Q):=by
  rw [List.append_assoc P (X.take _),<-List.append_assoc (X.take _),List.take_append_drop,List.append_assoc]
 have e2:opP K ⟨lo,lo+(hi-lo) / 2,false⟩ (P++X++Q)=P++msort K (X.take (X.length / 2))++(X.drop (X.length / 2)++Q):=by
  rw [e0];exact ZiE hP (by rw [ha])
 have e3:opP K ⟨lo+(hi-lo) / 2,hi,false⟩ (P++msort K (X.take (X.length / 2))++(X.drop (X.length / 2)++Q))=(P++msort K (X.take (X.length / 2)))++msort K (X.drop (X.length / 2))++Q:=by
  rw [<-List.append_assoc];exact ZiE (by rw [List.length_append,Zes,hP,ha]) (by rw [hb];omega)
 rw [e1,e2,e3,List.append_assoc P];rw [Zrq hP (by rw [Zh4 _ _ _ (by omega),Zes,ha]) (by rw [Zes,Zes,ha,hb];omega),ZiD (l:=X) (by omega)]
def runAll (K:Nat->Nat) (stk:List Part) (A:List Nat):List Nat:=stk.foldl (fun A p=>opP K p A) A
theorem Zl0 (K:Nat->Nat) (p:Part) (stk:List Part) (A:List Nat):runAll K (p::stk) A=runAll K stk (opP K p A):=rfl
theorem ZmX (K:Nat->Nat) (A:List Nat):opP K ⟨0,A.length,false⟩ A=msort K A:=by
 have:=ZiE (K:=K) (P:=[]) (X:=A) (Q:=[]) (lo:=0) (hi:=A.length) rfl (by omega);simpa using this
def costs (stk:List Part):Nat:=(stk.map Part.cost).sum
end SrtM
end
section
namespace SrtM
open Go.RowKit BwtM
def KeyH (T:List UInt8) (H:Nat) (K:Nat->Nat):Prop:=∀i k,i<T.length->k<T.length->(K i<K k↔ltH T H i k)
theorem KeyH.eq {T:List UInt8} {H:Nat} {K:Nat->Nat} (h:KeyH T H K) {i k:Nat} (hi:i<T.length) (hk:k<T.length):K i=K k↔eqH T H i k:=by
 have h1:=h i k hi hk;have h2:=h k i hk hi;constructor
 ·intro e;rcases ZiA T i k H with g|g|g
  ·have:=h1.2 g;omega
  ·exact g
  ·have:=h2.2 g;omega
 ·intro e;have a:¬K i<K k:=fun g=>(h1.1 g).noteq e
  have b:¬K k<K i:=fun g=>(h2.1 g).noteq e.symm
  omega
theorem KeyH.first (T:List UInt8):KeyH T 1 (bt T):=fun i k _ _=>by
 constructor
 ·intro h;exact⟨0,by omega,fun t ht=>by omega,h⟩
 ·rintro⟨t,ht,_,h⟩;obtain rfl:t=0:=by omega
  exact h
def keyC (n h:Nat) (C:Nat->Nat) (i:Nat):Nat:=C i*n+C ((i+h) % n)
theorem ZjA {a b c n:Nat} (hb:b<n):a<c->a*n+b<c*n:=fun h=>by
 have:=Nat.mul_le_mul_right n (show a+1<=c from h);rw [Nat.add_mul,Nat.one_mul] at this;omega
theorem KeyH.twice {T:List UInt8} {h:Nat} {C:Nat->Nat} (hC:KeyH T h C) (hb:∀i,i<T.length->C i<T.length):KeyH T (h+h) (keyC T.length h C):=fun i k hi hk=>by
 have hn:0<T.length:=by omega
 have h1:=Nat.mod_lt (i+h) hn;have h2:=Nat.mod_lt (k+h) hn;have l1:=hC i k hi hk;have e1:=hC.eq hi hk;have l2:=hC _ _ h1 h2;rw [ZsC] at l2;rw [ZsA,<-l1,<-e1,<-l2];unfold keyC;have b1:=hb _ h1;have b2:=hb _ h2;constructor
 ·intro g;rcases Nat.lt_trichotomy (C i) (C k) with c|c|c
  ·exact Or.inl c
  ·rw [c] at g;exact Or.inr ⟨c,by omega⟩
  ·have:=ZjA b2 c;omega
 ·rintro(c|⟨c,g⟩)
  ·have:=ZjA b1 c;omega
  ·rw [c];omega
theorem Zrs (n h:Nat) (C:Nat->Nat) (i:Nat):keyC n (h % n) C i=keyC n h C i:=by
 unfold keyC;rw [Nat.add_mod_mod]
def SortH (T:List UInt8) (H:Nat) (P:List Nat):Prop:=P.Perm (List.range T.length)/\P.Pairwise (fun i k=>ltH T H i k\/(eqH T H i k/\i<k))
theorem Zhg {T:List UInt8} {H:Nat} {P:List Nat} (h:SortH T H P) {i:Nat} (hi:i∈P):i<T.length:=List.mem_range.1 (h.1.mem_iff.1 hi)
theorem ZjB {T:List UInt8} {G H:Nat} {K:Nat->Nat} {A:List Nat} (hK:KeyH T H K) (hA:A.Perm (List.range T.length)) (hs:A.Pairwise (fun x y=>K x=K y->x<y)):SortH T H (msort K A):=by
 have hp:=Zdb K _ A (Nat.le_refl _);have hs2:=ZfK K _ A (Nat.le_refl _) hs;refine⟨hp.trans hA,?_⟩;have hm:∀x∈msort K A,x<T.length:=fun x hx=>List.mem_range.1 (hA.mem_iff.1 (hp.mem_iff.1 hx))
 refine List.Pairwise.imp_of_mem (fun {x y} hx hy h=>?_) hs2;rcases h with h|⟨h,h2⟩
 ·exact Or.inl ((hK x y (hm x hx) (hm y hy)).1 h)
 ·exact Or.inr ⟨(hK.eq (hm x hx) (hm y hy)).1 h,h2⟩
theorem Zk0 {T:List UInt8} {G H:Nat} {K:Nat->Nat} {A:List Nat} (hA:SortH T G A) (hGH:G<=H) (hK:KeyH T H K):A.Pairwise (fun x y=>K x=K y->x<y):=by
 refine List.Pairwise.imp_of_mem (fun {x y} hx hy h e=>?_) hA.2;have he:=((hK.eq (Zhg hA hx) (Zhg hA hy)).1 e).mono hGH;rcases h with h|h
 ·exact absurd he h.noteq
 ·exact h.2
theorem Zk1 {K:Nat->Nat} (n:Nat):(List.range n).Pairwise (fun x y=>K x=K y->x<y):=List.Pairwise.imp (S:=fun x y=>K x=K y->x<y) (fun h _=>h) List.pairwise_lt_range
theorem ZnM {T:List UInt8} {H:Nat} {P:List Nat} (h:SortH T H P) (hd:T.length<=H\/∀i k,i<T.length->k<T.length->i≠k->¬eqH T H i k):IsSorted T P:=by
 refine⟨h.1,List.Pairwise.imp_of_mem (fun {x y} hx hy g=>?_) h.2⟩;have hx2:=Zhg h hx;have hy2:=Zhg h hy;rw [ZfJ (by omega) (by omega)];rcases g with g|⟨g,g2⟩
 ·exact Or.inl (Zrp g)
 ·rcases hd with hd|hd
  ·exact Or.inr ⟨g.mono hd,g2⟩
  ·exact absurd g (hd x y hx2 hy2 (by omega))
def cN (K:Nat->Nat) (P:List Nat):Nat->Nat
 | 0=>0
 | j+1=>if K (P.getD (j+1) 0)=K (P.getD j 0) then cN K P j else cN K P j+1
theorem ZpD (K:Nat->Nat) (P:List Nat):∀j,cN K P j<=j
 | 0=>Nat.le_refl _
 | j+1=>by
  have:=ZpD K P j;unfold cN;split<;>omega
theorem Zl1 (K:Nat->Nat) (P:List Nat) (j:Nat):cN K P j<=cN K P (j+1)/\cN K P (j+1)<=cN K P j+1/\(cN K P j=cN K P (j+1)↔K (P.getD (j+1) 0)=K (P.getD j 0)):=by
 rw [show cN K P (j+1)=if K (P.getD (j+1) 0)=K (P.getD j 0) then cN K P j else cN K P j+1 from rfl];split
 ·exact⟨by omega,by omega,⟨fun _=>by assumption,fun _=>rfl⟩⟩
 ·exact⟨by omega,by omega,⟨fun h=>by omega,fun h=>absurd h (by assumption)⟩⟩
theorem Zl2 (K:Nat->Nat) (P:List Nat) (j:Nat):∀d,cN K P j<=cN K P (j+d)
 | 0=>Nat.le_refl _
 | d+1=>Nat.le_trans (Zl2 K P j d) (Zl1 K P (j+d)).1
theorem ZsF {K:Nat->Nat} {P:List Nat} (h:∀i,i+1<P.length->K (P.getD i 0)<=K (P.getD (i+1) 0)) (j:Nat):∀d,j+d<P.length->K (P.getD j 0)<=K (P.getD (j+d) 0)/\(cN K P j<cN K P (j+d)↔K (P.getD j 0)<K (P.getD (j+d) 0))
 | 0,_=>⟨Nat.le_refl _,by simp⟩
 | d+1,hd=>by
  obtain⟨h1,h2⟩:=ZsF h j d (by omega);have h3:=h (j+d) (by omega);have h4:=Zl1 K P (j+d);have h5:=Zl2 K P j d;rw [show j+(d+1)=j+d+1 by omega];refine⟨Nat.le_trans h1 h3,?_⟩;by_cases e:K (P.getD (j+d+1) 0)=K (P.getD (j+d) 0)
  ·rw [<-h4.2.2.2 e,e];exact h2
  ·have:cN K P (j+d+1)≠cN K P (j+d):=fun g=>e (h4.2.2.1 g.symm)
   constructor<;>intro _<;>omega
theorem ZsG {K:Nat->Nat} {P:List Nat} (h:∀i,i+1<P.length->K (P.getD i 0)<=K (P.getD (i+1) 0)) {i k:Nat} (hi:i<P.length) (hk:k<P.length):cN K P i<cN K P k↔K (P.getD i 0)<K (P.getD k 0):=by
 by_cases c:i<=k
 ·obtain⟨d,rfl⟩:=Nat.exists_eq_add_of_le c;exact(ZsF h i d hk).2
 ·obtain⟨d,rfl⟩:=Nat.exists_eq_add_of_le (show k<=i by omega);have h1:=(ZsF h k d hi).1;have h2:=Zl2 K P k d;constructor<;>intro _<;>omega
theorem Ztk {K:Nat->Nat} {P:List Nat} {n:Nat} (hn:0<n):cN K P (n-1)=n-1↔∀i,i+1<n->K (P.getD (i+1) 0)≠K (P.getD i 0):=by
 have key:∀m,cN K P m=m↔∀i,i<m->K (P.getD (i+1) 0)≠K (P.getD i 0):=fun m=>by
  induction m with
  | zero=>exact⟨fun _ i h=>by omega,fun _=>rfl⟩
  | succ m ih=>
   have h1:=Zl1 K P m;have h2:=ZpD K P m;constructor
   ·intro h i hi;rcases Nat.lt_or_ge i m with g|g
    ·exact ih.1 (by omega) i g
    ·obtain rfl:i=m:=by omega
     intro e;have:=h1.2.2.2 e;omega
   ·intro h;have h3:=ih.2 (fun i hi=>h i (by omega));have h4:cN K P m≠cN K P (m+1):=fun e=>h m (by omega) (h1.2.2.1 e)
    omega
 rw [key];exact⟨fun h i hi=>h i (by omega),fun h i hi=>h i (by omega)⟩
def NumAt (K:Nat->Nat) (P C:List Nat) (m:Nat):Prop:=∀j,j<m->C.getD (P.getD j 0) 0=cN K P j
theorem NumAt.start (K:Nat->Nat) (P C:List Nat):NumAt K P C 0:=fun j h=>by omega
theorem NumAt.next {K:Nat->Nat} {P C:List Nat} {m n:Nat} (h:NumAt K P C m) (hP:P.Perm (List.range n)) (hm:m<n) (hC:C.length=n):NumAt K P (C.set (P.getD m 0) (cN K P m)) (m+1):=fun j hj=>by
 have hl:=ZcU hP;have hd:P.Nodup:=hP.nodup_iff.2 List.nodup_range;have hg:∀i,i<n->P.getD i 0=P.getD i 0:=fun _ _=>rfl
 rw [List.getD_eq_getElem?_getD,List.getElem?_set];by_cases e:P.getD m 0=P.getD j 0
 ·have ejm:j=m:=by
   have h1:P[m]?=P[j]?:=by
    have hm2:m<P.length:=by omega
    have hj2:j<P.length:=by omega
    rw [List.getElem?_eq_getElem hm2,List.getElem?_eq_getElem hj2];rw [List.getD_eq_getElem?_getD,List.getD_eq_getElem?_getD,List.getElem?_eq_getElem hm2,List.getElem?_eq_getElem hj2] at e;exact congrArg some e
   exact((List.getElem?_inj (by omega) hd).1 h1).symm
  subst ejm;rw [if_pos e,if_pos (by rw [hC];exact Zcg hP (by omega))];rfl
 ·rw [if_neg e,<-List.getD_eq_getElem?_getD]
  exact h j (by
   have:j≠m:=fun g=>e (by rw [g])
   omega)
theorem ZeV {T:List UInt8} {H:Nat} {K:Nat->Nat} {P C:List Nat} (hK:KeyH T H K) (hP:SortH T H P) (hN:NumAt K P C T.length):KeyH T H (fun i=>C.getD i 0)/\∀i,i<T.length->C.getD i 0<T.length:=by
 have hl:=ZcU hP.1
 have hle:∀i,i+1<P.length->K (P.getD i 0)<=K (P.getD (i+1) 0):=fun i hi=>by
  have h1:=List.pairwise_iff_getElem.1 hP.2 i (i+1) (by omega) hi (by omega);have g1:P.getD i 0=P[i]'(by omega):=by rw [List.getD_eq_getElem?_getD,List.getElem?_eq_getElem (by omega)];rfl
  have g2:P.getD (i+1) 0=P[i+1]:=by rw [List.getD_eq_getElem?_getD,List.getElem?_eq_getElem hi];rfl
  rw [<-g1,<-g2] at h1;have b1:=Zcg hP.1 (j:=i) (by omega);have b2:=Zcg hP.1 (j:=i+1) (by omega);rcases h1 with h1|h1
  ·exact Nat.le_of_lt ((hK _ _ b1 b2).2 h1)
  ·rw [(hK.eq b1 b2).2 h1.1];exact Nat.le_refl _
 have rank:∀i,i<T.length->∃j,j<P.length/\P.getD j 0=i:=fun i hi=>by
  obtain⟨j,hj,e⟩:=List.getElem_of_mem (hP.1.mem_iff.2 (List.mem_range.2 hi));exact⟨j,hj,by rw [List.getD_eq_getElem?_getD,List.getElem?_eq_getElem hj];exact e⟩
 constructor
 ·intro i k hi hk;obtain⟨j,hj,rfl⟩:=rank i hi;obtain⟨m,hm,rfl⟩:=rank k hk;show C.getD _ 0<C.getD _ 0↔_;rw [hN j (by omega),hN m (by omega),ZsG hle hj hm];exact hK _ _ hi hk
 ·intro i hi;obtain⟨j,hj,rfl⟩:=rank i hi;rw [hN j (by omega)];have:=ZpD K P j;omega
theorem Zi6 {T:List UInt8} {H:Nat} {K:Nat->Nat} {P C:List Nat} (hK:KeyH T H K) (hP:SortH T H P) (hN:NumAt K P C T.length) (hn:0<T.length) :
  C.getD (P.getD (T.length-1) 0) 0=T.length-1↔∀i k,i<T.length->k<T.length->i≠k->¬eqH T H i k:=by
 have hl:=ZcU hP.1;rw [hN _ (by omega),Ztk hn];constructor
 ·intro h;have hcl:=(ZeV hK hP hN).1
  have hlt:∀i d,i+d+1<P.length->K (P.getD i 0)<K (P.getD (i+d+1) 0):=fun i d=>by
   have one:∀j,j+1<P.length->K (P.getD j 0)<K (P.getD (j+1) 0):=fun j hj=>by
    have h1:=List.pairwise_iff_getElem.1 hP.2 j (j+1) (by omega) hj (by omega);have g1:P.getD j 0=P[j]'(by omega):=by rw [List.getD_eq_getElem?_getD,List.getElem?_eq_getElem (by omega)];rfl
    have g2:P.getD (j+1) 0=P[j+1]:=by rw [List.getD_eq_getElem?_getD,List.getElem?_eq_getElem hj];rfl
    rw [<-g1,<-g2] at h1;have b1:=Zcg hP.1 (j:=j) (by omega);have b2:=Zcg hP.1 (j:=j+1) (by omega);rcases h1 with h1|h1
    ·exact(hK _ _ b1 b2).2 h1
    ·exact absurd ((hK.eq b1 b2).2 h1.1).symm (h j (by omega))
   induction d with
   | zero=>intro hd;exact one i hd
   | succ d ih=>intro hd;exact Nat.lt_trans (ih (by omega)) (one (i+d+1) hd)
  intro i k hi hk hne he;obtain⟨j,hj,rfl⟩:=List.getElem_of_mem (hP.1.mem_iff.2 (List.mem_range.2 hi));obtain⟨m,hm,rfl⟩:=List.getElem_of_mem (hP.1.mem_iff.2 (List.mem_range.2 hk));have g1:P.getD j 0=P[j]:=by rw [List.getD_eq_getElem?_getD,List.getElem?_eq_getElem hj];rfl
  have g2:P.getD m 0=P[m]:=by rw [List.getD_eq_getElem?_getD,List.getElem?_eq_getElem hm];rfl
  rw [<-g1,<-g2] at he;rw [<-g1] at hi;rw [<-g2] at hk;have e:=(hK.eq hi hk).2 he;rcases Nat.lt_trichotomy j m with c|c|c
  ·have:=hlt j (m-j-1) (by omega);rw [show j+(m-j-1)+1=m by omega] at this;omega
  ·subst c;exact hne rfl
  ·have:=hlt m (j-m-1) (by omega);rw [show m+(j-m-1)+1=j by omega] at this;omega
 ·intro h i hi e;have hd:P.Nodup:=hP.1.nodup_iff.2 List.nodup_range;have b1:=Zcg hP.1 (j:=i) (by omega);have b2:=Zcg hP.1 (j:=i+1) (by omega);refine h _ _ b2 b1 (fun g=>?_) ((hK.eq b2 b1).1 e)
  have h1:P[i+1]?=P[i]?:=by
   rw [List.getElem?_eq_getElem (by omega),List.getElem?_eq_getElem (show i<P.length by omega)];rw [List.getD_eq_getElem?_getD,List.getD_eq_getElem?_getD,List.getElem?_eq_getElem (show i+1<P.length by omega),List.getElem?_eq_getElem (show i<P.length by omega)] at g;exact congrArg some g
  have:=(List.getElem?_inj (by omega) hd).1 h1;omega
def bytesBy (r:Nat):Nat:=if r=0 then 1 else 2*r
def Unlike (T:List UInt8) (H:Nat):Prop:=∀i k,i<T.length->k<T.length->i≠k->¬eqH T H i k
def Ends (T:List UInt8) (r:Nat):Prop:=Unlike T (bytesBy r)\/T.length<=r
inductive Rem (T:List UInt8):Nat->Nat->Prop
 | done {r:Nat}:Ends T r->Rem T r 0
 | more {r m:Nat}:¬Ends T r->Rem T (bytesBy r) m->Rem T r (m+1)
theorem Rem.one {T:List UInt8} {r m k:Nat} (h:Rem T r m):Rem T r k->m=k:=by
 induction h generalizing k with
 | done h=>
  intro g;cases g with
  | done _=>rfl
  | more g _=>exact absurd h g
 | more h _ ih=>
  intro g;cases g with
  | done g=>exact absurd g h
  | more _ g=>rw [ih g]
theorem ZpE (T:List UInt8):∀(d a:Nat),T.length<=2^(a+d)->∃m,m<=d/\Rem T (2^a) m
 | 0,a,h=>⟨0,Nat.le_refl _,.done (Or.inr h)⟩
 | d+1,a,h=>by
  by_cases e:Ends T (2^a)
  ·exact⟨0,by omega,.done e⟩
  ·obtain⟨m,hm,hr⟩:=ZpE T d (a+1) (by rw [show a+1+d=a+(d+1) by omega];exact h);refine⟨m+1,by omega,.more e ?_⟩;have hp:2^a≠0:=by have:=Nat.pow_pos (n:=a) (show 0<2 by omega);omega
   have eb:bytesBy (2^a)=2^(a+1):=by unfold bytesBy;rw [if_neg hp,Nat.pow_succ,Nat.mul_comm]
   rw [eb];exact hr
theorem ZmY (T:List UInt8) (b:Nat) (h:T.length<=2^b):∃m,m<=b+1/\Rem T 0 m:=by
 by_cases e:Ends T 0
 ·exact⟨0,by omega,.done e⟩
 ·obtain⟨m,hm,hr⟩:=ZpE T b 0 (by rw [Nat.zero_add];exact h);exact⟨m+1,by omega,.more e hr⟩
def each (n:Nat):Nat:=passS n+n
theorem Zrt {n b m:Nat} (h1:1<=n) (h2:n<=2^b) (hm:m<=b+1):each n*(m+1)<=n*(4+3*b)*(b+2):=by
 have h:=Zj8 n b h1 h2;refine Nat.mul_le_mul ?_ (by omega);unfold each;rw [show 4+3*b=(3+3*b)+1 by omega,Nat.mul_add n (3+3*b) 1];omega
end SrtM
end
section
namespace SrtM
open Go.RowKit BwtM
theorem ZsH {K:Nat->Nat} {p:Part} {A:List Nat} (h1:p.lo<=p.hi) (h2:p.hi<=A.length):(opP K p A).Perm A:=by
 obtain⟨lo,hi,b⟩:=p;simp only at h1 h2
 have e:A=A.take lo++(A.drop lo).take (hi-lo)++A.drop hi:=by
  conv=>lhs;rw [<-List.take_append_drop lo A,<-List.take_append_drop (hi-lo) (A.drop lo),List.drop_drop,show lo+(hi-lo)=hi by omega]
  rw [List.append_assoc]
 cases b with
 | false=>
  conv=>rhs;rw [e]
  unfold opP;simp only [Bool.false_eq_true,if_false];exact((Zdb K _ _ (Nat.le_refl _)).append_left _).append_right _
 | true=>
  have hm:=Zh4 lo hi true h1
  have e2:(A.drop lo).take (hi-lo)=(A.drop lo).take ((⟨lo,hi,true⟩:Part).mid-lo)++(A.drop (⟨lo,hi,true⟩:Part).mid).take (hi-(⟨lo,hi,true⟩:Part).mid):=by
   rw [hm]
   conv=>lhs;rw [<-List.take_append_drop (lo+(hi-lo) / 2-lo) ((A.drop lo).take (hi-lo))]
   rw [List.take_take,List.drop_take,List.drop_drop];congr 2
   ·omega
   ·omega
   ·congr 1;omega
  conv=>rhs;rw [e,e2]
  unfold opP;simp only [if_true];exact((Zhf K _ _).append_left _).append_right _
structure SS where
 ord:List Nat
 cls:List Nat
 asd:List Nat
 reach:Nat
 ps:List Part
 laid:Nat
 first:Nat
 second:Nat
 made:Nat
 steps:Nat
def segX (A:List Nat) (p:Part):List Nat:=(A.drop p.lo).take (p.mid-p.lo)
def segY (A:List Nat) (p:Part):List Nat:=(A.drop p.mid).take (p.hi-p.mid)
def TopAt (K:Nat->Nat) (S:SS) (A:List Nat) (p:Part):Prop:=
 (p.begun=false/\S.laid=0/\S.first=0/\S.second=0/\S.ord=A) \/
 (p.begun=true/\MrgAt K (segX A p) (segY A p) S.first S.second/\S.laid<=p.mid-p.lo/\(0<S.first+S.second->S.laid=p.mid-p.lo) /\
  S.ord=A.take p.lo++(mrg K (segX A p) (segY A p)).take (S.first+S.second)++A.drop (p.lo+(S.first+S.second))/\∀i,i<S.laid->S.asd.getD i 0=A.getD (p.lo+i) 0)
def Fits (n:Nat) (p:Part):Prop:=p.lo<=p.hi/\p.hi<=n/\(p.begun=true->p.lo+2<=p.hi)
structure Srt (T:List UInt8) (K:Nat->Nat) (S:SS) (ps:List Part) (p:Part) (A:List Nat) (m R:Nat):Prop where
 stk:S.ps=ps++[p]
 made:S.made=0
 perm:A.Perm (List.range T.length)
 goal:SortH T (bytesBy S.reach) (runAll K (p::ps.reverse) A)
 rem:Rem T S.reach m
 fits:∀q∈ps++[p],Fits T.length q
 top:TopAt K S A p
 left:R+(S.laid+S.first+S.second)=costs (ps++[p])+T.length+each T.length*m
structure Num (T:List UInt8) (K:Nat->Nat) (S:SS) (m R:Nat):Prop where
 stk:S.ps=[]
 zero:S.laid=0/\S.first=0/\S.second=0
 ord:SortH T (bytesBy S.reach) S.ord
 num:NumAt K S.ord S.asd S.made
 made:S.made<=T.length
 rem:Rem T S.reach m
 left:R+S.made=T.length+each T.length*m
theorem Za7 (ps:List Part) (p:Part):costs (ps++[p])=costs ps+p.cost:=by unfold costs;simp
theorem ZjC (K:Nat->Nat) (ps:List Part) (p q:Part) (A:List Nat):runAll K (p::(ps++[q]).reverse) A=runAll K (q::ps.reverse) (opP K p A):=by rw [List.reverse_append];rfl
theorem Srt.pop {T:List UInt8} {K:Nat->Nat} {S S':SS} {ps:List Part} {p:Part} {A:List Nat} {m R R':Nat} (h:Srt T K S ps p A m R) (hps:S'.ps=ps) (hz:S'.laid=0/\S'.first=0/\S'.second=0) (hr:S'.reach=S.reach) (hm:S'.made=S.made)
  (ho:S'.ord=opP K p A) (hR2:R'=costs ps+T.length+each T.length*m) :
  (∃ps2 q,ps=ps2++[q]/\Srt T K S' ps2 q (opP K p A) m R')\/(ps=[]/\Num T K S' m R'):=by
 obtain⟨z1,z2,z3⟩:=hz;have hf:=h.fits p (by simp);have hpl:(opP K p A).Perm A:=ZsH hf.1 (by rw [ZcU h.perm];exact hf.2.1);rcases List.eq_nil_or_concat ps with rfl|⟨ps2,q,rfl⟩
 ·right;refine⟨rfl,hps,⟨z1,z2,z3⟩,?_,?_,?_,by rw [hr];exact h.rem,?_⟩
  ·rw [hr,ho];exact h.goal
  ·rw [hm,h.made];exact NumAt.start _ _ _
  ·rw [hm,h.made];exact Nat.zero_le _
  ·rw [hm,h.made,hR2];simp [costs]
 ·left;rw [List.concat_eq_append] at *;refine⟨ps2,q,rfl,hps,by rw [hm,h.made],hpl.trans h.perm,?_,by rw [hr];exact h.rem,fun x hx=>h.fits x (List.mem_append_left _ hx),?_,?_⟩
  ·rw [hr];have:=h.goal;rw [ZjC] at this;exact this
  ·cases hb:q.begun with
   | false=>exact Or.inl ⟨hb,z1,z2,z3,ho⟩
   | true=>
    refine Or.inr ⟨hb,by rw [z2,z3];exact MrgAt.start _ _ _,by rw [z1];exact Nat.zero_le _,by rw [z2,z3];intro h;omega,?_,by rw [z1];intro i hi;omega⟩;rw [ho,z2,z3];simp
  ·rw [hR2,z1,z2,z3];omega
theorem Srt.small {T:List UInt8} {K:Nat->Nat} {S S':SS} {ps:List Part} {p:Part} {A:List Nat} {m R:Nat} (h:Srt T K S ps p A m R) (hb:p.begun=false) (hs:p.hi-p.lo<2) (hps:S'.ps=ps) (hz:S'.laid=0/\S'.first=0/\S'.second=0) (hr:S'.reach=S.reach) (hm:S'.made=S.made) (ho:S'.ord=S.ord) :
  1<=R/\((∃ps2 q,ps=ps2++[q]/\Srt T K S' ps2 q (opP K p A) m (R-1))\/(ps=[]/\Num T K S' m (R-1))):=by
 have hf:=h.fits p (by simp);have hl:=h.left;rcases h.top with⟨_,h1,h2,h3,h4⟩|⟨h0,_⟩
 ·have hc:p.cost=1:=by unfold Part.cost;rw [hb];simp only [Bool.false_eq_true,if_false];exact ZeU hs
  rw [Za7,hc,h1,h2,h3] at hl
  have hop:opP K p A=A:=by
   obtain⟨lo,hi,b⟩:=p;simp only at hb hs hf;subst hb;exact Zrr hf.1 (by rw [ZcU h.perm];exact hf.2.1) hs
  refine⟨by omega,h.pop hps hz hr hm (by rw [ho,h4,hop]) (by omega)⟩
 ·rw [hb] at h0;cases h0
theorem Srt.halves {T:List UInt8} {K:Nat->Nat} {S S':SS} {ps:List Part} {p:Part} {A:List Nat} {m R:Nat} (h:Srt T K S ps p A m R) (hb:p.begun=false) (hs:2<=p.hi-p.lo) (hps:S'.ps=ps++[⟨p.lo,p.hi,true⟩]++[⟨p.mid,p.hi,false⟩]++[⟨p.lo,p.mid,false⟩]) (hz:S'.laid=S.laid/\S'.first=S.first/\S'.second=S.second) (hr:S'.reach=S.reach) (hm:S'.made=S.made) (ho:S'.ord=S.ord) :
  1<=R/\Srt T K S' (ps++[⟨p.lo,p.hi,true⟩]++[⟨p.mid,p.hi,false⟩]) ⟨p.lo,p.mid,false⟩ A m (R-1):=by
 obtain⟨lo,hi,b⟩:=p;simp only at hb hs hps ⊢;subst hb;have hf:=h.fits ⟨lo,hi,false⟩ (by simp);have hmid:=Zh4 lo hi false hf.1;have hf1:lo<=hi:=hf.1;have hf2:hi<=T.length:=hf.2.1;have hl:=h.left;rcases h.top with⟨_,h1,h2,h3,h4⟩|⟨h0,_⟩
 ·have hc:(⟨lo,hi,false⟩:Part).cost=1+passS ((hi-lo) / 2)+passS ((hi-lo)-(hi-lo) / 2)+(hi-lo) / 2+(hi-lo):=by
   unfold Part.cost;simp only [Bool.false_eq_true,if_false];exact ZiB hs
  rw [Za7,hc,h1,h2,h3] at hl;rw [hmid] at hps ⊢;refine⟨by omega,hps,by rw [hm,h.made],h.perm,?_,by rw [hr];exact h.rem,?_,Or.inl ⟨rfl,by rw [hz.1,h1],by rw [hz.2.1,h2],by rw [hz.2.2,h3],by rw [ho,h4]⟩,?_⟩
  ·rw [hr,ZjC,Zl0,List.reverse_append];show SortH T _ (runAll K ps.reverse (opP K ⟨lo,hi,true⟩ (opP K ⟨lo+(hi-lo) / 2,hi,false⟩ (opP K ⟨lo,lo+(hi-lo) / 2,false⟩ A))));rw [ZpC (by omega) (by rw [ZcU h.perm];exact hf2)];exact h.goal
  ·intro q hq;simp only [List.mem_append,List.mem_singleton] at hq;rcases hq with((hq|rfl)|rfl)|rfl
   ·exact h.fits q (List.mem_append_left _ hq)
   ·exact⟨hf1,hf2,fun _=>by show lo+2<=hi;omega⟩
   ·exact⟨by show lo+(hi-lo) / 2<=hi;omega,hf2,fun e=>by cases e⟩
   ·exact⟨by show lo<=lo+(hi-lo) / 2;omega,by show lo+(hi-lo) / 2<=T.length;omega,fun e=>by cases e⟩
  ·rw [hz.1,hz.2.1,hz.2.2,h1,h2,h3,Za7,Za7,Za7];have c1:(⟨lo,hi,true⟩:Part).cost=(hi-lo) / 2+(hi-lo):=rfl;have c2:(⟨lo+(hi-lo) / 2,hi,false⟩:Part).cost=passS ((hi-lo)-(hi-lo) / 2):=by show passS (hi-(lo+(hi-lo) / 2))=_;congr 1;omega
   have c3:(⟨lo,lo+(hi-lo) / 2,false⟩:Part).cost=passS ((hi-lo) / 2):=by show passS (lo+(hi-lo) / 2-lo)=_;congr 1;omega
   rw [c1,c2,c3];omega
 ·cases h0
end SrtM
end
end Go.Proofs.YtlfpbcadcfaboaaGreatDoor

import Derived.Test.YtnachbjhhpnadaaGreatDoorBcA
import Derived.Test.YtnachbjhhpnadaaGreatDoorBcB
import Derived.Test.YtnachbjhhpnadaaGreatDoorBcC
import Derived.Test.YtnachbjhhpnadaaGreatDoorBcD
import Derived.Test.YtnachbjhhpnadaaGreatDoorBcE
import Derived.Test.YtnachbjhhpnadaaGreatDoorBcF
import Derived.Test.YtnachbjhhpnadaaGreatDoorBcG
import Derived.Test.YtnachbjhhpnadaaGreatDoorBcH
import Derived.Test.YtnachbjhhpnadaaGreatDoorBcI
import Derived.Test.YtnachbjhhpnadaaGreatDoorBcJ
import Derived.Test.YtnachbjhhpnadaaGreatDoorBcK
import Derived.Test.YtnachbjhhpnadaaGreatDoorBcL
import Derived.Test.YtnachbjhhpnadaaGreatDoorBcM
import Derived.Test.YtnachbjhhpnadaaGreatDoorBcN
import Derived.Test.YtnachbjhhpnadaaGreatDoorBcO
import Derived.Test.YtnachbjhhpnadaaGreatDoorBcP
import Derived.Test.YtnachbjhhpnadaaGreatDoorBcQ
import Derived.Test.YtnachbjhhpnadaaGreatDoorBcR
import Derived.Test.YtnachbjhhpnadaaGreatDoorBcS
import Derived.Test.YtnachbjhhpnadaaGreatDoorBcT
import Derived.Test.YtnachbjhhpnadaaGreatDoorBcU
import Derived.Test.YtnachbjhhpnadaaGreatDoorBrA
import Derived.Test.YtnachbjhhpnadaaGreatDoorBrB
import Derived.Test.YtnachbjhhpnadaaGreatDoorBrC
import Derived.Deep.RegionHeld3
import Derived.StillTailTactics
import Derived.Lib.BufferWrite
import Derived.Laws.StandIn
import Derived.Laws.OwnMore
import Derived.Test.YtnachbjhhpnadaaGreatDoorProg
import Derived.Shelf.Strings.Builder1
import Derived.Shelf.Strings.Builder2
import Derived.Shelf.Strings.BuilderF
import Derived.Shelf.Strings.BuilderK
import Derived.Shelf.Strings.Builder2Cap
import Derived.Shelf.Strings.BuilderCap
import Derived.WalkKit
import Derived.Deep.RegionLaw
import Derived.BigQuiet
import Derived.Deep.AppendSrc
import Derived.Deep.Upon
import Derived.ChangeKeysEq
import Derived.Deep.Cut
import Derived.WalkMore
import Derived.BigRegion
import Derived.IntWalk
import Derived.ProofKit
import Derived.OpenShut
import Derived.ShutString
import Derived.ChangeOld
import Derived.Below
import Derived.Lib.Hide
import Derived.Lib.SmallJoins
import Derived.Deep.Slices
import Derived.Shelf.Abstract
import Derived.Laws.CopyRow
import Derived.Lib.SliceRun
import Derived.Deep.LoopGhost
import Derived.Deep.MidRow
import Derived.Laws.BitsAllLaws
import Derived.Outline
import Derived.Laws.EntriesVeiled
import Derived.Deep.QuietTactic
import Derived.Test.YtnachbjhhpnadaaGreatDoorRows
import Derived.WalkSpells
import Derived.WalkLawsBesides
import Derived.StillTactics
import Derived.Shelf.Strconv.Itoa0
set_option linter.unusedVariables false
set_option linter.unusedSimpArgs false
set_option maxHeartbeats 8000000
set_option maxRecDepth 100000
namespace Go.Proofs.YtnachbjhhpnadaaGreatDoor
section
open Go.RowKit UsedM MtfM
theorem Zja (l:List UInt8) (zs:List Int):∀(d k:Nat),decK l zs k=none->decK l zs (k+d)=none
 | 0,k,h=>h
 | d+1,k,h=>by rw [<-Nat.add_assoc,ZcH,Zja l zs d k h]
def DecP (zs:List Int) (l:List UInt8) (s:List UInt8) (err:Nat):Prop:=
 (¬IsSyms l/\s=[]/\err=1)\/(IsSyms l/\decK l zs zs.length=none/\s=[]/\err=1)\/(IsSyms l/\(∃m,decK l zs zs.length=some (s,m))/\err=0)
end
section
open Go.RowKit BitM UsedM
theorem ZhF (l:List UInt8) (k:Nat) (h:k<l.length):has (l.take (k+1))=put (has (l.take k)) l[k].toNat:=by
 rw [List.take_succ_eq_append_getElem h,ZgW]
theorem ZdO (s:ByteArray) (n:Nat) (w:World) (hs:s.size<=9223372036854775807) :
  Calls Tryz.prog 113 #[.string s,.int .i64 (n:Int)] w fun e w'=>e=.returned (.bool (has s.data.toList n))/\w=w':=by
 go_enter Tryz.func113,Tryz.ntmps113;go_wp2_with fail
 go_loop [5] (fun i=>∃k:Nat,k<=s.size/\i=.int .i64 k/\has (s.data.toList.take k) n=false) (fun i=>s.size-(intOf i).toNat)
 case atStart=>exact⟨0,by omega,rfl,by simp [has]⟩
 case round=>
  obtain⟨k,hk,rfl,hn⟩:=hrel;by_cases hlt:k<s.size
  ·have ht:=ZhF s.data.toList k (by simpa using hlt);have hc:=s[k].toNat_lt;have hsk:s.data.toList[k]'(by simpa using hlt)=s[k]:=rfl;rw [hsk] at ht;by_cases he:s[k].toNat=n
   ·have hr:has s.data.toList n=true:=by
     have h1:=ZdU s.data.toList s[k];rw [he] at h1;rw [h1,<-hsk];exact List.getElem_mem _
    have hd:((s[k].toNat:Int)==(n:Int))=true:=by rw [beq_iff_eq];omega
    have HRR:=zh hr;clear hn ht hsk hr;go_wp2_with fail;go_ret;exact⟨by rw [HRR.out];rfl,rfl⟩
   ·have hd:((s[k].toNat:Int)==(n:Int))=false:=by rw [beq_eq_false_iff_ne];omega
    have hn2:has (s.data.toList.take (k+1)) n=false:=by
     rw [ht];unfold put;rw [hn];simp only [Bool.false_or,beq_eq_false_iff_ne];omega
    have HN:=zh hn2;clear hn ht hsk hn2;go_wp2_with fail
    go_round
    case rel=>exact⟨k+1,by omega,by go_num,HN.out⟩
    case measure=>simp [intOf];omega
  ·obtain rfl:k=s.size:=by omega
   rw [List.take_of_length_le (by simp)] at hn;have HRR:=zh hn;clear hn;go_wp2_with fail;go_ret;exact⟨by rw [HRR.out];rfl,rfl⟩
theorem Zbf (s:ByteArray) (w:World) (hs:s.size<=9223372036854775807) :
  Calls Tryz.prog 56 #[.string s] w fun e w'=>e=.returned (.string ⟨(syms (has s.data.toList) 256).toArray⟩)/\Below w.heap.size w w':=by
 have HT:=zh (fun n w=>ZdO s n w hs);obtain⟨S,hS⟩:∃S,has s.data.toList=S:=⟨_,rfl⟩
 simp only [hS] at HT ⊢;clear hS;go_enter Tryz.func56,Tryz.ntmps56;go_wp2_with fail
 go_loopw [3,5] (fun o i wr=>∃k:Nat,k<=256/\i=.int .i64 k/\o=.string ⟨(syms S k).toArray⟩/\Below w.heap.size w wr) (fun _ i _=>256-(intOf i).toNat)
 case atStart=>exact⟨0,by omega,rfl,rfl,Below.refl _ _⟩
 case round=>
  obtain⟨k,hk,rfl,rfl,hB⟩:=hrel;have HB:=zh hB;clear hB;by_cases hlt:k<256
  ·have hk2:(k:Int)<256:=by omega
   have hw:IntKind.u8.wrap (k:Int)=(k:Int):=IntWalk.u8_in _ (by omega);have HSU:=zh (Zbx S k);have hlen:(⟨(syms S k).toArray⟩:ByteArray).size<=256:=by rw [Zav];exact Nat.le_trans (Zcs S k) hk
   have hx:(UInt8.ofNat k).toNat=k:=by rw [UInt8.toNat_ofNat',Nat.mod_eq_of_lt (by omega)]
   have hx1:(⟨#[UInt8.ofNat k]⟩:ByteArray).size=1:=rfl;have hcv:=Zcm wr (UInt8.ofNat k) (k:Int) (by rw [hx]);have HAP:=zh (ZaA (syms S k) [UInt8.ofNat k]);by_cases hsk:S k=true
   ·have HS2:=HSU.out;rw [if_pos hsk] at HS2;have HS3:=zh HS2;generalize hO:(⟨(syms S k).toArray⟩:ByteArray)=O at *;clear HS2 hx;go_wp2_with fail;refine(HT.out k wr).mono ?_;rw [hsk];clear hsk;rintro e w' ⟨rfl,rfl⟩;go_wp2_with fail;go_roundw
    case rel=>exact⟨k+1,by omega,by go_num,by rw [HS3.out];exact congrArg Value.string HAP.out,HB.out.alloc HB.out.size _⟩
    case measure=>simp [intOf];omega
   ·have hsf:S k=false:=by simpa using hsk
    have HS2:=HSU.out;rw [hsf] at HS2;have HS3:=zh HS2;clear HS2 hx hsk hcv;go_wp2_with fail;refine(HT.out k wr).mono ?_;rw [hsf];clear hsf;rintro e w' ⟨rfl,rfl⟩;go_wp2_with fail;go_roundw
    case rel=>exact⟨k+1,by omega,by go_num,by rw [HS3.out];rfl,HB.out⟩
    case measure=>simp [intOf];omega
  ·obtain rfl:k=256:=by omega
   go_wp2_with fail;go_ret;exact⟨rfl,HB.out⟩
theorem ZbC (s:ByteArray) (r:Bool) (w:World) (hs:s.size<=9223372036854775807) (hr:r=true↔IsSyms s.data.toList) :
  Calls Tryz.prog 114 #[.string s] w fun e w'=>e=.returned (.bool r)/\Below w.heap.size w w':=by
 by_cases h0:0<s.size
 ·have heq:=ZbL ⟨(syms (has s.data.toList) 256).toArray⟩ s r (by
   rw [hr,Zee];constructor
   ·intro h;rw [h.2]
   ·intro h;have h2:(syms (has s.data.toList) 256)=s.data.toList:=congrArg (fun b:ByteArray=>b.data.toList) h;refine⟨fun e=>?_,h2⟩;have:s.data.toList.length=s.size:=rfl;rw [e] at this;simp at this;omega)
  have HT:=zh (Zbf s w hs);generalize (⟨(syms (has s.data.toList) 256).toArray⟩:ByteArray)=T at *;go_enter Tryz.func114,Tryz.ntmps114;go_wp2_with fail;refine HT.out.mono ?_;rintro e w1 ⟨rfl,hb⟩;have HB:=zh hb;clear hb;go_wp2_with fail;go_ret;exact⟨rfl,HB.out⟩
 ·have hz:s.size=0:=by omega
  have hrf:r=false:=by
   rw [Bool.eq_false_iff,Ne,hr];intro h;exact h.2 (List.eq_nil_of_length_eq_zero hz)
  subst hrf;obtain rfl:s=⟨#[]⟩:=ByteArray.ext (Array.eq_empty_of_size_eq_zero hz);clear hr hz h0 hs;go_enter Tryz.func114,Tryz.ntmps114;go_wp2_with fail;go_ret;exact⟨rfl,Below.refl _ _⟩
end
section
open Go.RowKit UsedM MtfM
theorem ZdQ (s t:ByteArray) (w:World) (hs:s.size<=300) (ht:t.size<=9223372036854775807) :
  Calls Tryz.prog 57 #[.string s,.string t] w fun e w'=>∃(v:Value) (zs:List Int) (err:Nat),e=.returned (.tuple #[v,.int .i64 (err:Int)])/\IsInts w' v zs/\Below w.heap.size w w'/\EncP s.data.toList t.data.toList zs err:=by
 by_cases hy:IsSyms t.data.toList
 ·have htz:t.size<=256:=Zdm hy;have HIS:=zh (fun w=>ZbC t true w ht ⟨fun _=>hy,fun _=>rfl⟩);have hlt:t.data.toList.length=t.size:=rfl;have hls:s.data.toList.length=s.size:=rfl;have hsi:(s.size:Int)<=300:=by omega
  obtain⟨i0,hi,hz0,hz1,hz2⟩:=info_parts ZbF;have HI:=zh hi;have HZ0:=zh hz0;have HZ1:=zh hz1;have HZ2:=zh hz2;clear hi hz0 hz1 hz2;go_enter Tryz.func57,Tryz.ntmps57;go_wp2_with fail;refine(HIS.out w).mono ?_;rintro e w1 ⟨rfl,hb⟩;have HB:=zh hb;clear hb;go_wp2_with fail
  go_loopw [6,7,8] (fun o d i wr=>∃(k:Nat) (zs:List Int) (m:List UInt8) (v:Value),k<=s.size/\i=.int .i64 k/\d=.string ⟨m.toArray⟩/\o=v/\encK t.data.toList s.data.toList k=some (zs,m)/\wr.ownsRow w.heap.size 3 1 v k (zs.map iv64)/\Below w.heap.size w wr) (fun _ _ i _=>s.size-(intOf i).toNat)
  case atStart=>exact⟨0,[],t.data.toList,_,by omega,rfl,congrArg Value.string (ZhE t),rfl,rfl,World.ownsRow_nil _ _ _ _,HB.out⟩
  case round=>
   clear HB;obtain⟨k,zs,m,v,hk,rfl,rfl,rfl,he,hO,hB⟩:=hrel;have HE:=zh he;have HO:=zh hO;have HB:=zh hB;clear he hO hB;by_cases hlk:k<s.size
   ·have hki:(k:Int)<(s.size:Int):=by omega
    have hgd:s.data.toList.getD k 0=s[k]:=by
     rw [List.getD_eq_getElem?_getD,List.getElem?_eq_getElem (by simpa using hlk)];rfl
    have hlen:=encK_len _ _ _ _ _ HE.out;have hml:m.length<=256:=by omega
    have hstep:=Za3 t.data.toList s.data.toList k;rw [HE.out,hgd] at hstep;have HST:=zh hstep;have HPL:=zh (fun w=>ZdP ⟨m.toArray⟩ s[k] w (by rw [Zav];omega));clear hstep hgd;have hxk:=s[k].toNat_lt;have hmt:(⟨m.toArray⟩:ByteArray).data.toList=m:=rfl;rw [hmt] at HPL;rcases Za5 m s[k] with hp|⟨o,hp,ho,hx⟩
    ·have hnone:encK t.data.toList s.data.toList (k+1)=none:=by rw [HST.out];simp only [hp];rfl
     have hfin:encK t.data.toList s.data.toList s.size=none:=by
      have:=ZbX t.data.toList s.data.toList (s.size-(k+1)) (k+1) hnone
      rwa [show k+1+(s.size-(k+1))=s.size by omega] at this
     have HF:=zh hfin;rw [hp] at HPL;clear hnone hfin hp hlen hmt;generalize (⟨m.toArray⟩:ByteArray)=T at *;go_wp2_with fail;refine(HPL.out wr).mono ?_;rintro e w' ⟨rfl,rfl⟩;go_wp2_with fail;go_ret2;exact⟨_,[],6,rfl,IsInts.nil _,HB.out,Or.inr (Or.inl ⟨hy,HF.out,rfl,rfl⟩)⟩
    ·have hsome:encK t.data.toList s.data.toList (k+1)=some (zs++[(o:Int)],touch m o):=by
      rw [HST.out];simp only [hp];rw [if_neg (by omega)];rfl
     have HS:=zh hsome;rw [hp] at HPL;have HTO:=zh (fun w=>Zbv m o w ho hml);have hbw:w.heap.size<=wr.heap.size:=HB.out.size;clear hsome hp hx hmt;generalize (⟨m.toArray⟩:ByteArray)=T at *;go_wp2_with fail;refine(HPL.out wr).mono ?_;rintro e w' ⟨rfl,rfl⟩;go_wp2_with (at_builtin;refine wpList_append_own _ rfl _ _ 79 rfl w.heap.size 3 i0 (.int .i64 0) 1 8 Tryz.underlying79 HI.out HZ0.out HZ1.out HZ2.out rfl (by decide) _ _ _ rfl (HO.out.alloc _) ⟨wr.heap.size,0,none⟩ 1 1 [.int .i64 (o:Int)] rfl rfl ?c1 ?c2 ?c3 ?c4 ?c5 ?_)
     case c1=>exact ZaD _ _ _ _ rfl
     case c2=>intro u hu;simp at hu;subst hu;rfl
     case c3=>unfold maxLen;omega
     case c4=>omega
     case c5=>simp;omega
     intro v' w2 hown' hgrow _;have HO2:=zh hown';have HB2:=zh (HB.out.trans (Below.grown ((Below.refl w.heap.size wr).alloc hbw _) hgrow (by simp;omega) (fun j hj=>(HO.out.lt j hj).1)));clear hown' hgrow;go_wp2_with fail;refine(HTO.out w2).mono ?_;rintro e w3 ⟨rfl,n,rfl⟩;have HB3:=zh (HB2.out.trans ((Zai w2 n).mono HB2.out.size))
     have HO3:Hid ((w2.drewN n).ownsRow w.heap.size 3 1 v' (k+1) ((zs++[(o:Int)]).map iv64)):=zh (by
      rw [List.map_append];exact HO2.out)
     go_wp2_with fail;go_roundw
     case rel=>exact⟨k+1,_,_,_,by omega,by go_num,rfl,rfl,HS.out,HO3.out,HB3.out⟩
     case measure=>simp [intOf];omega
   ·obtain rfl:k=s.size:=by omega
    go_wp2_with fail;go_ret2;exact⟨_,zs,0,rfl,Zc7 HO.out,HB.out,Or.inr (Or.inr ⟨hy,⟨m,HE.out⟩,rfl⟩)⟩
 ·have HIS:=zh (fun w=>ZbC t false w ht ⟨fun e=>(by cases e),fun e=>absurd e hy⟩);go_enter Tryz.func57,Tryz.ntmps57;go_wp2_with fail;refine(HIS.out w).mono ?_;rintro e w1 ⟨rfl,hb⟩;have HB:=zh hb;clear hb;go_wp2_with fail;go_ret2;exact⟨_,[],1,rfl,IsInts.nil _,HB.out,Or.inl ⟨hy,rfl,rfl⟩⟩
theorem Zm0 (m:List UInt8) (o:Nat) (x:UInt8) (h:m[o]?=some x):(⟨m.toArray⟩:ByteArray).extract o (o+1)=⟨#[x]⟩:=by
 obtain⟨ho,he⟩:=List.getElem?_eq_some_iff.1 h;apply ByteArray.ext;apply Array.toList_inj.1;simp only [ByteArray.data_extract,List.extract_toArray,List.extract_eq_take_drop,Nat.add_sub_cancel_left];rw [List.drop_eq_getElem_cons ho,he];rfl
theorem ZhL (v:Value) (zs:List Int) (t:ByteArray) (w:World) (hv:IsInts w v zs) (hz:zs.length<=5000) (ht:t.size<=9223372036854775807) :
  Calls Tryz.prog 68 #[v,.string t] w fun e w'=>∃(s:List UInt8) (err:Nat),e=.returned (.tuple #[.string ⟨s.toArray⟩,.int .i64 (err:Int)])/\Below w.heap.size w w'/\DecP zs t.data.toList s err:=by
 have HV:=zh hv;obtain⟨a,cap,rfl,_⟩:=hv;by_cases hy:IsSyms t.data.toList
 ·have htz:t.size<=256:=Zdm hy;have HIS:=zh (fun w=>ZbC t true w ht ⟨fun _=>hy,fun _=>rfl⟩);have hlt:t.data.toList.length=t.size:=rfl;have hsi:(zs.length:Int)<=5000:=by omega
  go_enter Tryz.func68,Tryz.ntmps68;go_wp2_with fail;refine(HIS.out w).mono ?_;rintro e w1 ⟨rfl,hb⟩;have HB:=zh hb;clear hb;go_wp2_with fail
  go_loopw [6,7,16] (fun o d i wr=>∃(k:Nat) (s m:List UInt8),k<=zs.length/\i=.int .i64 k/\d=.string ⟨m.toArray⟩/\o=.string ⟨s.toArray⟩/\decK t.data.toList zs k=some (s,m)/\Below w.heap.size w wr) (fun _ _ i _=>zs.length-(intOf i).toNat)
  case atStart=>exact⟨0,[],t.data.toList,by omega,rfl,congrArg Value.string (ZhE t),rfl,rfl,HB.out⟩
  case round=>
   clear HB;obtain⟨k,s,m,hk,rfl,rfl,rfl,hd,hB⟩:=hrel;have HD:=zh hd;have HB:=zh hB;clear hd hB;by_cases hlk:k<zs.length
   ·have hki:(k:Int)<(zs.length:Int):=by omega
    obtain⟨b1,o1,k1,he1,c1⟩:=(HV.out.below HB.out).cell hlk;simp only [Value.slice.injEq] at he1;obtain⟨rfl,_,rfl⟩:=he1;obtain⟨z,hzz⟩:∃z,zs.getD k 0=z:=⟨_,rfl⟩
    rw [hzz] at c1;have hlen:=ZdF _ _ _ _ _ HD.out;have hml:m.length<=256:=by omega
    have hmz:(⟨m.toArray⟩:ByteArray).size=m.length:=Zav m;have hsz:(⟨s.toArray⟩:ByteArray).size=k:=by rw [Zav,hlen.1]
    obtain⟨L,hL⟩:∃L,m.length=L:=⟨_,rfl⟩
    rcases Zhh HD.out z hzz with⟨hbad,hnone⟩|⟨o,x,rfl,hx,hsome⟩
    ·have hfin:decK t.data.toList zs zs.length=none:=by
      have:=Zja t.data.toList zs (zs.length-(k+1)) (k+1) hnone
      rwa [show k+1+(zs.length-(k+1))=zs.length by omega] at this
     have HF:=zh hfin;rw [hL] at hmz hbad;clear hnone hfin hzz hlen hml hL;generalize (⟨m.toArray⟩:ByteArray)=T at *;generalize (⟨s.toArray⟩:ByteArray)=O at *;rcases hbad with hbad|hbad
     ·go_wp2_with fail;go_ret2;exact⟨[],1,rfl,HB.out,Or.inr (Or.inl ⟨hy,HF.out,rfl,rfl⟩)⟩
     ·have hz0:0<=z:=by omega
      go_wp2_with fail;go_ret2;exact⟨[],1,rfl,HB.out,Or.inr (Or.inl ⟨hy,HF.out,rfl,rfl⟩)⟩
    ·have HS:=zh hsome;have hol:=(List.getElem?_eq_some_iff.1 hx).1;have HTO:=zh (fun w=>Zbv m o w hol hml);have h1:=Zm0 m o x hx;obtain⟨p,hp⟩:∃p,o+1=p:=⟨_,rfl⟩
     rw [hp] at h1;have hop:(o:Int)+1=(p:Int):=by omega
     have hpw:IntKind.i64.wrap (p:Int)=(p:Int):=IntWalk.i64_in _ (by omega);have b1:(0:Int)<=(o:Int):=by omega
     have b2:(o:Int)<=(p:Int):=by omega
     have b3:(p:Int)<=(L:Int):=by omega
     have b4:(o:Int)<(L:Int):=by omega
     have b6:(L:Int)<=256:=by omega
     have HSX:=zh (ZaA s [x]);have hx1:(⟨#[x]⟩:ByteArray).size=1:=rfl;have hks:(k:Int)<=5000:=by omega
     rw [hL] at hmz;clear hsome hzz hlen hml hL hx hol;generalize (⟨m.toArray⟩:ByteArray)=T at *;generalize (⟨s.toArray⟩:ByteArray)=O at *
     have hc1:∀W,(Op.stringOp .add O ⟨#[x]⟩).run Tryz.prog W=.ok (.string (O++⟨#[x]⟩)) W:=fun W=>by
      rw [run_string_add_if,if_neg (by omega)]
     go_wp2_with fail;refine(HTO.out wr).mono ?_;rintro e w3 ⟨rfl,n,rfl⟩;have HB3:=zh (HB.out.trans ((Zai wr n).mono HB.out.size));go_wp2_with fail;go_roundw
     case rel=>exact⟨k+1,s++[x],_,by omega,by go_num,rfl,congrArg Value.string HSX.out,HS.out,HB3.out⟩
     case measure=>simp [intOf];omega
   ·obtain rfl:k=zs.length:=by omega
    go_wp2_with fail;go_ret2;exact⟨s,0,rfl,HB.out,Or.inr (Or.inr ⟨hy,⟨m,HD.out⟩,rfl⟩)⟩
 ·have HIS:=zh (fun w=>ZbC t false w ht ⟨fun e=>(by cases e),fun e=>absurd e hy⟩);go_enter Tryz.func68,Tryz.ntmps68;go_wp2_with fail;refine(HIS.out w).mono ?_;rintro e w1 ⟨rfl,hb⟩;have HB:=zh hb;clear hb;go_wp2_with fail;go_ret2;exact⟨[],1,rfl,HB.out,Or.inl ⟨hy,rfl,rfl⟩⟩
end
section
open Go.RowKit BitM UsedM
theorem ZlT (q:List Bool):∀(d k:Nat),rdk q k=none->rdk q (k+d)=none
 | 0,k,h=>h
 | d+1,k,h=>by
  rw [show k+(d+1)=(k+d)+1 by omega,ZaR,ZlT q d k h]
theorem ZgP (q:List Bool) (k:Nat) (hk:k<=16) (h:rdk q k=none):rdk q 16=none:=by
 have:=ZlT q (16-k) k h
 rwa [show k+(16-k)=16 by omega] at this
def RefTold (q:List Bool) (t:ByteArray) (bits err:Nat):Prop:=
 match rdk q 16 with
 | none=>t=⟨#[]⟩/\bits=0/\err=3
 | some (n,S)=>(syms S 256=[]/\t=⟨#[]⟩/\bits=0/\err=25)\/(syms S 256≠[]/\t=⟨(syms S 256).toArray⟩/\bits=n/\err=0)
theorem Zpw (q:List Bool) (n k:Nat) (S:Nat->Bool):syms (more q n k S) (16*k)=syms S (16*k):=Zge _ _ _ (fun b hb=>by
 unfold more;rw [if_neg (by omega)])
theorem ZlU (S:Nat->Bool) (k:Nat) (h:∀b,16*k<=b->S b=false):∀d,syms S (16*k+d)=syms S (16*k)
 | 0=>rfl
 | d+1=>by rw [<-Nat.add_assoc,Zbx,h _ (by omega)];exact ZlU S k h d
theorem ZhM (t:ByteArray) (x y:Int):(#[Value.string t,.int .i64 x,.int .i64 y]:Array Value).all (·.oneCell')=true:=by simp [Value.oneCell']
theorem ZlV (s:ByteArray) (r:Bool) (h:r=true↔s.data.toList=[]):s.toList.isEmpty=r:=by
 rw [Bool.eq_iff_iff,List.isEmpty_iff,ByteArray.toList_eq,h]
theorem ZcZ {B:Nat} {w W:World} {g:Nat} {cs:Array Value} (h:Below B w W) (hg:B<=g):Below B w (W.setRow g cs):=Zae h hg cs
def RefInv (w wr:World) (q:List Bool) (k n:Nat) (S:Nat->Bool):Prop:=
 rdk q k=some (n,S)/\Below w.heap.size w wr/\wr.heap[w.heap.size]?=some (.cells #[.string ⟨#[]⟩,.int .i64 0,.int .i64 0] 93 (0,0))
theorem RefInv.le {w wr:World} {q:List Bool} {k n:Nat} {S:Nat->Bool} (h:RefInv w wr q k n S):n<=q.length/\16<=n:=⟨(Zem _ _ _ _ h.1).1,(Zem _ _ _ _ h.1).2.1⟩
theorem RefInv.lt {w wr:World} {q:List Bool} {k n:Nat} {S:Nat->Bool} (h:RefInv w wr q k n S):w.heap.size<wr.heap.size:=(Array.getElem?_eq_some_iff.1 h.2.2).1
theorem RefInv.out {w wr:World} {q:List Bool} {k n:Nat} {S:Nat->Bool} (h:RefInv w wr q k n S):∀b,16*k<=b->S b=false:=Zjo _ _ _ _ h.1
theorem RefInv.more {w wr w2:World} {q:List Bool} {k n:Nat} {S:Nat->Bool} (h:RefInv w wr q k n S) (hb:Below (w.heap.size+1) wr w2) (hq:q.getD k false=true) (hl:n+16<=q.length):RefInv w w2 q (k+1) (n+16) (more q n k S):=by
 refine⟨?_,h.2.1.trans (hb.mono (Nat.le_succ _)),(hb.block _ (Nat.lt_succ_self _)).trans h.2.2⟩;rw [ZaR,h.1];simp only [hq,if_true];rw [if_neg (by omega)];rfl
theorem RefInv.skip {w wr:World} {q:List Bool} {k n:Nat} {S:Nat->Bool} (h:RefInv w wr q k n S) (hq:q.getD k false=false):RefInv w wr q (k+1) n S/\syms S (16*(k+1))=syms S (16*k):=by
 refine⟨⟨?_,h.2⟩,?_⟩
 ·rw [ZaR,h.1];simp only [hq];rfl
 ·exact ZlU S k h.out 16
theorem RefInv.short {w wr:World} {q:List Bool} {k n:Nat} {S:Nat->Bool} (h:RefInv w wr q k n S) (hk:k<16) (hq:q.getD k false=true) (hl:q.length<n+16):RefTold q ⟨#[]⟩ 0 3:=by
 have:rdk q (k+1)=none:=by
  rw [ZaR,h.1];simp only [hq,if_true];rw [if_pos hl]
 unfold RefTold;rw [ZgP q (k+1) (by omega) this];exact⟨rfl,rfl,rfl⟩
theorem ZgQ (q:List Bool) (k:Nat) (hk:k<q.length) (h:k<(txt q).size):((txt q)[k].toNat:Int)=48+(bn (q.getD k false):Int):=by
 rw [ZfQ q k hk h];congr 3;rw [List.getD_eq_getElem?_getD,List.getElem?_eq_getElem hk];rfl
theorem ZkH (q:List Bool) (w:World) (hq:q.length<=1000000) :
  Calls Tryz.prog 63 #[.string (txt q)] w fun e w'=>∃(t:ByteArray) (bits err:Nat),e=.returned (.agg #[.string t,.int .i64 (bits:Int),.int .i64 (err:Int)])/\Below w.heap.size w w'/\RefTold q t bits err:=by
 have hts:=Zaf q;have hg0:(w.alloc (.cells #[.string ⟨#[]⟩,.int .i64 0,.int .i64 0] 93)).heap[w.heap.size]?=some (.cells #[.string ⟨#[]⟩,.int .i64 0,.int .i64 0] 93 (0,0)):=heap_alloc_new _ _;have hi:(Tryz.prog.info? 93).map (·.size)=some 3:=by kernel_rfl
 have HTS:=zh hts;have hu:=Tryz.underlying93;by_cases hlen:q.length<16
 ·have hz:((txt q).size:Int)<16:=by omega
  have hn:rdk q 16=none:=ZgP q 0 (by omega) (by rw [Zb9,if_pos hlen]);have HN:=zh hn;clear hn hts;generalize txt q=T at *;go_enter Tryz.func63,Tryz.ntmps63;go_wp2_with (refine wpList_store_row rfl 93 _ _ rfl w.heap.size #[.string ⟨#[]⟩,.int .i64 0,.int .i64 3] rfl rfl 93 _ hg0 hi rfl (ZhM _ _ _) ?_);refine bodyPost_ret (v:=.agg #[.string ⟨#[]⟩,.int .i64 0,.int .i64 3]) (results_cell_row rfl _ _ w.heap.size 93 _ (0,0) _ rfl (setRow_heap _ _ _ _ _ _ hg0) hu rfl hi) rfl ⟨⟨#[]⟩,0,3,rfl,?_,?_⟩
  ·exact ZcZ ((Below.refl _ _).alloc (Nat.le_refl _) _) (Nat.le_refl _)
  ·unfold RefTold;rw [HN.out];exact⟨rfl,rfl,rfl⟩
 ·have hz:(16:Int)<=(txt q).size:=by omega
  have hI0:RefInv w (w.alloc (.cells #[.string ⟨#[]⟩,.int .i64 0,.int .i64 0] 93)) q 0 16 (fun _=>false):=⟨by rw [Zb9,if_neg hlen],(Below.refl _ _).alloc (Nat.le_refl _) _,hg0⟩
  have HI0:=zh hI0;have HTT:=zh (ZgQ q);have hzq:((txt q).size:Int)<=1000000:=by omega
  clear hI0 hts hg0;go_enter Tryz.func63,Tryz.ntmps63;go_wp2_with fail
  go_loopw [3,4,11] (fun a o i wr=>∃(k n:Nat) (S:Nat->Bool),k<=16/\i=.int .i64 k/\a=.int .i64 (n:Int)/\o=.string ⟨(syms S (16*k)).toArray⟩/\RefInv w wr q k n S) (fun _ _ i _=>16-(intOf i).toNat)
  case atStart=>exact⟨0,16,_,by omega,rfl,rfl,rfl,HI0.out⟩
  case round=>
   clear HI0;obtain⟨k,n,S,hk,rfl,rfl,rfl,hI⟩:=hrel;have HI:=zh hI;have hnl:=hI.le;have hg:=hI.2.2;clear hI;by_cases hlt:k<16
   ·have hk2:(k:Int)<16:=by omega
    have hkz:k<(txt q).size:=by have:=HTS.out;omega
    have hgk:=HTT.out k (by omega) hkz;have hn1:(n:Int)<=1000000:=by omega
    by_cases hqk:q.getD k false=true
    ·rw [hqk] at hgk;have hgk2:((txt q)[k].toNat:Int)=49:=hgk;by_cases hsh:q.length<n+16
     ·have hsz:((txt q).size:Int)<(n:Int)+16:=by have:=HTS.out;omega
      have HRT:=zh (HI.out.short hlt hqk hsh);clear hgk;go_wp2_with (refine wpList_store_row rfl 93 _ _ rfl w.heap.size #[.string ⟨#[]⟩,.int .i64 0,.int .i64 3] rfl rfl 93 _ hg hi rfl (ZhM _ _ _) ?_);refine bodyPost_ret (v:=.agg #[.string ⟨#[]⟩,.int .i64 0,.int .i64 3]) (results_cell_row rfl _ _ w.heap.size 93 _ (0,0) _ rfl (setRow_heap _ _ _ _ _ _ hg) hu rfl hi) rfl ⟨⟨#[]⟩,0,3,rfl,?_,HRT.out⟩;exact ZcZ HI.out.2.1 (Nat.le_refl _)
     ·have hsz:(n:Int)+16<=((txt q).size:Int):=by have:=HTS.out;omega
      have HM:=zh (fun w2 (hb:Below (w.heap.size+1) wr w2)=>HI.out.more hb hqk (by omega));have HSM:=zh (Zpw q n k S);have hlw:=HI.out.lt;clear hgk hqk hg;go_wp2_with fail
      go_loopw [4,24] (fun o i wr2=>∃j:Nat,j<=16/\i=.int .i64 j/\o=.string ⟨(syms (more q n k S) (16*k+j)).toArray⟩/\Below (w.heap.size+1) wr wr2) (fun _ i _=>16-(intOf i).toNat)
      case atStart=>exact⟨0,by omega,rfl,by rw [Nat.add_zero,HSM.out],Below.refl _ _⟩
      case round=>
       obtain⟨j,hj,rfl,rfl,hB⟩:=hrel;have HB:=zh hB;clear hB;by_cases hlj:j<16
       ·have hj2:(j:Int)<16:=by omega
        obtain⟨m,hm⟩:∃m,n+j=m:=⟨_,rfl⟩
        have hmi:(n:Int)+(j:Int)=(m:Int):=by omega
        have hmz:m<(txt q).size:=by have:=HTS.out;omega
        have hgm:=HTT.out m (by have:=HTS.out;omega) hmz;have hmz2:(m:Int)<((txt q).size:Int):=by omega
        obtain⟨c,hc⟩:∃c,16*k+j=c:=⟨_,rfl⟩
        have hci:(16:Int)*(k:Int)+(j:Int)=(c:Int):=by omega
        have hcl:(c:Int)<256:=by omega
        have hcw:IntKind.u8.wrap (c:Int)=(c:Int):=IntWalk.u8_in _ (by omega)
        have hmc:more q n k S c=q.getD m false:=by
         unfold more;rw [if_pos (by omega),show n+c % 16=m by omega]
        have HSS:=zh (Zbx (more q n k S) c);have HC1:=zh (show 16*k+(j+1)=c+1 by omega);simp only [hc];have hlen2:(⟨(syms (more q n k S) c).toArray⟩:ByteArray).size<=256:=by rw [Zav];exact Nat.le_trans (Zcs _ c) (by omega)
        have hx:(UInt8.ofNat c).toNat=c:=by rw [UInt8.toNat_ofNat',Nat.mod_eq_of_lt (by omega)]
        have hx1:(⟨#[UInt8.ofNat c]⟩:ByteArray).size=1:=rfl;have HCV:=zh (fun W=>Zcm W (UInt8.ofNat c) (c:Int) (by rw [hx]));have HAP:=zh (ZaA (syms (more q n k S) c) [UInt8.ofNat c]);by_cases hqm:q.getD m false=true
        ·have HS2:=HSS.out;rw [hmc,hqm,if_pos rfl] at HS2;have HS3:=zh HS2;rw [hqm] at hgm;have hgm2:((txt q)[m].toNat:Int)=49:=hgm;have hcv:=HCV.out wr;generalize (⟨(syms (more q n k S) c).toArray⟩:ByteArray)=O at *;clear HS2 hx hgm hmc hqm hc hm;go_wp2_with fail;go_roundw
         case rel=>exact⟨j+1,by omega,by go_num,by rw [HC1.out,HS3.out];exact congrArg Value.string HAP.out,HB.out.alloc (by have:=HB.out.size;omega) _⟩
         case measure=>simp [intOf];omega
        ·have hqf:q.getD m false=false:=by simpa using hqm
         have HS2:=HSS.out;rw [hmc,hqf] at HS2;have HS3:=zh HS2;rw [hqf] at hgm;have hgm2:((txt q)[m].toNat:Int)=48:=hgm;clear HS2 hx hgm hmc hqm hqf hc hm;go_wp2_with fail;go_roundw
         case rel=>exact⟨j+1,by omega,by go_num,by rw [HC1.out,HS3.out];rfl,HB.out⟩
         case measure=>simp [intOf];omega
       ·obtain rfl:j=16:=by omega
        have HN:=zh (HM.out wr HB.out);generalize hO:(⟨(syms (more q n k S) (16*k+16)).toArray⟩:ByteArray)=O at *;have HO:=zh hO;clear hO;go_wp2_with fail;go_roundw
        case rel=>exact⟨k+1,n+16,_,by omega,by go_num,by go_num,by rw [<-HO.out];rfl,HN.out⟩
        case measure=>simp [intOf];omega
    ·have hqf:q.getD k false=false:=by simpa using hqk
     rw [hqf] at hgk;have hgk2:((txt q)[k].toNat:Int)=48:=hgk;obtain⟨hs1,hs2⟩:=HI.out.skip hqf;have HS1:=zh hs1;have HS2:=zh hs2;clear hgk hqk hqf hs1 hs2 hg;generalize hO:(⟨(syms S (16*k)).toArray⟩:ByteArray)=O at *;have HO:=zh hO;clear hO;go_wp2_with fail;go_roundw
     case rel=>exact⟨k+1,n,S,by omega,by go_num,rfl,by rw [HS2.out,HO.out],HS1.out⟩
     case measure=>simp [intOf];omega
   ·obtain rfl:k=16:=by omega
    have hrd:=HI.out.1;have hB:=HI.out.2.1;have hlen3:(⟨(syms S (16*16)).toArray⟩:ByteArray).data.toList=syms S 256:=rfl;by_cases hsy:syms S 256=[]
    ·have hem:=ZlV ⟨(syms S (16*16)).toArray⟩ true (by rw [hlen3];exact⟨fun _=>hsy,fun _=>rfl⟩)
     have HRT:Hid (RefTold q ⟨#[]⟩ 0 25):=zh (by
      unfold RefTold;rw [hrd];exact Or.inl ⟨hsy,rfl,rfl,rfl⟩)
     have HB:=zh hB;clear hrd hB hlen3 hsy;generalize (⟨(syms S (16*16)).toArray⟩:ByteArray)=O at *;go_wp2_with (refine wpList_store_row rfl 93 _ _ rfl w.heap.size #[.string ⟨#[]⟩,.int .i64 0,.int .i64 25] rfl rfl 93 _ hg hi rfl (ZhM _ _ _) ?_);refine bodyPost_ret (v:=.agg #[.string ⟨#[]⟩,.int .i64 0,.int .i64 25]) (results_cell_row rfl _ _ w.heap.size 93 _ (0,0) _ rfl (setRow_heap _ _ _ _ _ _ hg) hu rfl hi) rfl ⟨⟨#[]⟩,0,25,rfl,?_,HRT.out⟩;exact ZcZ HB.out (Nat.le_refl _)
    ·have hem:=ZlV ⟨(syms S (16*16)).toArray⟩ false (by rw [hlen3];exact⟨fun e=>(by cases e),fun e=>absurd e hsy⟩)
     have HRT:Hid (RefTold q ⟨(syms S 256).toArray⟩ n 0):=zh (by
      unfold RefTold;rw [hrd];exact Or.inr ⟨hsy,rfl,rfl,rfl⟩)
     have HB:=zh hB;clear hrd hB hlen3 hsy;generalize hO:(⟨(syms S (16*16)).toArray⟩:ByteArray)=O at *;have HO:=zh hO;clear hO;go_wp2_with (refine wpList_store_row rfl 93 _ _ rfl w.heap.size #[.string O,.int .i64 (n:Int),.int .i64 0] rfl rfl 93 _ hg hi rfl (ZhM _ _ _) ?_);refine bodyPost_ret (v:=.agg #[.string O,.int .i64 (n:Int),.int .i64 0]) (results_cell_row rfl _ _ w.heap.size 93 _ (0,0) _ rfl (setRow_heap _ _ _ _ _ _ hg) hu rfl hi) rfl ⟨O,n,0,rfl,?_,by exact HRT.out⟩;exact ZcZ HB.out (Nat.le_refl _)
end
section
namespace BlkM
open Go.RowKit BitM HufM CanM CodM UsedM MtfM
theorem ZlW {n:Int} {room:Nat}:∀(l:List Int) (s s2:ZerM.St),l.foldl (zst n room) (some s)=some s2->s2.done=true->ZerM.dec n room s l=(s2.out,0)
 | [],s,s2,h,hd=>by
  cases h;unfold ZerM.dec;rw [if_pos hd]
 | c::t,s,s2,h,hd=>by
  rw [List.foldl_cons] at h;by_cases hp:ZerM.putE n room s c=0
  ·have e:zst n room (some s) c=some (ZerM.putS n s c):=if_pos hp;rw [e] at h;rw [ZerM.dec_go hp];exact ZlW t _ _ h hd
  ·have e:zst n room (some s) c=none:=if_neg hp;rw [e,Zbn] at h;cases h
theorem ZlX {gs:List (List Int)} {ps:List Nat} {N most:Nat}:∀(f:Nat) (q:List Bool) (l m:List Int) (n:Nat),rdS gs ps N most f q l=.ok m n->∃t,m=t++[(N:Int)-1]
 | 0,q,l,m,n,h=>by rw [rdS] at h;cases h
 | f+1,q,l,m,n,h=>by
  rw [rdS] at h;split at h
  ·cases h
  ·split at h
   ·cases h
   ·rename_i i hg;split at h
    ·cases h
    ·split at h
     ·rename_i hN;cases h;exact⟨l,by rw [show((N:Int)-1)=(i:Int) by omega]⟩
     ·cases hr:rdS gs ps N most f (q.drop (ln (tb gs ps l.length) i)) (l++[(i:Int)]) with
      | ok l' n'=>
       rw [hr] at h;cases h;exact ZlX f _ _ _ _ hr
      | err e l'=>
       rw [hr] at h;cases h
theorem ZlY {ps:List Nat} {N most:Nat}:∀(k:Nat) (q:List Bool) (gs:List (List Int)) (m:List Int) (n:Nat),rdT ps N most k q gs=.ok m n->∃t,m=t++[(N:Int)-1]
 | 0,q,gs,m,n,h=>by
  rw [rdT] at h;exact ZlX _ _ _ _ _ h
 | k+1,q,gs,m,n,h=>by
  rw [rdT] at h;split at h
  ·cases h
  ·cases h
  ·rename_i ls j hr;split at h
   ·cases hx:rdT ps N most k (q.drop j) (gs++[ls]) with
    | ok l' n'=>
     rw [hx] at h;cases h;exact ZlY k _ _ _ _ hx
    | err e l'=>
     rw [hx] at h;cases h
   ·cases h
theorem Zrp {Q:List Bool} {N most n:Nat} {m:List Int} (h:rdC Q N most=.ok m n):∃t,m=t++[(N:Int)-1]:=by
 unfold rdC at h;split at h
 ·cases h
 ·cases h
 ·rename_i ps k hr;cases hx:rdT ps N most (num (Q.take 3)) (Q.drop k) [] with
  | ok l' n'=>
   rw [hx] at h;cases h;exact ZlY _ _ _ _ _ hx
  | err e l'=>
   rw [hx] at h;cases h
theorem Zpx {n:Int} {room:Nat} {t:List Int} {s:ZerM.St} (hn:1<=n) (h:zrun n room (t++[n+1])=some s):s.done=true:=by
 rw [Zfj] at h;cases hz:zrun n room t with
 | none=>rw [hz] at h;cases h
 | some s1=>
  rw [hz] at h;have h2:(if ZerM.putE n room s1 (n+1)=0 then some (ZerM.putS n s1 (n+1)) else none)=some s:=h;split at h2
  ·cases h2;rw [ZerM.putS_end (by omega) rfl]
  ·cases h2
end BlkM
end
section
open Go.RowKit BitM HufM CanM CodM UsedM MtfM BlkM
theorem ZkI (rb:Nat) (r:Int) (w:World) (h:r<5\/900000<r):Calls Tryz.prog 24 #[.pointer (some ⟨rb,0,none⟩),.int .i64 r] w fun e w'=>e=.returned (.tuple #[.agg got0,.int .i64 1])/\Below w.heap.size w w':=by
 have hr0:(w.alloc (.cells #[.string ⟨#[]⟩,.int .i64 0,.int .u32 0] 34)).heap[w.heap.size]?=some (.cells got0 34 (0,0)):=heap_alloc_new _ _;have hi:=ZbI got0 rfl;have HN:=zh (fun W=>Zm1 r W h);clear h;go_enter Tryz.func24,Tryz.ntmps24;go_wp2_with fail;refine(HN.out _).mono ?_;rintro e w1 ⟨rfl,hw⟩;subst hw;go_wp2_with (first|(refine ZaM rfl 34 rfl got0 ZgC ?_)|(refine wpList_store_row rfl 34 _ _ rfl w.heap.size got0 rfl rfl 34 got0 hr0 hi rfl ZlE ?_));refine bodyPost_ret (v:=.tuple #[.agg got0,.int .i64 1]) (Zbl rfl _ _ w.heap.size got0 34 _ _ rfl rfl (setRow_heap _ _ got0 got0 34 _ hr0) Tryz.underlying34 rfl hi) rfl ⟨rfl,?_⟩;have hb:Below w.heap.size w (w.alloc (.cells #[.string ⟨#[]⟩,.int .i64 0,.int .u32 0] 34)):=(Below.refl _ _).alloc (Nat.le_refl _) _;exact hb.trans ⟨rfl,rfl,rfl,by simp [World.setRow],fun j hj=>setRow_other _ _ j _ (by omega)⟩
end
section
open Go.RowKit
theorem Zb4 (s:ByteArray) (o sum:Int) (w:World):Calls Tryz.prog 21 #[.agg #[.string s,.int .i64 o,.int .u32 sum]] w fun e w'=>e=.returned (.agg #[.string s,.int .i64 o,.int .u32 sum])/\Below w.heap.size w w':=by
 obtain⟨wq,hwq⟩:∃wq,w.alloc (.cells #[.string s,.int .i64 o,.int .u32 sum] 34)=wq:=⟨_,rfl⟩
 have hg:wq.heap[w.heap.size]?=some (.cells #[.string s,.int .i64 o,.int .u32 sum] 34 (0,0)):=by rw [<-hwq];exact heap_alloc_new _ _
 have hz:wq.heap.size=w.heap.size+1:=by rw [<-hwq];simp
 have HBQ:Hid (Below w.heap.size w wq):=zh (by rw [<-hwq];exact(Below.refl _ _).alloc (Nat.le_refl _) _);have c0:wq.cell? ⟨w.heap.size,0,none⟩=some (.string s):=by rw [cell_of_row _ _ 0 _ _ _ hg];rfl
 have c1:wq.cell? ⟨w.heap.size,1,none⟩=some (.int .i64 o):=by rw [cell_of_row _ _ 1 _ _ _ hg];rfl
 have c2:wq.cell? ⟨w.heap.size,2,none⟩=some (.int .u32 sum):=by rw [cell_of_row _ _ 2 _ _ _ hg];rfl
 have hbt:Tryz.prog.built 37 [(0,.string s),(1,.int .i64 o),(2,.int .u32 sum)]=some #[.string s,.int .i64 o,.int .u32 sum]:=by kernel_rfl
 have hz0:Tryz.prog.built 37 []=some #[.string ⟨#[]⟩,.int .i64 0,.int .u32 0]:=by kernel_rfl
 have hi:∀A:Array Value,A.size=3->(Tryz.prog.info? 37).map (·.size)=some A.size:=fun A h=>by rw [h];kernel_rfl
 have hu:=Tryz.underlying37;go_enter Tryz.func21,Tryz.ntmps21;go_wp2_with (first|(refine Zaz rfl 37 0 1 2 _ _ _ rfl _ _ _ rfl rfl rfl _ hbt ?_));have hf:=heap_alloc_new wq (.cells #[.string s,.int .i64 o,.int .u32 sum] 37);rw [hz] at hf;refine bodyPost_ret (v:=.agg #[.string s,.int .i64 o,.int .u32 sum]) (ZaT rfl _ _ (w.heap.size+1) #[.string s,.int .i64 o,.int .u32 sum] 37 _ rfl hf hu rfl (hi _ rfl)) rfl ⟨rfl,HBQ.out.alloc HBQ.out.size _⟩
end
section
open Go.RowKit ZerM
def CR (w:World) (n:Int) (M:Nat) (zs:List Int) (k:Nat) (s:St) (u:Value) (wr:World):Prop:=
 RdVar wr w.heap.size n M s u/\OwnI wr (w.heap.size+1) u s.rc/\Ok M s/\BlkM.zrun n M (zs.take k)=some s/\Below w.heap.size w wr
theorem Zjc (v0:Value) (zs:List Int) (n M:Nat) (w:World) (hv:IsInts w v0 zs) (hz:zs.length<=1000000) (h1:1<=n) (h2:n<=256) (hm:M<=1000000) :
  Calls Tryz.prog 65 #[v0,.int .i64 (n:Int),.int .i64 (M:Int)] w fun e w'=>∃er:Nat,e=.returned (.int .i64 (er:Int))/\Below w.heap.size w w'/\((er=0/\BlkM.zrun (n:Int) M zs≠none)\/(er≠0/\BlkM.zrun (n:Int) M zs=none)):=by
 have HV:=zh hv;obtain⟨a,cap,rfl,_⟩:=hv;have HPUT:=zh (fun s c u w (hu:OwnI w 0 u s.rc) (ho:Ok M s)=>ZlZ (n:Int) M s c u w hu (by omega) (by omega) ho (by omega));have HB0:=zh ((Below.refl w.heap.size w).alloc (Nat.le_refl _) (.cells #[.int .i64 (n:Int),.int .i64 (M:Int),.int .i64 0,.slice none 0 0,.bool false] 170));have HR0:=zh (heap_alloc_new w (.cells #[.int .i64 (n:Int),.int .i64 (M:Int),.int .i64 0,.slice none 0 0,.bool false] 170))
 have HNX:Hid (∀k s c t,k<zs.length->zs.drop k=c::t->BlkM.zrun (n:Int) M (zs.take k)=some s->(putE (n:Int) M s c=0->BlkM.zrun (n:Int) M (zs.take (k+1))=some (putS (n:Int) s c))/\(putE (n:Int) M s c≠0->BlkM.zrun (n:Int) M zs=none)):=zh (fun k s c t hk hd hr=>by
  have hc:zs[k]=c:=by
   have h:=List.drop_eq_getElem_cons hk;rw [hd] at h;exact(List.cons.inj h).1.symm
  have e:zs.take (k+1)=zs.take k++[c]:=by rw [List.take_succ_eq_append_getElem hk,hc]
  refine⟨fun hp=>by rw [e];exact BlkM.zrun_put hr hp,fun hp=>?_⟩
  have e2:zs=zs.take k++[c]++t:=by
   rw [List.append_assoc,List.singleton_append,<-hd,List.take_append_drop]
  rw [e2];exact BlkM.zrun_not hr hp t)
 go_enter Tryz.func65,Tryz.ntmps65;go_wp2_with fail;generalize w.alloc (.cells #[.int .i64 (n:Int),.int .i64 (M:Int),.int .i64 0,.slice none 0 0,.bool false] 170)=w1 at *
 go_loopw [16,9,10] (fun i _ _ wr=>∃(k:Nat) (s:St) (u:Value),k<=zs.length/\i=.int .i64 k/\CR w (n:Int) M zs k s u wr) (fun i _ _ _=>zs.length-(intOf i).toNat)
 case atStart=>exact⟨0,ini,.slice none 0 0,by omega,rfl,HR0.out,OwnI.nil _ _,Ok.ini M,rfl,HB0.out⟩
 case round=>
  clear HB0 HR0;obtain⟨k,s,u,hk,rfl,hR,hU,hK,hD,hB⟩:=hrel;have HR:=zh hR;have HU:=zh hU;have HK:=zh hK;have HD:=zh hD;have HB:=zh hB;obtain⟨d0,d1,d2,d3,d4⟩:=hR.cells;have hG:=hR.lt;clear hR hU hK hD hB;by_cases hlk:k<zs.length
  ·have hki:(k:Int)<(zs.length:Int):=by omega
   have HV2:=zh (HV.out.below HB.out);obtain⟨b1,o1,k1,he1,c1⟩:=HV2.out.cell hlk;simp only [Value.slice.injEq] at he1;obtain⟨rfl,_,rfl⟩:=he1;obtain⟨x,hx⟩:∃x,zs.getD k 0=x:=⟨_,rfl⟩
   have HDR:Hid (zs.drop k=x::zs.drop (k+1)):=zh (by rw [<-hx];exact Zi9 zs k hlk);rw [hx] at c1;have HSTP:=zh (HNX.out k s x _ hlk HDR.out HD.out);clear hx
   obtain⟨au,Nu,cu,hus⟩:∃au Nu cu,u=.slice au Nu cu:=by
    obtain⟨au,cu,h⟩:=HU.out.slice;exact⟨au,_,cu,h⟩
   subst hus;go_wp2_with fail;refine(HPUT.out s x (.slice au Nu cu) wr HU.out.weak HK.out).mono ?_;rintro e w2 ⟨hb2,hp⟩;have HB2:=zh (HB.out.trans (hb2.mono HB.out.size));rcases hp with⟨hput,u2,hu2,rfl⟩|⟨hput,rfl⟩
   ·have HK2:=zh (HK.out.put hput);have HD2:=zh (HSTP.out.1 hput);have hs2:=hb2.size
    obtain⟨au2,Nu2,cu2,rfl⟩:∃a N c,u2=.slice a N c:=by
     obtain⟨au,cu,h⟩:=hu2.slice;exact⟨au,_,cu,h⟩
    have hSV:StVar (w2.alloc (.cells (stc (n:Int) M ((putS (n:Int) s x).out.length:Int) (.slice au2 Nu2 cu2) (putS (n:Int) s x).done (putZ s x:Int) (putP (n:Int) x) 0) 172)) w2.heap.size (n:Int) M ((putS (n:Int) s x).out.length:Int) (.slice au2 Nu2 cu2) (putS (n:Int) s x).done (putZ s x:Int) (putP (n:Int) x) 0:=heap_alloc_new _ _;have HX:Hid (RdVar (w2.alloc (.cells (stc (n:Int) M ((putS (n:Int) s x).out.length:Int) (.slice au2 Nu2 cu2) (putS (n:Int) s x).done (putZ s x:Int) (putP (n:Int) x) 0) 172)) w.heap.size (n:Int) M s (.slice au Nu cu)):=zh ((HR.out.below hb2).below ((Below.refl _ _).alloc (Nat.le_refl _) _));have HU2:Hid (OwnI (w2.alloc (.cells (stc (n:Int) M ((putS (n:Int) s x).out.length:Int) (.slice au2 Nu2 cu2) (putS (n:Int) s x).done (putZ s x:Int) (putP (n:Int) x) 0) 172)) (w.heap.size+1) (.slice au2 Nu2 cu2) (putS (n:Int) s x).rc):=zh ((hu2.lower (by omega)).alloc _);have HB3:=zh (HB2.out.alloc HB2.out.size (.cells (stc (n:Int) M ((putS (n:Int) s x).out.length:Int) (.slice au2 Nu2 cu2) (putS (n:Int) s x).done (putZ s x:Int) (putP (n:Int) x) 0) 172));clear hu2 hb2 HB2 HPUT d0 d1 d2 d3 d4 hput HSTP;generalize putS (n:Int) s x=s2 at *;generalize putZ s x=Z at *;generalize putP (n:Int) x=p at *;obtain⟨d0,d1,d2,d3,d4,d5,d6,d7⟩:=hSV.cells;obtain⟨S,hS⟩:∃S,w2.heap.size=S:=⟨_,rfl⟩
    rw [hS] at d0 d1 d2 d3 d4 d5 d6 d7;unfold stc at d0 d1 d2 d3 d4 d5 d6 d7 HX HU2 HB3 ⊢;clear hSV;have HF:Hid (CR w (n:Int) M zs (k+1) s2 (.slice au2 Nu2 cu2) ((w2.alloc (.cells #[.int .i64 (n:Int),.int .i64 (M:Int),.int .i64 (s2.out.length:Int),.slice au2 Nu2 cu2,.bool s2.done,.int .i64 (Z:Int),.int .i64 p,.int .i64 0] 172)).setRow w.heap.size (rdc (n:Int) M (s2.out.length:Int) (.slice au2 Nu2 cu2) s2.done))):=zh ⟨setRow_heap _ _ _ _ _ (0,0) HX.out,HU2.out.setRow _ _ (by omega),HK2.out,HD2.out,Zae HB3.out (Nat.le_refl _) _⟩;go_wp2_with (refine wpList_store_row rfl 170 _ _ rfl w.heap.size (rdc (n:Int) M (s2.out.length:Int) (.slice au2 Nu2 cu2) s2.done) rfl rfl 170 _ HX.out ZcN rfl (ZkJ ..) ?_);go_roundw
    case rel=>exact⟨k+1,s2,_,by omega,by go_num,HF.out⟩
    case measure=>simp [intOf];omega
   ·have HE:=zh (HSTP.out.2 hput);obtain⟨E,hE⟩:∃E,putE (n:Int) M s x=E:=⟨_,rfl⟩
    rw [hE] at hput;rw [hE];have h0b:((E:Int) != 0)=true:=by rw [bne_iff_ne];omega
    have HPN:=zh hput;clear hb2 HPUT d0 d1 d2 d3 d4 hE hput;unfold stc;go_wp2_with fail;go_ret;exact⟨E,rfl,HB2.out.alloc HB2.out.size _,Or.inr ⟨HPN.out,HE.out⟩⟩
  ·obtain rfl:k=zs.length:=by omega
   rw [List.take_length] at HD;go_wp2_with fail;go_ret;exact⟨0,rfl,HB.out,Or.inl ⟨rfl,by rw [HD.out];simp⟩⟩
end
section
open Go.RowKit BitM HufM CanM CodM UsedM MtfM TabM FreqM BlkM
theorem Zb7 (x:Int):Tryz.prog.built 47 [(3,.int .i64 x)]=some #[.string ⟨#[]⟩,.int .i64 0,.int .u32 0,.int .i64 0,.int .i64 0,.int .i64 x]:=by kernel_rfl
theorem ZpF (s:ByteArray) (o x:Int):Tryz.prog.built 37 [(0,.string s),(1,.int .i64 o),(2,.int .u32 x)]=some #[.string s,.int .i64 o,.int .u32 x]:=by kernel_rfl
theorem Zm6 (s:ByteArray) (o x b h:Int):Tryz.prog.built 47 [(0,.agg #[.string s,.int .i64 o,.int .u32 x]),(1,.int .i64 b),(2,.int .i64 h)]=some #[.string s,.int .i64 o,.int .u32 x,.int .i64 b,.int .i64 h,.int .i64 0]:=by kernel_rfl
theorem Zdl (s:ByteArray) (o x b h e:Int):(#[Value.string s,.int .i64 o,.int .u32 x,.int .i64 b,.int .i64 h,.int .i64 e]:Array Value).all (·.oneCell')=true:=by simp [Value.oneCell']
theorem Zry:(Tryz.prog.info? 47).map (·.size)=some 6:=by kernel_rfl
theorem ZpG (q:List Bool):(txt q).extract 33 57=txt ((q.drop 33).take 24):=by
 apply ByteArray.ext;apply Array.toList_inj.1;simp only [txt,ByteArray.data_extract,List.extract_toArray,List.extract_eq_take_drop,<-List.map_drop,<-List.map_take]
def R20P (Q:List Bool) (room:Nat) (e:Ending):Prop:=match rdB Q room with
 | .ok ys o s b h=>e=.returned (.agg #[.string ⟨ys.toArray⟩,.int .i64 (o:Int),.int .u32 (s:Int),.int .i64 (b:Int),.int .i64 (h:Int),.int .i64 0])
 | .err er=>e=.returned (.agg #[.string ⟨#[]⟩,.int .i64 0,.int .u32 0,.int .i64 0,.int .i64 0,.int .i64 er])
theorem R20P.err {Q:List Bool} {room:Nat} {er:Int} (h:rdB Q room=.err er):R20P Q room (.returned (.agg #[.string ⟨#[]⟩,.int .i64 0,.int .u32 0,.int .i64 0,.int .i64 0,.int .i64 er])):=by unfold R20P;rw [h]
theorem R20P.ok {Q:List Bool} {room o s b k:Nat} {ys:List UInt8} (h:rdB Q room=.ok ys o s b k):R20P Q room (.returned (.agg #[.string ⟨ys.toArray⟩,.int .i64 (o:Int),.int .u32 (s:Int),.int .i64 (b:Int),.int .i64 (k:Int),.int .i64 0])):=by unfold R20P;rw [h]
theorem Zta (Q:List Bool) (h:57<=Q.length) (W:World):(Instr.index 9 (.string (txt Q)) (.int .i64 32)).run Tryz.prog W=.ok (.int .u8 (48+(bn (Q.getD 32 false):Int))) W:=by
 have hs:=Zaf Q;have h1:=run_index_string W 9 (txt Q) .i64 32 Tryz.underlying9;rw [h1];have h2:=ZgQ Q 32 (by omega) (by omega);have h3:(32:Int)<((txt Q).size:Int):=by omega
 simp only [h3];simp
 first|exact h2|(rw [<-h2];rfl)
theorem Zrz (Q:List Bool) (h:57<=Q.length):num ((Q.drop 32).take 1)=bn (Q.getD 32 false):=by
 have h1:(Q.drop 32).take 1=[Q.getD 32 false]:=by
  rw [List.drop_eq_getElem_cons (by omega),List.take_succ_cons,List.take_zero,List.getD_eq_getElem?_getD,List.getElem?_eq_getElem (by omega)];rfl
 rw [h1];cases Q.getD 32 false<;>rfl
theorem ZpH (Q:List Bool) (room:Nat) (w:World) (hQ:Q.length<=2000) (h5:5<=room) (hr:room<=3000) :
  Calls Tryz.prog 27 #[.string (txt Q),.int .i64 (room:Int)] w fun e w'=>R20P Q room e/\Below w.heap.size w w':=by
 have hts:=Zaf Q;have hi:=Zry;have hu:=Tryz.underlying47;have HW0:=zh ((Below.refl w.heap.size w).alloc (Nat.le_refl _) (.cells #[.string ⟨#[]⟩,.int .i64 0,.int .u32 0,.int .i64 0,.int .i64 0,.int .i64 0] 47));have HG0:=zh (heap_alloc_new w (.cells #[.string ⟨#[]⟩,.int .i64 0,.int .u32 0,.int .i64 0,.int .i64 0,.int .i64 0] 47));by_cases h57:Q.length<57
 ·have hE:=zh (R20P.err (Zim (room:=room) h57));have h57i:((txt Q).size:Int)<57:=by omega
  have hbt:=Zb7 3;clear h57;generalize txt Q=S at *;go_enter Tryz.func27,Tryz.ntmps27;go_wp2_with (first|(refine Zaj rfl 47 3 _ rfl _ rfl _ hbt ?_)|(refine wpList_store_row rfl 47 _ _ rfl w.heap.size #[.string ⟨#[]⟩,.int .i64 0,.int .u32 0,.int .i64 0,.int .i64 0,.int .i64 3] rfl rfl 47 _ HG0.out hi rfl (Zdl _ _ _ _ _ _) ?_));refine bodyPost_ret (v:=.agg #[.string ⟨#[]⟩,.int .i64 0,.int .u32 0,.int .i64 0,.int .i64 0,.int .i64 3]) (results_cell_row rfl _ _ w.heap.size 47 _ (0,0) _ rfl (setRow_heap _ _ _ _ _ _ HG0.out) hu rfl hi) rfl ⟨hE.out,Zae HW0.out (Nat.le_refl _) _⟩
 have h57b:57<=Q.length:=by omega
 have h57i:¬((txt Q).size:Int)<57:=by omega
 have hix:=Zta Q h57b;have hfn:=Zrz Q h57b;cases hb:Q.getD 32 false with
 | true=>
  rw [hb] at hix hfn;have hE:=zh (R20P.err (Zly (room:=room) h57b (by rw [hfn];decide)));have hix':∀W,(Instr.index 9 (.string (txt Q)) (.int .i64 32)).run Tryz.prog W=.ok (.int .u8 49) W:=fun W=>(hix W).trans rfl
  have hbt:=Zb7 25;clear hix hfn hb h57 h57b;generalize txt Q=S at *;go_enter Tryz.func27,Tryz.ntmps27;go_wp2_with (first|(refine Zaj rfl 47 3 _ rfl _ rfl _ hbt ?_)|(refine wpList_store_row rfl 47 _ _ rfl w.heap.size #[.string ⟨#[]⟩,.int .i64 0,.int .u32 0,.int .i64 0,.int .i64 0,.int .i64 25] rfl rfl 47 _ HG0.out hi rfl (Zdl _ _ _ _ _ _) ?_));refine bodyPost_ret (v:=.agg #[.string ⟨#[]⟩,.int .i64 0,.int .u32 0,.int .i64 0,.int .i64 0,.int .i64 25]) (results_cell_row rfl _ _ w.heap.size 47 _ (0,0) _ rfl (setRow_heap _ _ _ _ _ _ HG0.out) hu rfl hi) rfl ⟨hE.out,Zae HW0.out (Nat.le_refl _) _⟩
 | false=>
 rw [hb] at hix hfn;have hix':∀W,(Instr.index 9 (.string (txt Q)) (.int .i64 32)).run Tryz.prog W=.ok (.int .u8 48) W:=fun W=>(hix W).trans rfl
 have hH:Head Q (num (Q.take 32)) (num ((Q.drop 33).take 24)):=⟨h57b,hfn,rfl,rfl⟩
 have HH:=zh hH;have HRU:=zh (fun W=>ZkH (Q.drop 57) W (by rw [List.length_drop];omega));have hd57:(txt Q).extract 57 (txt Q).size=txt (Q.drop 57):=Zbo Q 57 h57b;rw [hts] at hd57;have HD:Hid (∀k,k<=Q.length->(txt Q).extract k (txt Q).size=txt (Q.drop k)):=zh (fun k hk=>Zbo Q k hk);have HDM:=zh (ZpG Q);have HDT:=zh (ZcY Q 32 (by omega));obtain⟨S,hS⟩:∃S,txt Q=S:=⟨_,rfl⟩
 rw [hS] at hts HD hix' hd57 HDM HDT h57i ⊢;have hts2:(S.size:Int)=(Q.length:Int):=by omega
 have h57c:(57:Int)<=(S.size:Int):=by omega
 clear hS hix hfn hb h57 hH;go_enter Tryz.func27,Tryz.ntmps27;go_wp2_with fail;obtain⟨w1,hw1⟩:∃w1,w.alloc (.cells #[.string ⟨#[]⟩,.int .i64 0,.int .u32 0,.int .i64 0,.int .i64 0,.int .i64 0] 47)=w1:=⟨_,rfl⟩
 rw [hw1] at HW0 HG0 ⊢;obtain⟨R0,hR0⟩:∃R0,w.heap.size=R0:=⟨_,rfl⟩
 rw [hR0] at HW0 HG0 ⊢;have HR0:=zh hR0;have HL1:Hid (R0<w1.heap.size):=zh (Array.getElem?_eq_some_iff.1 HG0.out).1;clear hw1;refine(HRU.out _).mono ?_;rintro e w2 ⟨t,ub,ue,rfl,hb2,hrt⟩;have HB2:=zh (HW0.out.trans (hb2.mono (by have:=HL1.out;omega)));have hg2:w2.heap[R0]?=_:=(hb2.block R0 HL1.out).trans HG0.out;have HL2:Hid (R0<w2.heap.size):=zh (Nat.lt_of_lt_of_le HL1.out hb2.size);obtain⟨w3,hw3⟩:∃w3,w2.alloc (.cells #[.string t,.int .i64 (ub:Int),.int .i64 (ue:Int)] 93)=w3:=⟨_,rfl⟩
 have hg3:w3.heap[w2.heap.size]?=some (.cells #[.string t,.int .i64 (ub:Int),.int .i64 (ue:Int)] 93 (0,0)):=by rw [<-hw3];exact heap_alloc_new _ _
 have HB3:Hid (Below R0 w w3):=zh (by rw [<-hw3];exact HB2.out.alloc (Nat.le_of_lt HL2.out) _);have HG3:Hid (w3.heap[R0]?=some (.cells #[.string ⟨#[]⟩,.int .i64 0,.int .u32 0,.int .i64 0,.int .i64 0,.int .i64 0] 47 (0,0))):=zh (by rw [<-hw3,Zam HL2.out];exact hg2);obtain⟨U0,hU0⟩:∃U0,w2.heap.size=U0:=⟨_,rfl⟩
 rw [hU0] at hg3 HL2;have HU3:Hid (U0<w3.heap.size):=zh (Array.getElem?_eq_some_iff.1 hg3).1;have s0:w3.cell? ⟨U0,0,none⟩=some (.string t):=by rw [cell_of_row _ _ 0 _ _ _ hg3];rfl
 have s1:w3.cell? ⟨U0,1,none⟩=some (.int .i64 (ub:Int)):=by rw [cell_of_row _ _ 1 _ _ _ hg3];rfl
 have s2:w3.cell? ⟨U0,2,none⟩=some (.int .i64 (ue:Int)):=by rw [cell_of_row _ _ 2 _ _ _ hg3];rfl
 have HSU:=zh hg3;clear hb2 hg2 hg3 HRU;cases hu0:rdU (Q.drop 57) with
 | err er=>
  have hue:(ue:Int)=er/\ue≠0:=by
   unfold RefTold at hrt;unfold rdU at hu0;cases hk:rdk (Q.drop 57) 16 with
   | none=>
    rw [hk] at hrt hu0;obtain⟨_,_,rfl⟩:=hrt;cases hu0;exact⟨rfl,by decide⟩
   | some p=>
    obtain⟨n,Sx⟩:=p;rw [hk] at hrt hu0;simp only at hrt hu0;split at hu0
    ·rename_i he;cases hu0;rcases hrt with⟨_,_,_,rfl⟩|⟨h,_⟩
     ·exact⟨rfl,by decide⟩
     ·exact absurd he h
    ·cases hu0
  obtain⟨rfl,hne⟩:=hue;have hE:=zh (R20P.err (Zhj (room:=room) HH.out hu0));have hne2:((ue:Int) != 0)=true:=by rw [bne_iff_ne];omega
  have hbt:=Zb7 (ue:Int);clear hrt hu0 hne;go_wp2_with (first|(refine Zaj rfl 47 3 _ rfl _ rfl _ hbt ?_)|(refine wpList_store_row rfl 47 _ _ rfl R0 #[.string ⟨#[]⟩,.int .i64 0,.int .u32 0,.int .i64 0,.int .i64 0,.int .i64 (ue:Int)] rfl rfl 47 _ HG3.out hi rfl (Zdl _ _ _ _ _ _) ?_));refine bodyPost_ret (v:=.agg #[.string ⟨#[]⟩,.int .i64 0,.int .u32 0,.int .i64 0,.int .i64 0,.int .i64 (ue:Int)]) (results_cell_row rfl _ _ R0 47 _ (0,0) _ rfl (setRow_heap _ _ _ _ _ _ HG3.out) hu rfl hi) rfl ⟨hE.out,by rw [HR0.out];exact Zae HB3.out (Nat.le_refl _) _⟩
 | ok sy j=>
  have hk:t=⟨sy.toArray⟩/\ub=j/\(ue:Int)=0:=by
   unfold RefTold at hrt;unfold rdU at hu0;cases hk:rdk (Q.drop 57) 16 with
   | none=>rw [hk] at hu0;cases hu0
   | some p=>
    obtain⟨n,Sx⟩:=p;rw [hk] at hrt hu0;simp only at hrt hu0;split at hu0
    ·cases hu0
    ·rename_i he;cases hu0;rcases hrt with⟨h,_⟩|⟨_,h1,h2,h3⟩
     ·exact absurd h he
     ·exact⟨h1,h2,by rw [h3];rfl⟩
  obtain⟨ht,rfl,hue⟩:=hk;obtain⟨k1,k2,k3,k4,k5⟩:=Zil hu0;have HU:=zh hu0;obtain⟨N,hN⟩:∃N,sy.length=N:=⟨_,rfl⟩
  rw [hN] at k2 k3;have HN:=zh hN;have htz:t.size=N:=by rw [ht,<-hN];rfl
  have HTL:Hid (t.data.toList=sy):=zh (by rw [ht]);have HSYM:=zh k1;obtain⟨A,hA⟩:∃A,57+ub=A:=⟨_,rfl⟩
  have HA:=zh hA;have hAQ:A<=Q.length:=by rw [List.length_drop] at k4;omega
  have hAi:(57:Int)+(ub:Int)=(A:Int):=by omega
  have hAw:IntKind.i64.wrap (A:Int)=(A:Int):=IntWalk.i64_in _ (by omega)
  have hdA:S.extract A Q.length=txt (Q.drop A):=by
   have:=HD.out A hAQ;rw [hts] at this;exact this
  have hAQi:(A:Int)<=(Q.length:Int):=by omega
  obtain⟨M,hM⟩:∃M,N+2=M:=⟨_,rfl⟩
  have HM:=zh hM;have hMi:(N:Int)+2=(M:Int):=by omega
  have hMw:IntKind.i64.wrap (M:Int)=(M:Int):=IntWalk.i64_in _ (by omega);have hqa:(Q.drop A).length<=2000:=by rw [List.length_drop];omega
  have HQA:=zh hqa;have HRD:=zh (fun W=>ZkO (Q.drop A) M 8000 W (by omega) (by omega) (by omega));rw [show((8000:Nat):Int)=8000 from rfl] at HRD;have HSM:=zh (fun W=>ZkP (Q.drop A) M 400000 W (by omega) (by omega) (by omega) (by omega));have HCD:=zh (fun(v:Value) zs W (h:IsInts W v zs) (hz:zs.length<=2000)=>Zjc v zs N room W h (by omega) (by omega) (by omega) (by omega));have HMO:Hid (rdC (Q.drop A) M 8000=rdC (Q.drop A) M 400000):=zh (Zrv (by omega) (by omega));have HDC:=zh (fun(v:Value) zs W (h:IsInts W v zs) (hz:zs.length<=2000)=>ZkK v zs (N:Int) (room:Int) W h (by omega) (fun _=>by omega));have HLC:=zh (fun(v:Value) zs W (h:IsInts W v zs) (hz:zs.length<=5000)=>ZhL v zs t W h hz (by omega));have HNB:=zh (fun W=>Za9 ((Q.drop 33).take 24) W (by rw [List.length_take];omega));have HNC:=zh (fun W=>Za9 (Q.take 32) W (by rw [List.length_take];omega));have hne2:((ue:Int) != 0)=false:=by rw [hue];rfl
  obtain⟨og,hog⟩:∃og,num ((Q.drop 33).take 24)=og:=⟨_,rfl⟩
  obtain⟨sm,hsm⟩:∃sm,num (Q.take 32)=sm:=⟨_,rfl⟩
  have hogl:og<16777216:=by
   rw [<-hog];have h:=ZaB ((Q.drop 33).take 24);have h2:((Q.drop 33).take 24).length=24:=by rw [List.length_take,List.length_drop];omega
   rw [h2] at h;exact h
  rw [hog] at HH HNB;rw [hsm] at HH HNC;have hogw:IntKind.i64.wrap (og:Int)=(og:Int):=IntWalk.i64_in _ (by omega);have hur:=zh hr;clear hrt hu0 hue ht hN k1 k4 k5 hA hM hog hsm hqa;go_wp2_with fail;refine(HRD.out _).mono ?_;rintro e w4 ⟨ad,m,c,ls,n14,held,er,rfl,hm,hi4,hrd,hb4,ho4,hl4⟩;obtain⟨w5,hw5⟩:∃w5,w4.alloc (.cells #[.slice ad m c,.int .i64 (n14:Int),.int .i64 (held:Int),.int .i64 er] 96)=w5:=⟨_,rfl⟩
  have hg5:w5.heap[w4.heap.size]?=some (.cells #[.slice ad m c,.int .i64 (n14:Int),.int .i64 (held:Int),.int .i64 er] 96 (0,0)):=by rw [<-hw5];exact heap_alloc_new _ _
  have HX35:Hid (Below w3.heap.size w3 w5):=zh (by rw [<-hw5];exact hb4.alloc hb4.size _);have HI5:Hid (IsInts w5 (.slice ad m c) ls):=zh (by rw [<-hw5];exact hi4.below ((Below.refl _ _).alloc (Nat.le_refl _) _));obtain⟨P0,hP0⟩:∃P0,w4.heap.size=P0:=⟨_,rfl⟩
  rw [hP0] at hg5;have HP5:=zh hg5;have HRD14:=zh hrd;have HML:=zh (And.intro hm hl4);clear hm hi4 hrd hb4 ho4 hl4 hg5 s0 s1 s2 hw3;go_wp2_with fail;refine(HSM.out _).mono ?_;rintro e w6 ⟨a6,m6,c6,l6,rfl,hm6,hi6,hl6,hb6,ho6,hz6⟩;have HI6:=zh hi6;have HX56:=zh hb6;have HL6:=zh hl6;have HZ6:Hid (l6.length<=2000):=zh (by have:=HQA.out;omega);clear hm6 hi6 hl6 hb6 ho6 hz6;go_wp2_with fail;refine(HCD.out _ _ _ HI6.out HZ6.out).mono ?_;rintro e w7 ⟨er7,rfl,hb7,hor⟩;have HX57:Hid (Below w5.heap.size w5 w7):=zh (HX56.out.trans (hb7.mono HX56.out.size));have HX37:Hid (Below w3.heap.size w3 w7):=zh (HX35.out.trans (HX57.out.mono HX35.out.size));have HB7:Hid (Below R0 w w7):=zh (HB3.out.trans (HX37.out.mono (by have:=HB3.out.size;have:=HR0.out;omega)));have HG7:Hid (w7.heap[R0]?=some (.cells #[.string ⟨#[]⟩,.int .i64 0,.int .u32 0,.int .i64 0,.int .i64 0,.int .i64 0] 47 (0,0))):=zh ((HX37.out.block R0 (Array.getElem?_eq_some_iff.1 HG3.out).1).trans HG3.out);have HU7:=zh ((HX37.out.block U0 HU3.out).trans HSU.out);have HP7:=zh ((HX57.out.block P0 (Array.getElem?_eq_some_iff.1 HP5.out).1).trans HP5.out);have HI7:=zh (HI5.out.below HX57.out);have HL7:Hid (R0<w7.heap.size/\U0<w7.heap.size/\P0<w7.heap.size):=zh ⟨(Array.getElem?_eq_some_iff.1 HG7.out).1,(Array.getElem?_eq_some_iff.1 HU7.out).1,(Array.getElem?_eq_some_iff.1 HP7.out).1⟩;clear hb7 HX56 HX35 hw5;rcases hor with⟨h0,hz⟩|⟨h0,hz⟩
  ·have h0b:((er7:Int) != 0)=false:=by rw [h0];rfl
   obtain⟨st,hst⟩:=Option.ne_none_iff_exists'.1 hz;have r0:w7.cell? ⟨P0,0,none⟩=some (.slice ad m c):=by rw [cell_of_row _ _ 0 _ _ _ HP7.out];rfl
   have r3:w7.cell? ⟨P0,3,none⟩=some (.int .i64 er):=by rw [cell_of_row _ _ 3 _ _ _ HP7.out];rfl
   have s0:w7.cell? ⟨U0,0,none⟩=some (.string t):=by rw [cell_of_row _ _ 0 _ _ _ HU7.out];rfl
   have hrd:=HRD14.out;unfold RdD14 at hrd;rw [HMO.out] at hrd;cases hrc:rdC (Q.drop A) M 400000 with
   | err e14 L14=>
    rw [hrc] at hrd;obtain⟨_,_,_,rfl⟩:=hrd
    have hst2:zrun (sy.length:Int) room L14=some st:=by
     have h:=HL6.out;rw [hrc] at h;rw [HN.out];rw [h] at hst;exact hst
    have hrc2:rdC (Q.drop (57+ub)) (sy.length+2) 400000=.err er L14:=by rw [HA.out,HN.out,HM.out];exact hrc
    have hE:=zh (R20P.err ((Zdc (room:=room) HH.out HU.out).trans (Zn7 hrc2 hst2)));have hne3:((er:Int) != 0)=true:=by rw [bne_iff_ne];exact ZtN hrc
    have hbt:=Zb7 er;clear hrc hrc2 hst2 hst hz h0;go_wp2_with (first|(refine Zaj rfl 47 3 _ rfl _ rfl _ hbt ?_)|(refine wpList_store_row rfl 47 _ _ rfl R0 #[.string ⟨#[]⟩,.int .i64 0,.int .u32 0,.int .i64 0,.int .i64 0,.int .i64 er] rfl rfl 47 _ HG7.out hi rfl (Zdl _ _ _ _ _ _) ?_));refine bodyPost_ret (v:=.agg #[.string ⟨#[]⟩,.int .i64 0,.int .u32 0,.int .i64 0,.int .i64 0,.int .i64 er]) (results_cell_row rfl _ _ R0 47 _ (0,0) _ rfl (setRow_heap _ _ _ _ _ _ HG7.out) hu rfl hi) rfl ⟨hE.out,by rw [HR0.out];exact Zae HB7.out (Nat.le_refl _) _⟩
   | ok L14 k14=>
    rw [hrc] at hrd;obtain⟨rfl,hn14,hheld,her⟩:=hrd;have hrc2:rdC (Q.drop (57+ub)) (sy.length+2) 400000=.ok ls k14:=by rw [HA.out,HN.out,HM.out];exact hrc
    have hst2:zrun (sy.length:Int) room ls=some st:=by
     have h:=HL6.out;rw [hrc] at h;rw [HN.out];rw [h] at hst;exact hst
    have hdone:st.done=true:=by
     obtain⟨tl,htl⟩:=Zrp hrc;have e:((M:Int)-1)=(N:Int)+1:=by omega
     rw [htl,e,HN.out] at hst2;exact Zpx (by omega) hst2
    have hdec:ZerM.dec (N:Int) room ZerM.ini ls=(st.out,0):=by
     have h:=hst2;rw [HN.out] at h;exact ZlW ls _ _ h hdone
    have HOUT:Hid (st.out.length<=room):=zh (by
     have h:=(Zhi hst2).le;have h3:st.out.length+ZerM.val st.rc<=room:=h;omega)
    have HLS:Hid (ls.length<=2000):=zh (by have:=HML.out.2;have:=HQA.out;omega)
    have HYS:Hid (∀ys err,ZerM.DecP ls (N:Int) (room:Int) ys err->ys=st.out):=zh (fun ys err h=>by
     rcases h with⟨h,_⟩|⟨_,h⟩
     ·exact absurd (⟨by omega,by omega,by omega,by omega⟩:ZerM.DecOk (N:Int) (room:Int)) h
     ·rw [Int.toNat_natCast,hdec] at h;exact(Prod.mk.inj h).1)
    have HLO:Hid (∀s9 err,DecP st.out sy s9 err->s9=lastOf sy st.out):=zh (fun s9 err h=>by
     unfold lastOf;rcases h with⟨h,_⟩|⟨_,h,h2,_⟩|⟨_,⟨m2,h⟩,_⟩
     ·exact absurd HSYM.out h
     ·rw [h];exact h2
     ·rw [h])
    have HRW:=zh ((Zdc (room:=room) HH.out HU.out).trans (Zn8 hrc2 hst2))
    have hll:(lastOf sy st.out).length<=3000:=by
     unfold lastOf;cases hk:decK sy st.out st.out.length with
     | none=>simp
     | some p=>
      obtain⟨y1,m1⟩:=p;have h:=(ZdF _ _ _ _ _ hk).1;show y1.length<=3000;have:=HOUT.out;omega
    have hne3:((er:Int) != 0)=false:=by rw [her];rfl
    rw [HA.out,HN.out,HM.out] at HRW;obtain⟨LO,hLO⟩:∃LO,lastOf sy st.out=LO:=⟨_,rfl⟩
    obtain⟨HC,hHC⟩:∃HC,heldC (Q.drop A) M=HC:=⟨_,rfl⟩
    rw [hLO] at HLO HRW hll;rw [hHC] at HRW hheld;have HHC:Hid (HC<=70000/\k14<=4000):=zh ⟨by have:=Zrw (Q.drop A) M;omega,by have:=ZtO hrc;have:=HQA.out;omega⟩;clear hrc hrc2 hst2 hst hz h0 hdone hdec hLO hHC her;go_wp2_with fail;refine(HDC.out _ _ _ HI7.out HLS.out).mono ?_;rintro e w8 ⟨u8,ys8,er8,rfl,hi8,hb8,hd8⟩;obtain rfl:=HYS.out _ _ hd8;have HI8:=zh hi8;obtain⟨a8,c8,hv8,_⟩:=hi8;subst hv8;obtain⟨OL,hOL⟩:∃OL,st.out.length=OL:=⟨_,rfl⟩
    rw [hOL] at HI8 ⊢;have HOL:=zh hOL;have HX8:=zh hb8;have s0:w8.cell? ⟨U0,0,none⟩=some (.string t):=by rw [cell_of_row _ _ 0 _ _ _ ((hb8.block U0 HL7.out.2.1).trans HU7.out)];rfl
    clear hb8 hd8 hOL r0 r3;go_wp2_with fail;refine(HLC.out _ _ _ HI8.out (by have:=HOUT.out;have:=hur.out;omega)).mono ?_;rintro e w9 ⟨s9,er9,rfl,hb9,hd9⟩;rw [HTL.out] at hd9;obtain rfl:=HLO.out _ _ hd9;have HX9:Hid (Below w7.heap.size w7 w9):=zh (HX8.out.trans (hb9.mono HX8.out.size));have HB9:Hid (Below R0 w w9):=zh (HB7.out.trans (HX9.out.mono (Nat.le_of_lt HL7.out.1)));have HG9:Hid (w9.heap[R0]?=some (.cells #[.string ⟨#[]⟩,.int .i64 0,.int .u32 0,.int .i64 0,.int .i64 0,.int .i64 0] 47 (0,0))):=zh ((HX9.out.block R0 HL7.out.1).trans HG7.out);have r1:w9.cell? ⟨P0,1,none⟩=some (.int .i64 (n14:Int)):=by rw [cell_of_row _ _ 1 _ _ _ ((HX9.out.block P0 HL7.out.2.2).trans HP7.out)];rfl
    have r2:w9.cell? ⟨P0,2,none⟩=some (.int .i64 (held:Int)):=by rw [cell_of_row _ _ 2 _ _ _ ((HX9.out.block P0 HL7.out.2.2).trans HP7.out)];rfl
    obtain⟨LS,hLS⟩:∃LS:ByteArray,(⟨s9.toArray⟩:ByteArray)=LS:=⟨_,rfl⟩
    have hLz:LS.size=s9.length:=by rw [<-hLS];exact Zav _
    obtain⟨LN,hLN⟩:∃LN,s9.length=LN:=⟨_,rfl⟩
    rw [hLN] at hLz hll;rw [hLN] at HRW;have HLS9:=zh hLS;have hdm:S.extract 33 57=txt ((Q.drop 33).take 24):=HDM.out;have hdt:S.extract 0 32=txt (Q.take 32):=HDT.out;have h33:(57:Int)<=(Q.length:Int):=by omega
    rw [hLS];clear hb9 hd9 hLS hLN s0;go_wp2_with fail;refine(HNB.out _).mono ?_;rintro e w10 ⟨rfl,rfl⟩;by_cases hlo:LN<=og
    ·have hE:Hid (R20P Q room (.returned (.agg #[.string ⟨#[]⟩,.int .i64 0,.int .u32 0,.int .i64 0,.int .i64 0,.int .i64 23]))):=zh (R20P.err (by rw [HRW.out,if_pos hlo]));have hbt:=Zb7 23;have hloi:(LN:Int)<=(og:Int):=by omega
     clear hlo;go_wp2_with (first|(refine Zaj rfl 47 3 _ rfl _ rfl _ hbt ?_)|(refine wpList_store_row rfl 47 _ _ rfl R0 #[.string ⟨#[]⟩,.int .i64 0,.int .u32 0,.int .i64 0,.int .i64 0,.int .i64 23] rfl rfl 47 _ HG9.out hi rfl (Zdl _ _ _ _ _ _) ?_));refine bodyPost_ret (v:=.agg #[.string ⟨#[]⟩,.int .i64 0,.int .u32 0,.int .i64 0,.int .i64 0,.int .i64 23]) (results_cell_row rfl _ _ R0 47 _ (0,0) _ rfl (setRow_heap _ _ _ _ _ _ HG9.out) hu rfl hi) rfl ⟨hE.out,by rw [HR0.out];exact Zae HB9.out (Nat.le_refl _) _⟩
    ·have hE:Hid (R20P Q room (.returned (.agg #[.string ⟨s9.toArray⟩,.int .i64 (og:Int),.int .u32 (sm:Int),.int .i64 ((A+k14:Nat):Int),.int .i64 ((HC+LN:Nat):Int),.int .i64 0]))):=zh (R20P.ok (by rw [HRW.out,if_neg hlo]));have hloi:¬(LN:Int)<=(og:Int):=by omega
     rw [HLS9.out] at hE;have hb1:(A:Int)+(n14:Int)=((A+k14:Nat):Int):=by omega
     have hb2:(held:Int)+(LN:Int)=((HC+LN:Nat):Int):=by omega
     obtain⟨BT,hBT⟩:∃BT,A+k14=BT:=⟨_,rfl⟩
     obtain⟨HT,hHT⟩:∃HT,HC+LN=HT:=⟨_,rfl⟩
     rw [hBT] at hb1 hE;rw [hHT] at hb2 hE;have hbw1:IntKind.i64.wrap (BT:Int)=(BT:Int):=IntWalk.i64_in _ (by have:=HHC.out;omega);have hbw2:IntKind.i64.wrap (HT:Int)=(HT:Int):=IntWalk.i64_in _ (by have:=HHC.out;omega);have h32:(32:Int)<=(Q.length:Int):=by omega
     have hbg:=ZpF LS (og:Int) (sm:Int);have hbr:=Zm6 LS (og:Int) (sm:Int) (BT:Int) (HT:Int);clear hlo hn14 hheld hBT hHT;go_wp2_with fail;refine wp_region_still_tail 16 (by kernel_rfl) (by kernel_rfl) ?_;simp only [List.take_succ_cons,List.take_zero,List.drop_succ_cons,List.drop_zero]
     repeat still_step
     still_call ((HNC.out _).mono fun _ _ h=>⟨h.1,h.2.symm⟩)
     repeat still_step
     refine wpStill_nil ?_;change wpList _ _ _ _ _ (w9.drewN 1);have HG10:Hid ((w9.drewN 1).heap[R0]?=some (.cells #[.string ⟨#[]⟩,.int .i64 0,.int .u32 0,.int .i64 0,.int .i64 0,.int .i64 0] 47 (0,0))):=zh HG9.out;have HB10:Hid (Below R0 w (w9.drewN 1)):=zh (HB9.out.trans ⟨rfl,rfl,rfl,Nat.le_refl _,fun _ _=>rfl⟩);go_wp2_with (first|(refine wpList_store_row rfl 47 _ _ rfl R0 #[.string LS,.int .i64 (og:Int),.int .u32 (sm:Int),.int .i64 (BT:Int),.int .i64 (HT:Int),.int .i64 0] rfl rfl 47 _ HG10.out hi rfl (Zdl _ _ _ _ _ _) ?_));refine bodyPost_ret (v:=.agg #[.string LS,.int .i64 (og:Int),.int .u32 (sm:Int),.int .i64 (BT:Int),.int .i64 (HT:Int),.int .i64 0]) (results_cell_row rfl _ _ R0 47 _ (0,0) _ rfl (setRow_heap _ _ _ _ _ _ HG10.out) hu rfl hi) rfl ⟨hE.out,by rw [HR0.out];exact Zae HB10.out (Nat.le_refl _) _⟩
  ·have h0b:((er7:Int) != 0)=true:=by rw [bne_iff_ne];omega
   have hz2:zrun (sy.length:Int) room (CodM.lst (rdC (Q.drop (57+ub)) (sy.length+2) 400000))=none:=by
    have h:=HL6.out;rw [h] at hz;rw [HA.out,HN.out,HM.out];exact hz
   have hE:=zh (R20P.err ((Zdc (room:=room) HH.out HU.out).trans (Zn6 hz2)));have hbt:=Zb7 25;clear hz hz2 h0;go_wp2_with (first|(refine Zaj rfl 47 3 _ rfl _ rfl _ hbt ?_)|(refine wpList_store_row rfl 47 _ _ rfl R0 #[.string ⟨#[]⟩,.int .i64 0,.int .u32 0,.int .i64 0,.int .i64 0,.int .i64 25] rfl rfl 47 _ HG7.out hi rfl (Zdl _ _ _ _ _ _) ?_));refine bodyPost_ret (v:=.agg #[.string ⟨#[]⟩,.int .i64 0,.int .u32 0,.int .i64 0,.int .i64 0,.int .i64 25]) (results_cell_row rfl _ _ R0 47 _ (0,0) _ rfl (setRow_heap _ _ _ _ _ _ HG7.out) hu rfl hi) rfl ⟨hE.out,by rw [HR0.out];exact Zae HB7.out (Nat.le_refl _) _⟩
theorem R20P.of {Q:List Bool} {R og sm k:Nat} {er:Int} {ys:List UInt8} {e:Ending} (h:R20P Q R e) (g:RdP20 Q R ys og sm er k) :
  ∃h:Nat,e=.returned (.agg #[.string ⟨ys.toArray⟩,.int .i64 (og:Int),.int .u32 (sm:Int),.int .i64 (k:Int),.int .i64 (h:Int),.int .i64 er]):=by
 unfold R20P at h;unfold RdP20 at g;cases hr:rdB Q R with
 | ok l o s b hd=>
  rw [hr] at h g;obtain⟨rfl,rfl,rfl,rfl,rfl⟩:=g;exact⟨hd,h⟩
 | err e2=>
  rw [hr] at h g;obtain⟨rfl,rfl,rfl,rfl,rfl⟩:=g;exact⟨0,h⟩
theorem blockReads.far (s:ByteArray) (a room:Int) (w:World) (hB:Bnds w) (hs:s.size<=maxLen) (h:200<s.size\/a<0\/8*(s.size:Int)<a) :
  Calls Tryz.prog 5 #[.string s,.int .i64 a,.int .i64 room] w fun e w'=>e=.returned (.bool true)/\Below w.heap.size w w':=by
 have HLE:=zh (fun W (h:Bnds W)=>letter20_one W h);have HBN:=zh hB;unfold maxLen at hs;clear hB;by_cases h1:200<s.size
 ·have h1i:(200:Int)<(s.size:Int):=by omega
  clear h;go_enter Tryz.func5,Tryz.ntmps5;go_wp2_with fail;refine(HLE.out _ HBN.out).mono ?_;rintro e w9 ⟨rfl,hb9⟩;have HB9:=zh hb9;clear hb9;go_wp2_with fail;go_ret;exact⟨rfl,HB9.out⟩
 have h1i:¬(200:Int)<(s.size:Int):=by omega
 by_cases h2:a<0
 ·clear h h1;go_enter Tryz.func5,Tryz.ntmps5;go_wp2_with fail;refine(HLE.out _ HBN.out).mono ?_;rintro e w9 ⟨rfl,hb9⟩;have HB9:=zh hb9;clear hb9;go_wp2_with fail;go_ret;exact⟨rfl,HB9.out⟩
 ·have h3:8*(s.size:Int)<a:=by omega
  clear h h1;go_enter Tryz.func5,Tryz.ntmps5;go_wp2_with fail;refine(HLE.out _ HBN.out).mono ?_;rintro e w9 ⟨rfl,hb9⟩;have HB9:=zh hb9;clear hb9;go_wp2_with fail;go_ret;exact⟨rfl,HB9.out⟩
theorem blockReads.arg (s:ByteArray) (a:Nat) (room:Int) (w:World) (hB:Bnds w) (hs:s.size<=200) (ha:a<=8*s.size) (hr:room<5\/900000<room) :
  Calls Tryz.prog 5 #[.string s,.int .i64 (a:Int),.int .i64 room] w fun e w'=>e=.returned (.bool true)/\Below w.heap.size w w':=by
 have HLE:=zh (fun W (h:Bnds W)=>letter20_one W h);have HBN:=zh hB;have hll:s.data.toList.length=s.size:=rfl;have HLL:=zh hll;have h1:¬(200:Int)<(s.size:Int):=by omega
 have h2:¬8*(s.size:Int)<(a:Int):=by omega
 have HRA:=zh (fun rb W=>ZkI rb room W hr);have HRM:=zh (fun W=>Zf3 room W);rw [show decide (5<=room/\room<=900000)=false by rw [decide_eq_false_iff_not];omega] at HRM;have hi:=ZbI got0 rfl;have hu:=Tryz.underlying34;clear hB hll hr;go_enter Tryz.func5,Tryz.ntmps5;go_wp2_with fail;refine(Zcf s w (by unfold maxLen;omega)).mono ?_;rintro e w1 ⟨b,v1,rfl,hr1,hb1,hf1⟩;have HR1:=zh hr1;have HB1:=zh hb1;have HF1:Hid (w.heap.size<=b):=zh (hf1 b (Or.inl rfl));clear hr1 hb1 hf1;go_wp2_with fail;refine(Zbc b v1 _ 0 0 0 a w1 HR1.out (by have:=HLL.out;omega) (by omega) (by have:=HLL.out;omega)).mono ?_;rintro e w2 ⟨rfl,hr2,ht2⟩;have HR2:=zh hr2;have HB2:=zh (HB1.out.trans (ht2.below HB1.out.size (fun i hi=>by have h1:=HF1.out;have h2:i=b:=hi;omega)));clear hr2 ht2;go_wp2_with fail;refine(HRA.out _ _).mono ?_;rintro e w3 ⟨rfl,hb3⟩;have e0:(Value.agg got0)=.agg #[.string ⟨#[]⟩,.int .i64 0,.int .u32 0]:=rfl;rw [e0];have hx4:(w3.alloc (.cells #[.string ⟨#[]⟩,.int .i64 0,.int .u32 0] 34)).heap[w3.heap.size]?=some (.cells got0 34 (0,0)):=heap_alloc_new _ _;have HB24:Hid (Below w2.heap.size w2 (w3.alloc (.cells #[.string ⟨#[]⟩,.int .i64 0,.int .u32 0] 34))):=zh (hb3.alloc hb3.size _);clear hb3 e0;go_wp2_with fail;generalize w3.alloc (.cells #[.string ⟨#[]⟩,.int .i64 0,.int .u32 0] 34)=w4 at *;have HB4:=zh (HB2.out.trans (HB24.out.mono HB2.out.size));have HR4:=zh (HR2.out.other (Touch.ofBelow (S:=fun _=>False) HB24.out) (fun _ _ h=>h));have HBN4:=zh (HBN.out.below HB4.out);have x0:w4.cell? ⟨w3.heap.size,0,none⟩=some (.string ⟨#[]⟩):=by rw [cell_of_row _ _ 0 _ _ _ hx4];rfl
 have x1:w4.cell? ⟨w3.heap.size,1,none⟩=some (.int .i64 0):=by rw [cell_of_row _ _ 1 _ _ _ hx4];rfl
 have x2:w4.cell? ⟨w3.heap.size,2,none⟩=some (.int .u32 0):=by rw [cell_of_row _ _ 2 _ _ _ hx4];rfl
 refine(HRM.out _).mono ?_;rintro e w5 ⟨rfl,hw5⟩;obtain rfl:=hw5.symm;go_wp2_with fail;refine(ZcA b v1 _ 0 0 a _ HR4.out).mono ?_;rintro e w6 ⟨rfl,hw6⟩;obtain rfl:=hw6.symm;clear x0 x1 x2 hx4;go_wp2_with fail;refine(HLE.out _ HBN4.out).mono ?_;rintro e w7 ⟨rfl,hb7⟩;have HB7:=zh (HB4.out.trans (hb7.mono HB4.out.size));clear hb7;go_wp2_with fail;go_ret;exact⟨rfl,HB7.out⟩
theorem blockReads.good (s:ByteArray) (a room:Nat) (w:World) (hB:Bnds w) (hs:s.size<=200) (ha:a<=8*s.size) (hr5:5<=room) (hr9:room<=900000) :
  Calls Tryz.prog 5 #[.string s,.int .i64 (a:Int),.int .i64 (room:Int)] w fun e w'=>e=.returned (.bool true)/\Below w.heap.size w w':=by
 have HLE:=zh (fun W (h:Bnds W)=>letter20_one W h);have HBN:=zh hB;have hll:s.data.toList.length=s.size:=rfl;have HLL:=zh hll;have h1:¬(200:Int)<(s.size:Int):=by omega
 have h2:¬8*(s.size:Int)<(a:Int):=by omega
 have HRM:=zh (fun W=>Zf3 (room:Int) W);rw [show decide (5<=(room:Int)/\(room:Int)<=900000)=true by rw [decide_eq_true_eq];omega] at HRM;have HBT:=zh (fun W=>ZkG s W (by omega));have hBL:(bitsOf s.data.toList).length=8*s.size:=by rw [Zan,hll]
 have HTD:=zh (Zbo (bitsOf s.data.toList) a (by omega));have hts:(txt (bitsOf s.data.toList)).size=8*s.size:=by rw [Zaf,hBL]
 have hQl:((bitsOf s.data.toList).drop a).length<=1600:=by rw [List.length_drop];omega
 have HQL:=zh hQl;have HRD:=zh (fun rb W v (h:IsReader W rb v s.data.toList 0 0 a)=>Zfw rb room v s.data.toList 0 0 a W h (by omega) hr5 hr9 (by omega));have HRO:=zh (fun(h:room<=3000) W=>ZpH ((bitsOf s.data.toList).drop a) room W (by omega) hr5 h);have hal:(a:Int)<=((txt (bitsOf s.data.toList)).size:Int):=by omega
 have hab:(txt (bitsOf s.data.toList)).size<=1600:=by omega
 obtain⟨S,hS⟩:∃S,txt (bitsOf s.data.toList)=S:=⟨_,rfl⟩
 rw [hS] at HBT HTD hts hal hab;clear hB hll hBL hQl hts hS;go_enter Tryz.func5,Tryz.ntmps5;go_wp2_with fail;refine(Zcf s w (by unfold maxLen;omega)).mono ?_;rintro e w1 ⟨b,v1,rfl,hr1,hb1,hf1⟩;have HR1:=zh hr1;have HB1:=zh hb1;have HF1:Hid (∀i,foot b v1 i->w.heap.size<=i):=zh hf1;clear hr1 hb1 hf1;go_wp2_with fail;refine(Zbc b v1 _ 0 0 0 a w1 HR1.out (by have:=HLL.out;omega) (by omega) (by have:=HLL.out;omega)).mono ?_;rintro e w2 ⟨rfl,hr2,ht2⟩;have HR2:=zh hr2;have HB2:=zh (HB1.out.trans (ht2.below HB1.out.size (fun i hi=>HF1.out i (Or.inl hi))));clear hr2 ht2;go_wp2_with fail;refine(HRD.out _ _ _ HR2.out).mono ?_;rintro e w3 ⟨ys,og,sm,er,k,rfl,hp3,hr3,ht3⟩;have e8:(Value.agg (gotV ys (og:Int) (sm:Int)))=.agg #[.string ⟨ys.toArray⟩,.int .i64 (og:Int),.int .u32 (sm:Int)]:=rfl;rw [e8];have HP3:Hid (RdP20 ((bitsOf s.data.toList).drop a) room ys og sm er k):=zh (by rw [Nat.mul_zero,Nat.sub_zero] at hp3;exact hp3)
 have HB3:=zh (HB2.out.trans (ht3.below HB2.out.size (fun i hi=>by
  have h1:=HF1.out b (Or.inl rfl);have h2:=HB2.out.size;rcases hi with hi|hi
  ·omega
  ·omega)))
 obtain⟨w4,hw4⟩:∃w4,w3.alloc (.cells #[.string ⟨ys.toArray⟩,.int .i64 (og:Int),.int .u32 (sm:Int)] 34)=w4:=⟨_,rfl⟩
 have hx4:w4.heap[w3.heap.size]?=some (.cells #[.string ⟨ys.toArray⟩,.int .i64 (og:Int),.int .u32 (sm:Int)] 34 (0,0)):=by rw [<-hw4];exact heap_alloc_new _ _
 have HB4:Hid (Below w.heap.size w w4):=zh (by rw [<-hw4];exact HB3.out.alloc HB3.out.size _);have HR4:Hid (IsReader w4 b v1 s.data.toList 0 0 (a+k)):=zh (by rw [<-hw4];exact hr3.other (Touch.ofBelow (S:=fun _=>False) ((Below.refl _ _).alloc (Nat.le_refl _) _)) (fun _ _ h=>h));obtain⟨G,hG⟩:∃G,w3.heap.size=G:=⟨_,rfl⟩
 rw [hG] at hx4;obtain⟨Y,hY⟩:∃Y:ByteArray,(⟨ys.toArray⟩:ByteArray)=Y:=⟨_,rfl⟩
 have HY:=zh hY;rw [hY] at hx4 hw4;rw [hY];have HX4:=zh hx4;have HBN4:=zh (HBN.out.below HB4.out);clear hp3 hr3 ht3 e8 hY hx4;go_wp2_with fail;refine(HRM.out _).mono ?_;rintro e w5 ⟨rfl,hw5⟩;obtain rfl:=hw5.symm;by_cases h3:(3000:Int)<(room:Int)
 ·clear hw4;go_wp2_with fail;refine(HLE.out _ HBN4.out).mono ?_;rintro e w7 ⟨rfl,hb7⟩;have HB7:=zh (HB4.out.trans (hb7.mono HB4.out.size));clear hb7;go_wp2_with fail;go_ret;exact⟨rfl,HB7.out⟩
 ·have HRO2:=zh (HRO.out (by omega));clear hw4 HRO;go_wp2_with fail;refine(HBT.out _).mono ?_;rintro e w5 ⟨rfl,hw5⟩;obtain rfl:=hw5.symm;go_wp2_with fail;rw [HTD.out];refine(HRO2.out _).mono ?_;rintro e w6 ⟨hp6,hb6⟩;obtain⟨hd,rfl⟩:=hp6.of HP3.out;rw [HY.out];have hb7:=hb6.alloc hb6.size (.cells #[.string Y,.int .i64 (og:Int),.int .u32 (sm:Int),.int .i64 (k:Int),.int .i64 (hd:Int),.int .i64 er] 47);have HX7:=zh ((hb7.block G (Array.getElem?_eq_some_iff.1 HX4.out).1).trans HX4.out);have HR7:=zh (HR4.out.other (Touch.ofBelow (S:=fun _=>False) hb7) (fun _ _ h=>h));have HB7:=zh (HB4.out.trans (hb7.mono HB4.out.size));have hg7:=heap_alloc_new w6 (.cells #[.string Y,.int .i64 (og:Int),.int .u32 (sm:Int),.int .i64 (k:Int),.int .i64 (hd:Int),.int .i64 er] 47);have HBN7:=zh (HBN.out.below HB7.out);clear hb7 hp6 hb6
  go_upto_region 11 with fail
  generalize hW7:w6.alloc (.cells #[.string Y,.int .i64 (og:Int),.int .u32 (sm:Int),.int .i64 (k:Int),.int .i64 (hd:Int),.int .i64 er] 47)=W7 at *;generalize hDD:w6.heap.size=D at *;have hlt:D<W7.heap.size:=(Array.getElem?_eq_some_iff.1 hg7).1;have hltG:G<W7.heap.size:=(Array.getElem?_eq_some_iff.1 HX7.out).1;have q0:∀sb:Beneath W7.heap.size W7,sb.val.cell? ⟨D,0,none⟩=some (.string Y):=fun sb=>Beneath.cell (by rw [cell_of_row _ _ _ _ _ _ hg7];rfl) hlt sb
  have q1:∀sb:Beneath W7.heap.size W7,sb.val.cell? ⟨D,1,none⟩=some (.int .i64 (og:Int)):=fun sb=>Beneath.cell (by rw [cell_of_row _ _ _ _ _ _ hg7];rfl) hlt sb
  have q2:∀sb:Beneath W7.heap.size W7,sb.val.cell? ⟨D,2,none⟩=some (.int .u32 (sm:Int)):=fun sb=>Beneath.cell (by rw [cell_of_row _ _ _ _ _ _ hg7];rfl) hlt sb
  have q3:∀sb:Beneath W7.heap.size W7,sb.val.cell? ⟨D,3,none⟩=some (.int .i64 (k:Int)):=fun sb=>Beneath.cell (by rw [cell_of_row _ _ _ _ _ _ hg7];rfl) hlt sb
  have q5:∀sb:Beneath W7.heap.size W7,sb.val.cell? ⟨D,5,none⟩=some (.int .i64 er):=fun sb=>Beneath.cell (by rw [cell_of_row _ _ _ _ _ _ hg7];rfl) hlt sb
  have g0:∀sb:Beneath W7.heap.size W7,sb.val.cell? ⟨G,0,none⟩=some (.string Y):=fun sb=>Beneath.cell (by rw [cell_of_row _ _ _ _ _ _ HX7.out];rfl) hltG sb
  have g1:∀sb:Beneath W7.heap.size W7,sb.val.cell? ⟨G,1,none⟩=some (.int .i64 (og:Int)):=fun sb=>Beneath.cell (by rw [cell_of_row _ _ _ _ _ _ HX7.out];rfl) hltG sb
  have g2:∀sb:Beneath W7.heap.size W7,sb.val.cell? ⟨G,2,none⟩=some (.int .u32 (sm:Int)):=fun sb=>Beneath.cell (by rw [cell_of_row _ _ _ _ _ _ HX7.out];rfl) hltG sb
  obtain⟨P,hP⟩:∃P,a+k=P:=⟨_,rfl⟩
  rw [hP] at HR7;have hPi:(a:Int)+(k:Int)=(P:Int):=by omega
  have hPw:Hid (IntKind.i64.wrap ((a:Int)+(k:Int))=(P:Int)):=zh (by rw [hPi];exact IntWalk.i64_in _ (by have h5:=HR7.out.2.2.2.2;have h6:=HLL.out;omega));have HIB:Hid (∀sb:Beneath W7.heap.size W7,IsReader sb.val b v1 s.data.toList 0 0 P/\Bnds sb.val):=zh (fun sb=>⟨HR7.out.other (Touch.ofBelow (S:=fun _=>False) sb.is) (fun _ _ h=>h),HBN7.out.below sb.is⟩);have hPw:=hPw.out;have z1:(er==er)=true:=by simp
  have z2:((P:Int)==(P:Int))=true:=by simp
  have z3:(Y.toList==Y.toList)=true:=by simp
  have HREF:=zh (fun W=>Zb4 Y (og:Int) (sm:Int) W);clear hg7 hW7 hP hPi hDD hG hlt hltG;refine ZaF W7.heap.size W7 (Below.refl _ _) (by kernel_rfl) (by kernel_rfl) ?_
  repeat (go_big_quiet_step (first
   | (go_at_call 11;rename_i sb;exact Calls.beneath sb (Nat.le_refl _) (HLE.out _ (HIB.out sb).2))
   | (go_at_call 26;rename_i sb;exact Calls.beneath_same sb (ZcA b v1 _ 0 0 P _ (HIB.out sb).1))
   | (go_at_call 21;rename_i sb;exact Calls.beneath sb (Nat.le_refl _) (HREF.out _))))
  refine wpQuiet_nil ?_;rintro _ ⟨sb,rfl⟩;have HB8:=zh (HB7.out.trans (sb.is.mono HB7.out.size));clear HIB q0 q1 q2 q3 q5 g0 g1 g2;generalize sb.val=W8 at *;go_wp2_with fail;go_ret;exact⟨rfl,HB8.out⟩
theorem blockReads.walk (s:ByteArray) (a room:Int) (w:World) (hB:Bnds w) (hs:s.size<=maxLen) (_:(Lit.int .i64 a).wf=true) (_:(Lit.int .i64 room).wf=true) :
  Calls Tryz.prog 5 #[.string s,.int .i64 a,.int .i64 room] w fun e w'=>e=.returned (.bool true)/\Below w.heap.size w w':=by
 by_cases h:200<s.size\/a<0\/8*(s.size:Int)<a
 ·exact blockReads.far s a room w hB hs h
 ·obtain⟨A,rfl⟩:∃A:Nat,a=(A:Int):=⟨a.toNat,by omega⟩
  by_cases h2:room<5\/900000<room
  ·exact blockReads.arg s A room w hB (by omega) (by omega) h2
  ·obtain⟨R,rfl⟩:∃R:Nat,room=(R:Int):=⟨room.toNat,by omega⟩
   exact blockReads.good s A R w hB (by omega) (by omega) (by omega) (by omega)
end
end Go.Proofs.YtnachbjhhpnadaaGreatDoor

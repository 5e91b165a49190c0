import Derived.Test.YtnachbjhhpnadaaGreatDoorBcA
import Derived.Test.YtnachbjhhpnadaaGreatDoorBcB
import Derived.Test.YtnachbjhhpnadaaGreatDoorBcC
import Derived.Test.YtnachbjhhpnadaaGreatDoorBcD
import Derived.Test.YtnachbjhhpnadaaGreatDoorBcE
import Derived.Test.YtnachbjhhpnadaaGreatDoorBcF
import Derived.Test.YtnachbjhhpnadaaGreatDoorBcG
import Derived.Test.YtnachbjhhpnadaaGreatDoorBcH
import Derived.Test.YtnachbjhhpnadaaGreatDoorBcI
import Derived.Test.YtnachbjhhpnadaaGreatDoorBcJ
import Derived.Test.YtnachbjhhpnadaaGreatDoorBcK
import Derived.Test.YtnachbjhhpnadaaGreatDoorBcL
import Derived.Test.YtnachbjhhpnadaaGreatDoorBcM
import Derived.Test.YtnachbjhhpnadaaGreatDoorBcN
import Derived.Test.YtnachbjhhpnadaaGreatDoorBcO
import Derived.Test.YtnachbjhhpnadaaGreatDoorBcP
import Derived.Test.YtnachbjhhpnadaaGreatDoorBcQ
import Derived.Test.YtnachbjhhpnadaaGreatDoorBcR
import Derived.Test.YtnachbjhhpnadaaGreatDoorBcS
import Derived.Test.YtnachbjhhpnadaaGreatDoorBcT
import Derived.Test.YtnachbjhhpnadaaGreatDoorBcU
import Derived.Test.YtnachbjhhpnadaaGreatDoorBtA
import Derived.Test.YtnachbjhhpnadaaGreatDoorBtC
import Derived.Deep.RegionHeld3
import Derived.StillTailTactics
import Derived.WalkKit
import Derived.Deep.RegionLaw
import Derived.BigQuiet
import Derived.Deep.AppendSrc
import Derived.Deep.Upon
import Derived.ChangeKeysEq
import Derived.Test.YtnachbjhhpnadaaGreatDoorProg
import Derived.Shelf.Strings.Builder1
import Derived.Shelf.Strings.Builder2
import Derived.Shelf.Strings.BuilderF
import Derived.Shelf.Strings.BuilderK
import Derived.Shelf.Strings.Builder2Cap
import Derived.Shelf.Strings.BuilderCap
import Derived.Lib.BufferWrite
import Derived.Laws.StandIn
import Derived.Laws.OwnMore
import Derived.BigRegion
import Derived.IntWalk
import Derived.Shelf.Abstract
import Derived.Laws.CopyRow
import Derived.Deep.Cut
import Derived.Lib.SliceRun
import Derived.Deep.LoopGhost
import Derived.Laws.BitsAllLaws
import Derived.Deep.MidRow
import Derived.Outline
import Derived.Laws.EntriesVeiled
import Derived.WalkMore
import Derived.Deep.QuietTactic
import Derived.Test.YtnachbjhhpnadaaGreatDoorRows
import Derived.WalkSpells
import Derived.WalkLawsBesides
import Derived.Lib.Hide
import Derived.Shelf.Strconv.Itoa0
set_option linter.unusedVariables false
set_option linter.unusedSimpArgs false
set_option maxHeartbeats 8000000
set_option maxRecDepth 100000
namespace Go.Proofs.YtnachbjhhpnadaaGreatDoor
section
open Go.RowKit BitM UsedM
theorem ZhF (l:List UInt8) (k:Nat) (h:k<l.length):has (l.take (k+1))=put (has (l.take k)) l[k].toNat:=by
 rw [List.take_succ_eq_append_getElem h,ZgW]
theorem ZdO (s:ByteArray) (n:Nat) (w:World) (hs:s.size<=9223372036854775807) :
  Calls Tryz.prog 113 #[.string s,.int .i64 (n:Int)] w fun e w'=>e=.returned (.bool (has s.data.toList n))/\w=w':=by
 go_enter Tryz.func113,Tryz.ntmps113;go_wp2_with fail
 go_loop [5] (fun i=>∃k:Nat,k<=s.size/\i=.int .i64 k/\has (s.data.toList.take k) n=false) (fun i=>s.size-(intOf i).toNat)
 case atStart=>exact⟨0,by omega,rfl,by simp [has]⟩
 case round=>
  obtain⟨k,hk,rfl,hn⟩:=hrel;by_cases hlt:k<s.size
  ·have ht:=ZhF s.data.toList k (by simpa using hlt);have hc:=s[k].toNat_lt;have hsk:s.data.toList[k]'(by simpa using hlt)=s[k]:=rfl;rw [hsk] at ht;by_cases he:s[k].toNat=n
   ·have hr:has s.data.toList n=true:=by
     have h1:=ZdU s.data.toList s[k];rw [he] at h1;rw [h1,<-hsk];exact List.getElem_mem _
    have hd:((s[k].toNat:Int)==(n:Int))=true:=by rw [beq_iff_eq];omega
    have HRR:=zh hr;clear hn ht hsk hr;go_wp2_with fail;go_ret;exact⟨by rw [HRR.out];rfl,rfl⟩
   ·have hd:((s[k].toNat:Int)==(n:Int))=false:=by rw [beq_eq_false_iff_ne];omega
    have hn2:has (s.data.toList.take (k+1)) n=false:=by
     rw [ht];unfold put;rw [hn];simp only [Bool.false_or,beq_eq_false_iff_ne];omega
    have HN:=zh hn2;clear hn ht hsk hn2;go_wp2_with fail
    go_round
    case rel=>exact⟨k+1,by omega,by go_num,HN.out⟩
    case measure=>simp [intOf];omega
  ·obtain rfl:k=s.size:=by omega
   rw [List.take_of_length_le (by simp)] at hn;have HRR:=zh hn;clear hn;go_wp2_with fail;go_ret;exact⟨by rw [HRR.out];rfl,rfl⟩
theorem Zbf (s:ByteArray) (w:World) (hs:s.size<=9223372036854775807) :
  Calls Tryz.prog 56 #[.string s] w fun e w'=>e=.returned (.string ⟨(syms (has s.data.toList) 256).toArray⟩)/\Below w.heap.size w w':=by
 have HT:=zh (fun n w=>ZdO s n w hs);obtain⟨S,hS⟩:∃S,has s.data.toList=S:=⟨_,rfl⟩
 simp only [hS] at HT ⊢;clear hS;go_enter Tryz.func56,Tryz.ntmps56;go_wp2_with fail
 go_loopw [3,5] (fun o i wr=>∃k:Nat,k<=256/\i=.int .i64 k/\o=.string ⟨(syms S k).toArray⟩/\Below w.heap.size w wr) (fun _ i _=>256-(intOf i).toNat)
 case atStart=>exact⟨0,by omega,rfl,rfl,Below.refl _ _⟩
 case round=>
  obtain⟨k,hk,rfl,rfl,hB⟩:=hrel;have HB:=zh hB;clear hB;by_cases hlt:k<256
  ·have hk2:(k:Int)<256:=by omega
   have hw:IntKind.u8.wrap (k:Int)=(k:Int):=IntWalk.u8_in _ (by omega);have HSU:=zh (Zbx S k);have hlen:(⟨(syms S k).toArray⟩:ByteArray).size<=256:=by rw [Zav];exact Nat.le_trans (Zcs S k) hk
   have hx:(UInt8.ofNat k).toNat=k:=by rw [UInt8.toNat_ofNat',Nat.mod_eq_of_lt (by omega)]
   have hx1:(⟨#[UInt8.ofNat k]⟩:ByteArray).size=1:=rfl;have hcv:=Zcm wr (UInt8.ofNat k) (k:Int) (by rw [hx]);have HAP:=zh (ZaA (syms S k) [UInt8.ofNat k]);by_cases hsk:S k=true
   ·have HS2:=HSU.out;rw [if_pos hsk] at HS2;have HS3:=zh HS2;generalize hO:(⟨(syms S k).toArray⟩:ByteArray)=O at *;clear HS2 hx;go_wp2_with fail;refine(HT.out k wr).mono ?_;rw [hsk];clear hsk;rintro e w' ⟨rfl,rfl⟩;go_wp2_with fail;go_roundw
    case rel=>exact⟨k+1,by omega,by go_num,by rw [HS3.out];exact congrArg Value.string HAP.out,HB.out.alloc HB.out.size _⟩
    case measure=>simp [intOf];omega
   ·have hsf:S k=false:=by simpa using hsk
    have HS2:=HSU.out;rw [hsf] at HS2;have HS3:=zh HS2;clear HS2 hx hsk hcv;go_wp2_with fail;refine(HT.out k wr).mono ?_;rw [hsf];clear hsf;rintro e w' ⟨rfl,rfl⟩;go_wp2_with fail;go_roundw
    case rel=>exact⟨k+1,by omega,by go_num,by rw [HS3.out];rfl,HB.out⟩
    case measure=>simp [intOf];omega
  ·obtain rfl:k=256:=by omega
   go_wp2_with fail;go_ret;exact⟨rfl,HB.out⟩
theorem ZbC (s:ByteArray) (r:Bool) (w:World) (hs:s.size<=9223372036854775807) (hr:r=true↔IsSyms s.data.toList) :
  Calls Tryz.prog 114 #[.string s] w fun e w'=>e=.returned (.bool r)/\Below w.heap.size w w':=by
 by_cases h0:0<s.size
 ·have heq:=ZbL ⟨(syms (has s.data.toList) 256).toArray⟩ s r (by
   rw [hr,Zee];constructor
   ·intro h;rw [h.2]
   ·intro h;have h2:(syms (has s.data.toList) 256)=s.data.toList:=congrArg (fun b:ByteArray=>b.data.toList) h;refine⟨fun e=>?_,h2⟩;have:s.data.toList.length=s.size:=rfl;rw [e] at this;simp at this;omega)
  have HT:=zh (Zbf s w hs);generalize (⟨(syms (has s.data.toList) 256).toArray⟩:ByteArray)=T at *;go_enter Tryz.func114,Tryz.ntmps114;go_wp2_with fail;refine HT.out.mono ?_;rintro e w1 ⟨rfl,hb⟩;have HB:=zh hb;clear hb;go_wp2_with fail;go_ret;exact⟨rfl,HB.out⟩
 ·have hz:s.size=0:=by omega
  have hrf:r=false:=by
   rw [Bool.eq_false_iff,Ne,hr];intro h;exact h.2 (List.eq_nil_of_length_eq_zero hz)
  subst hrf;obtain rfl:s=⟨#[]⟩:=ByteArray.ext (Array.eq_empty_of_size_eq_zero hz);clear hr hz h0 hs;go_enter Tryz.func114,Tryz.ntmps114;go_wp2_with fail;go_ret;exact⟨rfl,Below.refl _ _⟩
end
section
open Go.RowKit UsedM MtfM
theorem ZdQ (s t:ByteArray) (w:World) (hs:s.size<=300) (ht:t.size<=9223372036854775807) :
  Calls Tryz.prog 57 #[.string s,.string t] w fun e w'=>∃(v:Value) (zs:List Int) (err:Nat),e=.returned (.tuple #[v,.int .i64 (err:Int)])/\IsInts w' v zs/\Below w.heap.size w w'/\EncP s.data.toList t.data.toList zs err:=by
 by_cases hy:IsSyms t.data.toList
 ·have htz:t.size<=256:=Zdm hy;have HIS:=zh (fun w=>ZbC t true w ht ⟨fun _=>hy,fun _=>rfl⟩);have hlt:t.data.toList.length=t.size:=rfl;have hls:s.data.toList.length=s.size:=rfl;have hsi:(s.size:Int)<=300:=by omega
  obtain⟨i0,hi,hz0,hz1,hz2⟩:=info_parts ZbF;have HI:=zh hi;have HZ0:=zh hz0;have HZ1:=zh hz1;have HZ2:=zh hz2;clear hi hz0 hz1 hz2;go_enter Tryz.func57,Tryz.ntmps57;go_wp2_with fail;refine(HIS.out w).mono ?_;rintro e w1 ⟨rfl,hb⟩;have HB:=zh hb;clear hb;go_wp2_with fail
  go_loopw [6,7,8] (fun o d i wr=>∃(k:Nat) (zs:List Int) (m:List UInt8) (v:Value),k<=s.size/\i=.int .i64 k/\d=.string ⟨m.toArray⟩/\o=v/\encK t.data.toList s.data.toList k=some (zs,m)/\wr.ownsRow w.heap.size 3 1 v k (zs.map iv64)/\Below w.heap.size w wr) (fun _ _ i _=>s.size-(intOf i).toNat)
  case atStart=>exact⟨0,[],t.data.toList,_,by omega,rfl,congrArg Value.string (ZhE t),rfl,rfl,World.ownsRow_nil _ _ _ _,HB.out⟩
  case round=>
   clear HB;obtain⟨k,zs,m,v,hk,rfl,rfl,rfl,he,hO,hB⟩:=hrel;have HE:=zh he;have HO:=zh hO;have HB:=zh hB;clear he hO hB;by_cases hlk:k<s.size
   ·have hki:(k:Int)<(s.size:Int):=by omega
    have hgd:s.data.toList.getD k 0=s[k]:=by
     rw [List.getD_eq_getElem?_getD,List.getElem?_eq_getElem (by simpa using hlk)];rfl
    have hlen:=encK_len _ _ _ _ _ HE.out;have hml:m.length<=256:=by omega
    have hstep:=Za3 t.data.toList s.data.toList k;rw [HE.out,hgd] at hstep;have HST:=zh hstep;have HPL:=zh (fun w=>ZdP ⟨m.toArray⟩ s[k] w (by rw [Zav];omega));clear hstep hgd;have hxk:=s[k].toNat_lt;have hmt:(⟨m.toArray⟩:ByteArray).data.toList=m:=rfl;rw [hmt] at HPL;rcases Za5 m s[k] with hp|⟨o,hp,ho,hx⟩
    ·have hnone:encK t.data.toList s.data.toList (k+1)=none:=by rw [HST.out];simp only [hp];rfl
     have hfin:encK t.data.toList s.data.toList s.size=none:=by
      have:=ZbX t.data.toList s.data.toList (s.size-(k+1)) (k+1) hnone
      rwa [show k+1+(s.size-(k+1))=s.size by omega] at this
     have HF:=zh hfin;rw [hp] at HPL;clear hnone hfin hp hlen hmt;generalize (⟨m.toArray⟩:ByteArray)=T at *;go_wp2_with fail;refine(HPL.out wr).mono ?_;rintro e w' ⟨rfl,rfl⟩;go_wp2_with fail;go_ret2;exact⟨_,[],6,rfl,IsInts.nil _,HB.out,Or.inr (Or.inl ⟨hy,HF.out,rfl,rfl⟩)⟩
    ·have hsome:encK t.data.toList s.data.toList (k+1)=some (zs++[(o:Int)],touch m o):=by
      rw [HST.out];simp only [hp];rw [if_neg (by omega)];rfl
     have HS:=zh hsome;rw [hp] at HPL;have HTO:=zh (fun w=>Zbv m o w ho hml);have hbw:w.heap.size<=wr.heap.size:=HB.out.size;clear hsome hp hx hmt;generalize (⟨m.toArray⟩:ByteArray)=T at *;go_wp2_with fail;refine(HPL.out wr).mono ?_;rintro e w' ⟨rfl,rfl⟩;go_wp2_with (at_builtin;refine wpList_append_own _ rfl _ _ 79 rfl w.heap.size 3 i0 (.int .i64 0) 1 8 Tryz.underlying79 HI.out HZ0.out HZ1.out HZ2.out rfl (by decide) _ _ _ rfl (HO.out.alloc _) ⟨wr.heap.size,0,none⟩ 1 1 [.int .i64 (o:Int)] rfl rfl ?c1 ?c2 ?c3 ?c4 ?c5 ?_)
     case c1=>exact ZaD _ _ _ _ rfl
     case c2=>intro u hu;simp at hu;subst hu;rfl
     case c3=>unfold maxLen;omega
     case c4=>omega
     case c5=>simp;omega
     intro v' w2 hown' hgrow _;have HO2:=zh hown';have HB2:=zh (HB.out.trans (Below.grown ((Below.refl w.heap.size wr).alloc hbw _) hgrow (by simp;omega) (fun j hj=>(HO.out.lt j hj).1)));clear hown' hgrow;go_wp2_with fail;refine(HTO.out w2).mono ?_;rintro e w3 ⟨rfl,n,rfl⟩;have HB3:=zh (HB2.out.trans ((Zai w2 n).mono HB2.out.size))
     have HO3:Hid ((w2.drewN n).ownsRow w.heap.size 3 1 v' (k+1) ((zs++[(o:Int)]).map iv64)):=zh (by
      rw [List.map_append];exact HO2.out)
     go_wp2_with fail;go_roundw
     case rel=>exact⟨k+1,_,_,_,by omega,by go_num,rfl,rfl,HS.out,HO3.out,HB3.out⟩
     case measure=>simp [intOf];omega
   ·obtain rfl:k=s.size:=by omega
    go_wp2_with fail;go_ret2;exact⟨_,zs,0,rfl,Zc7 HO.out,HB.out,Or.inr (Or.inr ⟨hy,⟨m,HE.out⟩,rfl⟩)⟩
 ·have HIS:=zh (fun w=>ZbC t false w ht ⟨fun e=>(by cases e),fun e=>absurd e hy⟩);go_enter Tryz.func57,Tryz.ntmps57;go_wp2_with fail;refine(HIS.out w).mono ?_;rintro e w1 ⟨rfl,hb⟩;have HB:=zh hb;clear hb;go_wp2_with fail;go_ret2;exact⟨_,[],1,rfl,IsInts.nil _,HB.out,Or.inl ⟨hy,rfl,rfl⟩⟩
end
section
open Go.RowKit BitM UsedM
def whichK (S:Nat->Bool) (k:Nat):List Bool:=(List.range k).map (ZaW S)
theorem ZhG (S:Nat->Bool) (k:Nat):(whichK S k).length=k:=by simp [whichK]
theorem Zkp (S:Nat->Bool) (k:Nat):whichK S (k+1)=whichK S k++[ZaW S k]:=by unfold whichK;rw [List.range_succ,List.map_append];rfl
def rowJ (S:Nat->Bool) (i j:Nat):List Bool:=(List.range j).map fun k=>S (16*i+k)
theorem Zkq (S:Nat->Bool) (i j:Nat):(rowJ S i j).length=j:=by simp [rowJ]
theorem Zi4 (S:Nat->Bool) (i j:Nat):rowJ S i (j+1)=rowJ S i j++[S (16*i+j)]:=by unfold rowJ;rw [List.range_succ,List.map_append];rfl
theorem Zrb (S:Nat->Bool) (i j:Nat):(rowJ S i (j+1)).any id=((rowJ S i j).any id || S (16*i+j)):=by rw [Zi4,List.any_append];simp
theorem Zi5 (q:List Bool):txt q++⟨#[49]⟩=txt (q++[true]):=by rw [show(⟨#[49]⟩:ByteArray)=txt [true] from rfl,Zal]
theorem ZgM (q:List Bool):txt q++⟨#[48]⟩=txt (q++[false]):=by rw [show(⟨#[48]⟩:ByteArray)=txt [false] from rfl,Zal]
theorem Zkr (s:ByteArray) (w:World) (hs:s.size<=9223372036854775807) :
  Calls Tryz.prog 60 #[.string s] w fun e w'=>e=.returned (.string (txt (ubits (has s.data.toList))))/\w=w':=by
 have HT:=zh (fun n w=>ZdO s n w hs);obtain⟨S,hS⟩:∃S,has s.data.toList=S:=⟨_,rfl⟩
 simp only [hS] at HT ⊢;clear hS;have h491:(⟨#[49]⟩:ByteArray).size=1:=rfl;have h481:(⟨#[48]⟩:ByteArray).size=1:=rfl;go_enter Tryz.func60,Tryz.ntmps60;go_wp2_with fail
 go_loop [3,4,9] (fun a b i=>∃k:Nat,k<=16/\i=.int .i64 k/\a=.string (txt (whichK S k))/\b=.string (txt (rows S k))) (fun _ _ i=>16-(intOf i).toNat)
 case atStart=>exact⟨0,by omega,rfl,rfl,rfl⟩
 case round=>
  obtain⟨k,hk,rfl,rfl,rfl⟩:=hrel;have z1:(txt (whichK S k)).size<=16:=by rw [Zaf,ZhG];exact hk
  have z2:(txt (rows S k)).size<=256:=by rw [Zaf,Za4];have:=cnt_le S k;omega
  by_cases hlt:k<16
  ·have hk2:(k:Int)<16:=by omega
   have HW1:=zh (Zi5 (whichK S k));have HW0:=zh (ZgM (whichK S k));have HWS:=zh (Zkp S k);have HRS:=zh (UsedM.rows_succ S k);have HRA:=zh (Zal (rows S k) (row S k));generalize txt (whichK S k)=TW at *;generalize hTR:txt (rows S k)=TR at *;have HTR:=zh hTR;clear hTR;go_wp2_with fail
   go_loop [6,7,12] (fun r o i=>∃j:Nat,j<=16/\i=.int .i64 j/\r=.string (txt (rowJ S k j))/\o=.bool ((rowJ S k j).any id)) (fun _ _ i=>16-(intOf i).toNat)
   case atStart=>exact⟨0,by omega,rfl,rfl,rfl⟩
   case round=>
    obtain⟨j,hj,rfl,rfl,rfl⟩:=hrel;have z3:(txt (rowJ S k j)).size<=16:=by rw [Zaf,Zkq];exact hj
    by_cases hlj:j<16
    ·have hj2:(j:Int)<16:=by omega
     have hsum:(16:Int)*(k:Int)+(j:Int)=((16*k+j:Nat):Int):=by omega
     have H1:=zh (Zi5 (rowJ S k j));have H0:=zh (ZgM (rowJ S k j));have HS1:=zh (Zi4 S k j);have HA:=zh (Zrb S k j);generalize txt (rowJ S k j)=TJ at *;obtain⟨m,hm⟩:∃m,16*k+j=m:=⟨_,rfl⟩
     rw [hm] at hsum HS1 HA;go_wp2_with fail;refine(HT.out m w).mono ?_;by_cases hSm:S m=true
     ·have HS2:=HS1.out;have HA2:=HA.out;rw [hSm] at HS2 HA2 ⊢;have HS3:=zh HS2;have HA3:=zh HA2;clear hSm HS2 HA2;rintro e w' ⟨rfl,rfl⟩;go_wp2_with fail
      go_round
      case rel=>exact⟨j+1,by omega,by go_num,by rw [HS3.out,H1.out],by rw [HA3.out,Bool.or_true]⟩
      case measure=>simp [intOf];omega
     ·have hSf:S m=false:=by simpa using hSm
      have HS2:=HS1.out;have HA2:=HA.out;rw [hSf] at HS2 HA2 ⊢;have HS3:=zh HS2;have HA3:=zh HA2;clear hSm hSf HS2 HA2;rintro e w' ⟨rfl,rfl⟩;go_wp2_with fail
      go_round
      case rel=>exact⟨j+1,by omega,by go_num,by rw [HS3.out,H0.out],by rw [HA3.out,Bool.or_false]⟩
      case measure=>simp [intOf];omega
    ·obtain rfl:j=16:=by omega
     have hrow:rowJ S k 16=row S k:=rfl;have hsome:(row S k).any id=ZaW S k:=rfl;rw [hrow] at z3;rw [hrow,hsome];by_cases hso:ZaW S k=true
     ·have HWS2:=HWS.out;have HRS2:=HRS.out;rw [hso] at HWS2 HRS2 ⊢;have HWS3:=zh HWS2;have HRS3:=zh HRS2;clear hso HWS2 HRS2 hrow hsome;generalize hTK:txt (row S k)=TK at *;go_wp2_with fail
      go_round
      case rel=>exact⟨k+1,by omega,by go_num,by rw [HWS3.out,HW1.out],by rw [HRS3.out,HRA.out];rfl⟩
      case measure=>simp [intOf];omega
     ·have hsf:ZaW S k=false:=by simpa using hso
      have HWS2:=HWS.out;have HRS2:=HRS.out;rw [hsf] at HWS2 HRS2 ⊢;have HWS3:=zh HWS2;have HRS3:=zh HRS2;clear hso hsf HWS2 HRS2 hrow hsome;go_wp2_with fail
      go_round
      case rel=>exact⟨k+1,by omega,by go_num,by rw [HWS3.out,HW0.out],by rw [HRS3.out];exact congrArg Value.string HTR.out.symm⟩
      case measure=>simp [intOf];omega
  ·obtain rfl:k=16:=by omega
   have HE:=zh (show txt (whichK S 16)++txt (rows S 16)=txt (ubits S) by rw [Zal];rfl);go_wp2_with fail;go_ret;rw [HE.out];exact⟨rfl,rfl⟩
end
section
open Go.RowKit BitM HufM CanM CodM UsedM MtfM TabM FreqM BlkM
theorem Zi6 (b:Nat) (s:ByteArray) (o sum:Int) (w:World) (hs:s.size<=900000) (h:s.size=0\/o<0\/(s.size:Int)<=o):Calls Tryz.prog 19 #[.pointer (some ⟨b,0,none⟩),.string s,.int .i64 o,.int .u32 sum] w fun e w'=>e=.returned (.int .i64 1)/\w'=w:=by
 have h1:¬(900000:Int)<(s.size:Int):=by omega
 by_cases h2:o<0
 ·clear h;go_enter Tryz.func19,Tryz.ntmps19;go_wp2_with fail;go_ret;exact⟨rfl,rfl⟩
 ·have h3:(s.size:Int)<=o:=by omega
  clear h;go_enter Tryz.func19,Tryz.ntmps19;go_wp2_with fail;go_ret;exact⟨rfl,rfl⟩
end
section
open Go.RowKit
theorem Zcn {s:ByteArray} (hs:0<s.size):s.toList.isEmpty=false:=by
 rw [ByteArray.toList_eq];have h2:s.data.toList.length=s.size:=by simp
 cases hl:s.data.toList with
 | nil=>rw [hl] at h2;simp at h2;omega
 | cons a t=>rfl
theorem ZsU {s:ByteArray} (h:s.size=0):s=⟨#[]⟩:=by
 have h1:s.data.toList=[]:=List.eq_nil_of_length_eq_zero h;apply ByteArray.ext;apply Array.toList_inj.1;rw [h1]
theorem Zb4 (s:ByteArray) (o sum:Int) (w:World):Calls Tryz.prog 21 #[.agg #[.string s,.int .i64 o,.int .u32 sum]] w fun e w'=>e=.returned (.agg #[.string s,.int .i64 o,.int .u32 sum])/\Below w.heap.size w w':=by
 obtain⟨wq,hwq⟩:∃wq,w.alloc (.cells #[.string s,.int .i64 o,.int .u32 sum] 34)=wq:=⟨_,rfl⟩
 have hg:wq.heap[w.heap.size]?=some (.cells #[.string s,.int .i64 o,.int .u32 sum] 34 (0,0)):=by rw [<-hwq];exact heap_alloc_new _ _
 have hz:wq.heap.size=w.heap.size+1:=by rw [<-hwq];simp
 have HBQ:Hid (Below w.heap.size w wq):=zh (by rw [<-hwq];exact(Below.refl _ _).alloc (Nat.le_refl _) _);have c0:wq.cell? ⟨w.heap.size,0,none⟩=some (.string s):=by rw [cell_of_row _ _ 0 _ _ _ hg];rfl
 have c1:wq.cell? ⟨w.heap.size,1,none⟩=some (.int .i64 o):=by rw [cell_of_row _ _ 1 _ _ _ hg];rfl
 have c2:wq.cell? ⟨w.heap.size,2,none⟩=some (.int .u32 sum):=by rw [cell_of_row _ _ 2 _ _ _ hg];rfl
 have hbt:Tryz.prog.built 37 [(0,.string s),(1,.int .i64 o),(2,.int .u32 sum)]=some #[.string s,.int .i64 o,.int .u32 sum]:=by kernel_rfl
 have hz0:Tryz.prog.built 37 []=some #[.string ⟨#[]⟩,.int .i64 0,.int .u32 0]:=by kernel_rfl
 have hi:∀A:Array Value,A.size=3->(Tryz.prog.info? 37).map (·.size)=some A.size:=fun A h=>by rw [h];kernel_rfl
 have hu:=Tryz.underlying37;go_enter Tryz.func21,Tryz.ntmps21;go_wp2_with (first|(refine Zaz rfl 37 0 1 2 _ _ _ rfl _ _ _ rfl rfl rfl _ hbt ?_));have hf:=heap_alloc_new wq (.cells #[.string s,.int .i64 o,.int .u32 sum] 37);rw [hz] at hf;refine bodyPost_ret (v:=.agg #[.string s,.int .i64 o,.int .u32 sum]) (ZaT rfl _ _ (w.heap.size+1) #[.string s,.int .i64 o,.int .u32 sum] 37 _ rfl hf hu rfl (hi _ rfl)) rfl ⟨rfl,HBQ.out.alloc HBQ.out.size _⟩
end
section
open Go.RowKit BitM HufM CanM CodM UsedM MtfM TabM FreqM BlkM
theorem ZkE (s:ByteArray) (O sum:Nat) (w:World) (hs:s.size<=300) (ho:O<s.size) (hsum:sum<4294967296) :
  Calls Tryz.prog 20 #[.agg #[.string s,.int .i64 (O:Int),.int .u32 (sum:Int)]] w fun e w'=>e=.returned (.string (txt (allK s.data.toList O sum)))/\Below w.heap.size w w':=by
 obtain⟨l,hl⟩:∃l,s.data.toList=l:=⟨_,rfl⟩
 have hll:l.length=s.size:=by rw [<-hl];rfl
 have hne:l≠[]:=fun e=>by rw [e] at hll;simp at hll;omega
 obtain⟨Sy,hSy⟩:∃Sy:ByteArray,(⟨(syms (has l) 256).toArray⟩:ByteArray)=Sy:=⟨_,rfl⟩
 have hSl:Sy.data.toList=symsK l:=by rw [<-hSy];rfl
 have hSz:Sy.size=(symsK l).length:=by rw [<-hSl];rfl
 have h256:=Zhp l;have hpos:=Zfu hne;have HSY:=zh (fun W=>Zbf s W (by omega));rw [hl,hSy] at HSY;have HEN:=zh (fun W=>ZdQ s Sy W hs (by omega));rw [hl,hSl] at HEN
 have HPP:Hid (∀zs err,EncP l (symsK l) zs err->zs=placesK l):=zh (fun zs err h=>by
  obtain⟨m,hm⟩:=Zb0 l;rcases h with⟨h,_⟩|⟨_,h,_⟩|⟨_,⟨m2,h⟩,_⟩
  ·exact absurd (Zhq hne) h
  ·rw [hm] at h;cases h
  ·rw [hm] at h;cases h;rfl)
 have HCC:Hid (∀ys err,ZerM.EncP (placesK l) (Sy.size:Int) ys err->ys=codesK l):=zh (fun ys err h=>by
  rw [hSz] at h;rcases h with⟨h,_⟩|⟨_,h,_⟩
  ·exact absurd (encOkK hne) h
  ·exact h)
 have hpl:=Za8 l;have hcl:=ZcT l;have HZN:=zh (fun(u:Value) W (h:IsInts W u (placesK l))=>Zkt u (placesK l) (Sy.size:Int) W h (by omega))
 have HUB:Hid (∀W,Calls Tryz.prog 60 #[.string Sy] W fun e w'=>e=.returned (.string (txt (ubits (has l))))/\Below W.heap.size W w'):=zh (fun W=>by
  have h:=Zkr Sy W (by omega);rw [hSl,ZiB] at h;exact h.mono (fun e w' h=>⟨h.1,h.2▸Below.refl _ _⟩))
 have HMK:Hid (May14 (codesK l) (sizeK l:Int)):=zh (mayK hne);have hsk:(Sy.size:Int)+2=((sizeK l:Nat):Int):=by unfold sizeK;omega
 obtain⟨NK,hNK⟩:∃N,sizeK l=N:=⟨_,rfl⟩
 have hNK2:NK<=258:=by rw [<-hNK];unfold sizeK;omega
 have hnkw:IntKind.i64.wrap (NK:Int)=(NK:Int):=IntWalk.i64_in _ (by omega);rw [hNK] at hsk HMK;have hub:(ubits (has l)).length<=272:=by rw [Zbg];have:=cnt_le (has l) 16;omega
 have hOw:IntKind.u32.wrap (O:Int)=(O:Int):=by
  simp [IntKind.wrap,IntKind.bits,IntKind.signed];omega
 have hal:=(HMK.out).len (by omega);obtain⟨S1,hS1⟩:∃S,txt (field sum 32)=S:=⟨_,rfl⟩
 obtain⟨S2,hS2⟩:∃S,txt (field O 24)=S:=⟨_,rfl⟩
 obtain⟨S3,hS3⟩:∃S,txt (ubits (has l))=S:=⟨_,rfl⟩
 obtain⟨S4,hS4⟩:∃S,txt (allC (rnd (codesK l) NK 4) (pks (codesK l) NK) (codesK l))=S:=⟨_,rfl⟩
 have z1:S1.size=32:=by rw [<-hS1,Zaf,Zac]
 have z2:S2.size=24:=by rw [<-hS2,Zaf,Zac]
 have z3:S3.size<=272:=by rw [<-hS3,Zaf];exact hub
 have z4:S4.size<=400000:=by rw [<-hS4,Zaf];omega
 have HALL:Hid (txt (allK l O sum)=S1++⟨#[48]⟩++S2++S3++S4):=zh (by
  rw [<-hS1,<-hS2,<-hS3,<-hS4,show(⟨#[48]⟩:ByteArray)=txt [false] from rfl,Zal,Zal,Zal,Zal];unfold allK rowK;rw [hNK])
 have HCL:Hid ((codesK l).length<=1000):=zh (by omega);have HRB:=zh (fun a len c W (hI:IsInts W (.slice a len c) (codesK l)) (hlen:(codesK l).length=len)=>ZkD a len c (codesK l) NK W hI hlen (by have:=HCL.out;omega) HMK.out);rw [hS4] at HRB;rw [hS3] at HUB
 have HF:Hid (∀W (X n:Int) (r:ByteArray),((X=(sum:Int)/\n=32/\r=S1)\/(X=(O:Int)/\n=24/\r=S2))->Calls Tryz.prog 59 #[.int .u32 X,.int .i64 n] W fun e w'=>e=.returned (.string r)/\Below W.heap.size W w'):=zh (fun W X n r h=>by
  rcases h with⟨rfl,rfl,rfl⟩|⟨rfl,rfl,rfl⟩
  ·rw [<-hS1];exact(ZaN sum 32 W (by omega) hsum).mono (fun e w' h=>⟨h.1,h.2▸Below.refl _ _⟩)
  ·rw [<-hS2];exact(ZaN O 24 W (by omega) (by omega)).mono (fun e w' h=>⟨h.1,h.2▸Below.refl _ _⟩))
 rw [hl];have hg:=heap_alloc_new w (.cells #[.string s,.int .i64 (O:Int),.int .u32 (sum:Int)] 37);have c0:(w.alloc (.cells #[.string s,.int .i64 (O:Int),.int .u32 (sum:Int)] 37)).cell? ⟨w.heap.size,0,none⟩=some (.string s):=by rw [cell_of_row _ _ 0 _ _ _ hg];rfl
 have HG:=zh hg;have HB0:=zh ((Below.refl w.heap.size w).alloc (Nat.le_refl _) (.cells #[.string s,.int .i64 (O:Int),.int .u32 (sum:Int)] 37));have HZ:Hid ((w.alloc (.cells #[.string s,.int .i64 (O:Int),.int .u32 (sum:Int)] 37)).heap.size=w.heap.size+1):=zh (by simp);clear hSy hSl hSz h256 hpos hpl hcl hub hsum hl hll hne hNK hal hS1 hS2 hS3 hS4 hg;go_enter Tryz.func20,Tryz.ntmps20;go_wp2_with fail;generalize w.alloc (.cells #[.string s,.int .i64 (O:Int),.int .u32 (sum:Int)] 37)=w0 at *;obtain⟨B,hB⟩:∃B,w.heap.size=B:=⟨_,rfl⟩
 rw [hB] at c0 HG HB0 HZ ⊢;refine(HSY.out _).mono ?_;rintro e w1 ⟨rfl,hb1⟩;have HT1:=zh hb1;have HB1:=zh (HB0.out.trans (hb1.mono (by have:=HB0.out.size;omega)));have g1:w1.heap[B]?=_:=(hb1.block B (by have:=HZ.out;omega)).trans HG.out;have HG1:=zh g1;have c0:w1.cell? ⟨B,0,none⟩=some (.string s):=by rw [cell_of_row _ _ 0 _ _ _ g1];rfl
 clear hb1 g1;go_wp2_with fail;refine(HEN.out _).mono ?_;rintro e w2 ⟨u2,zs2,er2,rfl,hi2,hb2,hp2⟩;obtain rfl:=HPP.out _ _ hp2;have HI2:=zh hi2;have HT2:=zh (HT1.out.trans (hb2.mono HT1.out.size));have HB2:=zh (HB1.out.trans (hb2.mono (by have:=HB1.out.size;omega)));clear hi2 hb2 hp2 c0;go_wp2_with fail;refine(HZN.out _ _ HI2.out).mono ?_;rintro e w3 ⟨u3,ys3,er3,rfl,hi3,hb3,hp3⟩;obtain rfl:=HCC.out _ _ hp3;have HI3:=zh hi3;have HT3:=zh (HT2.out.trans (hb3.mono HT2.out.size));have HB3:=zh (HB2.out.trans (hb3.mono (by have:=HB2.out.size;omega)));obtain⟨a3,cap3,rfl,_⟩:=hi3;obtain⟨L3,hL3⟩:∃n,(codesK l).length=n:=⟨_,rfl⟩
 have HL3:=zh hL3;rw [hL3] at HI3;clear hb3 hp3;rw [hL3];clear hL3
 go_upto_region 4 with fail
 have g3:=(HT3.out.block B (by have:=HZ.out;omega)).trans HG.out;have hsz3:B<w3.heap.size:=by have:=HT3.out.size;have:=HZ.out;omega
 have u1:∀sb:Beneath w3.heap.size w3,sb.val.cell? ⟨B,1,none⟩=some (.int .i64 (O:Int)):=fun sb=>Beneath.cell (by rw [cell_of_row _ _ 1 _ _ _ g3];rfl) (by show B<_;omega) sb
 have u2:∀sb:Beneath w3.heap.size w3,sb.val.cell? ⟨B,2,none⟩=some (.int .u32 (sum:Int)):=fun sb=>Beneath.cell (by rw [cell_of_row _ _ 2 _ _ _ g3];rfl) (by show B<_;omega) sb
 clear g3 hsz3;refine ZaF w3.heap.size w3 (Below.refl _ _) (by kernel_rfl) (by kernel_rfl) ?_
 repeat (go_big_quiet_step (first
  | (go_at_call 59;rename_i sb;exact Calls.beneath sb (Nat.le_refl _) (HF.out _ _ _ _ (by first|exact Or.inl ⟨rfl,rfl,rfl⟩|exact Or.inr ⟨rfl,rfl,rfl⟩)))
  | (go_at_call 60;rename_i sb;exact Calls.beneath sb (Nat.le_refl _) (HUB.out _))
  | (go_at_call 61;rename_i sb;exact Calls.beneath sb (Nat.le_refl _) (HRB.out _ _ _ _ (HI3.out.below sb.is) HL3.out))))
 refine wpQuiet_nil ?_;rintro _ ⟨sb,rfl⟩;have HB4:=zh (HB3.out.trans (sb.is.mono (by have:=HB3.out.size;omega)));clear u1 u2;generalize sb.val=w4 at *;go_wp2_with fail;go_ret;exact⟨by rw [HALL.out];rfl,by rw [hB];exact HB4.out⟩
end
section
namespace Opn
open Go.ChangeShapes Go.WideShapes Go.ChangeAt Go.RowKit Go.Deep
def GotIn (s:ByteArray) (o x:Int):Prop:=s.size<=maxLen/\(Lit.int .i64 o).wf=true/\(Lit.int .u32 x).wf=true
section
variable {H : Type} {enc : TypeId × Value -> H} {P : Program}
theorem open_got {W:World} {base:Nat} {t:TypeId} {v:Value} {d:DataW H} {p:List MemPlace} (hk:kinds P 2 t=some [.str,.int .i64,.int .u32]) (hu:(match P.underlying t with|some (.struct _)|some (.array _ _)=>true|_=>false)=true)
  (hv:Value.okWide P W .any base t v) (h:DataW.Trod enc P W 0 (fun _=>true) true t v d p):∃s o x,v=.agg #[.string s,.int .i64 o,.int .u32 x]/\GotIn s o x:=by
 obtain⟨cs,rfl,hall⟩:=ZfH 2 _ hk hu hv h;clear h hv;have e:cs=cs.toList.toArray:=by simp
 rw [e];clear e
 revert hall
 generalize cs.toList=l;intro hall;have hl:=hall.length
 obtain⟨x,y,z,rfl⟩:∃x y z,l=[x,y,z]:=by
  rcases l with _|⟨x,_|⟨y,_|⟨z,_|⟨u,r⟩⟩⟩⟩
  ·cases hl
  ·simp at hl
  ·simp at hl
  ·exact⟨_,_,_,rfl⟩
  ·simp at hl
 obtain⟨⟨s,e0,h0⟩,hx,hy,_⟩:=hall;obtain⟨o,e1,h1⟩:=hx;obtain⟨x,e2,h2⟩:=hy;exact⟨s,o,x,by rw [e0,e1,e2],h0,h1,h2⟩
end
end Opn
open Go.RowKit
end
section
open Go.RowKit BitM HufM CanM CodM UsedM MtfM TabM FreqM BlkM
def GotB (w:World) (k:Nat) (s:ByteArray) (o x:Int):Prop:=w.heap[k]?=some (.cells #[.string s,.int .i64 o,.int .u32 x] 34 (0,0))
theorem GotB.cells {w:World} {k:Nat} {s:ByteArray} {o x:Int} (h:GotB w k s o x):w.cell? ⟨k,0,none⟩=some (.string s)/\w.cell? ⟨k,1,none⟩=some (.int .i64 o)/\w.cell? ⟨k,2,none⟩=some (.int .u32 x):=by
 refine⟨?_,?_,?_⟩<;>(rw [cell_of_row _ _ _ _ _ _ h];rfl)
theorem blockTurned.bad (s:ByteArray) (o:Int) (sum:Nat) (w:World) (hB:Bnds w) (hs:s.size<=60) (h:s.size=0\/o<0\/(s.size:Int)<=o) :
  Calls Tryz.prog 4 #[.agg #[.string s,.int .i64 o,.int .u32 (sum:Int)]] w fun e w'=>e=.returned (.bool true)/\Below w.heap.size w w':=by
 have HLE:=zh (fun W (h:Bnds W)=>letter20_one W h);obtain⟨w0,hw0⟩:∃w0,w.alloc (.cells #[.string s,.int .i64 o,.int .u32 (sum:Int)] 34)=w0:=⟨_,rfl⟩
 have HG:Hid (GotB w0 w.heap.size s o sum):=zh (by unfold GotB;rw [<-hw0];exact heap_alloc_new _ _);have HB0:Hid (Below w.heap.size w w0):=zh (by rw [<-hw0];exact(Below.refl _ _).alloc (Nat.le_refl _) _);have hz0:Hid (w.heap.size<w0.heap.size):=zh (by rw [<-hw0];simp);have HBN:=zh (hB.below HB0.out);have HA:=zh (fun g W=>Zi6 g s o (sum:Int) W (by omega) h);obtain⟨c0,c1,c2⟩:=HG.out.cells;have h60:¬(60:Int)<(s.size:Int):=by omega
 have hcase:(s.toList.isEmpty=true)\/(s.toList.isEmpty=false/\o<0)\/(s.toList.isEmpty=false/\¬o<0/\(s.size:Int)<=o):=by
  by_cases hz:s.size=0
  ·left;rw [ZsU hz,ByteArray.toList_eq];rfl
  ·have he:=Zcn (s:=s) (by omega);by_cases ho:o<0
   ·exact Or.inr (Or.inl ⟨he,ho⟩)
   ·exact Or.inr (Or.inr ⟨he,ho,by omega⟩)
 clear hB h;go_enter Tryz.func4,Tryz.ntmps4;go_wp2_with fail;refine(Zcd w0).mono ?_;rintro e w1 ⟨rfl,hw1,hb1⟩;have W1:=zh hw1;have X1:=zh hb1;have G1:GotB w1 w.heap.size s o sum:=(hb1.block _ hz0.out).trans HG.out;have HG1:=zh G1;obtain⟨c0,c1,c2⟩:=G1.cells;clear hw1 hb1 G1 hw0;go_wp2_with fail;refine(HA.out _ _).mono ?_;rintro e w2 ⟨rfl,rfl⟩;go_wp2_with fail;refine(ZeK _ _ _ _ w2 W1.out).mono ?_;rintro e w3 ⟨rfl,rfl⟩;rw [show((([]:List Bool).length:Nat):Int)=0 from rfl];go_wp2_with fail;refine(Zg3 _ _ _ _ _ W1.out (by simp)).mono ?_;rintro e w5 ⟨rfl,v5,hw5,ht5,_⟩;have W5:=zh hw5;have X5:=zh (X1.out.trans (ht5.below X1.out.size (fun i hi=>(W1.out.lt i hi).2)));have H5:Hid (∀i,foot w0.heap.size v5 i->w0.heap.size<=i):=zh (fun i hi=>(hw5.lt i hi).2);clear hw5 ht5;go_wp2_with fail;refine(Ze9 _ _ _ _ w5 W5.out).mono ?_;rintro e w6 ⟨rfl,_,ht6⟩;have X6:=zh (X5.out.trans (ht6.below X5.out.size H5.out));have G6:GotB w6 w.heap.size s o sum:=(X6.out.block _ hz0.out).trans HG.out;obtain⟨c0,c1,c2⟩:=G6.cells;have HB6:=zh (HB0.out.trans (X6.out.mono HB0.out.size));have HN6:=zh (HBN.out.below X6.out);clear ht6 G6;rcases hcase with he|⟨he,ho⟩|⟨he,ho,ho2⟩
 all_goals
  go_wp2_with fail;refine(HLE.out _ HN6.out).mono ?_;rintro e w9 ⟨rfl,hb9⟩;have HB9:=zh (HB6.out.trans (hb9.mono HB6.out.size));clear hb9;go_wp2_with fail;go_ret;exact⟨rfl,HB9.out⟩
theorem blockTurned.good (s:ByteArray) (O:Nat) (sum:Nat) (w:World) (hB:Bnds w) (hs:s.size<=60) (ho:O<s.size) (hsum:sum<4294967296) :
  Calls Tryz.prog 4 #[.agg #[.string s,.int .i64 (O:Int),.int .u32 (sum:Int)]] w fun e w'=>e=.returned (.bool true)/\Below w.heap.size w w':=by
 have HLE:=zh (fun W (h:Bnds W)=>letter20_one W h);obtain⟨w0,hw0⟩:∃w0,w.alloc (.cells #[.string s,.int .i64 (O:Int),.int .u32 (sum:Int)] 34)=w0:=⟨_,rfl⟩
 have HG:Hid (GotB w0 w.heap.size s (O:Int) sum):=zh (by unfold GotB;rw [<-hw0];exact heap_alloc_new _ _);have HB0:Hid (Below w.heap.size w w0):=zh (by rw [<-hw0];exact(Below.refl _ _).alloc (Nat.le_refl _) _);have hz0:Hid (w.heap.size<w0.heap.size):=zh (by rw [<-hw0];simp);have HBN:=zh (hB.below HB0.out)
 have hne:s.data.toList≠[]:=fun e=>by
  have hl:s.data.toList.length=s.size:=by simp
  rw [e] at hl;simp at hl;omega
 have hql:=ZfF hne (by simp;omega) O sum;have HTU:=zh (fun g W (h:IsWriter W g (.slice none 0 0) [] 0) (h2:Bnds W) (h3:1<g)=>Zes g (.slice none 0 0) [] 0 s O sum W h h2 (by omega) ho hsum (by simp) h3);have HRB:=zh (fun W=>ZkE s O sum W (by omega) ho hsum);have HGR:=zh (fun W=>Zb4 s (O:Int) (sum:Int) W);obtain⟨Q,hQ⟩:∃Q,allK s.data.toList O sum=Q:=⟨_,rfl⟩
 rw [hQ] at hql HTU HRB;have HPK:=zh (fun W=>Zrc Q W (by omega));have hts:=Zaf Q;obtain⟨T,hT⟩:∃T:ByteArray,(⟨(byts (Q++padding Q)).toArray⟩:ByteArray)=T:=⟨_,rfl⟩
 rw [hT] at HPK;have HTE:=zh hT;obtain⟨S,hS⟩:∃S,txt Q=S:=⟨_,rfl⟩
 rw [hS] at hts HRB HPK;obtain⟨L,hL⟩:∃L,Q.length=L:=⟨_,rfl⟩
 rw [hL] at hts hql;have HL:=zh hL;have htsi:(S.size:Int)=(L:Int):=by omega
 have hnn:([]:List Bool)++Q=Q:=List.nil_append Q;rw [hnn] at HTU;obtain⟨c0,c1,c2⟩:=HG.out.cells;have hi:=ZbI #[.string s,.int .i64 (O:Int),.int .u32 (sum:Int)] rfl;have hu:=Tryz.underlying34;have h60:¬(60:Int)<(s.size:Int):=by omega
 have he:=Zcn (s:=s) (by omega);have ho1:¬(O:Int)<0:=by omega
 have ho2:¬(s.size:Int)<=(O:Int):=by omega
 clear hB hne hQ hT hS hL hnn;go_enter Tryz.func4,Tryz.ntmps4;go_wp2_with fail;refine(Zcd w0).mono ?_;rintro e w1 ⟨rfl,hw1,hb1⟩;have W1:=zh hw1;have X1:=zh hb1;have G1:GotB w1 w.heap.size s (O:Int) sum:=(hb1.block _ hz0.out).trans HG.out;obtain⟨c0,c1,c2⟩:=G1.cells;have N1:=zh (HBN.out.below hb1);clear hw1 hb1 G1 hw0;go_wp2_with fail;refine(HTU.out _ _ W1.out N1.out HBN.out.lt).mono ?_;rintro e w3 ⟨rfl,v3,hw3,ht3,_⟩;have W3:=zh hw3;have X3:=zh (X1.out.trans (ht3.below X1.out.size (fun i hi=>(W1.out.lt i hi).2)));clear hw3 ht3;go_wp2_with fail;refine(ZeK _ _ _ _ w3 W3.out).mono ?_;rintro e w4 ⟨rfl,rfl⟩;rw [HL.out];go_wp2_with fail;refine(Zg3 _ _ _ _ _ W3.out (by have:=HL.out;omega)).mono ?_;rintro e w5 ⟨rfl,v5,hw5,ht5,_⟩;have W5:=zh hw5;have X5:=zh (X3.out.trans (ht5.below X3.out.size (fun i hi=>(W3.out.lt i hi).2)));have H5:Hid (∀i,foot w0.heap.size v5 i->w0.heap.size<=i):=zh (fun i hi=>(hw5.lt i hi).2);clear hw5 ht5;go_wp2_with fail;refine(Ze9 _ _ _ _ w5 W5.out).mono ?_;rintro e w6 ⟨rfl,_,ht6⟩;rw [List.drop_zero,HTE.out];have X6:=zh (X5.out.trans (ht6.below X5.out.size H5.out));have G6:GotB w6 w.heap.size s (O:Int) sum:=(X6.out.block _ hz0.out).trans HG.out;obtain⟨c0,c1,c2⟩:=G6.cells;have HB6:=zh (HB0.out.trans (X6.out.mono HB0.out.size));have HN6:=zh (HBN.out.below X6.out);clear ht6;unfold GotB at G6;go_wp2_with (first|(refine wpList_load_row rfl 34 _ rfl w.heap.size rfl 34 #[.string s,.int .i64 (O:Int),.int .u32 (sum:Int)] (0,0) _ G6 hu rfl hi ?_));refine(HGR.out _).mono ?_;rintro e w7 ⟨rfl,hb7⟩;have HB7:=zh (HB6.out.trans (hb7.mono HB6.out.size));have HN7:=zh (HN6.out.below hb7);clear hb7 G6;go_wp2_with fail;refine(HRB.out _).mono ?_;rintro e w8 ⟨rfl,hb8⟩;have HB8:=zh (HB7.out.trans (hb8.mono HB7.out.size));have HN8:=zh (HN7.out.below hb8);clear hb8;have hLL:((L:Int)==(L:Int))=true:=by simp
 have htt:(T.toList==T.toList)=true:=by simp
 go_wp2_with fail;refine(HPK.out _).mono ?_;rintro e w9 ⟨rfl,hb9⟩;have HB9:=zh (HB8.out.trans (hb9.mono HB8.out.size));have HN9:=zh (HN8.out.below hb9);clear hb9;go_wp2_with fail;refine(HLE.out _ HN9.out).mono ?_;rintro e w10 ⟨rfl,hb10⟩;have HB10:=zh (HB9.out.trans (hb10.mono HB9.out.size));clear hb10;go_wp2_with fail;go_ret;exact⟨rfl,HB10.out⟩
theorem blockTurned.far (s:ByteArray) (o:Int) (sum:Nat) (w:World) (hB:Bnds w) (hs:60<s.size) :
  Calls Tryz.prog 4 #[.agg #[.string s,.int .i64 o,.int .u32 (sum:Int)]] w fun e w'=>e=.returned (.bool true)/\Below w.heap.size w w':=by
 have HLE:=zh (fun W (h:Bnds W)=>letter20_one W h);obtain⟨w0,hw0⟩:∃w0,w.alloc (.cells #[.string s,.int .i64 o,.int .u32 (sum:Int)] 34)=w0:=⟨_,rfl⟩
 have HG:Hid (GotB w0 w.heap.size s o sum):=zh (by unfold GotB;rw [<-hw0];exact heap_alloc_new _ _);have HB0:Hid (Below w.heap.size w w0):=zh (by rw [<-hw0];exact(Below.refl _ _).alloc (Nat.le_refl _) _);have HBN:=zh (hB.below HB0.out);obtain⟨c0,c1,c2⟩:=HG.out.cells;have h60:(60:Int)<(s.size:Int):=by omega
 clear hB;go_enter Tryz.func4,Tryz.ntmps4;go_wp2_with fail;refine(HLE.out _ HBN.out).mono ?_;rintro e w9 ⟨rfl,hb9⟩;have HB9:=zh (HB0.out.trans (hb9.mono HB0.out.size));clear hb9;go_wp2_with fail;go_ret;exact⟨rfl,HB9.out⟩
theorem blockTurned.walk (s:ByteArray) (o x:Int) (w:World) (hB:Bnds w) (h:Opn.GotIn s o x) :
  Calls Tryz.prog 4 #[.agg #[.string s,.int .i64 o,.int .u32 x]] w fun e w'=>e=.returned (.bool true)/\Below w.heap.size w w':=by
 have hx:0<=x/\x<=4294967295:=by simpa [Lit.wf,IntKind.min,IntKind.max,IntKind.signed,IntKind.bits] using h.2.2
 obtain⟨X,rfl⟩:∃X:Nat,x=(X:Int):=⟨x.toNat,by omega⟩
 by_cases h60:60<s.size
 ·exact blockTurned.far s o X w hB h60
 ·by_cases hb:s.size=0\/o<0\/(s.size:Int)<=o
  ·exact blockTurned.bad s o X w hB (by omega) hb
  ·obtain⟨O,rfl⟩:∃O:Nat,o=(O:Int):=⟨o.toNat,by omega⟩
   exact blockTurned.good s O X w hB (by omega) (by omega) (by omega)
end
end Go.Proofs.YtnachbjhhpnadaaGreatDoor

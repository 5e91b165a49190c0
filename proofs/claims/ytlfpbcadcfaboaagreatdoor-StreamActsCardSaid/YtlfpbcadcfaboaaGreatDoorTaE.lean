import Derived.Test.YtlfpbcadcfaboaaGreatDoorTaA
import Derived.Test.YtlfpbcadcfaboaaGreatDoorTaB
import Derived.Test.YtlfpbcadcfaboaaGreatDoorTaD
import Derived.Test.YtlfpbcadcfaboaaGreatDoorTcA
import Derived.Test.YtlfpbcadcfaboaaGreatDoorTcB
import Derived.Test.YtlfpbcadcfaboaaGreatDoorTcC
import Derived.Test.YtlfpbcadcfaboaaGreatDoorTcD
import Derived.Test.YtlfpbcadcfaboaaGreatDoorTcE
import Derived.Test.YtlfpbcadcfaboaaGreatDoorTcF
import Derived.Test.YtlfpbcadcfaboaaGreatDoorTcG
import Derived.Test.YtlfpbcadcfaboaaGreatDoorTcH
import Derived.Test.YtlfpbcadcfaboaaGreatDoorTcI
import Derived.Test.YtlfpbcadcfaboaaGreatDoorTcJ
import Derived.Test.YtlfpbcadcfaboaaGreatDoorTcK
import Derived.Test.YtlfpbcadcfaboaaGreatDoorTcL
import Derived.Test.YtlfpbcadcfaboaaGreatDoorTcM
import Derived.Test.YtlfpbcadcfaboaaGreatDoorTcN
import Derived.Test.YtlfpbcadcfaboaaGreatDoorTcO
import Derived.Test.YtlfpbcadcfaboaaGreatDoorTcP
import Derived.Test.YtlfpbcadcfaboaaGreatDoorTcQ
import Derived.Test.YtlfpbcadcfaboaaGreatDoorTcR
import Derived.Test.YtlfpbcadcfaboaaGreatDoorTcS
import Derived.Test.YtlfpbcadcfaboaaGreatDoorTcT
import Derived.Test.YtlfpbcadcfaboaaGreatDoorTcU
import Derived.Deep.RegionWith
import Derived.Deep.RegionLaw
import Derived.Deep.QuietTactic
import Derived.Outline
import Derived.IntWalk
import Derived.Shelf.Abstract
import Derived.Test.YtlfpbcadcfaboaaGreatDoorProg
import Derived.Shelf.Strings.Builder1
import Derived.Shelf.Strings.Builder2
import Derived.Shelf.Strings.BuilderF
import Derived.Shelf.Strings.BuilderK
import Derived.Shelf.Strings.Builder2Cap
import Derived.Shelf.Strings.BuilderCap
import Derived.StillTailTactics
import Derived.BigQuiet
import Derived.Deep.AppendSrc
import Derived.Deep.Upon
import Derived.Deep.RegionHeld3
import Derived.ChangeKeysEq
import Derived.Lib.BufferWrite
import Derived.Laws.StandIn
import Derived.Laws.OwnMore
import Derived.WalkKit
import Derived.BigRegion
import Derived.Laws.CopyRow
import Derived.Deep.Cut
import Derived.Lib.SliceRun
import Derived.Deep.LoopGhost
import Derived.Laws.BitsAllLaws
import Derived.Deep.MidRow
import Derived.Laws.EntriesVeiled
import Derived.WalkMore
import Derived.Shelf.Strconv.Itoa0
set_option linter.unusedVariables false
set_option linter.unusedSimpArgs false
set_option maxHeartbeats 8000000
set_option maxRecDepth 100000
namespace Go.Proofs.YtlfpbcadcfaboaaGreatDoor
section
open Go.RowKit RleM SplM BitM
theorem TwOk.pad {w:World} {t g sum:Nat} {en:Bool} {v:Value} {q:List Bool} {tk:Nat} (h:TwOk w t g sum en v q tk) (hq:q.length<=1099511627776) :
  Calls Tryz.prog 46 #[.pointer (some ⟨g,0,none⟩)] w fun e w'=>e=.returned (.tuple #[])/\Tws (fun _=>False) w t g v sum en (q++padding q) tk w':=by
 refine(Zf0 g v q tk w h.2.1 hq).mono ?_;rintro e w2 ⟨rfl,v2,k1,k2,k3⟩;exact⟨rfl,h.bits k1 k2 k3⟩
theorem TwOk.end_ {w:World} {t g sum:Nat} {en:Bool} {v:Value} {q:List Bool} {tk:Nat} (h:TwOk w t g sum en v q tk):Tws (fun _=>False) w t g v sum true q tk (w.setCell ⟨t,2,none⟩ (.bool true)):=
 h.cell 2 _ (heap_setCell_same w t 2 _ _ _ h.1)
def tailQ:List Bool:=field 1536581 24++field 3690640 24
theorem tmagicE {t g sum:Nat} {en:Bool} {v:Value} {q:List Bool} {tk:Nat} (w:World) (h:TwOk w t g sum en v q tk) (hq:q.length<=1000000000):Calls Tryz.prog 45 #[.pointer (some ⟨t,0,none⟩),.int .u64 25779555029136] w fun e w'=>e=.returned (.tuple #[])/\Tws (fun _=>False) w t g v sum en (q++tailQ) tk w':=by
 obtain⟨c0,_⟩:=h.1.cells;have HP:=zh (h.put 1536581 24 1536581 24 rfl rfl (by omega) (by omega) (by omega));clear h;go_enter Tryz.func45,Tryz.ntmps45;go_wp2_with fail;refine HP.out.mono ?_;rintro e w1 ⟨rfl,v1,h1,ht1,ho1⟩;obtain⟨c0,_⟩:=h1.1.cells;have HP2:=zh (h1.put 3690640 24 3690640 24 rfl rfl (by omega) (by omega) (by rw [List.length_append,Zaa];omega));have HT1:=zh ht1;have HO1:=zh ho1;clear h1 ht1 ho1;go_wp2_with fail;refine HP2.out.mono ?_;rintro e w2 ⟨rfl,h2⟩;have H2:=zh (Tws.comp HT1.out HO1.out h2 (fun k hk=>hk.elim));clear h2;go_wp2_with fail;go_end0;refine⟨rfl,?_⟩;have:=H2.out
 rwa [List.append_assoc] at this
end
section
open Go.RowKit RleM SplM BitM CrcM
theorem ZiY {t g sum:Nat} {v:Value} {q:List Bool} {tk:Nat} (x f:Value) (w:World) (h:TwOk w t g sum true v q tk):Calls Tryz.prog 39 #[.pointer (some ⟨t,0,none⟩),x,f] w fun e w'=>e=.returned (.int .i64 7)/\w'=w:=by
 have HO:=zh (Zdr w h);clear h;go_enter Tryz.func39,Tryz.ntmps39;go_wp2_with fail;refine HO.out.mono ?_;rintro e w1 ⟨rfl,rfl⟩;go_wp2_with fail;go_ret;exact⟨rfl,rfl⟩
theorem ZjH {t g sum:Nat} {v:Value} {q:List Bool} {tk:Nat} (x:Value) (F:FuncId) (caps:Array Value) (c:Int) (w:World) (h:TwOk w t g sum false v q tk) (hc:c≠0)
  (he:∀args w,(callFunc F args).run Tryz.prog w=.ok (.enter F args) w)
  (hput:∀w1,Below w.heap.size w w1->IsWriter w1 w.heap.size (.slice none 0 0) [] 0->Calls Tryz.prog F (#[.pointer (some ⟨w.heap.size,0,none⟩)]++caps) w1 fun e w'=>e=.returned (.int .i64 c)/\Below w.heap.size w1 w') :
  Calls Tryz.prog 39 #[.pointer (some ⟨t,0,none⟩),x,.func (.func F) #[] caps] w fun e w'=>e=.returned (.int .i64 c)/\Below w.heap.size w w':=by
 have HO:=zh (Zdr w h);have HPUT:=zh hput;clear h hput;go_enter Tryz.func39,Tryz.ntmps39;go_wp2_with fail;refine HO.out.mono ?_;rintro e w0 ⟨rfl,rfl⟩;go_wp2_with fail;refine(ZdD w0).mono ?_;rintro e w1 ⟨rfl,hw1,hb1⟩;have HP:=zh (HPUT.out w1 hb1 hw1);have HB1:=zh hb1;clear hw1 hb1;obtain⟨b,hb⟩:∃b,w0.heap.size=b:=⟨_,rfl⟩
 rw [hb] at HP HB1 ⊢;go_wp2_with fail;refine HP.out.mono ?_;rintro e w2 ⟨rfl,hb2⟩;have HB2:=zh (HB1.out.trans hb2);clear hb2;go_wp2_with fail;go_ret;exact⟨rfl,by rw [hb];exact HB2.out⟩
end
section
open Go.RowKit BitM UsedM
theorem Ze6 (l:List UInt8) (k:Nat) (h:k<l.length):has (l.take (k+1))=put (has (l.take k)) l[k].toNat:=by
 rw [List.take_succ_eq_append_getElem h,Zg1]
theorem ZbY (s:ByteArray) (n:Nat) (w:World) (hs:s.size<=9223372036854775807) :
  Calls Tryz.prog 107 #[.string s,.int .i64 (n:Int)] w fun e w'=>e=.returned (.bool (has s.data.toList n))/\w=w':=by
 go_enter Tryz.func107,Tryz.ntmps107;go_wp2_with fail
 go_loop [5] (fun i=>∃k:Nat,k<=s.size/\i=.int .i64 k/\has (s.data.toList.take k) n=false) (fun i=>s.size-(intOf i).toNat)
 case atStart=>exact⟨0,by omega,rfl,by simp [has]⟩
 case round=>
  obtain⟨k,hk,rfl,hn⟩:=hrel;by_cases hlt:k<s.size
  ·have ht:=Ze6 s.data.toList k (by simpa using hlt);have hc:=s[k].toNat_lt;have hsk:s.data.toList[k]'(by simpa using hlt)=s[k]:=rfl;rw [hsk] at ht;by_cases he:s[k].toNat=n
   ·have hr:has s.data.toList n=true:=by
     have h1:=Zfv s.data.toList s[k];rw [he] at h1;rw [h1,<-hsk];exact List.getElem_mem _
    have hd:((s[k].toNat:Int)==(n:Int))=true:=by rw [beq_iff_eq];omega
    have HRR:=zh hr;clear hn ht hsk hr;go_wp2_with fail;go_ret;exact⟨by rw [HRR.out];rfl,rfl⟩
   ·have hd:((s[k].toNat:Int)==(n:Int))=false:=by rw [beq_eq_false_iff_ne];omega
    have hn2:has (s.data.toList.take (k+1)) n=false:=by
     rw [ht];unfold put;rw [hn];simp only [Bool.false_or,beq_eq_false_iff_ne];omega
    have HN:=zh hn2;clear hn ht hsk hn2;go_wp2_with fail
    go_round
    case rel=>exact⟨k+1,by omega,by go_num,HN.out⟩
    case measure=>simp [intOf];omega
  ·obtain rfl:k=s.size:=by omega
   rw [List.take_of_length_le (by simp)] at hn;have HRR:=zh hn;clear hn;go_wp2_with fail;go_ret;exact⟨by rw [HRR.out];rfl,rfl⟩
theorem ZaI (s:ByteArray) (w:World) (hs:s.size<=9223372036854775807) :
  Calls Tryz.prog 69 #[.string s] w fun e w'=>e=.returned (.string ⟨(syms (has s.data.toList) 256).toArray⟩)/\Below w.heap.size w w':=by
 have HT:=zh (fun n w=>ZbY s n w hs);obtain⟨S,hS⟩:∃S,has s.data.toList=S:=⟨_,rfl⟩
 simp only [hS] at HT ⊢;clear hS;go_enter Tryz.func69,Tryz.ntmps69;go_wp2_with fail
 go_loopw [3,5] (fun o i wr=>∃k:Nat,k<=256/\i=.int .i64 k/\o=.string ⟨(syms S k).toArray⟩/\Below w.heap.size w wr) (fun _ i _=>256-(intOf i).toNat)
 case atStart=>exact⟨0,by omega,rfl,rfl,Below.refl _ _⟩
 case round=>
  obtain⟨k,hk,rfl,rfl,hB⟩:=hrel;have HB:=zh hB;clear hB;by_cases hlt:k<256
  ·have hk2:(k:Int)<256:=by omega
   have hw:IntKind.u8.wrap (k:Int)=(k:Int):=IntWalk.u8_in _ (by omega);have HSU:=zh (ZdT S k);have hlen:(⟨(syms S k).toArray⟩:ByteArray).size<=256:=by rw [Zaj];exact Nat.le_trans (Zgx S k) hk
   have hx:(UInt8.ofNat k).toNat=k:=by rw [UInt8.toNat_ofNat',Nat.mod_eq_of_lt (by omega)]
   have hx1:(⟨#[UInt8.ofNat k]⟩:ByteArray).size=1:=rfl;have hcv:=Za3 wr (UInt8.ofNat k) (k:Int) (by rw [hx]);have HAP:=zh (Zaw (syms S k) [UInt8.ofNat k]);by_cases hsk:S k=true
   ·have HS2:=HSU.out;rw [if_pos hsk] at HS2;have HS3:=zh HS2;generalize hO:(⟨(syms S k).toArray⟩:ByteArray)=O at *;clear HS2 hx;go_wp2_with fail;refine(HT.out k wr).mono ?_;rw [hsk];clear hsk;rintro e w' ⟨rfl,rfl⟩;go_wp2_with fail;go_roundw
    case rel=>exact⟨k+1,by omega,by go_num,by rw [HS3.out];exact congrArg Value.string HAP.out,HB.out.alloc HB.out.size _⟩
    case measure=>simp [intOf];omega
   ·have hsf:S k=false:=by simpa using hsk
    have HS2:=HSU.out;rw [hsf] at HS2;have HS3:=zh HS2;clear HS2 hx hsk hcv;go_wp2_with fail;refine(HT.out k wr).mono ?_;rw [hsf];clear hsf;rintro e w' ⟨rfl,rfl⟩;go_wp2_with fail;go_roundw
    case rel=>exact⟨k+1,by omega,by go_num,by rw [HS3.out];rfl,HB.out⟩
    case measure=>simp [intOf];omega
  ·obtain rfl:k=256:=by omega
   go_wp2_with fail;go_ret;exact⟨rfl,HB.out⟩
theorem ZbZ (s:ByteArray) (r:Bool) (w:World) (hs:s.size<=9223372036854775807) (hr:r=true↔IsSyms s.data.toList) :
  Calls Tryz.prog 108 #[.string s] w fun e w'=>e=.returned (.bool r)/\Below w.heap.size w w':=by
 by_cases h0:0<s.size
 ·have heq:=ZaU ⟨(syms (has s.data.toList) 256).toArray⟩ s r (by
   rw [hr,Zdf];constructor
   ·intro h;rw [h.2]
   ·intro h;have h2:(syms (has s.data.toList) 256)=s.data.toList:=congrArg (fun b:ByteArray=>b.data.toList) h;refine⟨fun e=>?_,h2⟩;have:s.data.toList.length=s.size:=rfl;rw [e] at this;simp at this;omega)
  have HT:=zh (ZaI s w hs);generalize (⟨(syms (has s.data.toList) 256).toArray⟩:ByteArray)=T at *;go_enter Tryz.func108,Tryz.ntmps108;go_wp2_with fail;refine HT.out.mono ?_;rintro e w1 ⟨rfl,hb⟩;have HB:=zh hb;clear hb;go_wp2_with fail;go_ret;exact⟨rfl,HB.out⟩
 ·have hz:s.size=0:=by omega
  have hrf:r=false:=by
   rw [Bool.eq_false_iff,Ne,hr];intro h;exact h.2 (List.eq_nil_of_length_eq_zero hz)
  subst hrf;obtain rfl:s=⟨#[]⟩:=ByteArray.ext (Array.eq_empty_of_size_eq_zero hz);clear hr hz h0 hs;go_enter Tryz.func108,Tryz.ntmps108;go_wp2_with fail;go_ret;exact⟨rfl,Below.refl _ _⟩
end
section
open Go.RowKit UsedM MtfM
theorem ZbF (s t:ByteArray) (w:World) (hs:s.size<=300) (ht:t.size<=9223372036854775807) :
  Calls Tryz.prog 70 #[.string s,.string t] w fun e w'=>∃(v:Value) (zs:List Int) (err:Nat),e=.returned (.tuple #[v,.int .i64 (err:Int)])/\IsInts w' v zs/\Below w.heap.size w w'/\mtEncP s.data.toList t.data.toList zs err:=by
 by_cases hy:IsSyms t.data.toList
 ·have htz:t.size<=256:=Zfx hy;have HIS:=zh (fun w=>ZbZ t true w ht ⟨fun _=>hy,fun _=>rfl⟩);have hlt:t.data.toList.length=t.size:=rfl;have hls:s.data.toList.length=s.size:=rfl;have hsi:(s.size:Int)<=300:=by omega
  obtain⟨i0,hi,hz0,hz1,hz2⟩:=info_parts Zdn;have HI:=zh hi;have HZ0:=zh hz0;have HZ1:=zh hz1;have HZ2:=zh hz2;clear hi hz0 hz1 hz2;go_enter Tryz.func70,Tryz.ntmps70;go_wp2_with fail;refine(HIS.out w).mono ?_;rintro e w1 ⟨rfl,hb⟩;have HB:=zh hb;clear hb;go_wp2_with fail
  go_loopw [6,7,8] (fun o d i wr=>∃(k:Nat) (zs:List Int) (m:List UInt8) (v:Value),k<=s.size/\i=.int .i64 k/\d=.string ⟨m.toArray⟩/\o=v/\mtencK t.data.toList s.data.toList k=some (zs,m)/\wr.ownsRow w.heap.size 3 1 v k (zs.map iv64)/\Below w.heap.size w wr) (fun _ _ i _=>s.size-(intOf i).toNat)
  case atStart=>exact⟨0,[],t.data.toList,_,by omega,rfl,congrArg Value.string (ZgA t),rfl,rfl,World.ownsRow_nil _ _ _ _,HB.out⟩
  case round=>
   clear HB;obtain⟨k,zs,m,v,hk,rfl,rfl,rfl,he,hO,hB⟩:=hrel;have HE:=zh he;have HO:=zh hO;have HB:=zh hB;clear he hO hB;by_cases hlk:k<s.size
   ·have hki:(k:Int)<(s.size:Int):=by omega
    have hgd:s.data.toList.getD k 0=s[k]:=by
     rw [List.getD_eq_getElem?_getD,List.getElem?_eq_getElem (by simpa using hlk)];rfl
    have hlen:=ZtM _ _ _ _ _ HE.out;have hml:m.length<=256:=by omega
    have hstep:=ZtL t.data.toList s.data.toList k;rw [HE.out,hgd] at hstep;have HST:=zh hstep;have HPL:=zh (fun w=>Zb0 ⟨m.toArray⟩ s[k] w (by rw [Zaj];omega));clear hstep hgd;have hxk:=s[k].toNat_lt;have hmt:(⟨m.toArray⟩:ByteArray).data.toList=m:=rfl;rw [hmt] at HPL;rcases ZbU m s[k] with hp|⟨o,hp,ho,hx⟩
    ·have hnone:mtencK t.data.toList s.data.toList (k+1)=none:=by rw [HST.out];simp only [hp];rfl
     have hfin:mtencK t.data.toList s.data.toList s.size=none:=by
      have:=ZtN t.data.toList s.data.toList (s.size-(k+1)) (k+1) hnone
      rwa [show k+1+(s.size-(k+1))=s.size by omega] at this
     have HF:=zh hfin;rw [hp] at HPL;clear hnone hfin hp hlen hmt;generalize (⟨m.toArray⟩:ByteArray)=T at *;go_wp2_with fail;refine(HPL.out wr).mono ?_;rintro e w' ⟨rfl,rfl⟩;go_wp2_with fail;go_ret2;exact⟨_,[],6,rfl,IsInts.nil _,HB.out,Or.inr (Or.inl ⟨hy,HF.out,rfl,rfl⟩)⟩
    ·have hsome:mtencK t.data.toList s.data.toList (k+1)=some (zs++[(o:Int)],touch m o):=by
      rw [HST.out];simp only [hp];rw [if_neg (by omega)];rfl
     have HS:=zh hsome;rw [hp] at HPL;have HTO:=zh (fun w=>Zbt m o w ho hml);have hbw:w.heap.size<=wr.heap.size:=HB.out.size;clear hsome hp hx hmt;generalize (⟨m.toArray⟩:ByteArray)=T at *;go_wp2_with fail;refine(HPL.out wr).mono ?_;rintro e w' ⟨rfl,rfl⟩;go_wp2_with (at_builtin;refine wpList_append_own _ rfl _ _ 106 rfl w.heap.size 3 i0 (.int .i64 0) 1 8 Tryz.underlying106 HI.out HZ0.out HZ1.out HZ2.out rfl (by decide) _ _ _ rfl (HO.out.alloc _) ⟨wr.heap.size,0,none⟩ 1 1 [.int .i64 (o:Int)] rfl rfl ?c1 ?c2 ?c3 ?c4 ?c5 ?_)
     case c1=>exact ZaB _ _ _ _ rfl
     case c2=>intro u hu;simp at hu;subst hu;rfl
     case c3=>unfold maxLen;omega
     case c4=>omega
     case c5=>simp;omega
     intro v' w2 hown' hgrow _;have HO2:=zh hown';have HB2:=zh (HB.out.trans (Below.grown ((Below.refl w.heap.size wr).alloc hbw _) hgrow (by simp;omega) (fun j hj=>(HO.out.lt j hj).1)));clear hown' hgrow;go_wp2_with fail;refine(HTO.out w2).mono ?_;rintro e w3 ⟨rfl,n,rfl⟩;have HB3:=zh (HB2.out.trans ((Zas w2 n).mono HB2.out.size))
     have HO3:Hid ((w2.drewN n).ownsRow w.heap.size 3 1 v' (k+1) ((zs++[(o:Int)]).map iv64)):=zh (by
      rw [List.map_append];exact HO2.out)
     go_wp2_with fail;go_roundw
     case rel=>exact⟨k+1,_,_,_,by omega,by go_num,rfl,rfl,HS.out,HO3.out,HB3.out⟩
     case measure=>simp [intOf];omega
   ·obtain rfl:k=s.size:=by omega
    go_wp2_with fail;go_ret2;exact⟨_,zs,0,rfl,ZdS HO.out,HB.out,Or.inr (Or.inr ⟨hy,⟨m,HE.out⟩,rfl⟩)⟩
 ·have HIS:=zh (fun w=>ZbZ t false w ht ⟨fun e=>(by cases e),fun e=>absurd e hy⟩);go_enter Tryz.func70,Tryz.ntmps70;go_wp2_with fail;refine(HIS.out w).mono ?_;rintro e w1 ⟨rfl,hb⟩;have HB:=zh hb;clear hb;go_wp2_with fail;go_ret2;exact⟨_,[],1,rfl,IsInts.nil _,HB.out,Or.inl ⟨hy,rfl,rfl⟩⟩
end
section
open Go.RowKit BitM UsedM
def whichK (S:Nat->Bool) (k:Nat):List Bool:=(List.range k).map (Zbz S)
theorem ZbG (S:Nat->Bool) (k:Nat):(whichK S k).length=k:=by simp [whichK]
theorem Zcr (S:Nat->Bool) (k:Nat):whichK S (k+1)=whichK S k++[Zbz S k]:=by unfold whichK;rw [List.range_succ,List.map_append];rfl
def rowJ (S:Nat->Bool) (i j:Nat):List Bool:=(List.range j).map fun k=>S (16*i+k)
theorem Zcs (S:Nat->Bool) (i j:Nat):(rowJ S i j).length=j:=by simp [rowJ]
theorem Zb1 (S:Nat->Bool) (i j:Nat):rowJ S i (j+1)=rowJ S i j++[S (16*i+j)]:=by unfold rowJ;rw [List.range_succ,List.map_append];rfl
theorem Ze7 (S:Nat->Bool) (i j:Nat):(rowJ S i (j+1)).any id=((rowJ S i j).any id || S (16*i+j)):=by rw [Zb1,List.any_append];simp
theorem Zb2 (q:List Bool):txt q++⟨#[49]⟩=txt (q++[true]):=by rw [show(⟨#[49]⟩:ByteArray)=txt [true] from rfl,Zab]
theorem Zbu (q:List Bool):txt q++⟨#[48]⟩=txt (q++[false]):=by rw [show(⟨#[48]⟩:ByteArray)=txt [false] from rfl,Zab]
theorem Zct (s:ByteArray) (w:World) (hs:s.size<=9223372036854775807) :
  Calls Tryz.prog 72 #[.string s] w fun e w'=>e=.returned (.string (txt (ubits (has s.data.toList))))/\w=w':=by
 have HT:=zh (fun n w=>ZbY s n w hs);obtain⟨S,hS⟩:∃S,has s.data.toList=S:=⟨_,rfl⟩
 simp only [hS] at HT ⊢;clear hS;have h491:(⟨#[49]⟩:ByteArray).size=1:=rfl;have h481:(⟨#[48]⟩:ByteArray).size=1:=rfl;go_enter Tryz.func72,Tryz.ntmps72;go_wp2_with fail
 go_loop [3,4,9] (fun a b i=>∃k:Nat,k<=16/\i=.int .i64 k/\a=.string (txt (whichK S k))/\b=.string (txt (rows S k))) (fun _ _ i=>16-(intOf i).toNat)
 case atStart=>exact⟨0,by omega,rfl,rfl,rfl⟩
 case round=>
  obtain⟨k,hk,rfl,rfl,rfl⟩:=hrel;have z1:(txt (whichK S k)).size<=16:=by rw [Zac,ZbG];exact hk
  have z2:(txt (rows S k)).size<=256:=by rw [Zac,Zcj];have:=Zfp S k;omega
  by_cases hlt:k<16
  ·have hk2:(k:Int)<16:=by omega
   have HW1:=zh (Zb2 (whichK S k));have HW0:=zh (Zbu (whichK S k));have HWS:=zh (Zcr S k);have HRS:=zh (UsedM.ZtH S k);have HRA:=zh (Zab (rows S k) (row S k));generalize txt (whichK S k)=TW at *;generalize hTR:txt (rows S k)=TR at *;have HTR:=zh hTR;clear hTR;go_wp2_with fail
   go_loop [6,7,12] (fun r o i=>∃j:Nat,j<=16/\i=.int .i64 j/\r=.string (txt (rowJ S k j))/\o=.bool ((rowJ S k j).any id)) (fun _ _ i=>16-(intOf i).toNat)
   case atStart=>exact⟨0,by omega,rfl,rfl,rfl⟩
   case round=>
    obtain⟨j,hj,rfl,rfl,rfl⟩:=hrel;have z3:(txt (rowJ S k j)).size<=16:=by rw [Zac,Zcs];exact hj
    by_cases hlj:j<16
    ·have hj2:(j:Int)<16:=by omega
     have hsum:(16:Int)*(k:Int)+(j:Int)=((16*k+j:Nat):Int):=by omega
     have H1:=zh (Zb2 (rowJ S k j));have H0:=zh (Zbu (rowJ S k j));have HS1:=zh (Zb1 S k j);have HA:=zh (Ze7 S k j);generalize txt (rowJ S k j)=TJ at *;obtain⟨m,hm⟩:∃m,16*k+j=m:=⟨_,rfl⟩
     rw [hm] at hsum HS1 HA;go_wp2_with fail;refine(HT.out m w).mono ?_;by_cases hSm:S m=true
     ·have HS2:=HS1.out;have HA2:=HA.out;rw [hSm] at HS2 HA2 ⊢;have HS3:=zh HS2;have HA3:=zh HA2;clear hSm HS2 HA2;rintro e w' ⟨rfl,rfl⟩;go_wp2_with fail
      go_round
      case rel=>exact⟨j+1,by omega,by go_num,by rw [HS3.out,H1.out],by rw [HA3.out,Bool.or_true]⟩
      case measure=>simp [intOf];omega
     ·have hSf:S m=false:=by simpa using hSm
      have HS2:=HS1.out;have HA2:=HA.out;rw [hSf] at HS2 HA2 ⊢;have HS3:=zh HS2;have HA3:=zh HA2;clear hSm hSf HS2 HA2;rintro e w' ⟨rfl,rfl⟩;go_wp2_with fail
      go_round
      case rel=>exact⟨j+1,by omega,by go_num,by rw [HS3.out,H0.out],by rw [HA3.out,Bool.or_false]⟩
      case measure=>simp [intOf];omega
    ·obtain rfl:j=16:=by omega
     have hrow:rowJ S k 16=row S k:=rfl;have hsome:(row S k).any id=Zbz S k:=rfl;rw [hrow] at z3;rw [hrow,hsome];by_cases hso:Zbz S k=true
     ·have HWS2:=HWS.out;have HRS2:=HRS.out;rw [hso] at HWS2 HRS2 ⊢;have HWS3:=zh HWS2;have HRS3:=zh HRS2;clear hso HWS2 HRS2 hrow hsome;generalize hTK:txt (row S k)=TK at *;go_wp2_with fail
      go_round
      case rel=>exact⟨k+1,by omega,by go_num,by rw [HWS3.out,HW1.out],by rw [HRS3.out,HRA.out];rfl⟩
      case measure=>simp [intOf];omega
     ·have hsf:Zbz S k=false:=by simpa using hso
      have HWS2:=HWS.out;have HRS2:=HRS.out;rw [hsf] at HWS2 HRS2 ⊢;have HWS3:=zh HWS2;have HRS3:=zh HRS2;clear hso hsf HWS2 HRS2 hrow hsome;go_wp2_with fail
      go_round
      case rel=>exact⟨k+1,by omega,by go_num,by rw [HWS3.out,HW0.out],by rw [HRS3.out];exact congrArg Value.string HTR.out.symm⟩
      case measure=>simp [intOf];omega
  ·obtain rfl:k=16:=by omega
   have HE:=zh (show txt (whichK S 16)++txt (rows S 16)=txt (ubits S) by rw [Zab];rfl);go_wp2_with fail;go_ret;rw [HE.out];exact⟨rfl,rfl⟩
end
section
namespace BlkM
open Go.RowKit BitM HufM CanM CodM UsedM MtfM
def Head (Q:List Bool) (sum origin:Nat):Prop:=57<=Q.length/\num ((Q.drop 32).take 1)=0/\num (Q.take 32)=sum/\num ((Q.drop 33).take 24)=origin
end BlkM
end
section
open Go.RowKit BitM HufM CanM CodM UsedM MtfM TabM FreqM BlkM
theorem ZhR (b:Nat) (s:ByteArray) (o sum:Int) (w:World) (hs:s.size<=900000) (h:s.size=0\/o<0\/(s.size:Int)<=o):Calls Tryz.prog 43 #[.pointer (some ⟨b,0,none⟩),.string s,.int .i64 o,.int .u32 sum] w fun e w'=>e=.returned (.int .i64 1)/\w'=w:=by
 have h1:¬(900000:Int)<(s.size:Int):=by omega
 by_cases h2:o<0
 ·clear h;go_enter Tryz.func43,Tryz.ntmps43;go_wp2_with fail;go_ret;exact⟨rfl,rfl⟩
 ·have h3:(s.size:Int)<=o:=by omega
  clear h;go_enter Tryz.func43,Tryz.ntmps43;go_wp2_with fail;go_ret;exact⟨rfl,rfl⟩
end
section
open Go.RowKit BwtM SrtM PkM
theorem Zd5 {T:List UInt8} {p:Nat} (hp:p<T.length):lastB T p=(rot T p).getLastD 0:=by
 have hl:=ZbP T p (Nat.le_of_lt hp)
 have h1:(rot T p).getLastD 0=(rot T p).getD (T.length-1) 0:=by
  rw [List.getLastD_eq_getLast?,List.getLast?_eq_getElem?,hl,List.getD_eq_getElem?_getD]
 rw [h1];apply UInt8.toNat.inj;rw [Zbo T (Nat.le_of_lt hp) (by omega)];unfold lastB;by_cases h0:p=0
 ·rw [if_pos h0,h0,Nat.zero_add,ZkX T (by omega)]
 ·rw [if_neg h0,ZpB T (by omega) (by omega),show p+(T.length-1)-T.length=p-1 by omega]
section
variable {B : Nat} {w w' : World} {t : Nat} {s : ByteArray} {sp ov vw : Value} {held og st : Nat} {zs : List Int} {l : List UInt8}
end
section
variable {B : Nat} {w w' : World} {t : Nat} {s : ByteArray} {sp ov vw : Value} {held og st : Nat} {zs : List Int} {l : List UInt8}
end
end
section
open Go.RowKit BwtM SrtM PkM
section
variable {B : Nat} {t : Nat} {s : ByteArray} {sp : Value} {held st : Nat}
end
end
section
open Go.RowKit BwtM SrtM PkM
section
variable {B t n R g : Nat} {s : ByteArray} {P : List Nat}
end
end
section
open Go.RowKit BwtM SrtM PkM
theorem Zn1 (w:World):Calls Tryz.prog 89 #[.string ⟨#[]⟩] w fun e w'=>e=.returned (.tuple #[.pointer none,.int .i64 1])/\w'=w:=by
 go_enter Tryz.func89,Tryz.ntmps89;go_wp2_with fail;go_ret2;exact⟨rfl,rfl⟩
theorem Ze9 (s:ByteArray) (n p:Nat) (hn:s.size=n) (hp:p<n):(rotT s p).extract (n-1) n=⟨#[lastB s.data.toList p]⟩:=by
 have hl:s.data.toList.length=n:=(Zbr s).trans hn;have hr:(rotT s p).size=n:=by rw [Zb4 s p (by omega),hn]
 rw [Zc0];have e:=Zb3 (rotT s p) (n-1);rw [hr] at e;rw [e,Zay,Zd5 (by rw [hl];exact hp)];have h2:=ZbP s.data.toList p (by rw [hl];omega);rw [hl] at h2;show List.drop (n-1) (rot s.data.toList p)=[(rot s.data.toList p).getLastD 0]
 have h7:(rot s.data.toList p).getLastD 0=(rot s.data.toList p).getD (n-1) 0:=by
  rw [List.getLastD_eq_getLast?,List.getLast?_eq_getElem?,h2,List.getD_eq_getElem?_getD]
 rw [List.drop_eq_getElem_cons (by omega),List.drop_of_length_le (by omega),h7,List.getD_eq_getElem?_getD,List.getElem?_eq_getElem (by omega)];rfl
def TwoC (w:World) (o:Nat) (L:ByteArray) (og:Nat):Prop:=w.heap[o]?=some (.cells #[.string L,.int .i64 (og:Int)] 96 (0,0))
theorem TwoC.cells {w:World} {o og:Nat} {L:ByteArray} (h:TwoC w o L og):w.cell? ⟨o,0,none⟩=some (.string L)/\w.cell? ⟨o,1,none⟩=some (.int .i64 (og:Int))/\w.frozen? ⟨o,0,none⟩=false/\w.frozen? ⟨o,1,none⟩=false:=
 ⟨by rw [cell_of_row _ _ 0 _ _ _ h];rfl,by rw [cell_of_row _ _ 1 _ _ _ h];rfl,frozen_of_row _ _ _ _ _ h,frozen_of_row _ _ _ _ _ h⟩
theorem TwoC.set0 {w:World} {o og:Nat} {L:ByteArray} (h:TwoC w o L og) (L':ByteArray):TwoC (w.setCell ⟨o,0,none⟩ (.string L')) o L' og:=by
 unfold TwoC;rw [heap_setCell_same w o 0 _ _ _ h];rfl
theorem TwoC.set1 {w:World} {o og:Nat} {L:ByteArray} (h:TwoC w o L og) (x:Nat):TwoC (w.setCell ⟨o,1,none⟩ (.int .i64 (x:Int))) o L x:=by
 unfold TwoC;rw [heap_setCell_same w o 1 _ _ _ h];rfl
theorem Zbv (L:ByteArray) (og:Int):(#[Value.string L,Value.int .i64 og]).all (·.oneCell')=true:=by kernel_rfl
theorem tinfo:(Tryz.prog.info? 96).map (·.size)=some 2:=by kernel_rfl
theorem Zd6 (s:ByteArray) (n:Nat) (P:List Nat) (v:Value) (w:World) (hn:s.size=n) (h0:0<n) (hs:n<=1024) (hp:∀p∈P,p<n) (hlp:P.length=n) (hv:IsInts w v (toI P)) :
  Calls Tryz.prog 83 #[.string s,v] w fun e w'=>e=.returned (.agg #[.string ⟨(lastN s.data.toList P n).toArray⟩,.int .i64 (orgN P n:Int)])/\Below w.heap.size w w':=by
 have HROT:=zh (fun(p:Nat) W (h:p<n)=>ZaA s p W (by omega) (by omega));have HP:=zh hp;have HLP:=zh hlp;have HV:=zh hv;have HN:=zh hn;obtain⟨a,cap,rfl,_⟩:=hv;rw [toI_length,hlp] at HV ⊢;clear hp hlp hn;go_enter Tryz.func83,Tryz.ntmps83;go_wp2_with fail;have HT0:Hid (TwoC ((w.alloc (.cells #[.string ⟨#[]⟩,.int .i64 0] 96)).alloc (.cells #[.string ⟨#[]⟩,.int .i64 0] 96)) (w.heap.size+1) ⟨#[]⟩ 0):=zh (heap_alloc2_new w _ _);have HX0:Hid (((w.alloc (.cells #[.string ⟨#[]⟩,.int .i64 0] 96)).alloc (.cells #[.string ⟨#[]⟩,.int .i64 0] 96)).heap[w.heap.size]?=some (.cells #[.string ⟨#[]⟩,.int .i64 0] 96 (0,0))):=zh (heap_alloc2_old w _ _);have HB0:Hid (Below w.heap.size w ((w.alloc (.cells #[.string ⟨#[]⟩,.int .i64 0] 96)).alloc (.cells #[.string ⟨#[]⟩,.int .i64 0] 96))):=zh (((Below.refl w.heap.size w).alloc (Nat.le_refl _) _).alloc (by simp) _);generalize (w.alloc (.cells #[.string ⟨#[]⟩,.int .i64 0] 96)).alloc (.cells #[.string ⟨#[]⟩,.int .i64 0] 96)=w0 at *;obtain⟨x4,hx4⟩:∃x4,w.heap.size=x4:=⟨_,rfl⟩
 obtain⟨o,ho⟩:∃o,w.heap.size+1=o:=⟨_,rfl⟩
 have HXO:Hid (x4<o/\w.heap.size=x4/\o=x4+1):=zh (by omega);rw [ho] at HT0 ⊢;rw [hx4] at HX0 HB0 ⊢;clear hx4 ho;go_wp2_with fail
 go_loopw [12] (fun vk wr=>∃(k:Nat) (L:ByteArray) (og:Nat),vk=.int .i64 (k:Int)/\k<=n/\TwoC wr o L og/\L=⟨(lastN s.data.toList P k).toArray⟩/\og=orgN P k/\wr.heap[x4]?=some (.cells #[.string ⟨#[]⟩,.int .i64 0] 96 (0,0))/\Below x4 w wr) (fun vk _=>n-(intOf vk).toNat)
 case atStart=>exact⟨0,_,_,rfl,Nat.zero_le _,HT0.out,rfl,rfl,HX0.out,HB0.out⟩
 case round=>
  clear HT0 HX0 HB0;obtain⟨k,L,og,rfl,hk,hT,hL,hog,hX,hB⟩:=hrel;have HT:=zh hT;have HL:=zh hL;have HOG:=zh hog;have HX:=zh hX;have HB:=zh hB;clear hT hL hog hX hB;by_cases hkn:k<n
  ·have hki:(k:Int)<(n:Int):=by omega
   obtain⟨bb,off,cp,hvv,hc⟩:=(HV.out.below (by have:=HB.out;rw [<-HXO.out.2.1] at this;exact this)).cell (k:=k) (by rw [toI_length,HLP.out];exact hkn);rw [toI_getD] at hc;simp only [Value.slice.injEq] at hvv;obtain⟨rfl,hxx,rfl⟩:=hvv;clear hxx;obtain⟨p,hpE⟩:∃p,P.getD k 0=p:=⟨_,rfl⟩
   rw [hpE] at hc;have HPE:=zh hpE
   have hpn:p<n:=by
    rw [<-hpE,List.getD_eq_getElem?_getD,List.getElem?_eq_getElem (by rw [HLP.out];exact hkn)];exact HP.out _ (List.getElem_mem _)
   clear hpE;have HR:=zh (fun W=>HROT.out p W hpn);have hlast:=Ze9 s n p HN.out hpn;obtain⟨rr,hrr⟩:∃rr,rotT s p=rr:=⟨_,rfl⟩
   have hrs:rr.size=n:=by rw [<-hrr,Zb4 s p (by rw [HN.out];omega),HN.out]
   obtain⟨y,hy⟩:∃y:ByteArray,(⟨#[lastB s.data.toList p]⟩:ByteArray)=y:=⟨_,rfl⟩
   rw [hrr,hy] at hlast;rw [hrr] at HR;have hys:y.size=1:=by rw [<-hy];rfl
   have hLs:L.size<=1024:=by rw [HL.out,Zaj,ZaT (by rw [HLP.out];exact hk)];omega
   have HLY:Hid (L++y=⟨(lastN s.data.toList P (k+1)).toArray⟩):=zh (by
    rw [ZdM (by rw [HLP.out];exact hkn),HPE.out,HL.out,<-hy];exact Zaw _ [_])
   obtain⟨n1,hn1⟩:∃n1,n-1=n1:=⟨_,rfl⟩
   have hn1i:(n:Int)-1=(n1:Int):=by omega
   have hn1w:IntKind.i64.wrap (n1:Int)=(n1:Int):=IntWalk.i64_in _ (by omega);have hn1n:(n1:Int)<=(n:Int):=by omega
   have hrsi:(rr.size:Int)=(n:Int):=by omega
   rw [hn1] at hlast;have hlast2:rr.extract n1 rr.size=y:=by rw [hrs];exact hlast
   clear hrr hy hn1;go_wp2_with fail;refine(HR.out _).mono ?_;rintro e w2 ⟨rfl,hb2⟩;have HT2:Hid (TwoC w2 o L og):=zh ((hb2.block o (Array.getElem?_eq_some_iff.1 HT.out).1).trans HT.out);have HX2:Hid (w2.heap[x4]?=some (.cells #[.string ⟨#[]⟩,.int .i64 0] 96 (0,0))):=zh ((hb2.block x4 (Array.getElem?_eq_some_iff.1 HX.out).1).trans HX.out);have HB2:Hid (Below x4 w w2):=zh (HB.out.trans (hb2.mono (by have:=HB.out.size;have:=HXO.out;omega)));obtain⟨c0,c1,f0,f1⟩:=HT2.out.cells;clear hb2 hlast2;obtain⟨Ly,hLy⟩:∃Ly,L++y=Ly:=⟨_,rfl⟩
   have HLY2:Hid (Ly=⟨(lastN s.data.toList P (k+1)).toArray⟩):=zh (by rw [<-hLy];exact HLY.out);have HT3:Hid (TwoC ((w2.drewN 1).setCell ⟨o,0,none⟩ (.string Ly)) o Ly og):=zh (TwoC.set0 (w:=w2.drewN 1) HT2.out Ly);have HX3:Hid (((w2.drewN 1).setCell ⟨o,0,none⟩ (.string Ly)).heap[x4]?=some (.cells #[.string ⟨#[]⟩,.int .i64 0] 96 (0,0))):=zh ((heap_setCell_other (w2.drewN 1) ⟨o,0,none⟩ x4 _ (by have:=HXO.out;show x4≠o;omega)).trans HX2.out);have HB3:Hid (Below x4 w ((w2.drewN 1).setCell ⟨o,0,none⟩ (.string Ly))):=zh ((HB2.out.trans (ZaS _ _ 1)).setCell (p:=⟨o,0,none⟩) (by have:=HXO.out;show x4<=o;omega) _);by_cases hp0:p=0
   ·have hp0i:((p:Int)==0)=true:=by rw [beq_iff_eq];omega
    have HOG2:Hid (k=orgN P (k+1)):=zh (by
     show k=(if P.getD k 0=0 then k else orgN P k);rw [HPE.out,if_pos hp0])
    clear hp0;go_wp2_with fail
    go_still_tail 7,(by kernel_rfl)
    change wpList _ _ _ _ _ (w2.drewN 1);have HT4:Hid (TwoC (((w2.drewN 1).setCell ⟨o,0,none⟩ (.string Ly)).setCell ⟨o,1,none⟩ (.int .i64 (k:Int))) o Ly k):=zh (HT3.out.set1 k);have HX4:Hid ((((w2.drewN 1).setCell ⟨o,0,none⟩ (.string Ly)).setCell ⟨o,1,none⟩ (.int .i64 (k:Int))).heap[x4]?=some (.cells #[.string ⟨#[]⟩,.int .i64 0] 96 (0,0))):=zh ((heap_setCell_other _ ⟨o,1,none⟩ x4 _ (by have:=HXO.out;show x4≠o;omega)).trans HX3.out);have HB4:Hid (Below x4 w (((w2.drewN 1).setCell ⟨o,0,none⟩ (.string Ly)).setCell ⟨o,1,none⟩ (.int .i64 (k:Int)))):=zh (HB3.out.setCell (p:=⟨o,1,none⟩) (by have:=HXO.out;show x4<=o;omega) _);go_wp2_with fail;go_roundw
    case rel=>exact⟨k+1,_,_,by go_num,by omega,HT4.out,HLY2.out,HOG2.out,HX4.out,HB4.out⟩
    case measure=>simp [intOf];omega
   ·have hp0i:((p:Int)==0)=false:=by rw [beq_eq_false_iff_ne];omega
    have HOG2:Hid (og=orgN P (k+1)):=zh (by
     show og=(if P.getD k 0=0 then k else orgN P k);rw [HPE.out,if_neg hp0];exact HOG.out)
    clear hp0;go_wp2_with fail
    go_still_tail 7,(by kernel_rfl)
    change wpList _ _ _ _ _ (w2.drewN 1);go_wp2_with fail;go_roundw
    case rel=>exact⟨k+1,_,_,by go_num,by omega,HT3.out,HLY2.out,HOG2.out,HX3.out,HB3.out⟩
    case measure=>simp [intOf];omega
  ·have hki:¬(k:Int)<(n:Int):=by omega
   have hke:k=n:=by omega
   have hu:=Tryz.underlying96;have hi:=tinfo;have hgo:=HT.out;unfold TwoC at hgo;have hg4:=HX.out;have HBF:Hid (Below x4 w (wr.setRow x4 #[.string L,.int .i64 (og:Int)])):=zh (Zal HB.out (Nat.le_refl _) _);have HXW:Hid (x4=w.heap.size):=zh HXO.out.2.1.symm
   go_wp2_with (first
    | (refine wpList_load_row rfl 96 _ rfl o rfl 96 #[.string L,.int .i64 (og:Int)] (0,0) _ hgo hu rfl hi ?_)
    | (refine wpList_store_row rfl 96 _ _ rfl x4 #[.string L,.int .i64 (og:Int)] rfl rfl 96 _ hg4 hi rfl (Zbv _ _) ?_))
   refine bodyPost_ret (v:=.agg #[.string L,.int .i64 (og:Int)]) (results_cell_row rfl _ _ x4 96 _ (0,0) _ rfl (setRow_heap _ _ _ _ _ _ hg4) hu rfl hi) rfl ?_;exact⟨by rw [HL.out,HOG.out,hke],by rw [<-HXW.out];exact HBF.out⟩
theorem ZgF (s:ByteArray) (n:Nat) (w:World) (hn:s.size=n) (h0:0<n) (hs:n<=1024):Calls Tryz.prog 55 #[.string s] w fun e w'=>(∃P,IsSorted s.data.toList P/\e=.returned (.agg #[.string ⟨(lastN s.data.toList P n).toArray⟩,.int .i64 (orgN P n:Int)]))/\Below w.heap.size w w':=by
 have HSO:=zh (fun W=>Zcu s W (by omega));have hl:s.data.toList.length=n:=(Zbr s).trans hn;have hps:=ZcT s.data.toList;rw [hl] at hps;rw [hn] at HSO;obtain⟨P,hP⟩:∃P,sortP s.data.toList n=P:=⟨_,rfl⟩
 rw [hP] at HSO hps;have hlp:P.length=n:=by rw [hps.1.length_eq,List.length_range,hl]
 have HFR:=zh (fun v W (hv:IsInts W v (toI P))=>Zd6 s n P v W hn h0 hs (fun p hp=>by have:=List.mem_range.1 (hps.1.mem_iff.1 hp);omega) hlp hv);have HPS:=zh hps;obtain⟨L,hL⟩:∃L:ByteArray,(⟨(lastN s.data.toList P n).toArray⟩:ByteArray)=L:=⟨_,rfl⟩
 obtain⟨og,hog⟩:∃og,orgN P n=og:=⟨_,rfl⟩
 rw [hL,hog] at HFR;have HL:=zh (And.intro hL hog);have hu:=Tryz.underlying96;have hi:=tinfo;have HB0:Hid (Below w.heap.size w (w.alloc (.cells #[.string ⟨#[]⟩,.int .i64 0] 96))):=zh ((Below.refl _ _).alloc (Nat.le_refl _) _);have HG0:Hid ((w.alloc (.cells #[.string ⟨#[]⟩,.int .i64 0] 96)).heap[w.heap.size]?=some (.cells #[.string ⟨#[]⟩,.int .i64 0] 96 (0,0))):=zh (heap_alloc_new w _);clear hl hps hP hlp hn hL hog;go_enter Tryz.func55,Tryz.ntmps55;go_wp2_with fail;refine(HSO.out _).mono ?_;rintro e w2 ⟨v,rfl,hO,hb2⟩;have HI2:=zh hO.ints;have HB2:=zh (HB0.out.trans (hb2.mono HB0.out.size));have HG2:Hid (w2.heap[w.heap.size]?=some (.cells #[.string ⟨#[]⟩,.int .i64 0] 96 (0,0))):=zh ((hb2.block _ (by simp)).trans HG0.out);clear hO hb2;go_wp2_with fail;refine(HFR.out v w2 HI2.out).mono ?_;rintro e w3 ⟨rfl,hb3⟩;have HB3:=zh (HB2.out.trans (hb3.mono HB2.out.size));have hg3:w3.heap[w.heap.size]?=some (.cells #[.string ⟨#[]⟩,.int .i64 0] 96 (0,0)):=(hb3.block _ (Array.getElem?_eq_some_iff.1 HG2.out).1).trans HG2.out;have HBF:Hid (Below w.heap.size w (w3.setRow w.heap.size #[.string L,.int .i64 (og:Int)])):=zh (Zal HB3.out (Nat.le_refl _) _);clear hb3;go_wp2_with (refine wpList_store_row rfl 96 _ _ rfl w.heap.size #[.string L,.int .i64 (og:Int)] rfl rfl 96 _ hg3 hi rfl (Zbv _ _) ?_);refine bodyPost_ret (v:=.agg #[.string L,.int .i64 (og:Int)]) (results_cell_row rfl _ _ w.heap.size 96 _ (0,0) _ rfl (setRow_heap _ _ _ _ _ _ hg3) hu rfl hi) rfl ?_;exact⟨⟨P,HPS.out,by rw [HL.out.1,HL.out.2]⟩,HBF.out⟩
end
section
open Go.RowKit BitM HufM CanM CodM UsedM MtfM TabM FreqM BlkM BwtM SrtM
theorem Zmf (w:World):Calls Tryz.prog 61 #[.string ⟨#[]⟩] w fun e w'=>e=.returned (.tuple #[.string ⟨#[]⟩,.int .i64 0,.int .i64 1])/\w'=w:=by
 go_enter Tryz.func61,Tryz.ntmps61;go_wp2_with fail;refine(Zn1 _).mono ?_;rintro e w1 ⟨rfl,rfl⟩;go_wp2_with fail;go_ret3
 first|exact⟨rfl,rfl⟩|rfl
theorem Zld {s:ByteArray} (h:s.size=0):s=⟨#[]⟩:=by
 have h1:s.data.toList=[]:=List.eq_nil_of_length_eq_zero h;apply ByteArray.ext;apply Array.toList_inj.1;rw [h1]
theorem Zi9 (b:Nat) (s:ByteArray) (sum:Int) (w:World) (h:s.size=0):Calls Tryz.prog 41 #[.pointer (some ⟨b,0,none⟩),.string s,.int .u32 sum] w fun e w'=>e=.returned (.int .i64 1)/\w'=w:=by
 obtain rfl:=Zld h;have HA:=zh (fun W=>ZhR b ⟨#[]⟩ 0 sum W (by decide) (Or.inl rfl));clear h;go_enter Tryz.func41,Tryz.ntmps41;go_wp2_with fail;refine(Zmf _).mono ?_;rintro e w1 ⟨rfl,rfl⟩;go_wp2_with fail;refine(HA.out _).mono ?_;rintro e w2 ⟨rfl,rfl⟩;go_wp2_with fail;go_ret;exact⟨rfl,rfl⟩
end
section
open Go.RowKit BitM HufM CanM CodM UsedM MtfM TabM FreqM BlkM BwtM SrtM RleM SplM CrcM
theorem Zm1 {g1 g2 g3 b:Nat} {s:ByteArray} {o x:Int} {c:Int} {R:World->Prop} (w:World) (c1:w.cell? ⟨g1,0,none⟩=some (.string s)) (c2:w.cell? ⟨g2,0,none⟩=some (.int .i64 o)) (c3:w.cell? ⟨g3,0,none⟩=some (.int .u32 x))
  (hW:Calls Tryz.prog 43 #[.pointer (some ⟨b,0,none⟩),.string s,.int .i64 o,.int .u32 x] w fun e w'=>e=.returned (.int .i64 c)/\R w') :
  Calls Tryz.prog 42 #[.pointer (some ⟨b,0,none⟩),.pointer (some ⟨g1,0,none⟩),.pointer (some ⟨g2,0,none⟩),.pointer (some ⟨g3,0,none⟩)] w fun e w'=>e=.returned (.int .i64 c)/\R w':=by
 have HW:=zh hW;clear hW;go_enter Tryz.func42,Tryz.ntmps42;go_wp2_with fail;refine HW.out.mono ?_;rintro e w1 ⟨rfl,hR⟩;have HR:=zh hR;clear hR;go_wp2_with fail;go_ret;exact⟨rfl,HR.out⟩
theorem Zle {t g sum:Nat} {v:Value} {q:List Bool} {tk:Nat} (x:Int) (s:ByteArray) (w:World) (h:TwOk w t g sum false v q tk) (hn:s.size=0) :
  Calls Tryz.prog 18 #[.pointer (some ⟨t,0,none⟩),.string s,.int .u32 x] w fun e w'=>e=.returned (.int .i64 1)/\Below w.heap.size w w':=by
 obtain⟨w1,hw1,hb1,c1,c2,hz⟩:=Zkd w (.string s) (.int .u32 x) 9 37;have H1:=h.other (Touch.ofBelow (S:=fun _=>False) hb1) (fun _ _ e=>e)
 have HW:=zh (ZjH (.int .u32 x) 40 #[.pointer (some ⟨w.heap.size,0,none⟩),.pointer (some ⟨w.heap.size+1,0,none⟩)] 1 w1 H1 (by decide) (enters_of Tryz.func40 (by kernel_rfl) rfl)
  (by
   intro w2 hb2 hw2;have d1:w2.cell? ⟨w.heap.size,0,none⟩=some (.string s):=by rw [World.cell?_of_block (w:=w1) (a:=⟨w.heap.size,0,none⟩) (hb2.block w.heap.size (by omega))];exact c1
   have d2:w2.cell? ⟨w.heap.size+1,0,none⟩=some (.int .u32 x):=by rw [World.cell?_of_block (w:=w1) (a:=⟨w.heap.size+1,0,none⟩) (hb2.block (w.heap.size+1) (by omega))];exact c2
   refine tblockC (c:=1) w2 d1 d2 ((Zi9 w1.heap.size s x w2 hn).mono ?_);rintro e w3 ⟨rfl,rfl⟩;exact⟨rfl,Below.refl _ _⟩))
 have HB1:=zh hb1;clear h hb1 c1 H1;go_enter Tryz.func18,Tryz.ntmps18;go_wp2_with fail;refine HW.out.mono ?_;rintro e w2 ⟨rfl,hb2⟩;have HB2:=zh (HB1.out.trans (hb2.mono HB1.out.size));clear hb2;go_wp2_with fail;go_ret;exact⟨rfl,HB2.out⟩
theorem Zmg {t g sum:Nat} {v:Value} {q:List Bool} {tk:Nat} (x:Int) (s:ByteArray) (w:World) (h:TwOk w t g sum true v q tk) :
  Calls Tryz.prog 18 #[.pointer (some ⟨t,0,none⟩),.string s,.int .u32 x] w fun e w'=>e=.returned (.int .i64 7)/\Below w.heap.size w w':=by
 obtain⟨w1,hw1,hb1,c1,c2,hz⟩:=Zkd w (.string s) (.int .u32 x) 9 37;have HW:=zh (fun x f=>ZiY x f w1 (h.other (Touch.ofBelow (S:=fun _=>False) hb1) (fun _ _ e=>e)));have HB1:=zh hb1;clear h hb1 c1;go_enter Tryz.func18,Tryz.ntmps18;go_wp2_with fail;refine(HW.out _ _).mono ?_;rintro e w2 ⟨rfl,rfl⟩;go_wp2_with fail;go_ret;exact⟨rfl,HB1.out⟩
theorem Zbw {T:List UInt8} (h0:0<T.length) (hl:T.length<=300) (sum:Nat):(writeK T sum).length<=300400:=by
 have h3:(lastN T (sortP T T.length) T.length).length=T.length:=ZaT (by rw [(ZcT T).1.length_eq,List.length_range];exact Nat.le_refl _);exact Zet (by intro e;rw [e] at h3;simp at h3;omega) (by omega) _ _
theorem ZiZ (w:World) (x y z:Value) (tx ty tz:TypeId):∃w1,((w.alloc (.cells #[x] tx)).alloc (.cells #[y] ty)).alloc (.cells #[z] tz)=w1/\Below w.heap.size w w1/\w1.cell? ⟨w.heap.size,0,none⟩=some x/\w1.cell? ⟨w.heap.size+1,0,none⟩=some y/\w1.cell? ⟨w.heap.size+2,0,none⟩=some z/\w1.heap.size=w.heap.size+3:=by
 obtain⟨w2,h2,hb,c1,c2,hz⟩:=Zkd w x y tx ty;rw [h2];have hk:=(Below.refl w2.heap.size w2).alloc (Nat.le_refl _) (.cells #[z] tz);refine⟨_,rfl,hb.trans (hk.mono (by omega)),?_,?_,?_,by simp;omega⟩
 ·rw [World.cell?_of_block (w:=w2) (a:=⟨w.heap.size,0,none⟩) (hk.block w.heap.size (by omega))];exact c1
 ·rw [World.cell?_of_block (w:=w2) (a:=⟨w.heap.size+1,0,none⟩) (hk.block (w.heap.size+1) (by omega))];exact c2
 ·have h1:=heap_alloc_new w2 (.cells #[z] tz);rw [hz] at h1;rw [cell_of_row _ _ _ _ _ _ h1];rfl
theorem Zmh {t g:Nat} {v:Value} {q:List Bool} {tk:Nat} (sum x:BitVec 32) (s:ByteArray) (O:Nat) (w:World) (h:TwOk w t g sum.toNat false v q tk) (hB:Bnds w) (hq:q.length<=800000000) (hs:s.size<=300) (ho:O<s.size) :
  Calls Tryz.prog 19 #[.pointer (some ⟨t,0,none⟩),.string s,.int .i64 (O:Int),.int .u32 (x.toNat:Int)] w fun e w'=>e=.returned (.int .i64 0)/\∃Q,Q=allK s.data.toList O x.toNat/\Tws (fun _=>False) w t g v (cmb sum x).toNat false (q++blockQ++Q) tk w':=by
 obtain⟨w1,hw1,hb1,c1,c2,c3,hz⟩:=ZiZ w (.string s) (.int .i64 (O:Int)) (.int .u32 (x.toNat:Int)) 9 3 37;have H1:=h.other (Touch.ofBelow (S:=fun _=>False) hb1) (fun _ _ e=>e)
 have HW:=zh (Zjg sum x 42 #[.pointer (some ⟨w.heap.size,0,none⟩),.pointer (some ⟨w.heap.size+1,0,none⟩),.pointer (some ⟨w.heap.size+2,0,none⟩)] (fun Q=>Q=allK s.data.toList O x.toNat) w1 H1 hq (enters_of Tryz.func42 (by kernel_rfl) rfl)
  (by
   intro Q hQ;have h4:=Zet (l:=s.data.toList) (by intro e;have:s.data.toList.length=s.size:=rfl;rw [e] at this;simp at this;omega) (by show s.size<=300;omega) O x.toNat;rw [<-hQ] at h4;omega)
  (by
   intro w2 hb2 hw2;have hB2:=(hB.below hb1).below hb2;have d1:w2.cell? ⟨w.heap.size,0,none⟩=some (.string s):=by rw [World.cell?_of_block (w:=w1) (a:=⟨w.heap.size,0,none⟩) (hb2.block w.heap.size (by omega))];exact c1
   have d2:w2.cell? ⟨w.heap.size+1,0,none⟩=some (.int .i64 (O:Int)):=by rw [World.cell?_of_block (w:=w1) (a:=⟨w.heap.size+1,0,none⟩) (hb2.block (w.heap.size+1) (by omega))];exact c2
   have d3:w2.cell? ⟨w.heap.size+2,0,none⟩=some (.int .u32 (x.toNat:Int)):=by rw [World.cell?_of_block (w:=w1) (a:=⟨w.heap.size+2,0,none⟩) (hb2.block (w.heap.size+2) (by omega))];exact c3
   refine Zm1 (c:=0) w2 d1 d2 d3 ((ZhP w1.heap.size (.slice none 0 0) [] 0 s O x.toNat w2 hw2 hB2 hs ho x.isLt (by simp) (by have:=hB.lt;omega)).mono ?_);rintro e w3 ⟨rfl,h3⟩;exact⟨rfl,_,rfl,by rwa [List.nil_append] at h3⟩))
 have HB1:=zh hb1;clear h hB hb1 c1 c2 H1;go_enter Tryz.func19,Tryz.ntmps19;go_wp2_with fail;refine HW.out.mono ?_;rintro e w2 ⟨rfl,Q,hQ,h2⟩;have H2:=zh (Tws.from HB1.out h2);have HQ:=zh hQ;clear h2 hQ;go_wp2_with fail;go_ret;exact⟨rfl,Q,HQ.out,H2.out⟩
theorem Zmi {t g sum:Nat} {v:Value} {q:List Bool} {tk:Nat} (o x:Int) (s:ByteArray) (w:World) (h:TwOk w t g sum false v q tk) (hs:s.size<=900000) (hbad:s.size=0\/o<0\/(s.size:Int)<=o) :
  Calls Tryz.prog 19 #[.pointer (some ⟨t,0,none⟩),.string s,.int .i64 o,.int .u32 x] w fun e w'=>e=.returned (.int .i64 1)/\Below w.heap.size w w':=by
 obtain⟨w1,hw1,hb1,c1,c2,c3,hz⟩:=ZiZ w (.string s) (.int .i64 o) (.int .u32 x) 9 3 37;have H1:=h.other (Touch.ofBelow (S:=fun _=>False) hb1) (fun _ _ e=>e)
 have HW:=zh (ZjH (.int .u32 x) 42 #[.pointer (some ⟨w.heap.size,0,none⟩),.pointer (some ⟨w.heap.size+1,0,none⟩),.pointer (some ⟨w.heap.size+2,0,none⟩)] 1 w1 H1 (by decide) (enters_of Tryz.func42 (by kernel_rfl) rfl)
  (by
   intro w2 hb2 hw2;have d1:w2.cell? ⟨w.heap.size,0,none⟩=some (.string s):=by rw [World.cell?_of_block (w:=w1) (a:=⟨w.heap.size,0,none⟩) (hb2.block w.heap.size (by omega))];exact c1
   have d2:w2.cell? ⟨w.heap.size+1,0,none⟩=some (.int .i64 o):=by rw [World.cell?_of_block (w:=w1) (a:=⟨w.heap.size+1,0,none⟩) (hb2.block (w.heap.size+1) (by omega))];exact c2
   have d3:w2.cell? ⟨w.heap.size+2,0,none⟩=some (.int .u32 x):=by rw [World.cell?_of_block (w:=w1) (a:=⟨w.heap.size+2,0,none⟩) (hb2.block (w.heap.size+2) (by omega))];exact c3
   refine Zm1 (c:=1) w2 d1 d2 d3 ((ZhR w1.heap.size s o x w2 hs hbad).mono ?_);rintro e w3 ⟨rfl,rfl⟩;exact⟨rfl,Below.refl _ _⟩))
 have HB1:=zh hb1;clear h hb1 c1 c2 H1 hbad;go_enter Tryz.func19,Tryz.ntmps19;go_wp2_with fail;refine HW.out.mono ?_;rintro e w2 ⟨rfl,hb2⟩;have HB2:=zh (HB1.out.trans (hb2.mono HB1.out.size));clear hb2;go_wp2_with fail;go_ret;exact⟨rfl,HB2.out⟩
theorem Zlf {t g sum:Nat} {v:Value} {q:List Bool} {tk:Nat} (o x:Int) (s:ByteArray) (w:World) (h:TwOk w t g sum true v q tk) :
  Calls Tryz.prog 19 #[.pointer (some ⟨t,0,none⟩),.string s,.int .i64 o,.int .u32 x] w fun e w'=>e=.returned (.int .i64 7)/\Below w.heap.size w w':=by
 obtain⟨w1,hw1,hb1,c1,c2,c3,hz⟩:=ZiZ w (.string s) (.int .i64 o) (.int .u32 x) 9 3 37;have HW:=zh (fun x f=>ZiY x f w1 (h.other (Touch.ofBelow (S:=fun _=>False) hb1) (fun _ _ e=>e)));have HB1:=zh hb1;clear h hb1 c1 c2;go_enter Tryz.func19,Tryz.ntmps19;go_wp2_with fail;refine(HW.out _ _).mono ?_;rintro e w2 ⟨rfl,rfl⟩;go_wp2_with fail;go_ret;exact⟨rfl,HB1.out⟩
end
section
open Go.RowKit RleM SplM BitM CrcM
theorem TwOk.drew {w:World} {t g sum:Nat} {en:Bool} {v:Value} {q:List Bool} {tk:Nat} (h:TwOk w t g sum en v q tk) (n:Nat):TwOk (w.drewN n) t g sum en v q tk:=h.other (Zan (fun _=>False) w n) (fun _ _ e=>e)
theorem Tws.next {w w1 w2:World} {t g:Nat} {v v1:Value} {q1:List Bool} {s1:Nat} {e1:Bool} {tk1 s2:Nat} {e2:Bool} {q2:List Bool} {tk2:Nat} (h:Hid (TwOk w1 t g s1 e1 v1 q1 tk1/\Touch (fun k=>ftT t g v k\/False) w w1/\∀k,v1.ownBlock=some k->v.ownBlock=some k\/w.heap.size<=k))
  (h2:Tws (fun _=>False) w1 t g v1 s2 e2 q2 tk2 w2):Tws (fun _=>False) w t g v s2 e2 q2 tk2 w2:=
 Tws.comp (R:=fun _=>False) h.out.2.1 h.out.2.2 h2 (fun k hk=>hk.elim)
theorem Zeu {t g:Nat} {v:Value} {q:List Bool} {tk:Nat} (sum:BitVec 32) (w:World) (h:TwOk w t g sum.toNat false v q tk) (hq:q.length<=900000000) :
  Calls Tryz.prog 20 #[.pointer (some ⟨t,0,none⟩)] w fun e w'=>e=.returned (.int .i64 0)/\∃Z,Z=q++tailQ++field sum.toNat 32/\Tws (fun _=>False) w t g v sum.toNat true (Z++padding Z) tk w':=by
 have HO:=zh (Zdr w h);have HM:=zh (tmagicE w h (by omega));have htl:tailQ.length=48:=by unfold tailQ;rw [List.length_append,Zaa,Zaa]
 clear h;go_enter Tryz.func20,Tryz.ntmps20;go_wp2_with fail;refine HO.out.mono ?_;rintro e w0 ⟨rfl,rfl⟩;go_wp2_with fail;refine HM.out.mono ?_;rintro e w1 ⟨rfl,v1,h1⟩;obtain⟨c0,c1,_⟩:=h1.1.1.cells;have H1:=zh h1;clear h1 HO HM;go_wp2_with fail
 go_still_tail 8,(by kernel_rfl)
 change wpList _ _ _ _ _ (w1.drewN 1);have HP:=zh ((H1.out.1.drew 1).put sum.toNat 32 (sum.toNat:Int) 32 rfl rfl (by omega) sum.isLt (by rw [List.length_append,htl];omega));go_wp2_with fail;refine HP.out.mono ?_;rintro e w2 ⟨rfl,h2⟩;obtain⟨v2,h2⟩:=Tws.next (zh ⟨H1.out.1.drew 1,H1.out.2.1.trans (Zan (fun _=>False) w1 1) (fun k hk=>hk.elim),H1.out.2.2⟩) h2;obtain⟨c0,_⟩:=h2.1.1.cells;have HPD:=zh (h2.1.pad (by simp only [List.length_append,htl,Zaa];omega));have H2:=zh h2;clear h2;go_wp2_with fail;refine HPD.out.mono ?_;rintro e w3 ⟨rfl,h3⟩;obtain⟨v3,h3⟩:=Tws.next H2 h3;obtain⟨_,_,c2,f2⟩:=h3.1.1.cells;have HE:=zh (Tws.next (zh h3) h3.1.end_);clear h3;go_wp2_with fail;go_ret;exact⟨rfl,_,rfl,HE.out⟩
theorem Zlg {t g sum:Nat} {v:Value} {q:List Bool} {tk:Nat} (w:World) (h:TwOk w t g sum true v q tk):Calls Tryz.prog 20 #[.pointer (some ⟨t,0,none⟩)] w fun e w'=>e=.returned (.int .i64 7)/\w'=w:=by
 have HO:=zh (Zdr w h);clear h;go_enter Tryz.func20,Tryz.ntmps20;go_wp2_with fail;refine HO.out.mono ?_;rintro e w1 ⟨rfl,rfl⟩;go_wp2_with fail;go_ret;exact⟨rfl,rfl⟩
theorem Zbi {t g sum:Nat} {en:Bool} {v:Value} {q:List Bool} {tk:Nat} (w:World) (h:TwOk w t g sum en v q tk):Calls Tryz.prog 23 #[.pointer (some ⟨t,0,none⟩)] w fun e w'=>e=.returned (.int .i64 ((q.length / 8-tk:Nat):Int))/\w'=w:=by
 obtain⟨c0,_⟩:=h.1.cells;have HW:=zh (ZiW g v q tk w h.2.1);clear h;go_enter Tryz.func23,Tryz.ntmps23;go_wp2_with fail;refine HW.out.mono ?_;rintro e w1 ⟨rfl,rfl⟩;go_wp2_with fail;go_ret;exact⟨rfl,rfl⟩
theorem ZrG (L:Int) (w:World) (hl:-9223372036854775808<=L/\L<=9223372036854775807) (h:L<1\/9<L):Calls Tryz.prog 14 #[.int .i64 L] w fun e w'=>e=.returned (.tuple #[.pointer none,.int .i64 1])/\w'=w:=by
 have HR:=zh (show Calls Tryz.prog 24 #[.int .i64 L,.int .i64 100000] w fun e w'=>e=.returned (.tuple #[.int .i64 0,.int .i64 1])/\w'=w by
  have:=ZcG L 100000 w hl (by omega);rw [if_pos (by omega)] at this;exact this)
 clear h;go_enter Tryz.func14,Tryz.ntmps14;go_wp2_with fail;refine HR.out.mono ?_;rintro e w1 ⟨rfl,rfl⟩;go_wp2_with fail;go_ret2;exact⟨rfl,rfl⟩
end
section
open Go.RowKit BitM HufM CanM CodM UsedM MtfM TabM FreqM BlkM
theorem Zb7 (s:ByteArray) (O sum:Nat) (w:World) (hs:s.size<=300) (ho:O<s.size) (hsum:sum<4294967296) :
  Calls Tryz.prog 47 #[.agg #[.string s,.int .i64 (O:Int),.int .u32 (sum:Int)]] w fun e w'=>e=.returned (.string (txt (allK s.data.toList O sum)))/\Below w.heap.size w w':=by
 obtain⟨l,hl⟩:∃l,s.data.toList=l:=⟨_,rfl⟩
 have hll:l.length=s.size:=by rw [<-hl];rfl
 have hne:l≠[]:=fun e=>by rw [e] at hll;simp at hll;omega
 obtain⟨Sy,hSy⟩:∃Sy:ByteArray,(⟨(syms (has l) 256).toArray⟩:ByteArray)=Sy:=⟨_,rfl⟩
 have hSl:Sy.data.toList=symsK l:=by rw [<-hSy];rfl
 have hSz:Sy.size=(symsK l).length:=by rw [<-hSl];rfl
 have h256:=Zga l;have hpos:=ZeG hne;have HSY:=zh (fun W=>ZaI s W (by omega));rw [hl,hSy] at HSY;have HEN:=zh (fun W=>ZbF s Sy W hs (by omega));rw [hl,hSl] at HEN
 have HPP:Hid (∀zs err,mtEncP l (symsK l) zs err->zs=placesK l):=zh (fun zs err h=>by
  obtain⟨m,hm⟩:=Zc9 l;rcases h with⟨h,_⟩|⟨_,h,_⟩|⟨_,⟨m2,h⟩,_⟩
  ·exact absurd (Zgb hne) h
  ·rw [hm] at h;cases h
  ·rw [hm] at h;cases h;rfl)
 have HCC:Hid (∀ys err,ZerM.EncP (placesK l) (Sy.size:Int) ys err->ys=codesK l):=zh (fun ys err h=>by
  rw [hSz] at h;rcases h with⟨h,_⟩|⟨_,h,_⟩
  ·exact absurd (encOkK hne) h
  ·exact h)
 have hpl:=Zcm l;have hcl:=Zda l;have HZN:=zh (fun(u:Value) W (h:IsInts W u (placesK l))=>Zcv u (placesK l) (Sy.size:Int) W h (by omega))
 have HUB:Hid (∀W,Calls Tryz.prog 72 #[.string Sy] W fun e w'=>e=.returned (.string (txt (ubits (has l))))/\Below W.heap.size W w'):=zh (fun W=>by
  have h:=Zct Sy W (by omega);rw [hSl,ZfI] at h;exact h.mono (fun e w' h=>⟨h.1,h.2▸Below.refl _ _⟩))
 have HMK:Hid (May14 (codesK l) (sizeK l:Int)):=zh (mayK hne);have hsk:(Sy.size:Int)+2=((sizeK l:Nat):Int):=by unfold sizeK;omega
 obtain⟨NK,hNK⟩:∃N,sizeK l=N:=⟨_,rfl⟩
 have hNK2:NK<=258:=by rw [<-hNK];unfold sizeK;omega
 have hnkw:IntKind.i64.wrap (NK:Int)=(NK:Int):=IntWalk.i64_in _ (by omega);rw [hNK] at hsk HMK;have hub:(ubits (has l)).length<=272:=by rw [ZbT];have:=Zfp (has l) 16;omega
 have hOw:IntKind.u32.wrap (O:Int)=(O:Int):=by
  simp [IntKind.wrap,IntKind.bits,IntKind.signed];omega
 have hal:=(HMK.out).len (by omega);obtain⟨S1,hS1⟩:∃S,txt (field sum 32)=S:=⟨_,rfl⟩
 obtain⟨S2,hS2⟩:∃S,txt (field O 24)=S:=⟨_,rfl⟩
 obtain⟨S3,hS3⟩:∃S,txt (ubits (has l))=S:=⟨_,rfl⟩
 obtain⟨S4,hS4⟩:∃S,txt (allC (rnd (codesK l) NK 4) (pks (codesK l) NK) (codesK l))=S:=⟨_,rfl⟩
 have z1:S1.size=32:=by rw [<-hS1,Zac,Zaa]
 have z2:S2.size=24:=by rw [<-hS2,Zac,Zaa]
 have z3:S3.size<=272:=by rw [<-hS3,Zac];exact hub
 have z4:S4.size<=400000:=by rw [<-hS4,Zac];omega
 have HALL:Hid (txt (allK l O sum)=S1++⟨#[48]⟩++S2++S3++S4):=zh (by
  rw [<-hS1,<-hS2,<-hS3,<-hS4,show(⟨#[48]⟩:ByteArray)=txt [false] from rfl,Zab,Zab,Zab,Zab];unfold allK rowK;rw [hNK])
 have HCL:Hid ((codesK l).length<=1000):=zh (by omega);have HRB:=zh (fun a len c W (hI:IsInts W (.slice a len c) (codesK l)) (hlen:(codesK l).length=len)=>ZcC a len c (codesK l) NK W hI hlen (by have:=HCL.out;omega) HMK.out);rw [hS4] at HRB;rw [hS3] at HUB
 have HF:Hid (∀W (X n:Int) (r:ByteArray),((X=(sum:Int)/\n=32/\r=S1)\/(X=(O:Int)/\n=24/\r=S2))->Calls Tryz.prog 56 #[.int .u32 X,.int .i64 n] W fun e w'=>e=.returned (.string r)/\Below W.heap.size W w'):=zh (fun W X n r h=>by
  rcases h with⟨rfl,rfl,rfl⟩|⟨rfl,rfl,rfl⟩
  ·rw [<-hS1];exact(Zak sum 32 W (by omega) hsum).mono (fun e w' h=>⟨h.1,h.2▸Below.refl _ _⟩)
  ·rw [<-hS2];exact(Zak O 24 W (by omega) (by omega)).mono (fun e w' h=>⟨h.1,h.2▸Below.refl _ _⟩))
 rw [hl];have hg:=heap_alloc_new w (.cells #[.string s,.int .i64 (O:Int),.int .u32 (sum:Int)] 82);have c0:(w.alloc (.cells #[.string s,.int .i64 (O:Int),.int .u32 (sum:Int)] 82)).cell? ⟨w.heap.size,0,none⟩=some (.string s):=by rw [cell_of_row _ _ 0 _ _ _ hg];rfl
 have HG:=zh hg;have HB0:=zh ((Below.refl w.heap.size w).alloc (Nat.le_refl _) (.cells #[.string s,.int .i64 (O:Int),.int .u32 (sum:Int)] 82));have HZ:Hid ((w.alloc (.cells #[.string s,.int .i64 (O:Int),.int .u32 (sum:Int)] 82)).heap.size=w.heap.size+1):=zh (by simp);clear hSy hSl hSz h256 hpos hpl hcl hub hsum hl hll hne hNK hal hS1 hS2 hS3 hS4 hg;go_enter Tryz.func47,Tryz.ntmps47;go_wp2_with fail;generalize w.alloc (.cells #[.string s,.int .i64 (O:Int),.int .u32 (sum:Int)] 82)=w0 at *;obtain⟨B,hB⟩:∃B,w.heap.size=B:=⟨_,rfl⟩
 rw [hB] at c0 HG HB0 HZ ⊢;refine(HSY.out _).mono ?_;rintro e w1 ⟨rfl,hb1⟩;have HT1:=zh hb1;have HB1:=zh (HB0.out.trans (hb1.mono (by have:=HB0.out.size;omega)));have g1:w1.heap[B]?=_:=(hb1.block B (by have:=HZ.out;omega)).trans HG.out;have HG1:=zh g1;have c0:w1.cell? ⟨B,0,none⟩=some (.string s):=by rw [cell_of_row _ _ 0 _ _ _ g1];rfl
 clear hb1 g1;go_wp2_with fail;refine(HEN.out _).mono ?_;rintro e w2 ⟨u2,zs2,er2,rfl,hi2,hb2,hp2⟩;obtain rfl:=HPP.out _ _ hp2;have HI2:=zh hi2;have HT2:=zh (HT1.out.trans (hb2.mono HT1.out.size));have HB2:=zh (HB1.out.trans (hb2.mono (by have:=HB1.out.size;omega)));clear hi2 hb2 hp2 c0;go_wp2_with fail;refine(HZN.out _ _ HI2.out).mono ?_;rintro e w3 ⟨u3,ys3,er3,rfl,hi3,hb3,hp3⟩;obtain rfl:=HCC.out _ _ hp3;have HI3:=zh hi3;have HT3:=zh (HT2.out.trans (hb3.mono HT2.out.size));have HB3:=zh (HB2.out.trans (hb3.mono (by have:=HB2.out.size;omega)));obtain⟨a3,cap3,rfl,_⟩:=hi3;obtain⟨L3,hL3⟩:∃n,(codesK l).length=n:=⟨_,rfl⟩
 have HL3:=zh hL3;rw [hL3] at HI3;clear hb3 hp3;rw [hL3];clear hL3
 go_upto_region 4 with fail
 have g3:=(HT3.out.block B (by have:=HZ.out;omega)).trans HG.out;have hsz3:B<w3.heap.size:=by have:=HT3.out.size;have:=HZ.out;omega
 have u1:∀sb:Beneath w3.heap.size w3,sb.val.cell? ⟨B,1,none⟩=some (.int .i64 (O:Int)):=fun sb=>Beneath.cell (by rw [cell_of_row _ _ 1 _ _ _ g3];rfl) (by show B<_;omega) sb
 have u2:∀sb:Beneath w3.heap.size w3,sb.val.cell? ⟨B,2,none⟩=some (.int .u32 (sum:Int)):=fun sb=>Beneath.cell (by rw [cell_of_row _ _ 2 _ _ _ g3];rfl) (by show B<_;omega) sb
 clear g3 hsz3;refine Zap w3.heap.size w3 (Below.refl _ _) (by kernel_rfl) (by kernel_rfl) ?_
 repeat (go_big_quiet_step (first
  | (go_at_call 56;rename_i sb;exact Calls.beneath sb (Nat.le_refl _) (HF.out _ _ _ _ (by first|exact Or.inl ⟨rfl,rfl,rfl⟩|exact Or.inr ⟨rfl,rfl,rfl⟩)))
  | (go_at_call 72;rename_i sb;exact Calls.beneath sb (Nat.le_refl _) (HUB.out _))
  | (go_at_call 73;rename_i sb;exact Calls.beneath sb (Nat.le_refl _) (HRB.out _ _ _ _ (HI3.out.below sb.is) HL3.out))))
 refine wpQuiet_nil ?_;rintro _ ⟨sb,rfl⟩;have HB4:=zh (HB3.out.trans (sb.is.mono (by have:=HB3.out.size;omega)));clear u1 u2;generalize sb.val=w4 at *;go_wp2_with fail;go_ret;exact⟨by rw [HALL.out];rfl,by rw [hB];exact HB4.out⟩
end
end Go.Proofs.YtlfpbcadcfaboaaGreatDoor

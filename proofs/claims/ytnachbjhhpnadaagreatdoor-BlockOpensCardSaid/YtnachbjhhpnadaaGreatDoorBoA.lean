import Derived.Test.YtnachbjhhpnadaaGreatDoorBcA
import Derived.Test.YtnachbjhhpnadaaGreatDoorBcB
import Derived.Test.YtnachbjhhpnadaaGreatDoorBcC
import Derived.Test.YtnachbjhhpnadaaGreatDoorBcD
import Derived.Test.YtnachbjhhpnadaaGreatDoorBcE
import Derived.Test.YtnachbjhhpnadaaGreatDoorBcF
import Derived.Test.YtnachbjhhpnadaaGreatDoorBcG
import Derived.Test.YtnachbjhhpnadaaGreatDoorBcI
import Derived.Test.YtnachbjhhpnadaaGreatDoorBcJ
import Derived.Test.YtnachbjhhpnadaaGreatDoorBcN
import Derived.Test.YtnachbjhhpnadaaGreatDoorBcO
import Derived.Test.YtnachbjhhpnadaaGreatDoorBcP
import Derived.WalkKit
import Derived.ProofKit
import Derived.OpenShut
import Derived.ShutString
import Derived.ChangeOld
import Derived.Below
import Derived.Lib.Hide
import Derived.Lib.SmallJoins
import Derived.Deep.Slices
import Derived.Test.YtnachbjhhpnadaaGreatDoorRows
import Derived.WalkSpells
import Derived.WalkLawsBesides
import Derived.BigQuiet
import Derived.SliceStrings
import Derived.Laws.OwnMore
import Derived.Laws.AppendOwnNone
import Derived.StillTailTactics
import Derived.Deep.RegionHeld3
import Derived.Deep.RegionLaw
import Derived.Deep.QuietTactic
import Derived.Outline
import Derived.IntWalk
import Derived.Shelf.Abstract
import Derived.Test.YtnachbjhhpnadaaGreatDoorCards
import Derived.Test.YtnachbjhhpnadaaGreatDoorTie
import Derived.LaidMore
import Derived.Stop.Joined
import Derived.BigRegion
import Derived.Laws.CopyRow
import Derived.Deep.Cut
import Derived.Lib.SliceRun
import Derived.Deep.LoopGhost
import Derived.Laws.BitsAllLaws
set_option linter.unusedVariables false
set_option linter.unusedSimpArgs false
set_option maxHeartbeats 8000000
set_option maxRecDepth 100000
namespace Go.Proofs.YtnachbjhhpnadaaGreatDoor
section
namespace Opn
open Go.ChangeShapes Go.WideShapes Go.ChangeAt Go.RowKit Go.Deep
section
variable (P : Program)
def joined (f:TypeId->Option (List Kd)):Nat->List (Nat×TypeId)->Option (List Kd)
 | _,[]=>some []
 | at_,(o,t)::rest=>
  match f t,joined f (at_+P.cellsOf t) rest with
  | some l,some r=>if o=at_/\l.length=P.cellsOf t then some (l++r) else none
  | _,_=>none
def whole (t:TypeId):Option (List Kd)->Option (List Kd)
 | some l=>if l.length=P.cellsOf t then some l else none
 | none=>none
def kinds:Nat->TypeId->Option (List Kd)
 | 0,_=>none
 | n+1,t=>
  match P.underlying t with
  | some (.int k)=>some [.int k]
  | some .bool=>some [.bool]
  | some .string=>some [.str]
  | some (.slice e)=>some [.sl e]
  | some (.struct fs)=>whole P t (joined P (kinds n) 0 (fs.toList.map fun f=>(f.offset,f.type)))
  | some (.array m e)=>whole P t (joined P (kinds n) 0 ((List.range m).map fun i=>(i*P.cellsOf e,e)))
  | _=>none
end
theorem Zb2 {P:Program} {t:TypeId} {o:Option (List Kd)} {ks:List Kd} (h:whole P t o=some ks):o=some ks/\ks.length=P.cellsOf t:=by
 cases o with
 | none=>cases h
 | some l=>
  unfold whole at h;split at h
  ·rename_i l' e;cases e;split at h
   ·rename_i hl;cases h;exact⟨rfl,hl⟩
   ·cases h
  ·cases h
section
variable {H : Type} {enc : TypeId × Value -> H} {P : Program} {w : World} {spare : Nat -> Bool}
theorem ZbB {n:Nat} (ih:∀t ks cs x,kinds P n t=some ks->(∃m,DataW.trod enc P w 0 spare true m t cs=some x)->AllOk enc P w spare ks cs) :
  ∀(ps:List (Nat×TypeId)) (at_:Nat) (ks:List Kd) (cs:List Value),joined P (kinds P n) at_ ps=some ks->(∀p∈ps,∃m x,DataW.trod enc P w 0 spare true m p.2 ((cs.drop p.1).take (P.cellsOf p.2))=some x) ->
   cs.length=at_+ks.length->AllOk enc P w spare ks (cs.drop at_)
 | [],at_,ks,cs,h,_,hl=>by
  obtain rfl:ks=[]:=by simpa [joined] using h.symm
  rw [List.drop_of_length_le (by simpa using Nat.le_of_eq hl)]
  trivial
 | (o,t)::rest,at_,ks,cs,h,hp,hl=>by
  unfold joined at h;split at h
  ·rename_i l r hf hr;split at h
   ·rename_i hc;obtain⟨rfl,hlen⟩:=hc;obtain rfl:l++r=ks:=by simpa using h
    obtain⟨m,x,hx⟩:=hp (o,t) (by simp);have h1:=ih t l _ x hf ⟨m,hx⟩;have h2:=ZbB ih rest (o+P.cellsOf t) r cs hr (fun p hp'=>hp p (List.mem_cons_of_mem _ hp')) (by simp at hl;omega)
    have:cs.drop o=(cs.drop o).take (P.cellsOf t)++cs.drop (o+P.cellsOf t):=by
     rw [<-List.drop_drop];exact(List.take_append_drop _ _).symm
    rw [this];exact h1.append h2
   ·cases h
  ·cases h
theorem ZaQ:∀(n:Nat) (t:TypeId) (ks:List Kd) (cs:List Value) (x:DataW H×List MemPlace),kinds P n t=some ks->(∃m,DataW.trod enc P w 0 spare true m t cs=some x)->AllOk enc P w spare ks cs
 | 0,_,_,_,_,h,_=>by simp [kinds] at h
 | n+1,t,ks,cs,x,h,⟨m,hx⟩=>by
  unfold kinds at h;split at h
  ·rename_i k hu;obtain rfl:[Kd.int k]=ks:=by simpa using h
   obtain⟨q,rfl,_,hw⟩:=DataW.trod_int hu hx;exact⟨⟨q,rfl,hw⟩,trivial⟩
  ·rename_i hu;obtain rfl:[Kd.bool]=ks:=by simpa using h
   obtain⟨b,rfl,_⟩:=DataW.trod_bool hu hx;exact⟨⟨b,rfl⟩,trivial⟩
  ·rename_i hu;obtain rfl:[Kd.str]=ks:=by simpa using h
   obtain⟨s,rfl,_,hs⟩:=DataW.trod_string hu hx;exact⟨⟨s,rfl,hs⟩,trivial⟩
  ·rename_i e hu;obtain rfl:[Kd.sl e]=ks:=by simpa using h
   rcases open_slice hu hx with⟨rfl,_⟩|⟨a,len,cap,mm,q,D,Pl,rfl,_,hl,hm,hmm,_,hi⟩
   ·exact⟨Or.inl rfl,trivial⟩
   ·refine⟨Or.inr ⟨a,len,cap,q,rfl,hl,hm,fun i hi'=>?_⟩,trivial⟩;obtain⟨cs',h1,h2⟩:=hi i (by rw [hmm];split<;>omega);exact⟨cs',_,h1,h2⟩
  ·rename_i fs hu;obtain⟨xs,q,_,_,hl,hxs,hf⟩:=DataW.trod_struct hu hx;obtain⟨h,hlen⟩:=Zb2 h
   have:=ZbB (cs:=cs) (ZaQ n) (fs.toList.map fun f=>(f.offset,f.type)) 0 ks h (fun p hp=>by
    obtain⟨f,hfm,rfl⟩:=List.mem_map.1 hp;obtain⟨i,hi,hfi⟩:=List.getElem_of_mem hfm
    have hfi':fs[i]?=some f:=by
     rw [<-hfi,Array.getElem_toList];exact Array.getElem?_eq_getElem (by simpa using hi)
    have:=hf i f hfi';have hi2:i<xs.length:=by rw [hxs];simpa using hi
    rw [List.getElem?_eq_getElem hi2] at this;exact⟨q,_,this⟩)
   simpa using this (by rw [hl,hlen,Nat.zero_add])
  ·rename_i m' e hu;obtain⟨xs,q,_,_,hl,hxs,hf⟩:=DataW.trod_array hu hx;obtain⟨h,hlen⟩:=Zb2 h
   have:=ZbB (cs:=cs) (ZaQ n) ((List.range m').map fun i=>(i*P.cellsOf e,e)) 0 ks h (fun p hp=>by
    obtain⟨i,hi,rfl⟩:=List.mem_map.1 hp;have hi':i<m':=List.mem_range.1 hi;have:=hf i hi';rw [List.getElem?_eq_getElem (by omega)] at this;exact⟨q,_,this⟩)
   simpa using this (by rw [hl,hlen,Nat.zero_add])
  ·cases h
theorem ZfH {W:World} {base:Nat} {t:TypeId} {v:Value} {d:DataW H} {p:List MemPlace} (n:Nat) (ks:List Kd) (hk:kinds P n t=some ks) (hu:(match P.underlying t with|some (.struct _)|some (.array _ _)=>true|_=>false)=true)
  (hv:Value.okWide P W .any base t v) (h:DataW.Trod enc P W 0 (fun _=>true) true t v d p):∃cs:Array Value,v=.agg cs/\AllOk enc P W (fun _=>true) ks cs.toList:=by
 obtain⟨fuel,hf⟩:=h;unfold Value.okWide at hv;split at hv
 ·obtain⟨cs,rfl,_,_⟩:=hv;exact⟨cs,rfl,ZaQ n t ks _ _ hk ⟨fuel,hf⟩⟩
 ·obtain⟨cs,rfl,_,_⟩:=hv;exact⟨cs,rfl,ZaQ n t ks _ _ hk ⟨fuel,hf⟩⟩
 ·rename_i h1 h2;split at hu<;>simp_all
end
end Opn
end
section
open Go.ChangeShapes Go.WideShapes Go.ChangeAt Go.RowKit
open Go.ChangeMaps (open_string shut_string)
namespace LawShell
theorem own:ownKnob Tryz.prog.godebug=none:=by kernel_rfl
theorem laidOut:laidOutB Tryz.prog=true:=by kernel_rfl
end LawShell
end
section
open Go.RowKit
theorem Zb3 (W:World) (b cap:Nat) (l:List UInt8) (m:Nat) (hm:m=l.length) (h:∀j x,l[j]?=some x->W.cell? ⟨b,j,none⟩=some (u8v x)) :
  (convert 71 9 (.slice (some ⟨b,0,none⟩) m cap)).run Tryz.prog W=.ok (.string ⟨l.toArray⟩) W:=by
 subst hm;refine run_convert_bytes_back W 71 9 5 ⟨b,0,none⟩ cap l Tryz.underlying71 Tryz.underlying5 Tryz.underlying9 (fun j hj=>?_);rw [Addr.add_lit,Nat.zero_add,h j _ (List.getElem?_eq_getElem hj)];simp [u8v]
theorem Zcm (w:World) (x:UInt8) (X:Int) (hX:X=(x.toNat:Int)):(convert 71 9 (.slice (some ⟨w.heap.size,0,none⟩) 1 1)).run Tryz.prog (w.alloc (.cells #[.int .u8 X] 5))=.ok (.string ⟨#[x]⟩) (w.alloc (.cells #[.int .u8 X] 5)):=by
 subst hX;refine Zb3 _ w.heap.size 1 [x] 1 rfl (fun j y hj=>?_);rw [cell_of_row _ _ _ _ _ _ (heap_alloc_new w _)];have:j<1:=(List.getElem?_eq_some_iff.1 hj).1;obtain rfl:j=0:=by omega
 have e:x=y:=by simpa using hj
 subst e;rfl
theorem ZaA (a b:List UInt8):(⟨a.toArray⟩:ByteArray)++⟨b.toArray⟩=⟨(a++b).toArray⟩:=by
 apply ByteArray.ext;simp
end
section
open Go.RowKit BwtM PkM
theorem Zhx (B:Nat) (w:World) (k:Nat):Below B w (w.drewN k):=⟨rfl,rfl,rfl,Nat.le_refl _,fun _ _=>rfl⟩
section
variable {B t g : Nat} {s : ByteArray} {C : Nat -> Nat} {K : List Nat} {l : List UInt8} {o nc nl nf : Nat}
end
end
section
open Go.RowKit BwtM PkM
theorem Zkg (s:ByteArray):(UnM.links s.data.toList).length=s.size:=by rw [UnM.links_len,Zfz]
def blkK (L:List UInt8) (b k:Nat):List Nat:=(List.range k).filter fun i=>UnM.by_ L i==b
theorem Zo9 (L:List UInt8) (b k:Nat):blkK L b (k+1)=blkK L b k++(if UnM.by_ L k=b then[k] else[]):=by
 unfold blkK;rw [List.range_succ,List.filter_append];congr 1;by_cases h:UnM.by_ L k=b
 ·rw [if_pos h];simp [h]
 ·rw [if_neg h];simp [h]
theorem Zq2 (L:List UInt8) (b k:Nat):(blkK L b k).length<=k:=by
 unfold blkK;have:=List.length_filter_le (fun i=>UnM.by_ L i==b) (List.range k)
 rwa [List.length_range] at this
theorem Zq3 (L:List UInt8) (b:Nat):blkK L b L.length=UnM.blk L b:=rfl
theorem Zq4 (l:List Nat) (k:Nat):toI (l++[k])=toI l++[(k:Int)]:=by rw [Zjp];rfl
theorem ZmQ (s:ByteArray) (w:World) (hs:s.size<=100000):Calls Tryz.prog 142 #[.string s] w fun e w'=>∃v,e=.returned v/\OwnI w' w.heap.size v (toI (UnM.links s.data.toList))/\Below w.heap.size w w':=by
 have hl:=Zfz s;have HL:=zh hl;clear hl;go_enter Tryz.func142,Tryz.ntmps142;go_wp2_with fail
 go_loopw [6,3] (fun vb vo wr=>∃b:Nat,vb=.int .i64 (b:Int)/\b<=256/\OwnI wr w.heap.size vo (toI (UnM.linksU s.data.toList b))/\Below w.heap.size w wr) (fun vb _ _=>256-(intOf vb).toNat)
 case atStart=>exact⟨0,rfl,by omega,OwnI.nil _ _,Below.refl _ _⟩
 case round=>
  obtain⟨b,rfl,hb,hO,hB⟩:=hrel;have HO:=zh hO;have HB:=zh hB;clear hO hB;obtain⟨wa,rfl⟩:∃wa:World,wa=wr:=⟨_,rfl⟩
  by_cases hb2:b<256
  ·have hbi:(b:Int)<256:=by omega
   go_wp2_with fail
   go_loopw [11,3] (fun vi vo wr=>∃i:Nat,vi=.int .i64 (i:Int)/\i<=s.size/\OwnI wr w.heap.size vo (toI (UnM.linksU s.data.toList b++blkK s.data.toList b i))/\Below w.heap.size w wr) (fun vi _ _=>s.size-(intOf vi).toNat)
   case atStart=>exact⟨0,rfl,by omega,(by show OwnI _ _ _ (toI (UnM.linksU s.data.toList b++[]));rw [List.append_nil];exact HO.out),HB.out⟩
   case round=>
    clear HO HB;obtain⟨i,rfl,hi,hO,hB⟩:=hrel;have HO:=zh hO;have HB:=zh hB;clear hO hB;by_cases his:i<s.size
    ·have hii:(i:Int)<(s.size:Int):=by omega
     have hat:=ZlH s his;obtain⟨c,hc⟩:∃c,UnM.by_ s.data.toList i=c:=⟨_,rfl⟩
     have hc2:c<256:=by rw [<-hc];exact UnM.by_lt _ _
     have hcw:IntKind.i64.wrap (c:Int)=(c:Int):=IntWalk.i64_in _ (by omega);rw [hc] at hat
     have HNX:Hid (toI (UnM.linksU s.data.toList b++blkK s.data.toList b (i+1))=toI (UnM.linksU s.data.toList b++blkK s.data.toList b i)++(if c=b then[(i:Int)] else[])):=zh (by
      rw [Zo9,hc];by_cases e:c=b
      ·rw [if_pos e,if_pos e,<-List.append_assoc,Zq4]
      ·rw [if_neg e,if_neg e,List.append_nil,List.append_nil])
     have HLEN:Hid ((toI (UnM.linksU s.data.toList b++blkK s.data.toList b i)).length+1<=17592186044416):=zh (by
      rw [toI_length,List.length_append,UnM.linksU_len];have h1:=UnM.fst_le s.data.toList b;have h2:=Zq2 s.data.toList b i;have h3:=HL.out;omega)
     obtain⟨ls,hls⟩:∃ls,toI (UnM.linksU s.data.toList b++blkK s.data.toList b i)=ls:=⟨_,rfl⟩
     rw [hls] at HO HNX HLEN;have hbw:w.heap.size<=wr.heap.size:=HB.out.size;clear hc hls;by_cases hcb:c=b
     ·have hE:((c:Int)==(b:Int))=true:=by rw [beq_iff_eq];omega
      rw [if_pos hcb] at HNX;clear hcb;obtain⟨oa,oc,rfl⟩:=HO.out.slice;obtain⟨ln,hln⟩:∃ln,ls.length=ln:=⟨_,rfl⟩
      rw [hln] at HO ⊢;clear hln;go_wp2_with (at_builtin;go_loud (refine Zar wr rfl _ _ rfl w.heap.size (.slice oa ln oc) ls (i:Int) HO.out rfl rfl HLEN.out hbw ?_));intro v' w' hO' hB';have HO2:=zh (show OwnI w' w.heap.size v' (toI (UnM.linksU s.data.toList b++blkK s.data.toList b (i+1))) by rw [HNX.out];exact hO');have HB2:=zh (HB.out.trans hB');clear hO' hB';go_wp2_with fail;go_roundw
      case rel=>exact⟨i+1,by go_num,by omega,HO2.out,HB2.out⟩
      case measure=>simp [intOf];omega
     ·have hE:((c:Int)==(b:Int))=false:=by rw [beq_eq_false_iff_ne];omega
      rw [if_neg hcb,List.append_nil] at HNX;clear hcb;have HO2:=zh HO.out;rw [<-HNX.out] at HO2;go_wp2_with fail;go_roundw
      case rel=>exact⟨i+1,by go_num,by omega,HO2.out,HB.out⟩
      case measure=>simp [intOf];omega
    ·have hii:¬(i:Int)<(s.size:Int):=by omega
     have hie:i=s.size:=by omega
     have HO2:=HO.out;rw [hie,<-HL.out,Zq3,<-UnM.linksU_next] at HO2;have HO2:=zh HO2;clear hie;go_wp2_with fail;go_roundw
     case rel=>exact⟨b+1,by go_num,by omega,HO2.out,HB.out⟩
     case measure=>simp [intOf];omega
  ·have hbi:¬(b:Int)<256:=by omega
   have hbe:b=256:=by omega
   subst hbe;go_wp2_with fail;go_ret;exact⟨_,rfl,HO.out,HB.out⟩
theorem Zkh (s:ByteArray) {p:Nat} (hp:p<s.size):s.extract p (p+1)=⟨#[s.data.toList.getD p 0]⟩:=by
 apply ByteArray.ext;rw [ByteArray.data_extract];apply Array.ext';rw [Array.toList_extract];have hl:p<s.data.toList.length:=by simpa using hp
 rw [List.extract_eq_take_drop,show p+1-p=1 by omega,List.drop_eq_getElem_cons hl,List.getD_eq_getElem?_getD,List.getElem?_eq_getElem hl];rfl
theorem Zpa (s:ByteArray) (o:Nat) (w:World) (hs:s.size<=100000) (ho:o<s.size):Calls Tryz.prog 80 #[.string s,.int .i64 (o:Int)] w fun e w'=>e=.returned (.string (unText s o))/\Below w.heap.size w w':=by
 have HR:=zh (ZmQ s w hs);have hl:=Zfz s;have HPL:Hid (∀j,UnM.plc (UnM.links s.data.toList) o j<s.size):=zh (fun j=>by rw [<-hl];exact UnM.plc_lt (by rw [hl];exact ho) j);have HKL:=zh (Zkg s);clear hl ho;go_enter Tryz.func80,Tryz.ntmps80;go_wp2_with fail;refine HR.out.mono ?_;rintro e w1 ⟨v,rfl,hO,hB⟩;have HI:=zh hO.ints;obtain⟨a,cap,rfl⟩:=hO.slice;have HB:=zh hB;rw [toI_length,HKL.out] at HI ⊢;clear hO hB;obtain⟨wa,rfl⟩:∃wa:World,wa=w1:=⟨_,rfl⟩
 go_wp2_with fail
 go_loopw [13,6,7] (fun vj vo vp wr=>∃j:Nat,vj=.int .i64 (j:Int)/\j<=s.size/\vo=.string ⟨(BwtM.follow s.data.toList (UnM.links s.data.toList) j o).toArray⟩/\vp=.int .i64 ((UnM.plc (UnM.links s.data.toList) o j:Nat):Int)/\∃m,wr=wa.drewN m) (fun vj _ _ _=>s.size-(intOf vj).toNat)
 case atStart=>exact⟨0,rfl,by omega,rfl,rfl,0,rfl⟩
 case round=>
  obtain⟨j,rfl,hj,rfl,rfl,m,rfl⟩:=hrel;have HLN:=zh (UnM.follow_len s.data.toList (UnM.links s.data.toList) j o);have HNX:=zh (UnM.follow_next s.data.toList (UnM.links s.data.toList) j o);have hp1:=HPL.out j;have hp2:=HPL.out (j+1);have HP2:Hid ((UnM.links s.data.toList).getD (UnM.plc (UnM.links s.data.toList) o j) 0=UnM.plc (UnM.links s.data.toList) o (j+1)):=zh rfl;obtain⟨p1,hpe1⟩:∃p1,UnM.plc (UnM.links s.data.toList) o j=p1:=⟨_,rfl⟩
  obtain⟨p2,hpe2⟩:∃p2,UnM.plc (UnM.links s.data.toList) o (j+1)=p2:=⟨_,rfl⟩
  rw [hpe1] at hp1 HP2 ⊢;rw [hpe2] at hp2 HP2 HNX;have HPE:=zh hpe2;obtain⟨T,hT⟩:∃T,BwtM.follow s.data.toList (UnM.links s.data.toList) j o=T:=⟨_,rfl⟩
  rw [hT] at HLN HNX ⊢;clear hpe1 hpe2;by_cases hjs:j<s.size
  ·have hji:(j:Int)<(s.size:Int):=by omega
   obtain⟨b,off,cp,hv,hc⟩:=(HI.out.below (Zai wa m)).cell (k:=p1) (by rw [toI_length,HKL.out];exact hp1);rw [toI_getD,HP2.out] at hc;simp only [Value.slice.injEq] at hv;obtain⟨rfl,hxx,rfl⟩:=hv;clear hxx hT;have hpi:(p1:Int)<(s.size:Int):=by omega
   have hp2i:(p2:Int)<(s.size:Int):=by omega
   obtain⟨q,hq⟩:∃q,p2+1=q:=⟨_,rfl⟩
   have hqi:(p2:Int)+1=(q:Int):=by omega
   have hqw:IntKind.i64.wrap (q:Int)=(q:Int):=IntWalk.i64_in _ (by omega);have hq1:p2<=q:=by omega
   have hq2:q<=s.size:=by omega
   have hq3:(q:Int)<=(s.size:Int):=by omega
   have hq4:(p2:Int)<=(q:Int):=by omega
   obtain⟨y,hy⟩:∃y:UInt8,s.data.toList.getD p2 0=y:=⟨_,rfl⟩
   have hex:=Zkh s hp2;rw [hq,hy] at hex;rw [hy] at HNX
   have hsz:(⟨T.toArray⟩:ByteArray).size+(⟨#[y]⟩:ByteArray).size<=2199023255552:=by
    rw [Zav,HLN.out];show _+1<=_;omega
   clear hq hy;go_wp2_with fail;go_roundw
   case rel=>exact⟨j+1,by go_num,by omega,by rw [HNX.out,<-ZaA],by rw [HPE.out],_,rfl⟩
   case measure=>simp [intOf];omega
  ·have hji:¬(j:Int)<(s.size:Int):=by omega
   have hje:j=s.size:=by omega
   have HT:Hid (unText s o=⟨T.toArray⟩):=zh (by unfold unText;rw [<-hje,hT]);clear hje hT;go_wp2_with fail;go_ret;exact⟨by rw [HT.out];rfl,HB.out.trans (Zhx _ wa m)⟩
end
section
namespace RleM
def pfx (p:List UInt8) (r:List UInt8×Nat):List UInt8×Nat:=if r.2=0 then(p++r.1,0) else([],r.2)
theorem Zq7 (p:List UInt8) (o:Option ((UInt8×Nat)×List UInt8)):outc (o.map fun q=>(q.1,p++q.2))=pfx p (outc o):=by
 cases o with
 | none=>rfl
 | some q=>
  obtain⟨st,t⟩:=q;simp only [outc,Option.map_some];split<;>simp [pfx]
theorem Zpf (st:UInt8×Nat):res st []=if st.2=4 then([],24) else([],0):=rfl
theorem ZcX (st:UInt8×Nat) (c:UInt8) (l:List UInt8):res st (c::l)=match ustep st c with|none=>([],25)|some r=>pfx r.2 (res r.1 l):=by
 unfold res;rw [urun];cases ustep st c with
 | none=>rfl
 | some r=>exact Zq7 _ _
theorem Zeb (p q:List UInt8) (r:List UInt8×Nat):pfx p (pfx q r)=pfx (p++q) r:=by
 unfold pfx;split<;>simp_all
theorem ZsR (r:List UInt8×Nat) (h:r.2≠0->r.1=[]):pfx [] r=r:=by
 unfold pfx;split
 ·rename_i e;cases r;simp_all
 ·cases r;simp_all
theorem Zhy (a b:UInt8) (l:List UInt8):res (a,0) l=res (b,0) l:=by
 cases l with
 | nil=>rfl
 | cons c l=>
  rw [ZcX,ZcX];have e:∀x:UInt8,ustep (x,0) c=some ((c,1),[c]):=fun x=>by unfold ustep;simp
  rw [e,e]
theorem Zpg {c:UInt8} {k:Nat} (hk:k<4):ustep (c,k) c=some ((c,k+1),[c]):=by
 unfold ustep;simp;omega
theorem Zkk {c d:UInt8} {k:Nat} (hk:k<4) (h:d≠c):ustep (c,k) d=some ((d,1),[d]):=by
 unfold ustep;have:¬k=4:=by omega
 simp [this,h]
theorem ZbJ {c:UInt8} {k:Nat} (l:List UInt8) (hk:k<4):res (c,k) (c::l)=pfx [c] (res (c,k+1) l):=by
 rw [ZcX,Zpg hk]
theorem Zbu {c d:UInt8} {k:Nat} (l:List UInt8) (hk:k<4) (h:d≠c):res (c,k) (d::l)=pfx [d] (res (d,1) l):=by
 rw [ZcX,Zkk hk h]
theorem ZlN (c:UInt8) (l:List UInt8):dec (c::l)=pfx [c] (res (c,1) l):=by
 unfold dec;rw [Zhy 0 c,ZbJ l (by omega)]
def four:List UInt8->Bool
 | a::b::c::d::_=>a==b && b==c && c==d
 | _=>false
theorem Zkl {c:UInt8} {k m:Nat} (hk:k<4) (hm:m<4):res (c,k) []=res (c,m) []:=by
 rw [Zpf,Zpf,if_neg (by simpa using Nat.ne_of_lt hk),if_neg (by simpa using Nat.ne_of_lt hm)]
theorem ZsS (c:UInt8) (l:List UInt8) (h:four (c::l)=false):dec (c::l)=pfx [c] (dec l):=by
 rw [ZlN];congr 1;show res (c,1) l=res (0,0) l;rw [Zhy 0 c]
 match l with
 | []=>exact Zkl (by omega) (by omega)
 | d::l=>
  by_cases hd:d=c
  ·subst hd;rw [ZbJ l (by omega),ZbJ l (by omega)];congr 1
   match l with
   | []=>exact Zkl (by omega) (by omega)
   | e::l=>
    by_cases he:e=d
    ·subst he;rw [ZbJ l (by omega),ZbJ l (by omega)];congr 1
     match l with
     | []=>exact Zkl (by omega) (by omega)
     | f::l=>
      by_cases hf:f=e
      ·subst hf;simp [four] at h
      ·rw [Zbu l (by omega) hf,Zbu l (by omega) hf]
    ·rw [Zbu l (by omega) he,Zbu l (by omega) he]
  ·rw [Zbu l (by omega) hd,Zbu l (by omega) hd]
theorem Zhz (c:UInt8) (l:List UInt8):dec (c::c::c::c::l)=pfx [c,c,c,c] (res (c,4) l):=by
 rw [ZlN,ZbJ _ (by omega),ZbJ _ (by omega),ZbJ _ (by omega),Zeb,Zeb,Zeb];rfl
theorem ZiY (c:UInt8):dec [c,c,c,c]=([],24):=by
 rw [Zhz];rfl
theorem ZiZ (c n:UInt8) (l:List UInt8) (h:251<n.toNat):dec (c::c::c::c::n::l)=([],25):=by
 rw [Zhz,ZcX];have:ustep (c,4) n=none:=by unfold ustep;simp [h]
 rw [this];rfl
theorem Zgd (c n:UInt8) (l:List UInt8) (h:¬251<n.toNat):dec (c::c::c::c::n::l)=pfx (List.replicate (4+n.toNat) c) (dec l):=by
 rw [Zhz,ZcX];have:ustep (c,4) n=some ((c,0),List.replicate n.toNat c):=by unfold ustep;simp [h]
 rw [this];simp only [Zeb];show pfx _ (res (c,0) l)=pfx _ (res (0,0) l);rw [Zhy c 0,show[c,c,c,c]=List.replicate 4 c from rfl,List.replicate_append_replicate]
end RleM
end
section
open Go.RowKit RleM
theorem ZfL {s:ByteArray} (h0:0<s.size):∃c l,s.data.toList=c::l:=by
 cases h:s.data.toList with
 | nil=>
  have h1:s.data.toList.length=0:=by rw [h];rfl
  have h2:s.size=0:=h1;omega
 | cons c l=>exact⟨c,l,rfl⟩
def vsize:Value->Nat
 | .string t=>t.size
 | _=>0
theorem ZhA (t:ByteArray) (n:Nat):(t.extract n t.size).data.toList=t.data.toList.drop n:=by
 have e:t.size=t.data.toList.length:=rfl;rw [ByteArray.data_extract,e];simp only [Array.toList_extract,List.extract_eq_take_drop];rw [List.take_of_length_le (by simp)]
theorem ZdM {s:ByteArray} {k:Nat} (hk:k<s.size):s.data.toList[k]?=some s[k]:=byte_at rfl hk
theorem ZmT {l:List UInt8} (h:l.length<4):four l=false:=by
 match l,h with
 | [],_=>rfl
 | [_],_=>rfl
 | [_,_],_=>rfl
 | [_,_,_],_=>rfl
theorem ZsT {s:ByteArray} (h:4<=s.size):four s.data.toList=(s[0]==s[1] && s[1]==s[2] && s[2]==s[3]):=by
 have e0:=ZdM (s:=s) (k:=0) (by omega);have e1:=ZdM (s:=s) (k:=1) (by omega);have e2:=ZdM (s:=s) (k:=2) (by omega);have e3:=ZdM (s:=s) (k:=3) (by omega);generalize hL:s.data.toList=L at *
 match L with
 | []=>simp at e0
 | [_]=>simp at e1
 | [_,_]=>simp at e2
 | [_,_,_]=>simp at e3
 | a::b::c::d::r=>
  simp at e0 e1 e2 e3;subst e0 e1 e2 e3;rfl
theorem ZhC (a b:UInt8):((a.toNat:Int)==(b.toNat:Int))=(a==b):=by
 by_cases h:a=b
 ·rw [Zka h];simp [h]
 ·rw [Zj9 h];simp [h]
theorem ZeQ (s:ByteArray) (w:World) (hs:s.size<=maxLen):Calls Tryz.prog 141 #[.string s] w fun e w'=>e=.returned (.bool (four s.data.toList))/\∃n,w'=w.drewN n:=by
 unfold maxLen at hs;by_cases h4:(4:Int)<=(s.size:Int)
 ·have HF:=zh (ZsT (s:=s) (by omega));have k0:0<s.size:=by omega
  have k1:1<s.size:=by omega
  have k2:2<s.size:=by omega
  have k3:3<s.size:=by omega
  have j1:(1:Int)<(s.size:Int):=by omega
  have j2:(2:Int)<(s.size:Int):=by omega
  have j3:(3:Int)<(s.size:Int):=by omega
  have b0:=ZhC s[0] s[1];have b1:=ZhC s[1] s[2];have b2:=ZhC s[2] s[3];by_cases e0:(s[0]==s[1])=true
  ·rw [e0] at b0;by_cases e1:(s[1]==s[2])=true
   ·rw [e1] at b1;by_cases e2:(s[2]==s[3])=true
    ·rw [e2] at b2;have HR:=zh (show four s.data.toList=true by rw [HF.out,e0,e1,e2];rfl);clear e0 e1 e2;go_enter Tryz.func141,Tryz.ntmps141;go_wp2_with fail
     go_quiet (fail)
     go_wp2_with fail;go_ret;exact⟨by rw [HR.out];rfl,_,rfl⟩
    ·have e2':(s[2]==s[3])=false:=by simpa using e2
     rw [e2'] at b2;have HR:=zh (show four s.data.toList=false by rw [HF.out,e0,e1,e2'];rfl);clear e0 e1 e2 e2';go_enter Tryz.func141,Tryz.ntmps141;go_wp2_with fail
     go_quiet (fail)
     go_wp2_with fail;go_ret;exact⟨by rw [HR.out];rfl,_,rfl⟩
   ·have e1':(s[1]==s[2])=false:=by simpa using e1
    rw [e1'] at b1;have HR:=zh (show four s.data.toList=false by rw [HF.out,e0,e1'];rfl);clear e0 e1 e1' b2;go_enter Tryz.func141,Tryz.ntmps141;go_wp2_with fail
    go_quiet (fail)
    go_wp2_with fail;go_ret;exact⟨by rw [HR.out];rfl,_,rfl⟩
  ·have e0':(s[0]==s[1])=false:=by simpa using e0
   rw [e0'] at b0;have HR:=zh (show four s.data.toList=false by rw [HF.out,e0'];rfl);clear e0 e0' b1 b2;go_enter Tryz.func141,Tryz.ntmps141;go_wp2_with fail
   go_quiet (fail)
   go_wp2_with fail;go_ret;exact⟨by rw [HR.out];rfl,_,rfl⟩
 ·have HR:=zh (show four s.data.toList=false from ZmT (by show s.size<4;omega));have hd:decide ((4:Int)<=(s.size:Int))=false:=by simp only [decide_eq_false_iff_not];exact h4
  go_enter Tryz.func141,Tryz.ntmps141;go_wp2_with fail
  go_quiet (fail)
  go_wp2_with fail;go_ret;exact⟨by rw [HR.out];rfl,_,rfl⟩
theorem Zi2 {s:ByteArray} {c:UInt8} {l:List UInt8} (h:s.data.toList=c::l):s.extract 0 1=⟨#[c]⟩:=by
 apply ByteArray.ext;rw [ByteArray.data_extract];apply Array.ext';rw [Array.toList_extract,h];rfl
theorem ZmU {l:List UInt8} (h:four l=true):∃c r,l=c::c::c::c::r:=by
 match l,h with
 | a::b::c::d::r,h=>
  simp only [four,Bool.and_eq_true,beq_iff_eq] at h;obtain⟨⟨rfl,rfl⟩,rfl⟩:=h;exact⟨a,r,rfl⟩
theorem ZfM (s:ByteArray) (w:World) (hs:s.size<=4294967296) :
  Calls Tryz.prog 79 #[.string s] w fun e w'=>e=.returned (.tuple #[.string ⟨(dec s.data.toList).1.toArray⟩,.int .i64 ((dec s.data.toList).2:Int)])/\∃n,w'=w.drewN n:=by
 go_enter Tryz.func79,Tryz.ntmps79;go_wp2_with fail
 go_loopw [0,4,27] (fun t v _ wr=>∃(u:ByteArray) (o:List UInt8) (m:Nat),t=.string u/\v=.string ⟨o.toArray⟩/\u.size<=s.size/\o.length+255*u.size<=255*s.size/\Hid (dec s.data.toList=pfx o (dec u.data.toList))/\wr=w.drewN m) (fun t _ _ _=>vsize t)
 case atStart=>exact⟨s,[],0,rfl,rfl,Nat.le_refl _,by simp,zh (ZsR _ (Zj8 _)).symm,rfl⟩
 case round=>
  obtain⟨u,o,m,rfl,rfl,hu,ho,hd,rfl⟩:=hrel;by_cases h0:0<u.size
  ·have hu3:u.size<=maxLen:=by unfold maxLen;omega
   by_cases hf:four u.data.toList=true
   ·obtain⟨c,r,hL⟩:=ZmU hf;have hfo:=zh (Zi2 hL);have hlen:u.size=r.length+4:=by show u.data.toList.length=_;rw [hL];rfl
    have h63:s.size<=4294967296:=hs;cases r with
    | nil=>
     have hz4:((u.size:Int)==4)=true:=by rw [hlen];rfl
     have HD:=zh (show dec s.data.toList=([],24) by rw [hd.out,hL,ZiY];rfl);clear hlen;go_wp2_with fail;refine(ZeQ u _ hu3).mono ?_;rintro e w' ⟨rfl,m2,rfl⟩;rw [hf];clear hf;go_wp2_with fail;go_ret2;exact⟨by rw [HD.out];rfl,_,rfl⟩
    | cons n r=>
     have hz4:((u.size:Int)==4)=false:=by rw [beq_eq_false_iff_ne,hlen];simp;omega
     have hk4:4<u.size:=by rw [hlen];simp
     have hn:u[4]=n:=by have:=byte_at hL hk4;simpa using this.symm
     have hn2:=n.toNat_lt;have HNN:=zh hn;clear hn;have h1s:1<=u.size:=by omega
     have h5s:5<=u.size:=by omega
     by_cases hc:(251:Int)<(u[4].toNat:Int)
     ·have HD:=zh (show dec s.data.toList=([],25) by rw [hd.out,hL,ZiZ c n r (by rw [<-HNN.out];omega)];rfl);clear hlen;go_wp2_with fail;refine(ZeQ u _ hu3).mono ?_;rintro e w' ⟨rfl,m2,rfl⟩;rw [hf];clear hf;go_wp2_with fail;go_ret2;exact⟨by rw [HD.out];rfl,_,rfl⟩
     ·have HD:=zh (show dec u.data.toList=pfx (List.replicate (4+u[4].toNat) c) (dec r) by rw [hL,Zgd c n r (by rw [<-HNN.out];omega),HNN.out]);have HL:=zh hL;have hlen2:u.size=r.length+5:=by rw [hlen];rfl
      have hfo2:=hfo.out;have hu4:=u[4].toNat_lt;clear hlen hL;go_wp2_with fail;refine(ZeQ u _ hu3).mono ?_;rintro e w' ⟨rfl,m2,rfl⟩;rw [hf];clear hf;go_wp2_with fail;obtain⟨N,hN⟩:∃N:Nat,4+u[4].toNat=N:=⟨_,rfl⟩
      have hN2:(4:Int)+(u[4].toNat:Int)=(N:Int):=by omega
      have hN3:N<=255:=by omega
      rw [hN] at HD;rw [hN2]
      go_loop [4,27] (fun v i=>∃k:Nat,k<=N/\i=.int .i64 k/\v=.string ⟨(o++List.replicate k c).toArray⟩) (fun _ i=>N-(intOf i).toNat)
      case atStart=>exact⟨0,by omega,rfl,by simp⟩
      case round=>
       obtain⟨k,hk,rfl,rfl⟩:=hrel;by_cases hlt:k<N
       ·have hsz:(⟨(o++List.replicate k c).toArray⟩:ByteArray).size+(⟨#[c]⟩:ByteArray).size<=2199023255552:=by
         rw [Zav,List.length_append,List.length_replicate];show _+1<=_;omega
        have HR:=zh (show(o++List.replicate k c)++[c]=o++List.replicate (k+1) c by rw [List.replicate_succ',List.append_assoc]);generalize o++List.replicate k c=R at *;go_wp2_with fail
        go_round
        case rel=>exact⟨k+1,by omega,by go_num,by rw [<-HR.out,<-ZaA]⟩
        case measure=>simp [intOf];omega
       ·obtain rfl:k=N:=by omega
        go_wp2_with fail;go_roundw
        case rel=>exact⟨_,o++List.replicate k c,_,rfl,rfl,by simp [ByteArray.size_extract];omega,by simp [ByteArray.size_extract];omega,zh (by rw [hd.out,HD.out,Zeb,<-hlen2,ZhA,HL.out];rfl),rfl⟩
        case measure=>simp [vsize,ByteArray.size_extract];omega
   ·have hf':four u.data.toList=false:=by simpa using hf
    obtain⟨c,l,hL⟩:=ZfL h0;have hfo:=Zi2 hL;have HD:=zh (show dec u.data.toList=pfx [c] (dec l) by rw [hL] at hf' ⊢;exact ZsS c l hf');have HL:=zh hL
    have hsz:(⟨o.toArray⟩:ByteArray).size+(⟨#[c]⟩:ByteArray).size<=2199023255552:=by
     rw [Zav];show _+1<=_;omega
    clear hL hf;have h1s:1<=u.size:=by omega
    go_wp2_with fail;refine(ZeQ u _ hu3).mono ?_;rintro e w' ⟨rfl,m2,rfl⟩;rw [hf'];clear hf';go_wp2_with fail;go_roundw
    case rel=>exact⟨_,o++[c],_,rfl,by rw [<-ZaA],by simp [ByteArray.size_extract];omega,by simp [ByteArray.size_extract];omega,zh (by rw [hd.out,HD.out,Zeb,ZhA,HL.out];rfl),rfl⟩
    case measure=>simp [vsize,ByteArray.size_extract];omega
  ·have hz:u.size=0:=by omega
   have hnil:u.data.toList=[]:=List.eq_nil_of_length_eq_zero hz;have HN:=zh (show dec s.data.toList=(o,0) by rw [hd.out,hnil];simp [dec,res,urun,outc,pfx]);clear hz hnil;go_wp2_with fail;go_ret2;exact⟨by rw [HN.out];rfl,_,rfl⟩
end
section
open Go.ChangeShapes Go.WideShapes Go.RowKit
theorem ZdN {H:Type} {enc:TypeId×Value->H} {P:Program} {w:World} {base:Nat} {sp:Nat->Bool} {held:Bool} {fuel:Nat} {t:TypeId} {k:IntKind} {cs:List Value} {y:DataW H×List MemPlace} {n:Int}
  (ht:P.underlying t=some (.int k)) (h:DataW.trod enc P w base sp held fuel t cs=some y) (hy:y.1=.lit (.int k n)):cs=[.int k n]:=by
 obtain⟨m,rfl,e,_⟩:=DataW.trod_int ht h;rw [e] at hy;simp at hy;rw [hy]
theorem ZcL {H:Type} {enc:TypeId×Value->H} {P:Program} {w:World} {base:Nat} {sp:Nat->Bool} {held:Bool} {fuel n:Nat} {t e:TypeId} {k:IntKind} {cs:List Value} {ps:List MemPlace} {ns:List Int}
  (ht:P.underlying t=some (.array n e)) (he:P.underlying e=some (.int k)) (hc:P.cellsOf e=1) (hct:P.cellsOf t=ns.length)
  (h:DataW.trod enc P w base sp held fuel t cs=some (.agg (ns.map fun x=>.lit (.int k x)),ps)):cs=ns.map fun x=>.int k x:=by
 obtain⟨xs,m,hx0,hx,hl,hn,hel⟩:=DataW.trod_array ht h;simp only [Prod.mk.injEq,DataW.agg.injEq] at hx
 have hlen:xs.length=ns.length:=by
  have:=congrArg List.length hx.1;simpa using this.symm
 apply List.ext_getElem?;intro j;by_cases hj:j<ns.length
 ·have h1:=hel j (by omega);have hxj:xs[j]?=some (xs[j]'(by omega)):=List.getElem?_eq_getElem _;rw [hxj,hc] at h1;have hnj:ns[j]?=some ns[j]:=List.getElem?_eq_getElem hj
  have h2:=ZdN (n:=ns[j]) he h1 (by
   have:=congrArg (fun l=>l[j]?) hx.1;simp only [List.getElem?_map,hnj,hxj,Option.map_some,Option.some.injEq] at this;exact this.symm)
  have h3:=congrArg (fun l=>l[0]?) h2;rw [List.getElem?_map,hnj];simpa using h3
 ·rw [List.getElem?_eq_none (by omega),List.getElem?_eq_none (by simp;omega)]
theorem bounds_of_laid {W : World} (h : laidMetH Tryz.prog [("baler/tables.bounds", Rows.laid_baler_tables_bounds)] W) : Bnds W := by
 rw [MakeChecks.laidMetH_plain _ _ _ (by kernel_rfl)] at h;obtain⟨ps,⟨g0,t0,cs0,f0,p0,q0,hg0,ht0,hv0,hd0,_,_⟩,_,_⟩:=h;have e0:some g0=some 1:=hg0.symm.trans (by kernel_rfl);obtain rfl:g0=1:=Option.some.inj e0;have e1:some t0=some 325:=ht0.symm.trans (by kernel_rfl);obtain rfl:t0=325:=Option.some.inj e1;have hc:=ZcL (ns:=[200,600,1200,2400]) Tryz.underlying325 Tryz.underlying3 (by kernel_rfl) (by kernel_rfl) hd0;simp only [World.var?,hg0,Option.bind_some] at hv0;split at hv0
 ·rename_i cs t fr hh
  have hcs:cs=ZbG:=by
   have:cs=cs0:=by simpa using hv0
   rw [this];apply Array.toList_inj.1;exact hc
  exact⟨t,fr,by rw [<-hcs];exact hh⟩
 ·cases hv0
end
end Go.Proofs.YtnachbjhhpnadaaGreatDoor

import Derived.Test.YtnachbjhhpnadaaGreatDoorBcA
import Derived.Test.YtnachbjhhpnadaaGreatDoorBcB
import Derived.Test.YtnachbjhhpnadaaGreatDoorBcC
import Derived.Test.YtnachbjhhpnadaaGreatDoorBcD
import Derived.Test.YtnachbjhhpnadaaGreatDoorBcG
import Derived.Test.YtnachbjhhpnadaaGreatDoorBcH
import Derived.Test.YtnachbjhhpnadaaGreatDoorBcI
import Derived.Test.YtnachbjhhpnadaaGreatDoorBcJ
import Derived.Test.YtnachbjhhpnadaaGreatDoorBcK
import Derived.Test.YtnachbjhhpnadaaGreatDoorBcM
import Derived.Test.YtnachbjhhpnadaaGreatDoorBcN
import Derived.Test.YtnachbjhhpnadaaGreatDoorBcP
import Derived.WalkKit
import Derived.Lib.BytesEntry
import Derived.Lib.IndexLaws
import Derived.Test.YtnachbjhhpnadaaGreatDoorRows
import Derived.WalkSpells
import Derived.WalkLawsBesides
import Derived.ProofKit
import Derived.OpenShut
import Derived.ShutString
import Derived.ChangeOld
import Derived.Below
import Derived.Lib.Hide
import Derived.BigQuiet
import Derived.SliceStrings
import Derived.Laws.OwnMore
import Derived.Laws.AppendOwnNone
import Derived.StillTailTactics
import Derived.Lib.SmallJoins
import Derived.Deep.Slices
import Derived.Deep.RegionLaw
import Derived.Deep.RegionHeld3
import Derived.WalkMore
import Derived.Laws.StandIn
import Derived.Laws.CopyRow
set_option linter.unusedVariables false
set_option linter.unusedSimpArgs false
set_option maxHeartbeats 8000000
set_option maxRecDepth 100000
namespace Go.Proofs.YtnachbjhhpnadaaGreatDoor
section
namespace UsedM
open Go.RowKit BitM
theorem Zee (l:List UInt8):IsSyms l↔(l≠[]/\syms (has l) 256=l):=
 ⟨fun h=>⟨h.2,ZgX h.1⟩,fun h=>⟨h.2▸ZeY (has l),h.1⟩⟩
end UsedM
end
section
namespace MtfM
open Go.RowKit UsedM
theorem ZfN {l:List UInt8} {c:UInt8} (hn:∀j,j<l.length->l[j]?≠some c):Lib.indexByte l c=-1:=by
 have hge:=Lib.indexByte_ge l c;by_cases h1:Lib.indexByte l c=-1
 ·exact h1
 ·obtain⟨o,ho⟩:∃o:Nat,Lib.indexByte l c=(o:Int):=⟨(Lib.indexByte l c).toNat,by omega⟩
  obtain⟨h2,h3⟩:=Lib.indexByte_some ho;exact absurd h2 (hn o (List.getElem?_eq_some_iff.1 h2).1)
end MtfM
end
section
open Go.ChangeShapes Go.WideShapes Go.ChangeAt Go.RowKit
open Go.ChangeMaps (open_string shut_string)
namespace LawShell
theorem own:ownKnob Tryz.prog.godebug=none:=by kernel_rfl
theorem laidOut:laidOutB Tryz.prog=true:=by kernel_rfl
end LawShell
theorem Beneath.cell {B:Nat} {w:World} {p:Addr} {v:Value} (h:w.cell? p=some v) (hB:p.block<B) (s:Beneath B w):s.val.cell? p=some v:=(s.is.cell hB).trans h
theorem ZaF {P:Program} {id:Nat} {Q:Exit->Act->World->Prop} {a:Act} {w:World} {l:List Oper} (B:Nat) (w0:World) (h0:Below B w0 w) (hm:P.follows .mixedOrders=true) (hB:Region.lexB .any l.toArray=true)
  (h:wpQuiet P l.toArray (fun w'=>∃s:Beneath B w0,w'=s.val) (fun a'=>∀w',(∃s:Beneath B w0,w'=s.val)->Q .normal a' w') l a):(Code.region id l.toArray true).wp P Q a w:=
 wp_region_quiet (C:=fun w'=>∃s:Beneath B w0,w'=s.val) hm hB ⟨⟨w.drew,h0.drew⟩,rfl⟩ (by simpa using h)
theorem Calls.beneath {P:Program} {f:FuncId} {args:Array Value} {B:Nat} {w:World} {v:Value} (s:Beneath B w) (hB:B<=w.heap.size)
  (h:Calls P f args s.val fun e w'=>e=.returned v/\Below s.val.heap.size s.val w'):Calls P f args s.val fun e w''=>e=.returned v/\∃s':Beneath B w,w''=s'.val:=
 h.mono fun _ w' ⟨he,hb⟩=>⟨he,⟨w',s.is.trans (hb.mono (Nat.le_trans hB s.is.size))⟩,rfl⟩
theorem Calls.beneath_same {P:Program} {f:FuncId} {args:Array Value} {B:Nat} {w:World} {v:Value} (s:Beneath B w)
  (h:Calls P f args s.val fun e w'=>e=.returned v/\s.val=w'):Calls P f args s.val fun e w''=>e=.returned v/\∃s':Beneath B w,w''=s'.val:=
 h.mono fun _ _ ⟨he,hb⟩=>⟨he,s,hb.symm⟩
end
section
namespace PkM
open Go.RowKit BitM
def lets (o:List Nat):List UInt8:=o.map fun n=>UInt8.ofNat (48+n)
theorem ZhD (o:List Nat) (i:Nat):MtfM.touch (lets o) i=lets (tch o i):=by
 unfold MtfM.touch tch lets;rw [<-List.map_drop,<-List.map_take,<-List.map_take,<-List.map_drop,<-List.map_append,<-List.map_append]
theorem Zco (o:List Nat):(lets o).length=o.length:=by simp [lets]
theorem ZeR {o:List Nat} {i x:Nat} (h:o[i]?=some x):(lets o)[i]?=some (UInt8.ofNat (48+x)):=by
 unfold lets;rw [List.getElem?_map,h];rfl
theorem ZmV {o:List Nat} (h:Six o) {p:Nat} (hp:p∈o):Lib.indexByte (lets o) (UInt8.ofNat (48+p))=(o.idxOf p:Int):=by
 have hp6:=h.2 p hp;have hi:o.idxOf p<o.length:=List.idxOf_lt_length_of_mem hp;refine MtfM.place_is (ZeR (by rw [List.getElem?_eq_getElem hi,List.getElem_idxOf])) (fun j hj hh=>?_);have hj2:j<o.length:=by omega
 rw [ZeR (List.getElem?_eq_getElem hj2)] at hh;have h6:=h.2 _ (List.getElem_mem hj2);have e:=congrArg UInt8.toNat (Option.some.inj hh);simp only [UInt8.toNat_ofNat'] at e;refine ZhX hj ?_;rw [List.getElem?_eq_getElem hj2];congr 1;omega
end PkM
end
section
open Go.RowKit
theorem Zb3 (W:World) (b cap:Nat) (l:List UInt8) (m:Nat) (hm:m=l.length) (h:∀j x,l[j]?=some x->W.cell? ⟨b,j,none⟩=some (u8v x)) :
  (convert 71 9 (.slice (some ⟨b,0,none⟩) m cap)).run Tryz.prog W=.ok (.string ⟨l.toArray⟩) W:=by
 subst hm;refine run_convert_bytes_back W 71 9 5 ⟨b,0,none⟩ cap l Tryz.underlying71 Tryz.underlying5 Tryz.underlying9 (fun j hj=>?_);rw [Addr.add_lit,Nat.zero_add,h j _ (List.getElem?_eq_getElem hj)];simp [u8v]
theorem Zcm (w:World) (x:UInt8) (X:Int) (hX:X=(x.toNat:Int)):(convert 71 9 (.slice (some ⟨w.heap.size,0,none⟩) 1 1)).run Tryz.prog (w.alloc (.cells #[.int .u8 X] 5))=.ok (.string ⟨#[x]⟩) (w.alloc (.cells #[.int .u8 X] 5)):=by
 subst hX;refine Zb3 _ w.heap.size 1 [x] 1 rfl (fun j y hj=>?_);rw [cell_of_row _ _ _ _ _ _ (heap_alloc_new w _)];have:j<1:=(List.getElem?_eq_some_iff.1 hj).1;obtain rfl:j=0:=by omega
 have e:x=y:=by simpa using hj
 subst e;rfl
theorem ZhE (s:ByteArray):s=⟨s.data.toList.toArray⟩:=by cases s;simp
theorem ZaA (a b:List UInt8):(⟨a.toArray⟩:ByteArray)++⟨b.toArray⟩=⟨(a++b).toArray⟩:=by
 apply ByteArray.ext;simp
theorem ZbK {ops:Array Oper} {rest:List Oper} {o:Oper} {a:Act} {Q:Exit->Act->World->Prop} (W:World) (hgd:o.guard=none) (s x:Operand)
  (ho:o.op=.call { callee:=.builtin .append,args:=#[s,x],argTypes:=#[79,79] })
  (base:Nat) (v:Value) (zs:List Int) (base2:Nat) (u:Value) (ys:List Int) (hown:OwnI W base v zs) (hsrc:OwnI W base2 u ys) (hs:a.eval s=v) (hx:a.eval x=u)
  (hlen:zs.length+ys.length<=17592186044416) (hb:base<=W.heap.size)
  (h:∀v' w',OwnI w' base v' (zs++ys)->Below base W w'->wpList Tryz.prog ops Q rest (a.put o.dst v') w') :
  wpList Tryz.prog ops Q (o::rest) a W:=by
 obtain⟨i0,hi,hz0,hz1,hz2⟩:=info_parts ZbF;rcases hsrc.2 with⟨rfl,h0⟩|⟨g,cap,cur,rfl,_,hg,hnc,_,_,htake⟩
 ·obtain rfl:ys=[]:=List.eq_nil_of_length_eq_zero h0;refine wpList_append_own_none hgd s x 79 ho base 3 i0 1 Tryz.underlying79 hi v zs.length (zs.map iv64) hs hown hx ?_;have:=h v W;rw [List.append_nil] at this;exact this hown (Below.refl _ _)
 ·refine wpList_append_own _ hgd s x 79 ho base 3 i0 (.int .i64 0) 1 8 Tryz.underlying79 hi hz0 hz1 hz2 rfl (by decide) v zs.length (zs.map iv64) hs hown ⟨g,0,none⟩ ys.length cap (ys.map iv64) hx (by simp) ?_ ?_ ?_ ?_ ?_ ?_
  ·exact World.ownsRow.cells hsrc rfl
  ·intro u hu;obtain⟨y,_,rfl⟩:=List.mem_map.1 hu;rfl
  ·unfold maxLen;omega
  ·omega
  ·exact hb
  ·intro v' w' hown' hgr _;refine h v' w' ?_ (Below.grown (Below.refl base W) hgr hb (fun j hj=>(World.ownsRow.lt hown j hj).1));unfold OwnI;rw [List.length_append,List.map_append];exact hown'
theorem ZfO (v:Value) (zs:List Int) (a b:Int) (r:Bool) (w:World) (hv:IsInts w v zs) (hr:r=true↔Within a b zs) (hz:zs.length<=9223372036854775807) :
  Calls Tryz.prog 230 #[v,.int .i64 a,.int .i64 b] w fun e w'=>e=.returned (.bool r)/\w'=w:=by
 have HV:=zh hv;have HRR:=zh hr;obtain⟨ad,cap,rfl,_⟩:=hv;clear hr;go_enter Tryz.func230,Tryz.ntmps230;go_wp2_with fail
 go_loopw [11] (fun i wr=>∃k:Nat,k<=zs.length/\i=.int .i64 k/\wr=w/\∀j,j<k->a<=zs.getD j 0/\zs.getD j 0<=b) (fun i _=>zs.length-(intOf i).toNat)
 case atStart=>exact⟨0,by omega,rfl,rfl,fun j hj=>by omega⟩
 case round=>
  obtain⟨k,hk,rfl,rfl,hA⟩:=hrel;have HA:=zh hA;clear hA;by_cases hlk:k<zs.length
  ·have hki:(k:Int)<(zs.length:Int):=by omega
   obtain⟨b1,o1,k1,he1,c1⟩:=HV.out.cell hlk;simp only [Value.slice.injEq] at he1;obtain⟨rfl,_,rfl⟩:=he1;obtain⟨x,hx⟩:∃x,zs.getD k 0=x:=⟨_,rfl⟩
   rw [hx] at c1;have HX:=zh hx;clear hx;by_cases h1:x<a
   ·have hrf:r=false:=by
     rw [Bool.eq_false_iff,Ne,HRR.out];intro h;have:=h _ (getD_mem hlk);rw [HX.out] at this;omega
    subst hrf;go_wp2_with fail;go_ret;exact⟨rfl,rfl⟩
   ·have hd:decide (x<a)=false:=by simp only [decide_eq_false_iff_not];exact h1
    by_cases h2:b<x
    ·have hrf:r=false:=by
      rw [Bool.eq_false_iff,Ne,HRR.out];intro h;have:=h _ (getD_mem hlk);rw [HX.out] at this;omega
     subst hrf;go_wp2_with fail;go_ret;exact⟨rfl,rfl⟩
    ·have hd2:decide (b<x)=false:=by simp only [decide_eq_false_iff_not];exact h2
     go_wp2_with fail;go_roundw
     case rel=>exact⟨k+1,by omega,by go_num,(by first|rfl|trivial),fun j hj=>by
      by_cases e:j=k
      ·subst e;rw [HX.out];omega
      ·exact HA.out j (by omega)⟩
     case measure=>simp [intOf];omega
  ·have hki:¬(k:Int)<(zs.length:Int):=by omega
   have hrt:r=true:=by
    rw [HRR.out];exact Zds (fun j hj=>HA.out j (by omega))
   subst hrt;go_wp2_with fail;go_ret;exact⟨rfl,rfl⟩
end
section
namespace Opn
open Go.ChangeShapes Go.WideShapes Go.ChangeAt Go.RowKit Go.Deep
section
variable (P : Program)
def joined (f:TypeId->Option (List Kd)):Nat->List (Nat×TypeId)->Option (List Kd)
 | _,[]=>some []
 | at_,(o,t)::rest=>
  match f t,joined f (at_+P.cellsOf t) rest with
  | some l,some r=>if o=at_/\l.length=P.cellsOf t then some (l++r) else none
  | _,_=>none
def whole (t:TypeId):Option (List Kd)->Option (List Kd)
 | some l=>if l.length=P.cellsOf t then some l else none
 | none=>none
def kinds:Nat->TypeId->Option (List Kd)
 | 0,_=>none
 | n+1,t=>
  match P.underlying t with
  | some (.int k)=>some [.int k]
  | some .bool=>some [.bool]
  | some .string=>some [.str]
  | some (.slice e)=>some [.sl e]
  | some (.struct fs)=>whole P t (joined P (kinds n) 0 (fs.toList.map fun f=>(f.offset,f.type)))
  | some (.array m e)=>whole P t (joined P (kinds n) 0 ((List.range m).map fun i=>(i*P.cellsOf e,e)))
  | _=>none
end
theorem Zb2 {P:Program} {t:TypeId} {o:Option (List Kd)} {ks:List Kd} (h:whole P t o=some ks):o=some ks/\ks.length=P.cellsOf t:=by
 cases o with
 | none=>cases h
 | some l=>
  unfold whole at h;split at h
  ·rename_i l' e;cases e;split at h
   ·rename_i hl;cases h;exact⟨rfl,hl⟩
   ·cases h
  ·cases h
section
variable {H : Type} {enc : TypeId × Value -> H} {P : Program} {w : World} {spare : Nat -> Bool}
theorem ZbB {n:Nat} (ih:∀t ks cs x,kinds P n t=some ks->(∃m,DataW.trod enc P w 0 spare true m t cs=some x)->AllOk enc P w spare ks cs) :
  ∀(ps:List (Nat×TypeId)) (at_:Nat) (ks:List Kd) (cs:List Value),joined P (kinds P n) at_ ps=some ks->(∀p∈ps,∃m x,DataW.trod enc P w 0 spare true m p.2 ((cs.drop p.1).take (P.cellsOf p.2))=some x) ->
   cs.length=at_+ks.length->AllOk enc P w spare ks (cs.drop at_)
 | [],at_,ks,cs,h,_,hl=>by
  obtain rfl:ks=[]:=by simpa [joined] using h.symm
  rw [List.drop_of_length_le (by simpa using Nat.le_of_eq hl)]
  trivial
 | (o,t)::rest,at_,ks,cs,h,hp,hl=>by
  unfold joined at h;split at h
  ·rename_i l r hf hr;split at h
   ·rename_i hc;obtain⟨rfl,hlen⟩:=hc;obtain rfl:l++r=ks:=by simpa using h
    obtain⟨m,x,hx⟩:=hp (o,t) (by simp);have h1:=ih t l _ x hf ⟨m,hx⟩;have h2:=ZbB ih rest (o+P.cellsOf t) r cs hr (fun p hp'=>hp p (List.mem_cons_of_mem _ hp')) (by simp at hl;omega)
    have:cs.drop o=(cs.drop o).take (P.cellsOf t)++cs.drop (o+P.cellsOf t):=by
     rw [<-List.drop_drop];exact(List.take_append_drop _ _).symm
    rw [this];exact h1.append h2
   ·cases h
  ·cases h
theorem ZaQ:∀(n:Nat) (t:TypeId) (ks:List Kd) (cs:List Value) (x:DataW H×List MemPlace),kinds P n t=some ks->(∃m,DataW.trod enc P w 0 spare true m t cs=some x)->AllOk enc P w spare ks cs
 | 0,_,_,_,_,h,_=>by simp [kinds] at h
 | n+1,t,ks,cs,x,h,⟨m,hx⟩=>by
  unfold kinds at h;split at h
  ·rename_i k hu;obtain rfl:[Kd.int k]=ks:=by simpa using h
   obtain⟨q,rfl,_,hw⟩:=DataW.trod_int hu hx;exact⟨⟨q,rfl,hw⟩,trivial⟩
  ·rename_i hu;obtain rfl:[Kd.bool]=ks:=by simpa using h
   obtain⟨b,rfl,_⟩:=DataW.trod_bool hu hx;exact⟨⟨b,rfl⟩,trivial⟩
  ·rename_i hu;obtain rfl:[Kd.str]=ks:=by simpa using h
   obtain⟨s,rfl,_,hs⟩:=DataW.trod_string hu hx;exact⟨⟨s,rfl,hs⟩,trivial⟩
  ·rename_i e hu;obtain rfl:[Kd.sl e]=ks:=by simpa using h
   rcases open_slice hu hx with⟨rfl,_⟩|⟨a,len,cap,mm,q,D,Pl,rfl,_,hl,hm,hmm,_,hi⟩
   ·exact⟨Or.inl rfl,trivial⟩
   ·refine⟨Or.inr ⟨a,len,cap,q,rfl,hl,hm,fun i hi'=>?_⟩,trivial⟩;obtain⟨cs',h1,h2⟩:=hi i (by rw [hmm];split<;>omega);exact⟨cs',_,h1,h2⟩
  ·rename_i fs hu;obtain⟨xs,q,_,_,hl,hxs,hf⟩:=DataW.trod_struct hu hx;obtain⟨h,hlen⟩:=Zb2 h
   have:=ZbB (cs:=cs) (ZaQ n) (fs.toList.map fun f=>(f.offset,f.type)) 0 ks h (fun p hp=>by
    obtain⟨f,hfm,rfl⟩:=List.mem_map.1 hp;obtain⟨i,hi,hfi⟩:=List.getElem_of_mem hfm
    have hfi':fs[i]?=some f:=by
     rw [<-hfi,Array.getElem_toList];exact Array.getElem?_eq_getElem (by simpa using hi)
    have:=hf i f hfi';have hi2:i<xs.length:=by rw [hxs];simpa using hi
    rw [List.getElem?_eq_getElem hi2] at this;exact⟨q,_,this⟩)
   simpa using this (by rw [hl,hlen,Nat.zero_add])
  ·rename_i m' e hu;obtain⟨xs,q,_,_,hl,hxs,hf⟩:=DataW.trod_array hu hx;obtain⟨h,hlen⟩:=Zb2 h
   have:=ZbB (cs:=cs) (ZaQ n) ((List.range m').map fun i=>(i*P.cellsOf e,e)) 0 ks h (fun p hp=>by
    obtain⟨i,hi,rfl⟩:=List.mem_map.1 hp;have hi':i<m':=List.mem_range.1 hi;have:=hf i hi';rw [List.getElem?_eq_getElem (by omega)] at this;exact⟨q,_,this⟩)
   simpa using this (by rw [hl,hlen,Nat.zero_add])
  ·cases h
theorem ZfH {W:World} {base:Nat} {t:TypeId} {v:Value} {d:DataW H} {p:List MemPlace} (n:Nat) (ks:List Kd) (hk:kinds P n t=some ks) (hu:(match P.underlying t with|some (.struct _)|some (.array _ _)=>true|_=>false)=true)
  (hv:Value.okWide P W .any base t v) (h:DataW.Trod enc P W 0 (fun _=>true) true t v d p):∃cs:Array Value,v=.agg cs/\AllOk enc P W (fun _=>true) ks cs.toList:=by
 obtain⟨fuel,hf⟩:=h;unfold Value.okWide at hv;split at hv
 ·obtain⟨cs,rfl,_,_⟩:=hv;exact⟨cs,rfl,ZaQ n t ks _ _ hk ⟨fuel,hf⟩⟩
 ·obtain⟨cs,rfl,_,_⟩:=hv;exact⟨cs,rfl,ZaQ n t ks _ _ hk ⟨fuel,hf⟩⟩
 ·rename_i h1 h2;split at hu<;>simp_all
end
end Opn
end
section
namespace FreqM
open Go.RowKit
theorem Zkn (l:List Int) (N:Nat):counts l (N+1)=counts l N++[(l.count (N:Int):Int)]:=by
 simp [counts,List.range_succ]
def wgh (l lens:List Int) (k:Nat):Int:=sumF ((List.range k).map fun j:Nat=>lens.getD j 0*(l.count (j:Int):Int))
theorem ZeS (l lens:List Int) (k:Nat):wgh l lens (k+1)=wgh l lens k+lens.getD k 0*(l.count (k:Int):Int):=by
 unfold wgh;rw [List.range_succ,List.map_append,Zg4];simp [sumF]
theorem ZfP (x:Nat) (t lens:List Int):∀k:Nat,wgh ((x:Int)::t) lens k=wgh t lens k+if x<k then lens.getD x 0 else 0
 | 0=>by simp [wgh,sumF]
 | k+1=>by
  rw [ZeS,ZeS,ZfP x t lens k,List.count_cons];by_cases e:x=k
  ·subst e;rw [if_neg (by omega),if_pos (by simp),if_pos (by omega)];simp only [Int.natCast_add,Int.mul_add];simp;omega
  ·rw [show((if ((x:Int)==(k:Int))=true then 1 else 0):Nat)=0 from if_neg (by simp;omega)];by_cases h:x<k
   ·rw [if_pos h,if_pos (by omega)];simp;omega
   ·rw [if_neg h,if_neg (by omega)];simp
theorem ZsW (l lens:List Int) (h:Syms l (lens.length:Int)):wgh l lens lens.length=costS l lens:=by
 induction l with
 | nil=>
  have:∀k,wgh [] lens k=0:=fun k=>by
   induction k with
   | zero=>rfl
   | succ k ih=>rw [ZeS,ih];simp
  rw [this];rfl
 | cons x t ih=>
  have hx:=h x (List.mem_cons_self ..);have ht:=ih (fun y hy=>h y (List.mem_cons_of_mem _ hy));obtain⟨n,rfl⟩:∃n:Nat,x=(n:Int):=⟨x.toNat,by omega⟩
  rw [ZfP,ht,if_pos (by omega)];unfold costS;simp only [List.map_cons,sumF];simp;omega
def grps (l:List Int) (q:Nat):List (List Int):=(List.range q).map (grp l)
theorem Zcp (l:List Int) (q:Nat):(grps l q).length=q:=by simp [grps]
theorem Zi3 (l:List Int) (q:Nat):grps l (q+1)=grps l q++[grp l q]:=by simp [grps,List.range_succ]
theorem Zq9 (l:List Int) (q i:Nat) (h:i<(grps l q).length):(grps l q)[i]=grp l i:=by simp [grps]
end FreqM
end
section
theorem ZbL (a b:ByteArray) (r:Bool) (h:r=true↔a=b):(a.toList==b.toList)=r:=by
 rw [Bool.eq_iff_iff,beq_iff_eq,ByteArray.toList_eq,ByteArray.toList_eq,h];constructor
 ·intro h;apply ByteArray.ext;exact Array.toList_inj.1 h
 ·rintro rfl;rfl
end
section
open Go.RowKit BitM
def chr (b:Bool):UInt8:=if b then 49 else 48
def txt (q:List Bool):ByteArray:=⟨(q.map chr).toArray⟩
theorem Zaf (q:List Bool):(txt q).size=q.length:=by show(q.map chr).toArray.size=_;simp
theorem Zal (p q:List Bool):txt p++txt q=txt (p++q):=by
 apply ByteArray.ext;simp [txt]
theorem Zef (X k:Nat):field X (k+1)=(X / 2^k % 2==1)::field X k:=by
 apply Zcr
 ·simp [Zac]
 ·have e:num ((X / 2^k % 2==1)::field X k)=bn (X / 2^k % 2==1)*2^(field X k).length+num (field X k):=ZaE [X / 2^k % 2==1] (field X k) |>.trans (by rw [show num [X / 2^k % 2==1]=bn (X / 2^k % 2==1) from Nat.zero_add _])
  have hb:bn (X / 2^k % 2==1)=X / 2^k % 2:=by
   have:X / 2^k % 2=0\/X / 2^k % 2=1:=by omega
   rcases this with h|h<;>simp [h,bn]
  rw [e,hb,Zac,Zau,Zau,Nat.pow_succ,Nat.mod_mul,Nat.mul_comm,Nat.add_comm]
theorem Zko (v:Nat):(⟨#[48,49]⟩:ByteArray).extract (v % 2) (v % 2+1)=txt [v % 2==1]:=by
 have:v % 2=0\/v % 2=1:=by omega
 rcases this with h|h<;>rw [h]<;>decide
theorem ZaN (X n:Nat) (w:World) (hn:n<=32) (hX32:X<4294967296):Calls Tryz.prog 59 #[.int .u32 (X:Int),.int .i64 (n:Int)] w fun e w'=>e=.returned (.string (txt (field X n)))/\w=w':=by
 go_enter Tryz.func59,Tryz.ntmps59;go_wp2_with fail
 go_loop [0,5,7] (fun v s i=>∃k:Nat,k<=n/\i=.int .i64 k/\v=.int .u32 ((X / 2^k:Nat):Int)/\s=.string (txt (field X k))) (fun _ _ i=>n-(intOf i).toNat)
 case atStart=>exact⟨0,by omega,rfl,by simp,rfl⟩
 case round=>
  obtain⟨k,hk,rfl,rfl,rfl⟩:=hrel;have hv:X / 2^k<=X:=Nat.div_le_self _ _;by_cases hlt:k<n
  ·have h1:=Zko (X / 2^k);have hf:=zh (Zef X k);have hd:Hid (X / 2^k / 2=X / 2^(k+1)):=zh (by rw [Nat.pow_succ,Nat.div_div_eq_div_mul]);have hsz:(txt [X / 2^k % 2==1]).size+(txt (field X k)).size<=64:=by rw [Zaf,Zaf,Zac];simp;omega
   generalize X / 2^k=V at *;go_wp2_with fail
   go_round
   case rel=>exact⟨k+1,by omega,by go_num,iv (by rw [<-hd.out];simp),by rw [Zal,hf.out];rfl⟩
   case measure=>simp [intOf];omega
  ·obtain rfl:k=n:=by omega
   go_wp2_with fail;go_ret;exact⟨rfl,rfl⟩
theorem ZfQ (q:List Bool) (k:Nat) (hk:k<q.length) (h:k<(txt q).size):((txt q)[k].toNat:Int)=48+(bn q[k]:Int):=by
 have e:(txt q)[k]=chr q[k]:=by
  have h2:(txt q).data[k]'(by simpa [txt] using hk)=chr q[k]:=by simp [txt]
  exact h2
 rw [e];unfold chr bn;split<;>rfl
theorem Za9 (q:List Bool) (w:World) (hq:q.length<=32):Calls Tryz.prog 69 #[.string (txt q)] w fun e w'=>e=.returned (.int .u32 (num q:Int))/\w=w':=by
 have hts:=Zaf q;have HTS:=zh hts;have hz:((txt q).size:Int)=(q.length:Int):=by omega
 clear hts;go_enter Tryz.func69,Tryz.ntmps69;go_wp2_with fail
 go_loop [3,4] (fun v i=>∃k:Nat,k<=q.length/\i=.int .i64 k/\v=.int .u32 (num (q.take k):Int)) (fun _ i=>q.length-(intOf i).toNat)
 case atStart=>exact⟨0,by omega,rfl,rfl⟩
 case round=>
  obtain⟨k,hk,rfl,rfl⟩:=hrel;by_cases hlt:k<q.length
  ·have hlz:k<(txt q).size:=by have:=HTS.out;omega
   have hg:=ZfQ q k hlt hlz;have hb:=ZrV q[k];have hv:num (q.take k)<2^31:=Nat.lt_of_lt_of_le (ZaB _) (Nat.pow_le_pow_right (by omega) (by simp;omega));have HN:Hid (num (q.take (k+1))=2*num (q.take k)+bn q[k]):=zh (by rw [List.take_succ_eq_append_getElem hlt,ZeB]);generalize num (q.take k)=V at *;generalize bn q[k]=B at *;go_wp2_with fail
   go_round
   case rel=>exact⟨k+1,by omega,by go_num,iv (by rw [HN.out];omega)⟩
   case measure=>simp [intOf];omega
  ·obtain rfl:k=q.length:=by omega
   go_wp2_with fail;go_ret;exact⟨rfl,rfl⟩
theorem ZfR (k:Nat):field 0 k++[false]=field 0 (k+1):=by
 show _=field (0 / 2) k++[0 % 2==1];rfl
theorem ZmW (q:List Bool) (w:World) (hq:q.length<=1099511627776):Calls Tryz.prog 50 #[.string (txt q)] w fun e w'=>e=.returned (.string (txt (q++padding q)))/\w=w':=by
 have H0:=zh (show txt (q++field 0 0)=txt q by simp [field]);go_enter Tryz.func50,Tryz.ntmps50;go_wp2_with fail
 go_loop [0] (fun s=>∃k:Nat,k<=(8-q.length % 8) % 8/\s=.string (txt (q++field 0 k))) (fun s=>match s with|.string s=>q.length+8-s.size|_=>0)
 case atStart=>exact⟨0,by omega,by rw [H0.out]⟩
 case round=>
  obtain⟨k,hk,rfl⟩:=hrel;have hsz:(txt (q++field 0 k)).size=q.length+k:=by rw [Zaf,List.length_append,Zac]
  have HS1:Hid (txt (q++field 0 k)++⟨#[48]⟩=txt (q++field 0 (k+1))):=zh (by
   rw [<-ZfR,<-List.append_assoc,show(⟨#[48]⟩:ByteArray)=txt [false] from rfl,Zal])
  have hsz1:(txt (q++field 0 (k+1))).size=q.length+(k+1):=by rw [Zaf,List.length_append,Zac]
  have HSE:Hid (k=(8-q.length % 8) % 8->txt (q++field 0 k)=txt (q++padding q)):=zh (fun h=>by rw [h];rfl);generalize txt (q++field 0 k)=T at *;obtain⟨T1,hT1⟩:∃T1,txt (q++field 0 (k+1))=T1:=⟨_,rfl⟩
  rw [hT1] at HS1 hsz1;have HT1:=zh hT1;clear hT1;by_cases hlt:k<(8-q.length % 8) % 8
  ·have hc:((T.size:Int) % 8 != 0)=true:=by simp only [bne_iff_ne];omega
   have h1:(⟨#[48]⟩:ByteArray).size=1:=rfl;go_wp2_with fail;rw [HS1.out];exact⟨⟨k+1,by omega,by rw [HT1.out]⟩,by show q.length+8-T1.size<q.length+8-T.size;omega⟩
  ·have hc:((T.size:Int) % 8 != 0)=false:=by simp only [bne_eq_false_iff_eq];omega
   go_wp2_with fail;go_ret;rw [HSE.out (by omega)];exact⟨rfl,rfl⟩
theorem ZcY (q:List Bool) (n:Nat) (h:n<=q.length):(txt q).extract 0 n=txt (q.take n):=by
 apply ByteArray.ext;simp [txt]
theorem Zbo (q:List Bool) (n:Nat) (h:n<=q.length):(txt q).extract n (txt q).size=txt (q.drop n):=by
 apply ByteArray.ext;have e:(txt q).size=q.length:=Zaf q;rw [e];simp only [txt,ByteArray.data_extract,List.extract_toArray,List.extract_eq_take_drop,List.map_drop];rw [List.take_of_length_le (by simp)]
theorem Zra (q:List Bool) (k:Nat) (h:k<q.length / 8):∃x:UInt8,(byts q)[k]?=some x/\num ((q.drop (8*k)).take 8)=x.toNat:=by
 refine⟨UInt8.ofNat (num ((q.drop (8*k)).take 8)),?_,?_⟩
 ·unfold byts;rw [List.getElem?_map,List.getElem?_range h];rfl
 ·have hlt:=ZaB ((q.drop (8*k)).take 8);have hl:((q.drop (8*k)).take 8).length=8:=by simp;omega
  rw [hl] at hlt;rw [UInt8.toNat_ofNat'];exact(Nat.mod_eq_of_lt hlt).symm
theorem Zpk (q:List Bool) (w:World) (hq:q.length<=1099511627776):Calls Tryz.prog 49 #[.string (txt q)] w fun e w'=>e=.returned (.string ⟨(byts q).toArray⟩)/\Below w.heap.size w w':=by
 go_enter Tryz.func49,Tryz.ntmps49;go_wp2_with fail
 go_loopw [0,3] (fun s o wr=>∃k:Nat,k<=q.length / 8/\s=.string (txt (q.drop (8*k)))/\o=.string ⟨((byts q).take k).toArray⟩/\Below w.heap.size w wr) (fun s _ _=>match s with|.string s=>s.size|_=>0)
 case atStart=>exact⟨0,by omega,rfl,rfl,Below.refl _ _⟩
 case round=>
  obtain⟨k,hk,rfl,rfl,hB⟩:=hrel;have HB:=zh hB;clear hB;have hsz:(txt (q.drop (8*k))).size=q.length-8*k:=by rw [Zaf,List.length_drop]
  by_cases hlt:k<q.length / 8
  ·have HT8:Hid ((txt (q.drop (8*k))).extract 0 8=txt ((q.drop (8*k)).take 8)):=zh (ZcY _ _ (by simp;omega))
   have HD8:Hid ((txt (q.drop (8*k))).extract 8 (txt (q.drop (8*k))).size=txt (q.drop (8*(k+1)))):=zh (by
    rw [Zbo _ _ (by simp;omega),List.drop_drop];rfl)
   obtain⟨x,hx,hn⟩:=Zra q k hlt
   have HNUM:∀w,Calls Tryz.prog 69 #[.string ((txt (q.drop (8*k))).extract 0 8)] w fun e w'=>e=.returned (.int .u32 (x.toNat:Int))/\w=w':=fun w=>by
    rw [HT8.out,<-hn];exact Za9 _ w (by simp;omega)
   have hnum:=zh HNUM;have hos:(⟨((byts q).take k).toArray⟩:ByteArray).size<=1099511627776:=by show((byts q).take k).toArray.size<=_;simp [ZaV];omega
   have HX:Hid ((⟨((byts q).take k).toArray⟩:ByteArray)++⟨#[x]⟩=⟨((byts q).take (k+1)).toArray⟩):=zh (by
    apply ByteArray.ext;rw [List.take_add_one,hx];simp)
   have hx1:(⟨#[x]⟩:ByteArray).size=1:=rfl;have hxt:=x.toNat_lt;clear HNUM hn hx;generalize txt (q.drop (8*k))=T at *;generalize (⟨((byts q).take k).toArray⟩:ByteArray)=O at *;go_wp2_with fail;refine(hnum.out wr).mono ?_;rintro e w' ⟨rfl,rfl⟩
   have hcv:(convert 71 9 (.slice (some ⟨wr.heap.size,0,none⟩) 1 1)).run Tryz.prog (wr.alloc (.cells #[.int .u8 (x.toNat:Int)] 5))=.ok (.string ⟨#[x]⟩) (wr.alloc (.cells #[.int .u8 (x.toNat:Int)] 5)):=run_convert_bytes_back (P:=Tryz.prog) (wr.alloc (.cells #[.int .u8 (x.toNat:Int)] 5)) 71 9 5 ⟨wr.heap.size,0,none⟩ 1 [x] Tryz.underlying71 Tryz.underlying5 Tryz.underlying9 (fun j hj=>by
    obtain rfl:j=0:=by simpa using hj
    have hb:(wr.alloc (.cells #[.int .u8 (x.toNat:Int)] 5)).heap[wr.heap.size]?=some (.cells #[.int .u8 (x.toNat:Int)] 5):=by show(wr.heap.push _)[_]?=_;simp
    rw [Addr.add_lit,cell_of_row _ _ _ _ _ _ hb];rfl)
   have h8:8<=T.size:=by omega
   have HTS:=zh hsz;have HE:Hid ((T.extract 8 T.size).size=T.size-8):=zh (by rw [ByteArray.size_extract];omega);clear hsz;go_wp2_with fail;refine⟨⟨k+1,by omega,?_,by rw [HX.out],HB.out.alloc HB.out.size _⟩,?_⟩
   ·first
     | rw [HD8.out]
     | (have:=HD8.out;have:=HTS.out;simp_all)
   ·show(T.extract 8 _).size<T.size;rw [ByteArray.size_extract];omega
  ·obtain rfl:k=q.length / 8:=by omega
   have HO:Hid ((byts q).take (q.length / 8)=byts q):=zh (List.take_of_length_le (by rw [ZaV];exact Nat.le_refl _));rw [HO.out];go_wp2_with fail;go_ret;exact⟨rfl,HB.out⟩
end
section
open Go.RowKit UsedM MtfM
theorem ZdP (s:ByteArray) (c:UInt8) (w:World) (hs:s.size<=9223372036854775807) :
  Calls Tryz.prog 115 #[.string s,.int .u8 (c.toNat:Int)] w fun e w'=>e=.returned (.int .i64 (Lib.indexByte s.data.toList c))/\w=w':=by
 have hsl:s.data.toList.length=s.size:=rfl;have hcl:=c.toNat_lt;go_enter Tryz.func115,Tryz.ntmps115;go_wp2_with fail
 go_loop [5] (fun i=>∃k:Nat,k<=s.size/\i=.int .i64 k/\∀j,j<k->s.data.toList[j]?≠some c) (fun i=>s.size-(intOf i).toNat)
 case atStart=>exact⟨0,by omega,rfl,fun j hj=>by omega⟩
 case round=>
  obtain⟨k,hk,rfl,hn⟩:=hrel;have HN:=zh hn;clear hn;by_cases hlt:k<s.size
  ·have hki:(k:Int)<(s.size:Int):=by omega
   have hx:=s[k].toNat_lt;have HG:=zh (show s.data.toList[k]?=some s[k] from List.getElem?_eq_getElem (l:=s.data.toList) (by simpa using hlt));by_cases he:s[k]=c
   ·have hp:=place_is (l:=s.data.toList) (c:=c) (k:=k) (by rw [HG.out,he]) HN.out;have hd:((s[k].toNat:Int)==(c.toNat:Int))=true:=by rw [he];exact beq_self_eq_true _
    have HP:=zh hp;clear he hp;go_wp2_with fail;go_ret;exact⟨by rw [HP.out];rfl,rfl⟩
   ·have hd:((s[k].toNat:Int)==(c.toNat:Int))=false:=by
     rw [beq_eq_false_iff_ne];intro h;exact he (UInt8.toNat_inj.1 (by omega))
    have HNE:=zh he;clear he;go_wp2_with fail
    go_round
    case rel=>exact⟨k+1,by omega,by go_num,fun j hj=>by
     by_cases e:j=k
     ·subst e;rw [HG.out];intro h;exact HNE.out (by simpa using h)
     ·exact HN.out j (by omega)⟩
    case measure=>simp [intOf];omega
  ·obtain rfl:k=s.size:=by omega
   have hp:=ZfN (l:=s.data.toList) (c:=c) (fun j hj=>HN.out j (by omega));have HP:=zh hp;clear hp;go_wp2_with fail;go_ret;exact⟨by rw [HP.out];rfl,rfl⟩
theorem Zeg (m:List UInt8) (i:Nat) (h:i<m.length) :
  ((⟨m.toArray⟩:ByteArray).extract i (i+1)++(⟨m.toArray⟩:ByteArray).extract 0 i)++(⟨m.toArray⟩:ByteArray).extract (i+1) m.length=⟨(touch m i).toArray⟩:=by
 apply ByteArray.ext;apply Array.toList_inj.1;unfold touch;simp only [ByteArray.data_append,ByteArray.data_extract,Array.toList_append,List.extract_toArray,List.extract_eq_take_drop];simp only [Nat.add_sub_cancel_left,Nat.sub_zero,List.drop_zero];rw [List.take_of_length_le (l:=m.drop (i+1)) (by rw [List.length_drop];exact Nat.le_refl _)]
theorem Zbv (m:List UInt8) (i:Nat) (w:World) (hi:i<m.length) (hm:m.length<=256) :
  Calls Tryz.prog 116 #[.string ⟨m.toArray⟩,.int .i64 (i:Int)] w fun e w'=>e=.returned (.string ⟨(touch m i).toArray⟩)/\∃n,w'=w.drewN n:=by
 have HT:=Zeg m i hi;have hsz:(⟨m.toArray⟩:ByteArray).size=m.length:=Zav m;obtain⟨L,hL⟩:∃L,m.length=L:=⟨_,rfl⟩
 rw [hL] at HT hsz hi hm;generalize (⟨m.toArray⟩:ByteArray)=T at *;obtain⟨j,hj⟩:∃j,i+1=j:=⟨_,rfl⟩
 rw [hj] at HT;have z1:(T.extract i j).size=1:=by rw [ByteArray.size_extract];omega
 have z2:(T.extract 0 i).size=i:=by rw [ByteArray.size_extract];omega
 have z3:(T.extract j L).size=L-j:=by rw [ByteArray.size_extract];omega
 have z4:(T.extract i j++T.extract 0 i).size=j:=by rw [ByteArray.size_append];omega
 have hji:(i:Int)+1=(j:Int):=by omega
 have hjw:IntKind.i64.wrap (j:Int)=(j:Int):=IntWalk.i64_in _ (by omega);have b1:(0:Int)<=(i:Int):=by omega
 have b2:(i:Int)<=(j:Int):=by omega
 have b3:(j:Int)<=(L:Int):=by omega
 have b4:(i:Int)<=(L:Int):=by omega
 have b5:(0:Int)<=(j:Int):=by omega
 have b6:(L:Int)<=256:=by omega
 have hc1:∀W,(Op.stringOp .add (T.extract i j) (T.extract 0 i)).run Tryz.prog W=.ok (.string (T.extract i j++T.extract 0 i)) W:=fun W=>by
  rw [run_string_add_if,if_neg (by omega)]
 have hc2:∀W,(Op.stringOp .add (T.extract i j++T.extract 0 i) (T.extract j L)).run Tryz.prog W=.ok (.string ((T.extract i j++T.extract 0 i)++T.extract j L)) W:=fun W=>by
  rw [run_string_add_if,if_neg (by omega)]
 have HTT:=zh HT;clear HT z1 z2 z3 z4 hL;go_enter Tryz.func116,Tryz.ntmps116;go_wp2_with fail
 go_quiet (fail)
 go_wp2_with fail;go_ret;rw [HTT.out];exact⟨rfl,_,rfl⟩
end
section
open Go.RowKit
theorem OwnRR.nil (W:World) (B:Nat) (hB:B<=W.heap.size):OwnRR W B B (.slice none 0 0) []:=
 ⟨Nat.le_refl _,hB,fun k h=>by simp [Value.ownBlock] at h,[],rfl,World.ownsRow_nil _ _ _ _,fun i u h=>by simp at h⟩
theorem OwnRR.below {W W':World} {B bn:Nat} {v:Value} {gs:List (List Int)} (h:OwnRR W B bn v gs) (hb:Below bn W W'):OwnRR W' B bn v gs:=by
 obtain⟨h1,h2,h3,vs,h4,h5,h6⟩:=h;refine⟨h1,Nat.le_trans h2 hb.size,h3,vs,h4,Zah h5 (fun k hk=>hb.block k (h3 k hk)),fun i u hu=>?_⟩;obtain⟨g,hg,ho,hk⟩:=h6 i u hu;exact⟨g,hg,ho.same (fun k hkk=>hb.block k (hk k hkk).1),hk⟩
end
section
open Go.RowKit FreqM
theorem Zpl (n:Int) (w:World):Calls Tryz.prog 261 #[.int .i64 n] w fun e w'=>e=.returned (.int .i64 (cap n))/\w=w':=by
 by_cases h:1099511627776<n
 ·rw [ZrD _ h];go_enter Tryz.func261,Tryz.ntmps261;go_wp2_with fail;go_ret;exact⟨rfl,rfl⟩
 ·rw [Zgo _ (by omega)];go_enter Tryz.func261,Tryz.ntmps261;go_wp2_with fail;go_ret;exact⟨rfl,rfl⟩
theorem ZlP (v:Value) (zs:List Int) (x:Int) (w:World) (hv:IsInts w v zs) (hz:zs.length<=1000000) :
  Calls Tryz.prog 227 #[v,.int .i64 x] w fun e w'=>e=.returned (.int .i64 (zs.count x:Int))/\w=w':=by
 have HV:=zh hv;obtain⟨a,cap,rfl,_⟩:=hv;go_enter Tryz.func227,Tryz.ntmps227;go_wp2_with fail
 go_loop [5,10] (fun c i=>∃k:Nat,k<=zs.length/\i=.int .i64 k/\c=.int .i64 ((zs.take k).count x:Int)) (fun _ i=>zs.length-(intOf i).toNat)
 case atStart=>exact⟨0,by omega,rfl,rfl⟩
 case round=>
  obtain⟨k,hk,rfl,rfl⟩:=hrel;by_cases hlk:k<zs.length
  ·have hki:(k:Int)<(zs.length:Int):=by omega
   obtain⟨b1,o1,k1,he1,c1⟩:=HV.out.cell hlk;simp only [Value.slice.injEq] at he1;obtain⟨rfl,_,rfl⟩:=he1;have HCT:=zh (count_take zs x k hlk);have hcl:=List.count_le_length (a:=x) (l:=zs.take k);rw [List.length_take] at hcl;obtain⟨y,hy⟩:∃y,zs.getD k 0=y:=⟨_,rfl⟩
   rw [hy] at c1 HCT;clear hy;generalize (zs.take k).count x=c at *;by_cases e:x=y
   ·have hb:(x==y)=true:=by rw [e];exact beq_self_eq_true _
    have HC2:Hid (((zs.take (k+1)).count x:Int)=(c:Int)+1):=zh (by rw [HCT.out,if_pos e];simp);have hw:IntKind.i64.wrap ((c:Int)+1)=(c:Int)+1:=IntWalk.i64_in _ (by omega);clear e;go_wp2_with fail
    go_round
    case rel=>exact⟨k+1,by omega,by go_num,by rw [HC2.out]⟩
    case measure=>simp [intOf];omega
   ·have hb:(x==y)=false:=by rw [beq_eq_false_iff_ne];exact e
    have HC2:Hid (((zs.take (k+1)).count x:Int)=(c:Int)):=zh (by rw [HCT.out,if_neg e];simp);clear e;go_wp2_with fail
    go_round
    case rel=>exact⟨k+1,by omega,by go_num,by rw [HC2.out]⟩
    case measure=>simp [intOf];omega
  ·obtain rfl:k=zs.length:=by omega
   rw [List.take_of_length_le (Nat.le_refl _)];go_wp2_with fail;go_ret;exact⟨rfl,rfl⟩
theorem ZfS (v:Value) (zs:List Int) (N:Nat) (w:World) (hv:IsInts w v zs) (hz:zs.length<=1000000) (hN:N<=1000) :
  Calls Tryz.prog 173 #[v,.int .i64 (N:Int)] w fun e w'=>∃u,e=.returned u/\IsInts w' u (counts zs N)/\Below w.heap.size w w':=by
 have HV:=zh hv;obtain⟨a,cap,rfl,_⟩:=hv;have HCN:=zh (fun i W (h:IsInts W (.slice a zs.length cap) zs)=>ZlP _ zs i W h hz);have hNI:(N:Int)<=1000:=by omega
 go_enter Tryz.func173,Tryz.ntmps173;go_wp2_with fail
 go_loopw [5,8] (fun o i wr=>∃(k:Nat) (u:Value),k<=N/\i=.int .i64 k/\u=o/\OwnI wr w.heap.size u (counts zs k)/\Below w.heap.size w wr) (fun _ i _=>N-(intOf i).toNat)
 case atStart=>exact⟨0,_,by omega,rfl,rfl,OwnI.nil _ _,Below.refl _ _⟩
 case round=>
  obtain⟨k,u,hk,rfl,rfl,hO,hB⟩:=hrel;have HO:=zh hO;have HB:=zh hB;have hbw:=hB.size;clear hO hB;by_cases hlk:k<N
  ·have hki:(k:Int)<(N:Int):=by omega
   have HSU:=zh (Zkn zs k);have hcl:=List.count_le_length (a:=(k:Int)) (l:=zs);have hln:(counts zs k).length+1<=17592186044416:=by rw [Zaq];omega
   have HC:=zh (HCN.out (k:Int) wr (HV.out.below HB.out));generalize zs.count (k:Int)=c at *;go_wp2_with fail;refine HC.out.mono ?_;rintro e w' ⟨rfl,rfl⟩;go_wp2_with (at_builtin;refine Zar wr rfl _ _ rfl w.heap.size _ (counts zs k) (c:Int) HO.out rfl rfl hln hbw ?_);intro v' w2 hO2 hB2;rw [<-HSU.out] at hO2;have HO2:=zh hO2;have HB2:=zh (HB.out.trans hB2);clear hO2 hB2;go_wp2_with fail;go_roundw
   case rel=>exact⟨k+1,_,by omega,by go_num,rfl,HO2.out,HB2.out⟩
   case measure=>simp [intOf];omega
  ·obtain rfl:k=N:=by omega
   go_wp2_with fail;go_ret;exact⟨_,rfl,HO.out.ints,HB.out⟩
theorem ZtJ {l lens:List Int} (h:Nums lens) (k:Nat):0<=wgh l lens k:=by
 unfold wgh;apply Zjw;intro x hx;obtain⟨j,_,rfl⟩:=List.mem_map.1 hx;apply Int.mul_nonneg
 ·rw [List.getD_eq_getElem?_getD];cases he:lens[j]? with
  | none=>simp
  | some z=>exact(h z (List.mem_of_getElem? he)).1
 ·omega
theorem Zpm (v u:Value) (zs ls:List Int) (w:World) (hv:IsInts w v zs) (hu:IsInts w u ls) (hz:zs.length<=1000000) (hl:ls.length<=1000000) (hok:CostOk zs ls) :
  Calls Tryz.prog 228 #[v,u] w fun e w'=>e=.returned (.int .i64 (cap (costS zs ls)))/\w=w':=by
 have HV:=zh hv;have HU:=zh hu;obtain⟨a,cap1,rfl,_⟩:=hv;obtain⟨b,cap2,rfl,_⟩:=hu;have HWA:=zh (ZsW zs ls hok.1);have HNN:=zh (fun k=>ZtJ (l:=zs) hok.2 k);have HNU:=zh hok.2;have HCN:=zh (fun i=>ZlP _ zs i w HV.out hz);clear hok;go_enter Tryz.func228,Tryz.ntmps228;go_wp2_with fail
 go_loop [5,10] (fun c i=>∃k:Nat,k<=ls.length/\i=.int .i64 k/\c=.int .i64 (cap (wgh zs ls k))) (fun _ i=>ls.length-(intOf i).toNat)
 case atStart=>exact⟨0,by omega,rfl,rfl⟩
 case round=>
  obtain⟨k,hk,rfl,rfl⟩:=hrel;by_cases hlk:k<ls.length
  ·have hki:(k:Int)<(ls.length:Int):=by omega
   obtain⟨b1,o1,k1,he1,c1⟩:=HU.out.cell hlk;simp only [Value.slice.injEq] at he1;obtain⟨rfl,_,rfl⟩:=he1;have HWS:=zh (ZeS zs ls k);have hyr:=HNU.out _ (FreqM.getD_mem ls k hlk);have hw0:=HNN.out k;have hcl:=List.count_le_length (a:=(k:Int)) (l:=zs);have HC:=zh (HCN.out (k:Int));generalize ls.getD k 0=y at *;generalize wgh zs ls k=A at *;generalize zs.count (k:Int)=N at *;obtain⟨hy0,hy1⟩:=hyr;have hNI:(N:Int)<=1000000:=by omega
   go_wp2_with fail;refine HC.out.mono ?_;rintro e w' ⟨rfl,rfl⟩;go_wp2_with fail
   go_loop [5,18] (fun c i=>∃j:Nat,j<=N/\i=.int .i64 j/\c=.int .i64 (cap (A+y*(j:Int)))) (fun _ i=>N-(intOf i).toNat)
   case atStart=>exact⟨0,by omega,rfl,by simp⟩
   case round=>
    obtain⟨j,hj,rfl,rfl⟩:=hrel;have hm0:0<=y*(j:Int):=Int.mul_nonneg hy0 (by omega);by_cases hjn:j<N
    ·have hji:(j:Int)<(N:Int):=by omega
     have HMS:Hid (A+y*((j+1:Nat):Int)=A+y*(j:Int)+y):=zh (by
      rw [Int.natCast_add,Int.mul_add];simp;omega)
     generalize y*(j:Int)=B at *;have HCA:Hid (cap (A+B+y)=cap (cap (A+B)+y)):=zh (Zny _ _ hy0).symm;have hc0:=ZrC (A+B) (by omega);have hc1:=ZrB (A+B);generalize cap (A+B)=c at *;have hw:IntKind.i64.wrap (c+y)=c+y:=IntWalk.i64_in _ (by omega);go_wp2_with fail;refine(Zpl (c+y) w).mono ?_;rintro e w' ⟨rfl,rfl⟩;go_wp2_with fail
     go_round
     case rel=>exact⟨j+1,by omega,by go_num,by rw [HMS.out,HCA.out]⟩
     case measure=>simp [intOf];omega
    ·obtain rfl:j=N:=by omega
     rw [<-HWS.out];go_wp2_with fail
     go_round
     case rel=>exact⟨k+1,by omega,by go_num,rfl⟩
     case measure=>simp [intOf];omega
  ·obtain rfl:k=ls.length:=by omega
   rw [HWA.out];go_wp2_with fail;go_ret;exact⟨rfl,rfl⟩
end
section
open Go.RowKit BitM
theorem Zrc (q:List Bool) (w:World) (hq:q.length<=1099511620000):Calls Tryz.prog 18 #[.string (txt q)] w fun e w'=>e=.returned (.string ⟨(byts (q++padding q)).toArray⟩)/\Below w.heap.size w w':=by
 have HP:Hid (Calls Tryz.prog 50 #[.string (txt q)] w fun e w'=>e=.returned (.string (txt (q++padding q)))/\w=w'):=zh (ZmW q w (by omega))
 have HBY:=zh (Zpk (q++padding q) w (by
  have h1:(padding q).length<8:=by unfold padding;rw [Zac];omega
  rw [List.length_append];omega))
 go_enter Tryz.func18,Tryz.ntmps18;go_wp2_with fail;refine HP.out.mono ?_;rintro e w1 ⟨rfl,rfl⟩;go_wp2_with fail;refine HBY.out.mono ?_;rintro e w2 ⟨rfl,hb⟩;have HB:=zh hb;clear hb;go_wp2_with fail;go_ret;exact⟨rfl,HB.out⟩
end
section
namespace BwtM
open Go.RowKit
theorem Zeh (T:List UInt8) (i:Nat) (h:i<=T.length):(rot T i).length=T.length:=by
 unfold rot;rw [List.length_append,List.length_drop,List.length_take];omega
end BwtM
end
section
namespace BwtM
open Go.RowKit
theorem Zt0 (T:List UInt8) {i:Nat} (h:T.length<=i) (h2:i<2*T.length):bt T i=(T.getD (i-T.length) 0).toNat:=by
 unfold bt;rw [Nat.mod_eq_sub_mod h,Nat.mod_eq_of_lt (by omega)]
theorem ZaU (T:List UInt8) {i j:Nat} (hi:i<=T.length) (hj:j<T.length):((rot T i).getD j 0).toNat=bt T (i+j):=by
 unfold rot;by_cases h:i+j<T.length
 ·rw [ZqX T h,List.getD_eq_getElem?_getD,List.getElem?_append_left (by rw [List.length_drop];omega),List.getElem?_drop,List.getD_eq_getElem?_getD]
 ·rw [Zt0 T (by omega) (by omega),List.getD_eq_getElem?_getD,List.getElem?_append_right (by rw [List.length_drop];omega),List.length_drop,List.getElem?_take_of_lt (by omega),List.getD_eq_getElem?_getD];congr 3;omega
theorem Zks:∀(r s:List UInt8),r.length=s.length->((∀t,t<r.length->(r.getD t 0).toNat=(s.getD t 0).toNat)↔r=s)/\((∃t,t<r.length/\(∀u,u<t->(r.getD u 0).toNat=(s.getD u 0).toNat)/\(r.getD t 0).toNat<(s.getD t 0).toNat)↔lle r s/\r≠s)
 | [],[],_=>⟨⟨fun _=>rfl,fun _ t ht=>by simp at ht⟩,⟨fun⟨t,ht,_⟩=>by simp at ht,fun h=>absurd rfl h.2⟩⟩
 | [],_::_,h=>by simp at h
 | _::_,[],h=>by simp at h
 | a::r,b::s,h=>by
  obtain⟨i1,i2⟩:=Zks r s (by simpa using h);have hab:a.toNat=b.toNat↔a=b:=UInt8.toNat_inj;constructor
  ·constructor
   ·intro g;have g0:=g 0 (by simp);rw [(hab.1 (by simpa using g0)),i1.1 (fun t ht=>by simpa using g (t+1) (by simpa using ht))]
   ·rintro⟨rfl,rfl⟩ t _;rfl
  ·constructor
   ·rintro⟨t,ht,g1,g2⟩;cases t with
    | zero=>
     simp at g2;exact⟨Or.inl g2,fun e=>by injection e with e1 _;subst e1;omega⟩
    | succ t=>
     have g0:=hab.1 (by simpa using g1 0 (by omega));obtain⟨j1,j2⟩:=i2.1 ⟨t,by simpa using ht,fun u hu=>by simpa using g1 (u+1) (by omega),by simpa using g2⟩;exact⟨Or.inr ⟨g0,j1⟩,fun e=>by injection e with _ e2;exact j2 e2⟩
   ·rintro⟨g|⟨rfl,g⟩,hne⟩
    ·exact⟨0,by simp,fun u hu=>by omega,by simpa using g⟩
    ·obtain⟨t,ht,g1,g2⟩:=i2.2 ⟨g,fun e=>hne (by rw [e])⟩;refine⟨t+1,by simpa using ht,fun u hu=>?_,by simpa using g2⟩;cases u with
     | zero=>simp
     | succ u=>simpa using g1 u (by omega)
theorem ZsX {T:List UInt8} {i k:Nat} (hi:i<=T.length) (hk:k<=T.length):eqH T T.length i k↔rot T i=rot T k:=by
 have:=(Zks (rot T i) (rot T k) (by rw [Zeh T i hi,Zeh T k hk])).1;rw [<-this,Zeh T i hi];unfold eqH;constructor
 ·intro h t ht;rw [ZaU T hi ht,ZaU T hk ht];exact h t ht
 ·intro h t ht;have:=h t ht;rwa [ZaU T hi ht,ZaU T hk ht] at this
theorem ZsY {T:List UInt8} {i k:Nat} (hi:i<=T.length) (hk:k<=T.length):ltH T T.length i k↔lle (rot T i) (rot T k)/\rot T i≠rot T k:=by
 have:=(Zks (rot T i) (rot T k) (by rw [Zeh T i hi,Zeh T k hk])).2;rw [<-this,Zeh T i hi];unfold ltH eqH;constructor
 ·rintro⟨t,h1,h2,h3⟩;exact⟨t,h1,fun u hu=>by rw [ZaU T hi (by omega),ZaU T hk (by omega)];exact h2 u hu,by rw [ZaU T hi h1,ZaU T hk h1];exact h3⟩
 ·rintro⟨t,h1,h2,h3⟩;exact⟨t,h1,fun u hu=>by have:=h2 u hu;rwa [ZaU T hi (by omega),ZaU T hk (by omega)] at this,by rwa [ZaU T hi h1,ZaU T hk h1] at h3⟩
theorem Zpn {T:List UInt8} {i k:Nat} (hi:i<=T.length) (hk:k<=T.length):Ahead T i k↔ltH T T.length i k\/(eqH T T.length i k/\i<k):=by
 unfold Ahead;rw [ZsY hi hk,ZsX hi hk]
def Vie (T:List UInt8) (a k on:Nat):Prop:=a<k/\a<T.length/\(∀j,j<k->j<T.length->j≠a->∃m,m<T.length/\Ahead T m j)/\eqH T on a k
theorem Vie.beat {T:List UInt8} {a k on t:Nat} (h:eqH T on a k) (ho:on<T.length) (hlt:bt T (a+on)<bt T (k+on)) (ht:t<=on):ltH T T.length (a+t) (k+t):=
 ⟨on-t,by omega,fun u hu=>by have:=h (t+u) (by omega);rwa [Nat.add_assoc,Nat.add_assoc],by rwa [Nat.add_assoc,Nat.add_assoc,show t+(on-t)=on by omega]⟩
theorem Vie.less {T:List UInt8} {a k on:Nat} (h:Vie T a k on) (ho:on<T.length) (hk:k<T.length) (hlt:bt T (a+on)<bt T (k+on)):Vie T a (k+on+1) 0:=by
 obtain⟨h1,h2,h3,h4⟩:=h;refine⟨by omega,h2,fun j hj hn hne=>?_,fun t ht=>by omega⟩;by_cases c:j<k
 ·exact h3 j c hn hne
 ·have hb:=Vie.beat h4 ho hlt (t:=j-k) (by omega);rw [show k+(j-k)=j by omega] at hb;exact⟨a+(j-k),by omega,(Zpn (by omega) (by omega)).2 (Or.inl hb)⟩
end BwtM
end
section
open Go.RowKit ZerM
def room (N:Nat) (s:St):List Int:=s.out++List.replicate (N-s.out.length) 0
theorem Zrd (m:Nat) (hm:m<=17592186044416):∀w:World,Calls Tryz.prog 117 #[.int .i64 (m:Int)] w fun e w'=>∃v,e=.returned v/\OwnI w' w.heap.size v (rowC m)/\Below w.heap.size w w':=by
 induction m using Nat.strongRecOn with
 | _ m ih=>
  intro w;by_cases h0:m=0
  ·subst h0;go_enter Tryz.func117,Tryz.ntmps117;go_wp2_with fail;go_ret;exact⟨_,rfl,by rw [ZdD];exact OwnI.nil _ _,Below.refl _ _⟩
  ·have h0i:((m:Int)==0)=false:=by rw [beq_eq_false_iff_ne];omega
   obtain⟨i,hi⟩:∃i,(m-1) / 2=i:=⟨_,rfl⟩
   have HC:=zh (fun w=>ih i (by omega) (by omega) w);have hil:i<=17592186044416:=by omega
   have hrl:=Zch i;have q1:IntKind.i64.wrap ((m:Int)-1)=(m:Int)-1:=IntWalk.i64_in _ (by omega);have q5:IntKind.i64.wrap ((m:Int)-2)=(m:Int)-2:=IntWalk.i64_in _ (by omega);have q4:IntKind.i64.wrap (i:Int)=(i:Int):=IntWalk.i64_in _ (by omega);by_cases h1:m % 2=1
   ·have r1:(m:Int).tmod 2=1:=by rw [Int.tmod_eq_emod_of_nonneg (by omega)];omega
    have r2:(m:Int) % 2=1:=by omega
    have q2:((m:Int)-1).tdiv 2=(i:Int):=by rw [Int.tdiv_eq_ediv_of_nonneg (by omega)];omega
    have q3:((m:Int)-1) / 2=(i:Int):=by omega
    have HR:=zh (Zlj m h1);rw [hi] at HR;clear h1 ih;go_enter Tryz.func117,Tryz.ntmps117;go_wp2_with (at_builtin;refine Zar w rfl _ _ rfl w.heap.size _ [] 0 (OwnI.nil w w.heap.size) rfl rfl (by decide) (Nat.le_refl _) ?_);intro v1 w1 hO1 hB1;have HO1:=zh hO1;have HB1:=zh hB1;clear hO1 hB1;go_wp2_with fail;refine(HC.out w1).mono ?_;rintro e w2 ⟨u,rfl,hO2,hB2⟩;have HO2:=zh hO2;have HO3:=zh (HO1.out.below hB2);have HB2:=zh (HB1.out.trans (hB2.mono HB1.out.size));have hbw:w.heap.size<=w2.heap.size:=HB2.out.size;clear hO2 hB2;go_wp2_with (at_builtin;refine ZbK w2 rfl _ _ rfl w.heap.size _ ([]++[0]) w1.heap.size _ (rowC i) HO3.out HO2.out rfl rfl (by simp;omega) hbw ?_);intro v3 w3 hO3 hB3;have HO4:=zh hO3;have HB3:=zh (HB2.out.trans hB3);clear hO3 hB3;go_wp2_with fail;go_ret;exact⟨_,rfl,by rw [HR.out];exact HO4.out,HB3.out⟩
   ·have r1:((m:Int).tmod 2==1)=false:=by rw [Int.tmod_eq_emod_of_nonneg (by omega),beq_eq_false_iff_ne];omega
    have r2:(m:Int) % 2=0:=by omega
    have q2:((m:Int)-2).tdiv 2=(i:Int):=by rw [Int.tdiv_eq_ediv_of_nonneg (by omega)];omega
    have q3:((m:Int)-2) / 2=(i:Int):=by omega
    have HR:=zh (Zie m (by omega) (by omega));rw [hi] at HR;clear h1 ih;go_enter Tryz.func117,Tryz.ntmps117;go_wp2_with (at_builtin;refine Zar w rfl _ _ rfl w.heap.size _ [] 1 (OwnI.nil w w.heap.size) rfl rfl (by decide) (Nat.le_refl _) ?_);intro v1 w1 hO1 hB1;have HO1:=zh hO1;have HB1:=zh hB1;clear hO1 hB1;go_wp2_with fail;refine(HC.out w1).mono ?_;rintro e w2 ⟨u,rfl,hO2,hB2⟩;have HO2:=zh hO2;have HO3:=zh (HO1.out.below hB2);have HB2:=zh (HB1.out.trans (hB2.mono HB1.out.size));have hbw:w.heap.size<=w2.heap.size:=HB2.out.size;clear hO2 hB2;go_wp2_with (at_builtin;refine ZbK w2 rfl _ _ rfl w.heap.size _ ([]++[1]) w1.heap.size _ (rowC i) HO3.out HO2.out rfl rfl (by simp;omega) hbw ?_);intro v3 w3 hO3 hB3;have HO4:=zh hO3;have HB3:=zh (HB2.out.trans hB3);clear hO3 hB3;go_wp2_with fail;go_ret;exact⟨_,rfl,by rw [HR.out];exact HO4.out,HB3.out⟩
theorem Zkt (v:Value) (zs:List Int) (n:Int) (w:World) (hv:IsInts w v zs) (hz:zs.length<=1000000) :
  Calls Tryz.prog 58 #[v,.int .i64 n] w fun e w'=>∃(u:Value) (ys:List Int) (err:Nat),e=.returned (.tuple #[u,.int .i64 (err:Int)])/\IsInts w' u ys/\Below w.heap.size w w'/\ZerM.EncP zs n ys err:=by
 have HV:=zh hv;obtain⟨a,cap,rfl,_⟩:=hv;by_cases hn1:1<=n
 ·by_cases hn2:n<=256
  ·have hn1':¬n<1:=by omega
   have hn2':¬256<n:=by omega
   have HRO:=zh (fun m (hm:m<=17592186044416) w=>Zrd m hm w);go_enter Tryz.func58,Tryz.ntmps58;go_wp2_with fail
   go_loopw [6,7,18] (fun c z i wr=>∃(k:Nat) (u:Value),k<=zs.length/\i=.int .i64 k/\c=u/\z=.int .i64 ((encF (zs.take k)).2:Int)/\OwnI wr w.heap.size u (encF (zs.take k)).1/\Below w.heap.size w wr/\∀j,j<k->0<=zs.getD j 0/\zs.getD j 0<n) (fun _ _ i _=>zs.length-(intOf i).toNat)
   case atStart=>exact⟨0,_,by omega,rfl,rfl,rfl,OwnI.nil _ _,Below.refl _ _,fun j hj=>by omega⟩
   case round=>
    obtain⟨k,u,hk,rfl,rfl,rfl,hO,hB,hA⟩:=hrel;have hle:=ZjH (zs.take k);have htk:(zs.take k).length=k:=by rw [List.length_take];omega
    have HT:=zh (Zif zs k);have hbw:w.heap.size<=wr.heap.size:=hB.size;have HB:=zh hB;have HA:=zh hA;clear hA;by_cases hlk:k<zs.length
    ·have hki:(k:Int)<(zs.length:Int):=by omega
     have HV2:=zh (HV.out.below HB.out);obtain⟨b1,o1,k1,he1,c1⟩:=HV2.out.cell hlk;simp only [Value.slice.injEq] at he1;obtain⟨rfl,_,rfl⟩:=he1;obtain⟨x,hx⟩:∃x,zs.getD k 0=x:=⟨_,rfl⟩
     have HM:Hid (x∈zs):=zh (by
      rw [<-hx,List.getD_eq_getElem?_getD,List.getElem?_eq_getElem hlk];exact List.getElem_mem hlk)
     rw [hx] at c1;have HT2:=zh (HT.out hlk);rw [hx] at HT2;have HX:=zh hx;clear hx HT hB;obtain⟨A,hA⟩:∃A,(encF (zs.take k)).1=A:=⟨_,rfl⟩
     obtain⟨Z,hZ⟩:∃Z,(encF (zs.take k)).2=Z:=⟨_,rfl⟩
     have hpair:encF (zs.take k)=(A,Z):=by rw [<-hA,<-hZ]
     rw [hpair] at HT2 hle hO;rw [hZ];simp only at hO hle;have HO:=zh hO;clear hO hpair hA hZ;by_cases hxn:x<0
     ·go_wp2_with fail;go_ret2;exact⟨_,[],1,rfl,IsInts.nil _,HB.out,Or.inl ⟨fun h=>by have:=(h.2.2 x HM.out).1;omega,rfl,rfl⟩⟩
     ·by_cases hxm:n<=x
      ·go_wp2_with fail;go_ret2;exact⟨_,[],1,rfl,IsInts.nil _,HB.out,Or.inl ⟨fun h=>by have:=(h.2.2 x HM.out).2;omega,rfl,rfl⟩⟩
      ·have HA2:Hid (∀j,j<k+1->0<=zs.getD j 0/\zs.getD j 0<n):=zh (fun j hj=>by
        by_cases e:j=k
        ·subst e;rw [HX.out];omega
        ·exact HA.out j (by omega))
       by_cases h0:x=0
       ·subst h0;have HT3:Hid (encF (zs.take (k+1))=(A,Z+1)):=zh (by rw [HT2.out];rfl);clear HT2;have hz1:IntKind.i64.wrap ((Z:Int)+1)=(Z:Int)+1:=IntWalk.i64_in _ (by omega);go_wp2_with fail;go_roundw
        case rel=>exact⟨k+1,_,by omega,by go_num,rfl,by rw [HT3.out];rfl,by rw [HT3.out];exact HO.out,HB.out,HA2.out⟩
        case measure=>simp [intOf];omega
       ·have HT3:Hid (encF (zs.take (k+1))=(A++rowC Z++[x+1],0)):=zh (by rw [HT2.out];unfold encS;rw [if_neg h0]);clear HT2;have h0b:(x==0)=false:=by rw [beq_eq_false_iff_ne];exact h0
        have hrl:=Zch Z;have HC:=zh (HRO.out Z (by omega) wr);have hx1:IntKind.i64.wrap (x+1)=x+1:=IntWalk.i64_in _ (by omega);have hal:A.length+(rowC Z).length<=17592186044416:=by omega
        have hal2:(A++rowC Z).length+1<=17592186044416:=by rw [List.length_append];omega
        go_wp2_with fail;refine HC.out.mono ?_;rintro e w2 ⟨u2,rfl,hO2,hB2⟩;have HO2:=zh hO2;have HO1:=zh (HO.out.below hB2);have HB2:=zh (HB.out.trans (hB2.mono HB.out.size));have hbw2:w.heap.size<=w2.heap.size:=HB2.out.size;clear hO2 hB2 HC;go_wp2_with (at_builtin;refine ZbK w2 rfl _ _ rfl w.heap.size _ A wr.heap.size _ (rowC Z) HO1.out HO2.out rfl rfl hal hbw2 ?_);intro v3 w3 hO3 hB3;have HO3:=zh hO3;have HB3:=zh (HB2.out.trans hB3);have hbw3:w.heap.size<=w3.heap.size:=HB3.out.size;clear hO3 hB3;go_wp2_with (at_builtin;refine Zar w3 rfl _ _ rfl w.heap.size _ (A++rowC Z) (x+1) HO3.out rfl rfl hal2 hbw3 ?_);intro v4 w4 hO4 hB4;have HO4:=zh hO4;have HB4:=zh (HB3.out.trans hB4);clear hO4 hB4;go_wp2_with fail;go_roundw
        case rel=>exact⟨k+1,_,by omega,by go_num,rfl,by rw [HT3.out];rfl,by rw [HT3.out];simpa only [List.append_assoc] using HO4.out,HB4.out,HA2.out⟩
        case measure=>simp [intOf];omega
    ·obtain rfl:k=zs.length:=by omega
     clear HT hB htk;rw [List.take_of_length_le (Nat.le_refl _)] at hO hle;rw [List.take_of_length_le (Nat.le_refl _)];have hen:enc zs n=(encF zs).1++rowC (encF zs).2++[n+1]:=rfl
     have hok:EncOk zs n:=⟨hn1,hn2,fun p hp=>by
      obtain⟨i,hi,rfl⟩:=List.getElem_of_mem hp;have:=HA.out i hi;rw [List.getD_eq_getElem?_getD,List.getElem?_eq_getElem hi] at this;exact this⟩
     have HOK:=zh hok;have HO:=zh hO;have HEN:=zh hen;clear hO hen hok HA;generalize (encF zs).1=A at *;generalize (encF zs).2=Z at *;have hrl:=Zch Z;have HC:=zh (HRO.out Z (by omega) wr);have hx1:IntKind.i64.wrap (n+1)=n+1:=IntWalk.i64_in _ (by omega);have hal:A.length+(rowC Z).length<=17592186044416:=by omega
     have hal2:(A++rowC Z).length+1<=17592186044416:=by rw [List.length_append];omega
     go_wp2_with fail;refine HC.out.mono ?_;rintro e w2 ⟨u2,rfl,hO2,hB2⟩;have HO2:=zh hO2;have HO1:=zh (HO.out.below hB2);have HB2:=zh (HB.out.trans (hB2.mono HB.out.size));have hbw2:w.heap.size<=w2.heap.size:=HB2.out.size;clear hO2 hB2 HC;go_wp2_with (at_builtin;refine ZbK w2 rfl _ _ rfl w.heap.size _ A wr.heap.size _ (rowC Z) HO1.out HO2.out rfl rfl hal hbw2 ?_);intro v3 w3 hO3 hB3;have HO3:=zh hO3;have HB3:=zh (HB2.out.trans hB3);have hbw3:w.heap.size<=w3.heap.size:=HB3.out.size;clear hO3 hB3;go_wp2_with (at_builtin;refine Zar w3 rfl _ _ rfl w.heap.size _ (A++rowC Z) (n+1) HO3.out rfl rfl hal2 hbw3 ?_);intro v4 w4 hO4 hB4;have HO4:=zh hO4;have HB4:=zh (HB3.out.trans hB4);clear hO4 hB4;go_wp2_with fail;go_ret2;exact⟨_,_,0,rfl,HO4.out.ints,HB4.out,Or.inr ⟨HOK.out,by rw [HEN.out,List.append_assoc],rfl⟩⟩
  ·have hn2':256<n:=by omega
   have hn1':¬n<1:=by omega
   go_enter Tryz.func58,Tryz.ntmps58;go_wp2_with fail;go_ret2;exact⟨_,[],1,rfl,IsInts.nil _,Below.refl _ _,Or.inl ⟨fun h=>by have:=h.2.1;omega,rfl,rfl⟩⟩
 ·have hn1':n<1:=by omega
  go_enter Tryz.func58,Tryz.ntmps58;go_wp2_with fail;go_ret2;exact⟨_,[],1,rfl,IsInts.nil _,Below.refl _ _,Or.inl ⟨fun h=>by have:=h.1;omega,rfl,rfl⟩⟩
end
section
open Go.RowKit PkM BitM
theorem ZrP (p:Nat) (hp:p<6) (W:World):(Instr.index 9 (.string ⟨#[48,49,50,51,52,53]⟩) (.int .i64 (p:Int))).run Tryz.prog W=.ok (.int .u8 ((48+p:Nat):Int)) W:=by
 rw [run_index_string W 9 _ .i64 (p:Int) Tryz.underlying9];rcases(by omega:p=0\/p=1\/p=2\/p=3\/p=4\/p=5) with rfl|rfl|rfl|rfl|rfl|rfl<;>rfl
theorem Zre (I:Nat) (hI:I<6):(⟨#[49,49,49,49,49,49]⟩:ByteArray).extract 0 I=txt (List.replicate I true):=by
 rcases(by omega:I=0\/I=1\/I=2\/I=3\/I=4\/I=5) with rfl|rfl|rfl|rfl|rfl|rfl<;>rfl
theorem Zku (p:Nat) (hp:p<6):(UInt8.ofNat (48+p)).toNat=48+p:=by
 rcases(by omega:p=0\/p=1\/p=2\/p=3\/p=4\/p=5) with rfl|rfl|rfl|rfl|rfl|rfl<;>rfl
theorem Zpo (o:List Nat):(⟨(lets o).toArray⟩:ByteArray).data.toList=lets o:=rfl
theorem Zkv (l:Value) (ps:List Nat) (t:Nat) (w:World) (hv:IsInts w l (toI ps)) (hm:May ps t) :
  Calls Tryz.prog 119 #[l,.int .i64 (t:Int)] w fun e w'=>e=.returned (.string (txt (allB ps t)))/\∃m,w'=w.drewN m:=by
 have HV:=zh hv;have HM:=zh hm;have hlz:=toI_length ps;have hn1:=hm.2.2.1;have hn2:=hm.2.2.2.1;have ht2:=hm.1;have ht6:=hm.2.1;obtain⟨ad,cap,rfl,_⟩:=hv;obtain⟨N,hN⟩:∃N,ps.length=N:=⟨_,rfl⟩
 rw [hlz] at HV ⊢;rw [hN] at hn1 hn2 hlz HV ⊢;have HZ:=zh hlz;have HN:=zh hN;have HALL:Hid (allB ps t=field t 3++field N 15++PkM.encK ps N):=zh (by unfold allB;rw [hN,PkM.encK_all ps N (by omega)]);have hc1:IntKind.u32.wrap (t:Int)=(t:Int):=by simp [IntKind.wrap,IntKind.bits,IntKind.signed];omega
 have hc2:IntKind.u32.wrap (N:Int)=(N:Int):=by simp [IntKind.wrap,IntKind.bits,IntKind.signed];omega
 have HF1:=zh (fun W=>ZaN t 3 W (by omega) (by omega));have HF2:=zh (fun W=>ZaN N 15 W (by omega) (by omega));have hs1:(txt (field t 3)).size=3:=by rw [Zaf,Zac]
 have hs2:(txt (field N 15)).size=15:=by rw [Zaf,Zac]
 have HTT:Hid (txt (field t 3)++txt (field N 15)=txt (field t 3++field N 15)):=zh (Zal _ _);obtain⟨Q0,hQ0⟩:∃Q0,field t 3++field N 15=Q0:=⟨_,rfl⟩
 have HQ0l:Hid (Q0.length=18):=zh (by rw [<-hQ0,List.length_append,Zac,Zac]);rw [hQ0] at HTT HALL;clear hm hlz hN hQ0;generalize txt (field t 3)=S1 at *;generalize txt (field N 15)=S2 at *;go_enter Tryz.func119,Tryz.ntmps119;go_wp2_with fail;refine(HF1.out _).mono ?_;rintro e w1 ⟨rfl,rfl⟩;go_wp2_with fail;refine(HF2.out _).mono ?_;rintro e w2 ⟨rfl,rfl⟩;go_wp2_with fail;rw [HTT.out];clear hs1 hs2 HTT HF1 HF2
 go_loopw [5,6,20] (fun vout vord vk wr=>∃k m:Nat,vk=.int .i64 (k:Int)/\k<=N/\vout=.string (txt (Q0++PkM.encK ps k))/\vord=.string ⟨(lets (ordK ps k)).toArray⟩/\wr=w.drewN m) (fun _ _ vk _=>N-(intOf vk).toNat)
 case atStart=>exact⟨0,0,rfl,by omega,by rw [show PkM.encK ps 0=[] from rfl,List.append_nil],rfl,rfl⟩
 case round=>
  obtain⟨k,m,rfl,hk,rfl,rfl,rfl⟩:=hrel;have hkl:=PkM.encK_len ps HM.out.2.1 HM.out.2.2.2.2 k (by rw [HN.out];exact hk);by_cases hlk:k<N
  ·have hki:(k:Int)<(N:Int):=by omega
   have hkp:k<ps.length:=by rw [HN.out];exact hlk
   obtain⟨b1,o1,k1,he1,c1⟩:=HV.out.cell (k:=k) (by rw [HZ.out];exact hlk);rw [HZ.out] at he1;simp only [Value.slice.injEq] at he1;obtain⟨rfl,_,rfl⟩:=he1;rw [toI_getD] at c1;have c2:(w.drewN m).cell? ⟨b1,o1+k,none⟩=some (.int .i64 ((ps.getD k 0:Nat):Int)):=c1
   have hpm:ps.getD k 0<t:=by
    rw [List.getD_eq_getElem?_getD,List.getElem?_eq_getElem hkp];exact HM.out.2.2.2.2 _ (List.getElem_mem _)
   have hO:=ZeG ps HM.out.2.1 HM.out.2.2.2.2 k (by omega);have hpo:ps.getD k 0∈ordK ps k:=List.mem_of_mem_take ((hO.1.2 _).1 hpm);have hIl:=(hO.1.place HM.out.2.1 hpm).1;have hol:=Zco (ordK ps k);rw [hO.1.1] at hol;have hPL:=fun W=>ZdP ⟨(lets (ordK ps k)).toArray⟩ (UInt8.ofNat (48+ps.getD k 0)) W (by rw [Zav,hol];omega)
   rw [Zpo,ZmV hO.2 hpo,Zku _ (by omega)] at hPL;have hTC:=fun W=>Zbv (lets (ordK ps k)) ((ordK ps k).idxOf (ps.getD k 0)) W (by rw [hol];omega) (by rw [hol];omega)
   rw [ZhD,<-Ze3 ps hkp] at hTC;have HEN:=zh (PkM.Ze2 ps hkp);have hix:=fun W=>ZrP (ps.getD k 0) (by omega) W
   obtain⟨I,hI⟩:∃I,(ordK ps k).idxOf (ps.getD k 0)=I:=⟨_,rfl⟩
   rw [hI] at HEN hPL hTC hIl;obtain⟨x,hx⟩:∃x,ps.getD k 0=x:=⟨_,rfl⟩
   rw [hx] at c2 hPL hix;obtain⟨C,hC⟩:∃C,48+x=C:=⟨_,rfl⟩
   rw [hC] at hPL hix;have HPL:=zh hPL;have HTC:=zh hTC;have hI0:(0:Int)<=(I:Int):=by omega
   have hI6:(I:Int)<=6:=by omega
   have hcut:=Zre I (by omega);have hS:(txt (Q0++PkM.encK ps k)).size<=200000:=by rw [Zaf,List.length_append];have:=HQ0l.out;omega
   have hR:(txt (List.replicate I true)).size<=6:=by rw [Zaf,List.length_replicate];omega
   have HT:Hid (txt (Q0++PkM.encK ps k)++txt (List.replicate I true)++⟨#[48]⟩=txt (Q0++PkM.encK ps (k+1))):=zh (by
    rw [HEN.out,Zal,<-List.append_assoc Q0,<-List.append_assoc];exact Zal _ [false])
   generalize txt (Q0++PkM.encK ps k)=S at *;generalize txt (List.replicate I true)=R at *;have hSR:(S++R).size<=200006:=by rw [ByteArray.size_append];omega
   have hx6:x<6:=by omega
   clear hpm hO hpo hI hx hkp hol hPL hTC hC c1 hkl;go_wp2_with fail;refine(HPL.out _).mono ?_;rintro e w3 ⟨rfl,rfl⟩;go_wp2_with fail;refine(HTC.out _).mono ?_;rintro e w4 ⟨rfl,m4,rfl⟩;go_wp2_with fail;go_roundw
   case rel=>exact⟨k+1,_,by go_num,by omega,by rw [<-HT.out],rfl,rfl⟩
   case measure=>simp [intOf];omega
  ·have hki:¬(k:Int)<(N:Int):=by omega
   obtain rfl:k=N:=by omega
   go_wp2_with fail;go_ret;exact⟨by rw [HALL.out];rfl,m,rfl⟩
end
section
open Go.RowKit DelM BitM
def mvI (a b i:Nat):List Bool:=two false (min i a)++two true (min i b)
theorem Zrf (a b:Nat):mvI a b 0=[]:=by unfold mvI;rw [Nat.zero_min,Nat.zero_min];rfl
theorem ZtK {a b i:Nat} (hi:i<a) (hb:b=0):mvI a b (i+1)=mvI a b i++[true,false]:=by
 subst hb;unfold mvI;rw [Nat.min_zero,Nat.min_zero,Nat.min_eq_left (by omega),Nat.min_eq_left (by omega)];simp [two]
theorem Zrg {a b i:Nat} (hi:i<b) (ha:a=0):mvI a b (i+1)=mvI a b i++[true,true]:=by
 subst ha;unfold mvI;rw [Nat.min_zero,Nat.min_zero,Nat.min_eq_left (by omega),Nat.min_eq_left (by omega)];simp [two]
theorem ZsZ {a b i:Nat} (ha:¬i<a) (hb:¬i<b):mvI a b (i+1)=mvI a b i:=by
 unfold mvI;rw [Nat.min_eq_right (by omega),Nat.min_eq_right (by omega),Nat.min_eq_right (by omega),Nat.min_eq_right (by omega)]
theorem Zs0 {p x:Int} (hp:1<=p/\p<=20) (hx:1<=x/\x<=20):mvI (x-p).toNat (p-x).toNat 40=mv p x:=by
 unfold mvI mv;rw [Nat.min_eq_right (by omega),Nat.min_eq_right (by omega)]
theorem Zs1 (a b i:Nat) (ha:a<=20) (hb:b<=20):(mvI a b i).length<=80:=by
 unfold mvI;rw [List.length_append,ZaI,ZaI];omega
theorem Zkw (l:Value) (zs:List Int) (w:World) (hv:IsInts w l zs) (hm:May zs) :
  Calls Tryz.prog 120 #[l] w fun e w'=>e=.returned (.string (txt (allB zs)))/\w'=w:=by
 have HV:=zh hv;have HM:=zh hm;have h3:=hm.1;have h258:=hm.2.1;obtain⟨ad,cap,rfl,_⟩:=hv;have HL:Hid (∀k,k<=zs.length->(DelM.encK zs k).length<=11000):=zh (fun k hk=>by have:=(DelM.encK_le HM.out hk).1;omega);obtain⟨N,hN⟩:∃N,zs.length=N:=⟨_,rfl⟩
 have HN:=zh hN;rw [hN] at h3 h258 HV ⊢;clear hm hN;obtain⟨b1,o1,k1,he1,c1⟩:=HV.out.cell (k:=0) (by rw [HN.out];omega);rw [HN.out] at he1;simp only [Value.slice.injEq] at he1;obtain⟨rfl,_,rfl⟩:=he1;have hz0:=HM.out.at_ (k:=0) (by rw [HN.out];omega);obtain⟨x0,hx0⟩:∃x0,zs.getD 0 0=x0:=⟨_,rfl⟩
 rw [hx0] at c1 hz0;rw [Nat.add_zero] at c1;obtain⟨X0,rfl⟩:∃X0:Nat,x0=(X0:Int):=⟨x0.toNat,by omega⟩
 have hX20:X0<=20:=by omega
 have HALL:Hid (allB zs=field X0 5++DelM.encK zs N):=zh (by unfold allB;rw [hx0,HN.out];rfl);have HPRV:Hid (prv zs 0=(X0:Int)):=zh hx0;have hc32:IntKind.u32.wrap (X0:Int)=(X0:Int):=by simp [IntKind.wrap,IntKind.bits,IntKind.signed];omega
 clear hx0 hz0;have hN0:(0:Int)<(N:Int):=by omega
 go_enter Tryz.func120,Tryz.ntmps120;go_wp2_with fail;refine(ZaN X0 5 _ (by omega) (by omega)).mono ?_;rintro e w' ⟨rfl,rfl⟩;go_wp2_with fail
 go_loopw [3,4,18] (fun vo vl vk wr=>∃k:Nat,vk=.int .i64 (k:Int)/\k<=N/\vl=.int .i64 (prv zs k)/\vo=.string (txt (field X0 5++DelM.encK zs k))/\wr=w) (fun _ _ vk _=>N-(intOf vk).toNat)
 case atStart=>exact⟨0,rfl,by omega,by rw [HPRV.out],by rw [show DelM.encK zs 0=[] from rfl,List.append_nil],rfl⟩
 case round=>
  obtain⟨k,rfl,hk,rfl,rfl,rfl⟩:=hrel;by_cases hlk:k<N
  ·have hki:(k:Int)<(N:Int):=by omega
   have hkz:k<zs.length:=by rw [HN.out];exact hlk
   obtain⟨b1,o1,k1,he1,c1⟩:=HV.out.cell hkz;rw [HN.out] at he1;simp only [Value.slice.injEq] at he1;obtain⟨he1,_,rfl⟩:=he1;simp only [Option.some.injEq,Addr.mk.injEq,and_true] at he1;obtain⟨rfl,rfl⟩:=he1;have hzk:=HM.out.at_ hkz;have hpk:=HM.out.prv (k:=k) (by omega);have HLk:=zh (HL.out k (by rw [HN.out];omega));have HEN:Hid (DelM.encK zs (k+1)=DelM.encK zs k++(mv (prv zs k) (zs.getD k 0)++[false])):=zh rfl;have HPS:Hid (prv zs (k+1)=zs.getD k 0):=zh rfl;obtain⟨x,hx⟩:∃x,zs.getD k 0=x:=⟨_,rfl⟩
   obtain⟨p,hp⟩:∃p,prv zs k=p:=⟨_,rfl⟩
   rw [hx] at c1 hzk HEN HPS;rw [hp] at hpk HEN ⊢;obtain⟨Q,hQ⟩:∃Q,field X0 5++DelM.encK zs k=Q:=⟨_,rfl⟩
   have HQ:=zh hQ
   have hQl:Q.length<=20000:=by
    have:=HLk.out;rw [<-hQ,List.length_append,Zac];omega
   rw [hQ];obtain⟨A,hA⟩:∃A,(x-p).toNat=A:=⟨_,rfl⟩
   obtain⟨B,hB⟩:∃B,(p-x).toNat=B:=⟨_,rfl⟩
   have hA20:A<=20:=by omega
   have hB20:B<=20:=by omega
   have HMA:Hid (mvI A B 40=mv p x):=zh (by rw [<-hA,<-hB];exact Zs0 hpk hzk);have HAB:Hid ((∀i:Nat,i<A↔(i:Int)<x-p)/\(∀i:Nat,i<B↔(i:Int)<p-x)/\(A=0\/B=0)):=zh ⟨fun i=>by omega,fun i=>by omega,by omega⟩;clear hx hp hQ hA hB;go_wp2_with fail
   go_loopw [3,22] (fun vo vi wr2=>∃i:Nat,vi=.int .i64 (i:Int)/\i<=40/\vo=.string (txt (Q++mvI A B i))/\wr2=wr) (fun _ vi _=>40-(intOf vi).toNat)
   case atStart=>exact⟨0,rfl,by omega,by rw [Zrf,List.append_nil],rfl⟩
   case round=>
    obtain⟨i,rfl,hi,rfl,rfl⟩:=hrel;have hml:=Zs1 A B i hA20 hB20;by_cases hi40:i<40
    ·have hi40i:(i:Int)<40:=by omega
     have hS:(txt (Q++mvI A B i)).size<=20080:=by rw [Zaf,List.length_append];omega
     by_cases hu:i<A
     ·have hui:=(HAB.out.1 i).1 hu;have hdi:¬(i:Int)<p-x:=by omega
      have HT:Hid (txt (Q++mvI A B i)++⟨#[49,48]⟩=txt (Q++mvI A B (i+1))):=zh (by
       rw [ZtK hu (by have:=HAB.out.2.2;omega),<-List.append_assoc];exact Zal _ [true,false])
      clear hu hml;generalize txt (Q++mvI A B i)=S at *;go_wp2_with fail;go_roundw
      case rel=>exact⟨i+1,by go_num,by omega,by rw [<-HT.out],by first|rfl|trivial⟩
      case measure=>simp [intOf];omega
     ·have hui:¬(i:Int)<x-p:=fun h=>hu ((HAB.out.1 i).2 h)
      by_cases hd:i<B
      ·have hdi:=(HAB.out.2.1 i).1 hd
       have HT:Hid (txt (Q++mvI A B i)++⟨#[49,49]⟩=txt (Q++mvI A B (i+1))):=zh (by
        rw [Zrg hd (by have:=HAB.out.2.2;omega),<-List.append_assoc];exact Zal _ [true,true])
       clear hu hd hml;generalize txt (Q++mvI A B i)=S at *;go_wp2_with fail;go_roundw
       case rel=>exact⟨i+1,by go_num,by omega,by rw [<-HT.out],by first|rfl|trivial⟩
       case measure=>simp [intOf];omega
      ·have hdi:¬(i:Int)<p-x:=fun h=>hd ((HAB.out.2.1 i).2 h)
       have HT:Hid (txt (Q++mvI A B i)=txt (Q++mvI A B (i+1))):=zh (by rw [ZsZ hu hd]);clear hu hd hml;generalize txt (Q++mvI A B i)=S at *;go_wp2_with fail;go_roundw
       case rel=>exact⟨i+1,by go_num,by omega,by rw [<-HT.out],by first|rfl|trivial⟩
       case measure=>simp [intOf];omega
    ·obtain rfl:i=40:=by omega
     have hS:(txt (Q++mvI A B 40)).size<=20080:=by rw [Zaf,List.length_append];omega
     have HT:Hid (txt (Q++mvI A B 40)++⟨#[48]⟩=txt (field X0 5++DelM.encK zs (k+1))):=zh (by
      rw [HMA.out,HEN.out,<-List.append_assoc,HQ.out,<-List.append_assoc];exact Zal _ [false])
     clear hml;generalize txt (Q++mvI A B 40)=S at *;go_wp2_with fail;go_roundw
     case rel=>exact⟨k+1,by go_num,by omega,by rw [HPS.out],by rw [<-HT.out],by first|rfl|trivial⟩
     case measure=>simp [intOf];omega
  ·have hki:¬(k:Int)<(N:Int):=by omega
   obtain rfl:k=N:=by omega
   go_wp2_with fail;go_ret;exact⟨by rw [HALL.out];rfl,rfl⟩
end
section
namespace CanM
open Go.RowKit HufM BitM
def nxtL:List Bool->List Bool×Bool
 | []=>([],true)
 | b::t=>((b != (nxtL t).2)::(nxtL t).1,(nxtL t).2 && b)
theorem Zay:∀t,(nxtL t).1.length=t.length
 | []=>rfl
 | b::t=>by simp only [nxtL,List.length_cons,Zay t]
theorem ZdR (b:Bool) (t:List Bool):num (b::t)=bn b*2^t.length+num t:=by
 have:=ZaE [b] t;rw [List.singleton_append] at this;rw [this,show num [b]=bn b from Nat.zero_add _]
theorem ZfT:∀t,num (nxtL t).1+bn (nxtL t).2*2^t.length=num t+1
 | []=>rfl
 | b::t=>by
  have ih:=ZfT t;have h1:=ZaB t;have h2:=ZaB (nxtL t).1;rw [Zay] at h2;simp only [nxtL,List.length_cons];rw [ZdR,ZdR,Zay,Nat.pow_succ];generalize num (nxtL t).1=A at *;generalize num t=T at *;generalize 2^t.length=P at *;generalize (nxtL t).2=c at *;cases b<;>cases c<;>simp [bn] at*<;> omega
def nxtC (C:List Bool) (n:Nat):List Bool:=(nxtL C).1++List.replicate (n-C.length) false
theorem Zkx {C:List Bool} {n X:Nat} (hm:C.length<=n) (hX:(num C+1)*2^(n-C.length)=X) (hlt:X<2^n):nxtC C n=field X n:=by
 have h1:=ZfT C;have hl:=Zay C;have hp:0<2^(n-C.length):=Nat.pow_pos (by decide);have hn:2^n=2^C.length*2^(n-C.length):=by rw [<-Nat.pow_add];congr 1;omega
 have h2:num C+1<2^C.length:=by
  rw [<-hX,hn] at hlt;exact Nat.lt_of_mul_lt_mul_right hlt
 have h3:num (nxtL C).1=num C+1:=by
  cases h:(nxtL C).2
  ·rw [h] at h1;simp [bn] at h1;exact h1
  ·rw [h] at h1;simp only [bn,if_true,Nat.one_mul] at h1;omega
 apply Zcr
 ·unfold nxtC;rw [List.length_append,List.length_replicate,hl,Zac];omega
 ·unfold nxtC;rw [ZbR,h3,hX,Zau,Nat.mod_eq_of_lt hlt]
theorem Zei (n:Nat):field 0 n=List.replicate n false:=by
 apply Zcr
 ·rw [Zac,List.length_replicate]
 ·rw [Zau,Nat.zero_mod];have:=ZbR [] n;rw [List.nil_append] at this;rw [this];simp [num]
def nxtX (l:List Int) (n i:Nat):Nat:=fcod l n+rank l n i
theorem ZfU {l:List Int} {n i:Nat} (h:¬ln l i=n):nxtX l n (i+1)=nxtX l n i:=by
 unfold nxtX;rw [Zbh,if_neg (show ¬(l.getD i 0).toNat=n from h)];rfl
theorem ZfV {l:List Int} {n i:Nat} (h:ln l i=n):nxtX l n (i+1)=nxtX l n i+1:=by
 unfold nxtX;rw [Zbh,if_pos (show(l.getD i 0).toNat=n from h)];omega
theorem ZfW {l:List Int} {n:Nat} (h:n<20):nxtX l (n+1) 0=2*nxtX l n l.length:=by
 unfold nxtX;rw [Zcv l h];show _+0=_;rfl
theorem ZhH {l:List Int} {n i:Nat} (hi:i<l.length) (h:ln l i=n):nxtX l n i=cod l (ln l i,i):=by
 rw [h,ZeI hi n h];rfl
def CodeAt (C:List Bool) (n X:Nat):Prop:=(C=[]/\X=0)\/(C≠[]/\C.length<=n/\(num C+1)*2^(n-C.length)=X)
theorem CodeAt.next {C:List Bool} {n X:Nat} (h:CodeAt C n X):CodeAt C (n+1) (2*X):=by
 rcases h with⟨h1,h2⟩|⟨h1,h2,h3⟩
 ·exact Or.inl ⟨h1,by rw [h2]⟩
 ·refine Or.inr ⟨h1,by omega,?_⟩;rw [<-h3,show n+1-C.length=n-C.length+1 by omega,Nat.pow_succ,<-Nat.mul_assoc,Nat.mul_comm]
theorem CodeAt.took {n X:Nat} (h1:1<=n) (hX:X<2^n):CodeAt (field X n) n (X+1):=by
 refine Or.inr ⟨?_,by rw [Zac];exact Nat.le_refl _,?_⟩
 ·intro h;have:=Zac X n;rw [h] at this;simp at this;omega
 ·rw [Zac,Zau,Nat.mod_eq_of_lt hX,Nat.sub_self,Nat.pow_zero,Nat.mul_one]
end CanM
end
end Go.Proofs.YtnachbjhhpnadaaGreatDoor

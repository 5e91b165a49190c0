import Derived.Test.YtnachbjhhpnadaaGreatDoorBcA
import Derived.Test.YtnachbjhhpnadaaGreatDoorBcB
import Derived.Test.YtnachbjhhpnadaaGreatDoorBcC
import Derived.Test.YtnachbjhhpnadaaGreatDoorBcD
import Derived.Test.YtnachbjhhpnadaaGreatDoorBcE
import Derived.Test.YtnachbjhhpnadaaGreatDoorBcF
import Derived.Test.YtnachbjhhpnadaaGreatDoorBcG
import Derived.Test.YtnachbjhhpnadaaGreatDoorBcH
import Derived.Test.YtnachbjhhpnadaaGreatDoorBcI
import Derived.Test.YtnachbjhhpnadaaGreatDoorBcJ
import Derived.Test.YtnachbjhhpnadaaGreatDoorBcM
import Derived.Test.YtnachbjhhpnadaaGreatDoorBcN
import Derived.WalkKit
import Derived.Lib.BytesEntry
import Derived.Lib.IndexLaws
import Derived.Test.YtnachbjhhpnadaaGreatDoorRows
import Derived.WalkSpells
import Derived.WalkLawsBesides
import Derived.ProofKit
import Derived.OpenShut
import Derived.ShutString
import Derived.ChangeOld
import Derived.Below
import Derived.Lib.Hide
import Derived.BigQuiet
import Derived.SliceStrings
import Derived.Laws.OwnMore
import Derived.Laws.AppendOwnNone
import Derived.StillTailTactics
import Derived.IntWalk
import Derived.BigRegion
import Derived.Deep.RegionLaw
import Derived.Deep.AppendSrc
import Derived.Deep.Upon
import Derived.Lib.SmallJoins
import Derived.Deep.Slices
import Derived.Shelf.Abstract
import Derived.Laws.CopyRow
import Derived.Deep.Cut
import Derived.Lib.SliceRun
import Derived.Deep.LoopGhost
import Derived.Laws.EntriesVeiled
import Derived.WalkMore
set_option linter.unusedVariables false
set_option linter.unusedSimpArgs false
set_option maxHeartbeats 8000000
set_option maxRecDepth 100000
namespace Go.Proofs.YtnachbjhhpnadaaGreatDoor
section
namespace PkM
open Go.RowKit BitM
theorem run_len {t:Nat}:∀(m:Nat) (q:List Bool) (o l:List Nat) (n:Nat),run t q m o=.ok l n->l.length=m/\n<=q.length
 | 0,q,o,l,n,h=>by
  simp only [run,Res.ok.injEq] at h;obtain⟨rfl,rfl⟩:=h;exact⟨rfl,Nat.zero_le _⟩
 | m+1,q,o,l,n,h=>by
  rw [run] at h;split at h
  ·cases h
  ·split at h
   ·cases h
   ·rename_i h1 h2;have hle:=ZdT q;generalize hr:run t (q.drop (lead q+1)) m (tch o (lead q))=r at h;cases r with
    | ok l' n'=>
     simp only [Res.add,Res.ok.injEq] at h;obtain⟨rfl,rfl⟩:=h;have:=run_len m _ _ _ _ hr;rw [List.length_drop] at this;refine⟨by simp [this.1],by omega⟩
    | bad _=>cases h
    | short=>cases h
end PkM
end
section
namespace UsedM
open Go.RowKit BitM
theorem Zee (l:List UInt8):IsSyms l↔(l≠[]/\syms (has l) 256=l):=
 ⟨fun h=>⟨h.2,ZgX h.1⟩,fun h=>⟨h.2▸ZeY (has l),h.1⟩⟩
end UsedM
end
section
namespace MtfM
open Go.RowKit UsedM
theorem ZfN {l:List UInt8} {c:UInt8} (hn:∀j,j<l.length->l[j]?≠some c):Lib.indexByte l c=-1:=by
 have hge:=Lib.indexByte_ge l c;by_cases h1:Lib.indexByte l c=-1
 ·exact h1
 ·obtain⟨o,ho⟩:∃o:Nat,Lib.indexByte l c=(o:Int):=⟨(Lib.indexByte l c).toNat,by omega⟩
  obtain⟨h2,h3⟩:=Lib.indexByte_some ho;exact absurd h2 (hn o (List.getElem?_eq_some_iff.1 h2).1)
end MtfM
end
section
open Go.ChangeShapes Go.WideShapes Go.ChangeAt Go.RowKit
open Go.ChangeMaps (open_string shut_string)
namespace LawShell
theorem own:ownKnob Tryz.prog.godebug=none:=by kernel_rfl
theorem laidOut:laidOutB Tryz.prog=true:=by kernel_rfl
end LawShell
theorem Beneath.cell {B:Nat} {w:World} {p:Addr} {v:Value} (h:w.cell? p=some v) (hB:p.block<B) (s:Beneath B w):s.val.cell? p=some v:=(s.is.cell hB).trans h
theorem ZaF {P:Program} {id:Nat} {Q:Exit->Act->World->Prop} {a:Act} {w:World} {l:List Oper} (B:Nat) (w0:World) (h0:Below B w0 w) (hm:P.follows .mixedOrders=true) (hB:Region.lexB .any l.toArray=true)
  (h:wpQuiet P l.toArray (fun w'=>∃s:Beneath B w0,w'=s.val) (fun a'=>∀w',(∃s:Beneath B w0,w'=s.val)->Q .normal a' w') l a):(Code.region id l.toArray true).wp P Q a w:=
 wp_region_quiet (C:=fun w'=>∃s:Beneath B w0,w'=s.val) hm hB ⟨⟨w.drew,h0.drew⟩,rfl⟩ (by simpa using h)
theorem Calls.beneath {P:Program} {f:FuncId} {args:Array Value} {B:Nat} {w:World} {v:Value} (s:Beneath B w) (hB:B<=w.heap.size)
  (h:Calls P f args s.val fun e w'=>e=.returned v/\Below s.val.heap.size s.val w'):Calls P f args s.val fun e w''=>e=.returned v/\∃s':Beneath B w,w''=s'.val:=
 h.mono fun _ w' ⟨he,hb⟩=>⟨he,⟨w',s.is.trans (hb.mono (Nat.le_trans hB s.is.size))⟩,rfl⟩
theorem Calls.beneath_same {P:Program} {f:FuncId} {args:Array Value} {B:Nat} {w:World} {v:Value} (s:Beneath B w)
  (h:Calls P f args s.val fun e w'=>e=.returned v/\s.val=w'):Calls P f args s.val fun e w''=>e=.returned v/\∃s':Beneath B w,w''=s'.val:=
 h.mono fun _ _ ⟨he,hb⟩=>⟨he,s,hb.symm⟩
end
section
namespace PkM
open Go.RowKit BitM
def lets (o:List Nat):List UInt8:=o.map fun n=>UInt8.ofNat (48+n)
theorem ZhD (o:List Nat) (i:Nat):MtfM.touch (lets o) i=lets (tch o i):=by
 unfold MtfM.touch tch lets;rw [<-List.map_drop,<-List.map_take,<-List.map_take,<-List.map_drop,<-List.map_append,<-List.map_append]
theorem Zco (o:List Nat):(lets o).length=o.length:=by simp [lets]
theorem ZeR {o:List Nat} {i x:Nat} (h:o[i]?=some x):(lets o)[i]?=some (UInt8.ofNat (48+x)):=by
 unfold lets;rw [List.getElem?_map,h];rfl
end PkM
end
section
namespace DelM
open Go.RowKit BitM
theorem run_len:∀(q:List Bool) (m:Nat) (now:Int) (l:List Int) (n:Nat),run q m now=.ok l n->l.length=m
 | q,0,now,l,n,h=>by
  rw [run_zero] at h;cases h;rfl
 | [],m+1,now,l,n,h=>by cases h
 | [true],m+1,now,l,n,h=>by cases h
 | false::t,m+1,now,l,n,h=>by
  rw [run_same] at h;cases hr:run t m now with
  | short=>rw [hr] at h;cases h
  | table=>rw [hr] at h;cases h
  | ok a c=>
   rw [hr] at h;have:=run_len t m now a c hr;cases h;rw [List.length_append,this];show 1+m=_;omega
 | true::b::t,m+1,now,l,n,h=>by
  by_cases hb:nx now b<1\/20<nx now b
  ·rw [run_bad _ _ _ _ hb] at h;cases h
  ·rw [run_move _ _ _ _ hb] at h;cases hr:run t (m+1) (nx now b) with
   | short=>rw [hr] at h;cases h
   | table=>rw [hr] at h;cases h
   | ok a c=>
    rw [hr] at h;have:=run_len t (m+1) (nx now b) a c hr;cases h;exact this
theorem rd_len {q:List Bool} {m:Nat} {l:List Int} {n:Nat} (h:rd q m=.ok l n):l.length=m:=by
 unfold rd at h;split at h
 ·cases h
 ·split at h
  ·cases h
  ·cases hr:run (q.drop 5) m (num (q.take 5)) with
   | short=>rw [hr] at h;cases h
   | table=>rw [hr] at h;cases h
   | ok a c=>
    rw [hr] at h;have:=run_len _ _ _ _ _ hr;cases h;exact this
end DelM
end
section
open Go.RowKit
theorem ZkF {w:World} {e size:Nat} {v:Value} {n:Nat} {xs:List Value} {base:Nat} (h:w.ownsRow base e size v n xs) (b:Nat) (hb:b<base) (o:Nat) (x:Value):(w.setCell ⟨b,o,none⟩ x).ownsRow base e size v n xs:=by
 refine⟨h.1,?_⟩;rcases h.2 with hn|⟨g,cap,cur,rfl,hbg,hg,r⟩
 ·exact Or.inl hn
 ·exact Or.inr ⟨g,cap,cur,rfl,hbg,(heap_setCell_other w ⟨b,o,none⟩ g x (by show g≠b;omega)).trans hg,r⟩
theorem Zb3 (W:World) (b cap:Nat) (l:List UInt8) (m:Nat) (hm:m=l.length) (h:∀j x,l[j]?=some x->W.cell? ⟨b,j,none⟩=some (u8v x)) :
  (convert 71 9 (.slice (some ⟨b,0,none⟩) m cap)).run Tryz.prog W=.ok (.string ⟨l.toArray⟩) W:=by
 subst hm;refine run_convert_bytes_back W 71 9 5 ⟨b,0,none⟩ cap l Tryz.underlying71 Tryz.underlying5 Tryz.underlying9 (fun j hj=>?_);rw [Addr.add_lit,Nat.zero_add,h j _ (List.getElem?_eq_getElem hj)];simp [u8v]
theorem Zcm (w:World) (x:UInt8) (X:Int) (hX:X=(x.toNat:Int)):(convert 71 9 (.slice (some ⟨w.heap.size,0,none⟩) 1 1)).run Tryz.prog (w.alloc (.cells #[.int .u8 X] 5))=.ok (.string ⟨#[x]⟩) (w.alloc (.cells #[.int .u8 X] 5)):=by
 subst hX;refine Zb3 _ w.heap.size 1 [x] 1 rfl (fun j y hj=>?_);rw [cell_of_row _ _ _ _ _ _ (heap_alloc_new w _)];have:j<1:=(List.getElem?_eq_some_iff.1 hj).1;obtain rfl:j=0:=by omega
 have e:x=y:=by simpa using hj
 subst e;rfl
theorem ZhE (s:ByteArray):s=⟨s.data.toList.toArray⟩:=by cases s;simp
theorem ZaA (a b:List UInt8):(⟨a.toArray⟩:ByteArray)++⟨b.toArray⟩=⟨(a++b).toArray⟩:=by
 apply ByteArray.ext;simp
theorem OwnI.alloc {w:World} {base:Nat} {v:Value} {zs:List Int} (h:OwnI w base v zs) (o:Obj):OwnI (w.alloc o) base v zs:=World.ownsRow.alloc h o
theorem ZbK {ops:Array Oper} {rest:List Oper} {o:Oper} {a:Act} {Q:Exit->Act->World->Prop} (W:World) (hgd:o.guard=none) (s x:Operand)
  (ho:o.op=.call { callee:=.builtin .append,args:=#[s,x],argTypes:=#[79,79] })
  (base:Nat) (v:Value) (zs:List Int) (base2:Nat) (u:Value) (ys:List Int) (hown:OwnI W base v zs) (hsrc:OwnI W base2 u ys) (hs:a.eval s=v) (hx:a.eval x=u)
  (hlen:zs.length+ys.length<=17592186044416) (hb:base<=W.heap.size)
  (h:∀v' w',OwnI w' base v' (zs++ys)->Below base W w'->wpList Tryz.prog ops Q rest (a.put o.dst v') w') :
  wpList Tryz.prog ops Q (o::rest) a W:=by
 obtain⟨i0,hi,hz0,hz1,hz2⟩:=info_parts ZbF;rcases hsrc.2 with⟨rfl,h0⟩|⟨g,cap,cur,rfl,_,hg,hnc,_,_,htake⟩
 ·obtain rfl:ys=[]:=List.eq_nil_of_length_eq_zero h0;refine wpList_append_own_none hgd s x 79 ho base 3 i0 1 Tryz.underlying79 hi v zs.length (zs.map iv64) hs hown hx ?_;have:=h v W;rw [List.append_nil] at this;exact this hown (Below.refl _ _)
 ·refine wpList_append_own _ hgd s x 79 ho base 3 i0 (.int .i64 0) 1 8 Tryz.underlying79 hi hz0 hz1 hz2 rfl (by decide) v zs.length (zs.map iv64) hs hown ⟨g,0,none⟩ ys.length cap (ys.map iv64) hx (by simp) ?_ ?_ ?_ ?_ ?_ ?_
  ·exact World.ownsRow.cells hsrc rfl
  ·intro u hu;obtain⟨y,_,rfl⟩:=List.mem_map.1 hu;rfl
  ·unfold maxLen;omega
  ·omega
  ·exact hb
  ·intro v' w' hown' hgr _;refine h v' w' ?_ (Below.grown (Below.refl base W) hgr hb (fun j hj=>(World.ownsRow.lt hown j hj).1));unfold OwnI;rw [List.length_append,List.map_append];exact hown'
theorem Zi8 {ops:Array Oper} {rest:List Oper} {o:Oper} {a:Act} {Q:Exit->Act->World->Prop} (W:World) (hgd:o.guard=none) (s x:Operand)
  (ho:o.op=.call { callee:=.builtin .append,args:=#[s,x],argTypes:=#[79,79] })
  (base:Nat) (v:Value) (zs:List Int) (c:Int) (hown:OwnI W base v zs) (hs:a.eval s=v) (hx:a.eval x=.slice (some ⟨W.heap.size,0,none⟩) 1 1)
  (hlen:zs.length+1<=17592186044416) (hb:base<=W.heap.size)
  (h:∀v' w',OwnI w' base v' (zs++[c])->Below base W w'->(∀k,k<W.heap.size->v.ownBlock≠some k->w'.heap[k]?=W.heap[k]?)->(∀k,v'.ownBlock=some k->v.ownBlock=some k\/W.heap.size<=k) ->
   wpList Tryz.prog ops Q rest (a.put o.dst v') w') :
  wpList Tryz.prog ops Q (o::rest) a (W.alloc (.cells #[.int .i64 c] 3)):=by
 obtain⟨i0,hi,hz0,hz1,hz2⟩:=info_parts ZbF;refine Zas hgd s x 79 ho base 3 i0 (.int .i64 0) 1 8 Tryz.underlying79 hi hz0 hz1 hz2 rfl (by decide) v zs.length (zs.map iv64) (World.ownsRow.alloc hown _) hs ⟨W.heap.size,0,none⟩ 1 1 [.int .i64 c] hx rfl ?_ ?_ ?_ ?_ ?_ ?_
 ·exact ZaD _ _ _ _ rfl
 ·intro u hu;simp at hu;subst hu;rfl
 ·unfold maxLen;omega
 ·omega
 ·simp;omega
 ·intro v' w' hown' hg hv;refine h v' w' ?_ (Below.grown ((Below.refl base W).alloc hb _) hg (by simp;omega) (fun j hj=>(World.ownsRow.lt hown j hj).1)) (fun k hk hne=>(hg.block k (by simp;omega) (fun e=>hne e.symm)).trans (Zam hk)) (fun k hk=>(hv k hk).imp id (fun h=>by simp at h;omega));unfold OwnI;rw [List.length_append,List.map_append];exact hown'
theorem OwnI.setRow {w:World} {base:Nat} {v:Value} {zs:List Int} (h:OwnI w base v zs) (g:Nat) (cs:Array Value) (hg:g<base):OwnI (w.setRow g cs) base v zs:=
 Zah h fun k hk=>setRow_other _ _ k _ (by have:=(World.ownsRow.lt h k hk).1;omega)
theorem Zi9 (zs:List Int) (k:Nat) (h:k<zs.length):zs.drop k=zs.getD k 0::zs.drop (k+1):=by
 rw [List.drop_eq_getElem_cons h,List.getD_eq_getElem?_getD,List.getElem?_eq_getElem h];rfl
theorem ZfO (v:Value) (zs:List Int) (a b:Int) (r:Bool) (w:World) (hv:IsInts w v zs) (hr:r=true↔Within a b zs) (hz:zs.length<=9223372036854775807) :
  Calls Tryz.prog 230 #[v,.int .i64 a,.int .i64 b] w fun e w'=>e=.returned (.bool r)/\w'=w:=by
 have HV:=zh hv;have HRR:=zh hr;obtain⟨ad,cap,rfl,_⟩:=hv;clear hr;go_enter Tryz.func230,Tryz.ntmps230;go_wp2_with fail
 go_loopw [11] (fun i wr=>∃k:Nat,k<=zs.length/\i=.int .i64 k/\wr=w/\∀j,j<k->a<=zs.getD j 0/\zs.getD j 0<=b) (fun i _=>zs.length-(intOf i).toNat)
 case atStart=>exact⟨0,by omega,rfl,rfl,fun j hj=>by omega⟩
 case round=>
  obtain⟨k,hk,rfl,rfl,hA⟩:=hrel;have HA:=zh hA;clear hA;by_cases hlk:k<zs.length
  ·have hki:(k:Int)<(zs.length:Int):=by omega
   obtain⟨b1,o1,k1,he1,c1⟩:=HV.out.cell hlk;simp only [Value.slice.injEq] at he1;obtain⟨rfl,_,rfl⟩:=he1;obtain⟨x,hx⟩:∃x,zs.getD k 0=x:=⟨_,rfl⟩
   rw [hx] at c1;have HX:=zh hx;clear hx;by_cases h1:x<a
   ·have hrf:r=false:=by
     rw [Bool.eq_false_iff,Ne,HRR.out];intro h;have:=h _ (getD_mem hlk);rw [HX.out] at this;omega
    subst hrf;go_wp2_with fail;go_ret;exact⟨rfl,rfl⟩
   ·have hd:decide (x<a)=false:=by simp only [decide_eq_false_iff_not];exact h1
    by_cases h2:b<x
    ·have hrf:r=false:=by
      rw [Bool.eq_false_iff,Ne,HRR.out];intro h;have:=h _ (getD_mem hlk);rw [HX.out] at this;omega
     subst hrf;go_wp2_with fail;go_ret;exact⟨rfl,rfl⟩
    ·have hd2:decide (b<x)=false:=by simp only [decide_eq_false_iff_not];exact h2
     go_wp2_with fail;go_roundw
     case rel=>exact⟨k+1,by omega,by go_num,(by first|rfl|trivial),fun j hj=>by
      by_cases e:j=k
      ·subst e;rw [HX.out];omega
      ·exact HA.out j (by omega)⟩
     case measure=>simp [intOf];omega
  ·have hki:¬(k:Int)<(zs.length:Int):=by omega
   have hrt:r=true:=by
    rw [HRR.out];exact Zds (fun j hj=>HA.out j (by omega))
   subst hrt;go_wp2_with fail;go_ret;exact⟨rfl,rfl⟩
end
section
open Go.RowKit HufM
theorem ZmZ (v:Value) (zs:List Int) (w:World) (hv:IsInts w v zs) (hz:zs.length<=1000) (hw:Within 0 20 zs) :
  Calls Tryz.prog 232 #[v] w fun e w'=>e=.returned (.int .i64 (shr zs:Int))/\w'=w:=by
 have HV:=zh hv;have HW:=zh hw;obtain⟨ad,cap,rfl,_⟩:=hv;clear hw;go_enter Tryz.func232,Tryz.ntmps232;go_wp2_with fail
 go_loopw [3,9] (fun m i wr=>∃k s:Nat,k<=zs.length/\i=.int .i64 k/\m=.int .i64 s/\s=shr (zs.take k)/\wr=w) (fun _ i _=>zs.length-(intOf i).toNat)
 case atStart=>exact⟨0,0,by omega,rfl,rfl,rfl,rfl⟩
 case round=>
  obtain⟨k,s,hk,rfl,rfl,hs,rfl⟩:=hrel;by_cases hlk:k<zs.length
  ·have hki:(k:Int)<(zs.length:Int):=by omega
   obtain⟨b1,o1,k1,he1,c1⟩:=HV.out.cell hlk;simp only [Value.slice.injEq] at he1;obtain⟨rfl,_,rfl⟩:=he1;have ht:=Zk3 zs hlk;have hx2:=HW.out _ (getD_mem hlk)
   have hsb:s<=1048576*1000:=by
    have:=Ze8 (zs.take k);rw [<-hs,List.length_take] at this;have h3:1048576*min k zs.length<=1048576*1000:=Nat.mul_le_mul_left _ (by omega);omega
   obtain⟨x,hx⟩:∃x,zs.getD k 0=x:=⟨_,rfl⟩
   rw [hx] at c1 ht hx2;obtain⟨E,he⟩:∃e,20-x.toNat=e:=⟨_,rfl⟩
   have hxe:(20:Int)-x=(E:Int):=by omega
   have hE:E<=20:=by omega
   rw [he,<-hs] at ht;have HT:=zh ht;clear hs hx ht he;go_wp2_with fail
   go_loopw [6,15] (fun p j wr2=>∃t P:Nat,t<=E/\j=.int .i64 t/\p=.int .i64 P/\P=2^t/\wr2=wr) (fun _ j _=>E-(intOf j).toNat)
   case atStart=>exact⟨0,1,by omega,rfl,rfl,rfl,rfl⟩
   case round=>
    obtain⟨t,P,htE,rfl,rfl,hP,rfl⟩:=hrel;have hPb:P<=1048576:=by rw [hP];exact Nat.pow_le_pow_right (by decide) (show t<=20 by omega)
    by_cases hte:t<E
    ·have hte2:(t:Int)<(E:Int):=by omega
     have HP:Hid (P*2=2^(t+1)):=zh (by rw [Nat.pow_succ,<-hP]);clear hP;go_wp2_with fail;go_roundw
     case rel=>exact⟨t+1,P*2,by omega,by go_num,by go_num,HP.out,(by first|rfl|trivial)⟩
     case measure=>simp [intOf];omega
    ·have hte2:¬(t:Int)<(E:Int):=by omega
     have HP:Hid (P=2^E):=zh (by rw [hP];congr 1;omega);clear hP;go_wp2_with fail;go_roundw
     case rel=>exact⟨k+1,s+P,by omega,by go_num,by go_num,by rw [HP.out];exact HT.out.symm,(by first|rfl|trivial)⟩
     case measure=>simp [intOf];omega
  ·have hki:¬(k:Int)<(zs.length:Int):=by omega
   have e:zs.take k=zs:=List.take_of_length_le (by omega);rw [e] at hs;have HS:=zh hs;clear e hs;go_wp2_with fail;go_ret;rw [HS.out];exact⟨rfl,rfl⟩
theorem ZgO (v:Value) (zs:List Int) (r:Bool) (w:World) (hv:IsInts w v zs) (hz:zs.length<=258) (hr:r=true↔WholeP zs) :
  Calls Tryz.prog 180 #[v] w fun e w'=>e=.returned (.bool r)/\w'=w:=by
 have HV:=zh hv;have HR:=zh hr;clear hr;by_cases hw:Within 1 20 zs
 ·have HA:=zh (ZfO v zs 1 20 true w HV.out ⟨fun _=>hw,fun _=>rfl⟩ (by omega));have HS:=zh (ZmZ v zs w HV.out (by omega) (fun z hz=>by have:=hw z hz;omega));have hsb:shr zs<=1048576*258:=Nat.le_trans (Ze8 zs) (Nat.mul_le_mul_left _ hz);have HW:=zh hw;clear hw;by_cases hs:shr zs=1048576
  ·obtain rfl:r=true:=HR.out.2 ⟨HW.out,hs⟩;have hb:((shr zs:Int)==1048576)=true:=by rw [beq_iff_eq];omega
   generalize shr zs=T at *;clear hs;go_enter Tryz.func180,Tryz.ntmps180;go_wp2_with fail;refine HA.out.mono ?_;rintro e w1 ⟨rfl,rfl⟩;go_wp2_with fail;refine HS.out.mono ?_;rintro e w2 ⟨rfl,rfl⟩;go_wp2_with fail;go_ret;exact⟨rfl,rfl⟩
  ·obtain rfl:r=false:=by rw [Bool.eq_false_iff,Ne,HR.out];exact fun h=>hs h.2
   have hb:((shr zs:Int)==1048576)=false:=by rw [beq_eq_false_iff_ne];omega
   generalize shr zs=T at *;clear hs;go_enter Tryz.func180,Tryz.ntmps180;go_wp2_with fail;refine HA.out.mono ?_;rintro e w1 ⟨rfl,rfl⟩;go_wp2_with fail;refine HS.out.mono ?_;rintro e w2 ⟨rfl,rfl⟩;go_wp2_with fail;go_ret;exact⟨rfl,rfl⟩
 ·obtain rfl:r=false:=by rw [Bool.eq_false_iff,Ne,HR.out];exact fun h=>hw h.1
  have HA:=zh (ZfO v zs 1 20 false w HV.out ⟨fun h=>(by cases h),fun h=>absurd h hw⟩ (by omega));clear hw;go_enter Tryz.func180,Tryz.ntmps180;go_wp2_with fail;refine HA.out.mono ?_;rintro e w1 ⟨rfl,rfl⟩;go_wp2_with fail;go_ret;exact⟨rfl,rfl⟩
end
section
namespace CodM
open Go.RowKit BitM HufM CanM
theorem Zpv (r:R14):r.skip 0=r:=by
 cases r with
 | ok l n=>show R14.ok l (0+n)=_;rw [Nat.zero_add]
 | err e _=>rfl
def RtT (Q:List Bool) (N n a:Nat) (gs:List (List Int)):Prop:=
 gs.length<=n/\Whs N gs/\∀ps most,rdT ps N most n Q []=(rdT ps N most (n-gs.length) (Q.drop a) gs).skip a
theorem RtT.start (Q:List Bool) (N n:Nat):RtT Q N n 0 []:=⟨Nat.zero_le _,fun g hg=>absurd hg (by simp),fun ps most=>by rw [Zpv];rfl⟩
def TabP (Q:List Bool) (N n:Nat) (gs:List (List Int)) (a:Nat) (er:Int):Prop:=
 (er=0/\gs.length=n/\Whs N gs/\∀ps most,rdT ps N most n Q []=(rdS gs ps N most ((Q.drop a).length+1) (Q.drop a) []).skip a)\/(er≠0/\∀ps most,rdT ps N most n Q []=.err er [])
theorem RtT.all {Q:List Bool} {N n a:Nat} {gs:List (List Int)} (h:RtT Q N n a gs) (hn:gs.length=n):TabP Q N n gs a 0:=
 Or.inl ⟨rfl,hn,h.2.1,fun ps most=>by rw [h.2.2,hn,Nat.sub_self,rdT]⟩
theorem RtT.step {Q:List Bool} {N n a:Nat} {gs:List (List Int)} (h:RtT Q N n a gs) (hn:gs.length<n) :
  (DelM.rd (Q.drop a) N=.short->∀gs' a',TabP Q N n gs' a' 3)/\(DelM.rd (Q.drop a) N=.table->∀gs' a',TabP Q N n gs' a' 22) /\
  (∀ls k,DelM.rd (Q.drop a) N=.ok ls k->ls.length=N/\(¬WholeP ls->∀gs' a',TabP Q N n gs' a' 22)/\(WholeP ls->RtT Q N n (a+k) (gs++[ls]))):=by
 obtain⟨h1,h2,h3⟩:=h;obtain⟨m,hm⟩:∃m,n-gs.length=m+1:=⟨n-gs.length-1,by omega⟩
 rw [hm] at h3;refine⟨fun hr gs' a'=>Or.inr ⟨by decide,fun ps most=>by rw [h3,ZdB hr];rfl⟩,fun hr gs' a'=>Or.inr ⟨by decide,fun ps most=>by rw [h3,ZdC hr];rfl⟩,fun ls k hr=>?_⟩;have hl:=DelM.rd_len hr;refine⟨hl,fun hw gs' a'=>Or.inr ⟨by decide,fun ps most=>by rw [h3,Zhb hr hw];rfl⟩,fun hw=>⟨by rw [List.length_append];simp;omega,fun g hg=>?_,fun ps most=>?_⟩⟩
 ·rcases List.mem_append.1 hg with h|h
  ·exact h2 g h
  ·rw [List.mem_singleton] at h;subst h;exact⟨hl,hw⟩
 ·rw [h3,Zid hr hw,ZbW,List.drop_drop,List.length_append,show n-(gs.length+[ls].length)=m by simp;omega]
end CodM
end
section
namespace ZerM
open Go.RowKit
theorem Zs6 {n:Int} {most:Nat} {s:St} {c:Int} (h:putE n most s c=0):s.done=false/\0<=c/\c<=n+1:=by
 unfold putE at h;split at h
 ·cases h
 ·rename_i hd;split at h
  ·cases h
  ·exact⟨by simpa using hd,by omega,by omega⟩
def DecP (l:List Int) (n most:Int) (zs:List Int) (err:Nat):Prop:=(¬DecOk n most/\zs=[]/\err=1)\/(DecOk n most/\(zs,err)=dec n most.toNat ini l)
end ZerM
end
section
theorem ZbL (a b:ByteArray) (r:Bool) (h:r=true↔a=b):(a.toList==b.toList)=r:=by
 rw [Bool.eq_iff_iff,beq_iff_eq,ByteArray.toList_eq,ByteArray.toList_eq,h];constructor
 ·intro h;apply ByteArray.ext;exact Array.toList_inj.1 h
 ·rintro rfl;rfl
end
section
open Go.RowKit BitM
def chr (b:Bool):UInt8:=if b then 49 else 48
def txt (q:List Bool):ByteArray:=⟨(q.map chr).toArray⟩
theorem Zaf (q:List Bool):(txt q).size=q.length:=by show(q.map chr).toArray.size=_;simp
theorem Zal (p q:List Bool):txt p++txt q=txt (p++q):=by
 apply ByteArray.ext;simp [txt]
theorem Zef (X k:Nat):field X (k+1)=(X / 2^k % 2==1)::field X k:=by
 apply Zcr
 ·simp [Zac]
 ·have e:num ((X / 2^k % 2==1)::field X k)=bn (X / 2^k % 2==1)*2^(field X k).length+num (field X k):=ZaE [X / 2^k % 2==1] (field X k) |>.trans (by rw [show num [X / 2^k % 2==1]=bn (X / 2^k % 2==1) from Nat.zero_add _])
  have hb:bn (X / 2^k % 2==1)=X / 2^k % 2:=by
   have:X / 2^k % 2=0\/X / 2^k % 2=1:=by omega
   rcases this with h|h<;>simp [h,bn]
  rw [e,hb,Zac,Zau,Zau,Nat.pow_succ,Nat.mod_mul,Nat.mul_comm,Nat.add_comm]
theorem Zko (v:Nat):(⟨#[48,49]⟩:ByteArray).extract (v % 2) (v % 2+1)=txt [v % 2==1]:=by
 have:v % 2=0\/v % 2=1:=by omega
 rcases this with h|h<;>rw [h]<;>decide
theorem ZaN (X n:Nat) (w:World) (hn:n<=32) (hX32:X<4294967296):Calls Tryz.prog 59 #[.int .u32 (X:Int),.int .i64 (n:Int)] w fun e w'=>e=.returned (.string (txt (field X n)))/\w=w':=by
 go_enter Tryz.func59,Tryz.ntmps59;go_wp2_with fail
 go_loop [0,5,7] (fun v s i=>∃k:Nat,k<=n/\i=.int .i64 k/\v=.int .u32 ((X / 2^k:Nat):Int)/\s=.string (txt (field X k))) (fun _ _ i=>n-(intOf i).toNat)
 case atStart=>exact⟨0,by omega,rfl,by simp,rfl⟩
 case round=>
  obtain⟨k,hk,rfl,rfl,rfl⟩:=hrel;have hv:X / 2^k<=X:=Nat.div_le_self _ _;by_cases hlt:k<n
  ·have h1:=Zko (X / 2^k);have hf:=zh (Zef X k);have hd:Hid (X / 2^k / 2=X / 2^(k+1)):=zh (by rw [Nat.pow_succ,Nat.div_div_eq_div_mul]);have hsz:(txt [X / 2^k % 2==1]).size+(txt (field X k)).size<=64:=by rw [Zaf,Zaf,Zac];simp;omega
   generalize X / 2^k=V at *;go_wp2_with fail
   go_round
   case rel=>exact⟨k+1,by omega,by go_num,iv (by rw [<-hd.out];simp),by rw [Zal,hf.out];rfl⟩
   case measure=>simp [intOf];omega
  ·obtain rfl:k=n:=by omega
   go_wp2_with fail;go_ret;exact⟨rfl,rfl⟩
theorem ZkG (s:ByteArray) (w:World) (hs:s.size<=1099511627776):Calls Tryz.prog 28 #[.string s] w fun e w'=>e=.returned (.string (txt (bitsOf s.data.toList)))/\w=w':=by
 go_enter Tryz.func28,Tryz.ntmps28;go_wp2_with fail
 go_loop [3,4] (fun o i=>∃k:Nat,k<=s.size/\i=.int .i64 k/\o=.string (txt (bitsOf (s.data.toList.take k)))) (fun _ i=>s.size-(intOf i).toNat)
 case atStart=>exact⟨0,by omega,rfl,rfl⟩
 case round=>
  obtain⟨k,hk,rfl,rfl⟩:=hrel;by_cases hlt:k<s.size
  ·have hc:=s[k].toNat_lt
   have hsz:(txt (bitsOf (s.data.toList.take k))).size+(txt (field s[k].toNat 8)).size<=10000000000000:=by
    rw [Zaf,Zaf,Zac,Zan,List.length_take];omega
   have HT:Hid (bitsOf (s.data.toList.take (k+1))=bitsOf (s.data.toList.take k)++field s[k].toNat 8):=zh (by
    rw [List.take_succ_eq_append_getElem (by simpa using hlt),ZaO];congr 1)
   go_wp2_with fail;refine(ZaN s[k].toNat 8 w (by omega) (by omega)).mono ?_;rintro e w' ⟨rfl,rfl⟩;go_wp2_with fail
   go_round
   case rel=>exact⟨k+1,by omega,by go_num,by rw [Zal,HT.out]⟩
   case measure=>simp [intOf];omega
  ·obtain rfl:k=s.size:=by omega
   go_wp2_with fail;go_ret;rw [List.take_of_length_le (by simp)];exact⟨rfl,rfl⟩
theorem ZfQ (q:List Bool) (k:Nat) (hk:k<q.length) (h:k<(txt q).size):((txt q)[k].toNat:Int)=48+(bn q[k]:Int):=by
 have e:(txt q)[k]=chr q[k]:=by
  have h2:(txt q).data[k]'(by simpa [txt] using hk)=chr q[k]:=by simp [txt]
  exact h2
 rw [e];unfold chr bn;split<;>rfl
theorem Za9 (q:List Bool) (w:World) (hq:q.length<=32):Calls Tryz.prog 69 #[.string (txt q)] w fun e w'=>e=.returned (.int .u32 (num q:Int))/\w=w':=by
 have hts:=Zaf q;have HTS:=zh hts;have hz:((txt q).size:Int)=(q.length:Int):=by omega
 clear hts;go_enter Tryz.func69,Tryz.ntmps69;go_wp2_with fail
 go_loop [3,4] (fun v i=>∃k:Nat,k<=q.length/\i=.int .i64 k/\v=.int .u32 (num (q.take k):Int)) (fun _ i=>q.length-(intOf i).toNat)
 case atStart=>exact⟨0,by omega,rfl,rfl⟩
 case round=>
  obtain⟨k,hk,rfl,rfl⟩:=hrel;by_cases hlt:k<q.length
  ·have hlz:k<(txt q).size:=by have:=HTS.out;omega
   have hg:=ZfQ q k hlt hlz;have hb:=ZrV q[k];have hv:num (q.take k)<2^31:=Nat.lt_of_lt_of_le (ZaB _) (Nat.pow_le_pow_right (by omega) (by simp;omega));have HN:Hid (num (q.take (k+1))=2*num (q.take k)+bn q[k]):=zh (by rw [List.take_succ_eq_append_getElem hlt,ZeB]);generalize num (q.take k)=V at *;generalize bn q[k]=B at *;go_wp2_with fail
   go_round
   case rel=>exact⟨k+1,by omega,by go_num,iv (by rw [HN.out];omega)⟩
   case measure=>simp [intOf];omega
  ·obtain rfl:k=q.length:=by omega
   go_wp2_with fail;go_ret;exact⟨rfl,rfl⟩
theorem ZcY (q:List Bool) (n:Nat) (h:n<=q.length):(txt q).extract 0 n=txt (q.take n):=by
 apply ByteArray.ext;simp [txt]
theorem Zbo (q:List Bool) (n:Nat) (h:n<=q.length):(txt q).extract n (txt q).size=txt (q.drop n):=by
 apply ByteArray.ext;have e:(txt q).size=q.length:=Zaf q;rw [e];simp only [txt,ByteArray.data_extract,List.extract_toArray,List.extract_eq_take_drop,List.map_drop];rw [List.take_of_length_le (by simp)]
end
section
open Go.RowKit UsedM MtfM
theorem ZdP (s:ByteArray) (c:UInt8) (w:World) (hs:s.size<=9223372036854775807) :
  Calls Tryz.prog 115 #[.string s,.int .u8 (c.toNat:Int)] w fun e w'=>e=.returned (.int .i64 (Lib.indexByte s.data.toList c))/\w=w':=by
 have hsl:s.data.toList.length=s.size:=rfl;have hcl:=c.toNat_lt;go_enter Tryz.func115,Tryz.ntmps115;go_wp2_with fail
 go_loop [5] (fun i=>∃k:Nat,k<=s.size/\i=.int .i64 k/\∀j,j<k->s.data.toList[j]?≠some c) (fun i=>s.size-(intOf i).toNat)
 case atStart=>exact⟨0,by omega,rfl,fun j hj=>by omega⟩
 case round=>
  obtain⟨k,hk,rfl,hn⟩:=hrel;have HN:=zh hn;clear hn;by_cases hlt:k<s.size
  ·have hki:(k:Int)<(s.size:Int):=by omega
   have hx:=s[k].toNat_lt;have HG:=zh (show s.data.toList[k]?=some s[k] from List.getElem?_eq_getElem (l:=s.data.toList) (by simpa using hlt));by_cases he:s[k]=c
   ·have hp:=place_is (l:=s.data.toList) (c:=c) (k:=k) (by rw [HG.out,he]) HN.out;have hd:((s[k].toNat:Int)==(c.toNat:Int))=true:=by rw [he];exact beq_self_eq_true _
    have HP:=zh hp;clear he hp;go_wp2_with fail;go_ret;exact⟨by rw [HP.out];rfl,rfl⟩
   ·have hd:((s[k].toNat:Int)==(c.toNat:Int))=false:=by
     rw [beq_eq_false_iff_ne];intro h;exact he (UInt8.toNat_inj.1 (by omega))
    have HNE:=zh he;clear he;go_wp2_with fail
    go_round
    case rel=>exact⟨k+1,by omega,by go_num,fun j hj=>by
     by_cases e:j=k
     ·subst e;rw [HG.out];intro h;exact HNE.out (by simpa using h)
     ·exact HN.out j (by omega)⟩
    case measure=>simp [intOf];omega
  ·obtain rfl:k=s.size:=by omega
   have hp:=ZfN (l:=s.data.toList) (c:=c) (fun j hj=>HN.out j (by omega));have HP:=zh hp;clear hp;go_wp2_with fail;go_ret;exact⟨by rw [HP.out];rfl,rfl⟩
theorem Zeg (m:List UInt8) (i:Nat) (h:i<m.length) :
  ((⟨m.toArray⟩:ByteArray).extract i (i+1)++(⟨m.toArray⟩:ByteArray).extract 0 i)++(⟨m.toArray⟩:ByteArray).extract (i+1) m.length=⟨(touch m i).toArray⟩:=by
 apply ByteArray.ext;apply Array.toList_inj.1;unfold touch;simp only [ByteArray.data_append,ByteArray.data_extract,Array.toList_append,List.extract_toArray,List.extract_eq_take_drop];simp only [Nat.add_sub_cancel_left,Nat.sub_zero,List.drop_zero];rw [List.take_of_length_le (l:=m.drop (i+1)) (by rw [List.length_drop];exact Nat.le_refl _)]
theorem Zbv (m:List UInt8) (i:Nat) (w:World) (hi:i<m.length) (hm:m.length<=256) :
  Calls Tryz.prog 116 #[.string ⟨m.toArray⟩,.int .i64 (i:Int)] w fun e w'=>e=.returned (.string ⟨(touch m i).toArray⟩)/\∃n,w'=w.drewN n:=by
 have HT:=Zeg m i hi;have hsz:(⟨m.toArray⟩:ByteArray).size=m.length:=Zav m;obtain⟨L,hL⟩:∃L,m.length=L:=⟨_,rfl⟩
 rw [hL] at HT hsz hi hm;generalize (⟨m.toArray⟩:ByteArray)=T at *;obtain⟨j,hj⟩:∃j,i+1=j:=⟨_,rfl⟩
 rw [hj] at HT;have z1:(T.extract i j).size=1:=by rw [ByteArray.size_extract];omega
 have z2:(T.extract 0 i).size=i:=by rw [ByteArray.size_extract];omega
 have z3:(T.extract j L).size=L-j:=by rw [ByteArray.size_extract];omega
 have z4:(T.extract i j++T.extract 0 i).size=j:=by rw [ByteArray.size_append];omega
 have hji:(i:Int)+1=(j:Int):=by omega
 have hjw:IntKind.i64.wrap (j:Int)=(j:Int):=IntWalk.i64_in _ (by omega);have b1:(0:Int)<=(i:Int):=by omega
 have b2:(i:Int)<=(j:Int):=by omega
 have b3:(j:Int)<=(L:Int):=by omega
 have b4:(i:Int)<=(L:Int):=by omega
 have b5:(0:Int)<=(j:Int):=by omega
 have b6:(L:Int)<=256:=by omega
 have hc1:∀W,(Op.stringOp .add (T.extract i j) (T.extract 0 i)).run Tryz.prog W=.ok (.string (T.extract i j++T.extract 0 i)) W:=fun W=>by
  rw [run_string_add_if,if_neg (by omega)]
 have hc2:∀W,(Op.stringOp .add (T.extract i j++T.extract 0 i) (T.extract j L)).run Tryz.prog W=.ok (.string ((T.extract i j++T.extract 0 i)++T.extract j L)) W:=fun W=>by
  rw [run_string_add_if,if_neg (by omega)]
 have HTT:=zh HT;clear HT z1 z2 z3 z4 hL;go_enter Tryz.func116,Tryz.ntmps116;go_wp2_with fail
 go_quiet (fail)
 go_wp2_with fail;go_ret;rw [HTT.out];exact⟨rfl,_,rfl⟩
end
section
open Go.RowKit BitM
theorem Zjb (q:List Bool) (k:Nat) (hk:k<q.length) (h:k<(txt q).size):((txt q)[k].toNat:Int)=48+(bn (q.getD k false):Int):=by
 rw [ZfQ q k hk h];congr 3;rw [List.getD_eq_getElem?_getD,List.getElem?_eq_getElem hk];rfl
theorem ZgR (q:List Bool) (k:Nat) (h:k<q.length):q.drop k=q.getD k false::q.drop (k+1):=by
 rw [List.getD_eq_getElem?_getD,List.getElem?_eq_getElem h];exact List.drop_eq_getElem_cons h
end
section
open Go.RowKit
theorem Zm1 (r:Int) (w:World) (h:r<5\/900000<r):Calls Tryz.prog 29 #[.int .i64 r] w fun e w'=>e=.returned (.tuple #[.pointer none,.int .i64 1])/\w'=w:=by
 have HI:=zh (Zer r w);rw [show decide (5<=r/\r<=900000)=false by rw [decide_eq_false_iff_not];omega] at HI;clear h;go_enter Tryz.func29,Tryz.ntmps29;go_wp2_with fail;refine HI.out.mono ?_;rintro e w1 ⟨rfl,rfl⟩;go_wp2_with fail;go_ret2;exact⟨rfl,rfl⟩
end
section
open Go.RowKit ZerM
def room (N:Nat) (s:St):List Int:=s.out++List.replicate (N-s.out.length) 0
theorem Zrq (l:List Int) (k:Nat) (h:k<l.length):val (l.take (k+1))=val (l.take k)+(1+(l.getD k 0).toNat)*2^k:=by
 rw [List.take_succ_eq_append_getElem h,Zhf,List.length_take,show min k l.length=k by omega,List.getD_eq_getElem?_getD,List.getElem?_eq_getElem h];rfl
theorem Zrr (l:List Int) (k:Nat):val (l.take k)<=val l:=by
 have:=Zd2 (l.take k) (l.drop k);rw [List.take_append_drop] at this;omega
theorem Zek (v:Value) (zs:List Int) (w:World) (hv:IsInts w v zs) (hb:Bin zs) (hl:zs.length<=41) (hvl:val zs<=4398046511104) :
  Calls Tryz.prog 183 #[v] w fun e w'=>e=.returned (.int .i64 (val zs:Int))/\∃n,w'=w.drewN n:=by
 have HV:=zh hv;have HBI:=zh hb;obtain⟨a,cap,rfl,_⟩:=hv;clear hb;go_enter Tryz.func183,Tryz.ntmps183;go_wp2_with fail
 go_loopw [3,4,9] (fun m x i wr=>∃k n:Nat,k<=zs.length/\i=.int .i64 k/\m=.int .i64 (val (zs.take k):Int)/\x=.int .i64 ((2^k:Nat):Int)/\wr=w.drewN n) (fun _ _ i _=>zs.length-(intOf i).toNat)
 case atStart=>exact⟨0,0,by omega,rfl,rfl,rfl,rfl⟩
 case round=>
  obtain⟨k,n,hk,rfl,rfl,rfl,rfl⟩:=hrel;by_cases hlk:k<zs.length
  ·have hki:(k:Int)<(zs.length:Int):=by omega
   obtain⟨b1,o1,k1,he1,c1⟩:=HV.out.cell hlk;simp only [Value.slice.injEq] at he1;obtain⟨rfl,_,rfl⟩:=he1;have HVT:=zh (Zrq zs k hlk);have hmn:=Zrr zs (k+1);rw [HVT.out] at hmn;have hp:2^k<=2^40:=Nat.pow_le_pow_right (by omega) (by omega);simp at hp;have HPS:Hid (2*2^k=2^(k+1)):=zh (by rw [Nat.pow_succ];omega);obtain⟨x,hx⟩:∃x,zs.getD k 0=x:=⟨_,rfl⟩
   have hx01:x=0\/x=1:=HBI.out x (by
    rw [<-hx,List.getD_eq_getElem?_getD,List.getElem?_eq_getElem hlk];exact List.getElem_mem hlk)
   rw [hx] at c1 HVT hmn;clear hx;generalize val (zs.take k)=m at *;generalize 2^k=P at *;have hPc:((2:Int)*(P:Int):Int)=((2*P:Nat):Int):=by simp
   rw [HPS.out] at hPc;have HPC:=zh hPc;clear hPc;have w1:IntKind.i64.wrap ((2:Int)*(P:Int))=(2:Int)*(P:Int):=IntWalk.i64_in _ (by omega)
   have w2:IntKind.i64.wrap ((m:Int)+(P:Int))=(m:Int)+(P:Int):=IntWalk.i64_in _ (by
    rcases hx01 with rfl|rfl<;>(simp at hmn;omega))
   rcases hx01 with rfl|rfl
   ·simp at hmn;have HVI:Hid ((val (zs.take (k+1)):Int)=(m:Int)+(P:Int)):=zh (by rw [HVT.out];simp);go_wp2_with fail;go_roundw
    case rel=>exact⟨k+1,_,by omega,by go_num,by rw [HVI.out],by rw [HPC.out],rfl⟩
    case measure=>simp [intOf];omega
   ·simp at hmn;have HVI:Hid ((val (zs.take (k+1)):Int)=(m:Int)+(P:Int)+(P:Int)):=zh (by rw [HVT.out];simp;omega);have w3:IntKind.i64.wrap ((m:Int)+(P:Int)+(P:Int))=(m:Int)+(P:Int)+(P:Int):=IntWalk.i64_in _ (by omega);have w4:IntKind.i64.wrap (P:Int)=(P:Int):=IntWalk.i64_in _ (by omega);go_wp2_with fail;go_roundw
    case rel=>exact⟨k+1,_,by omega,by go_num,by rw [HVI.out],by rw [HPC.out],rfl⟩
    case measure=>simp [intOf];omega
  ·obtain rfl:k=zs.length:=by omega
   rw [List.take_of_length_le (Nat.le_refl _)];go_wp2_with fail;go_ret;exact⟨rfl,n,rfl⟩
def rdc (n:Int) (most:Nat) (told:Int) (u:Value) (d:Bool):Array Value:=#[.int .i64 n,.int .i64 (most:Int),.int .i64 told,u,.bool d]
def stc (n:Int) (most:Nat) (told:Int) (u:Value) (d:Bool) (z p e:Int):Array Value:=#[.int .i64 n,.int .i64 (most:Int),.int .i64 told,u,.bool d,.int .i64 z,.int .i64 p,.int .i64 e]
theorem ZcN:(Tryz.prog.info? 170).map (·.size)=some 5:=by kernel_rfl
theorem Zba:(Tryz.prog.info? 172).map (·.size)=some 8:=by kernel_rfl
theorem Zf0 (n:Int) (most:Nat) (told:Int) (a:Option Addr) (N cap:Nat) (d:Bool) (z p e:Int):(stc n most told (.slice a N cap) d z p e).all (·.oneCell')=true:=by kernel_rfl
theorem OwnI.weak {w:World} {base:Nat} {v:Value} {zs:List Int} (h:OwnI w base v zs):OwnI w 0 v zs:=h.lower (Nat.zero_le _)
theorem Zm2 (n:Int) (most:Nat) (s:St) (u:Value) (C:Nat) (w:World) (hu:OwnI w 0 u s.rc) (hb:Bin s.rc) (hl:s.rc.length<=41) (hv:val s.rc<=4398046511104) (ho:s.out.length<=4398046511104) (hC:cnt s=C) :
  Calls Tryz.prog 182 #[.agg #[.int .i64 n,.int .i64 (most:Int),.int .i64 (s.out.length:Int),u,.bool s.done]] w fun e w'=>e=.returned (.int .i64 (C:Int))/\Below w.heap.size w w':=by
 obtain⟨a,cap,hus⟩:=hu.slice;have HI:Hid (∀k,IsInts ((w.alloc (.cells #[.int .i64 n,.int .i64 (most:Int),.int .i64 (s.out.length:Int),u,.bool s.done] 170)).drewN k) u s.rc):=zh (fun k=>((hu.alloc _).drewN k).ints);have HB:=zh hb;have hcI:(s.out.length:Int)+(val s.rc:Int)=(C:Int):=by rw [<-hC];unfold cnt;simp
 have hw1:IntKind.i64.wrap ((s.out.length:Int)+(val s.rc:Int))=(C:Int):=by rw [hcI];exact IntWalk.i64_in _ (by rw [<-hcI];omega)
 have HV:=zh (fun W (h:IsInts W u s.rc)=>Zek u s.rc W h hb hl hv);clear hu hb hC;generalize val s.rc=V at *;generalize s.out.length=T at *;subst hus;go_enter Tryz.func182,Tryz.ntmps182;go_wp2_with fail
 go_quiet ((go_at_call 183;exact Calls.quiet_of (HV.out _ (HI.out _))))
 go_wp2_with fail;go_ret;exact⟨rfl,((Below.refl _ _).alloc (Nat.le_refl _) _).trans ⟨rfl,rfl,rfl,Nat.le_refl _,fun _ _=>rfl⟩⟩
def RPutP (n:Int) (most:Nat) (s:St) (c:Int) (u:Value) (w:World) (e:Ending) (w':World):Prop:=
 Below w.heap.size w w'/\((putE n most s c=0/\∃u',OwnI w' w.heap.size u' (putS n s c).rc/\e=.returned (.agg (stc n most ((putS n s c).out.length:Int) u' (putS n s c).done (putZ s c:Int) (putP n c) 0))) \/
  (putE n most s c≠0/\e=.returned (.agg (stc n most (s.out.length:Int) u s.done 0 0 (putE n most s c:Int)))))
theorem ZhN (w:World) (x y:Obj):((w.alloc x).alloc y).heap[w.heap.size+1]?=some y:=by
 show((w.heap.push x).push y)[w.heap.size+1]?=some y;rw [Array.getElem?_push];simp
theorem Zm3 (w:World) (x y z:Obj):(((w.alloc x).alloc y).alloc z).heap[w.heap.size]?=some x/\(((w.alloc x).alloc y).alloc z).heap[w.heap.size+1]?=some y/\(((w.alloc x).alloc y).alloc z).heap[w.heap.size+2]?=some z/\(((w.alloc x).alloc y).alloc z).heap.size=w.heap.size+3:=by
 refine⟨?_,?_,?_,?_⟩
 ·show(((w.heap.push x).push y).push z)[w.heap.size]?=some x;rw [Array.getElem?_push,if_neg (by simp;omega),Array.getElem?_push,if_neg (by simp)];simp
 ·show(((w.heap.push x).push y).push z)[w.heap.size+1]?=some y;rw [Array.getElem?_push,if_neg (by simp),Array.getElem?_push,if_pos (by simp)]
 ·show(((w.heap.push x).push y).push z)[w.heap.size+2]?=some z;rw [Array.getElem?_push,if_pos (by simp)]
 ·simp
theorem Zpy (n:Int) (most:Nat) (s:St) (c:Int) (u:Value) (w:World) (hu:OwnI w 0 u s.rc) (h1:1<=n) (h2:n<=256) (hs:s.done=true\/c<0\/n+1<c) :
  Calls Tryz.prog 125 #[.agg #[.int .i64 n,.int .i64 (most:Int),.int .i64 (s.out.length:Int),u,.bool s.done],.int .i64 c] w (RPutP n most s c u w):=by
 obtain⟨a,cap,hus⟩:=hu.slice;clear hu;have hw1:IntKind.i64.wrap (n+1)=n+1:=IntWalk.i64_in _ (by omega);by_cases hd:s.done=true
 ·have hE:Hid (putE n most s c=7):=zh (by unfold putE;rw [if_pos hd]);rw [hd];clear hs;subst hus;go_enter Tryz.func125,Tryz.ntmps125;go_wp2_with fail;refine bodyPost_ret (v:=.agg (stc n most (s.out.length:Int) (.slice a s.rc.length cap) true 0 0 7)) (results_cell_row rfl _ _ (w.heap.size+1) 172 _ (0,0) _ rfl (ZhN _ _ _) Tryz.underlying172 rfl Zba) rfl ?_;exact⟨((Below.refl _ _).alloc (Nat.le_refl _) _).alloc (by simp) _,Or.inr ⟨by rw [hE.out];decide,by rw [hE.out,hd];rfl⟩⟩
 ·have hc:c<0\/n+1<c:=by rcases hs with h|h;exact absurd h hd;exact h
  have hE:Hid (putE n most s c=25):=zh (by unfold putE;rw [if_neg hd,if_pos hc]);have hd2:s.done=false:=by simpa using hd
  have HD:=zh hd2;rw [hd2];clear hs hd hd2;subst hus;by_cases hc0:c<0
  ·clear hc;go_enter Tryz.func125,Tryz.ntmps125;go_wp2_with fail;refine bodyPost_ret (v:=.agg (stc n most (s.out.length:Int) (.slice a s.rc.length cap) false 0 0 25)) (results_cell_row rfl _ _ (w.heap.size+1) 172 _ (0,0) _ rfl (ZhN _ _ _) Tryz.underlying172 rfl Zba) rfl ?_;exact⟨((Below.refl _ _).alloc (Nat.le_refl _) _).alloc (by simp) _,Or.inr ⟨by rw [hE.out];decide,by rw [hE.out,HD.out];rfl⟩⟩
  ·have hc3:n+1<c:=by omega
   clear hc;go_enter Tryz.func125,Tryz.ntmps125;go_wp2_with fail;refine bodyPost_ret (v:=.agg (stc n most (s.out.length:Int) (.slice a s.rc.length cap) false 0 0 25)) (results_cell_row rfl _ _ (w.heap.size+1) 172 _ (0,0) _ rfl (ZhN _ _ _) Tryz.underlying172 rfl Zba) rfl ?_;exact⟨((Below.refl _ _).alloc (Nat.le_refl _) _).alloc (by simp) _,Or.inr ⟨by rw [hE.out];decide,by rw [hE.out,HD.out];rfl⟩⟩
def PutW (w:World) (n:Int) (most:Nat) (told:Int) (u:Value) (W:World) (told':Int) (u':Value) (d':Bool):Prop:=
 W.heap[w.heap.size]?=some (.cells (rdc n most told u false) 170 (0,0))/\W.heap[w.heap.size+1]?=some (.cells (stc 0 0 0 (.slice none 0 0) false 0 0 0) 172 (0,0)) /\
 W.heap[w.heap.size+2]?=some (.cells (rdc n most told' u' d') 170 (0,0))/\w.heap.size+3<=W.heap.size/\Below w.heap.size w W
theorem PutW.below {w W W':World} {n:Int} {most:Nat} {told:Int} {u:Value} {told':Int} {u':Value} {d':Bool} (h:PutW w n most told u W told' u' d') {B:Nat} (hb:Below B W W') (hB:w.heap.size+3<=B):PutW w n most told u W' told' u' d':=by
 obtain⟨h0,h1,h2,h3,h4⟩:=h;exact⟨(hb.block _ (by omega)).trans h0,(hb.block _ (by omega)).trans h1,(hb.block _ (by omega)).trans h2,Nat.le_trans h3 hb.size,h4.trans (hb.mono (by omega))⟩
theorem PutW.init (w:World) (n:Int) (most:Nat) (told:Int) (u:Value):PutW w n most told u (((w.alloc (.cells (rdc n most told u false) 170)).alloc (.cells (stc 0 0 0 (.slice none 0 0) false 0 0 0) 172)).alloc (.cells (rdc n most told u false) 170)) told u false:=by
 obtain⟨h0,h1,h2,h3⟩:=Zm3 w (.cells (rdc n most told u false) 170) (.cells (stc 0 0 0 (.slice none 0 0) false 0 0 0) 172) (.cells (rdc n most told u false) 170);exact⟨h0,h1,h2,by omega,(((Below.refl _ _).alloc (Nat.le_refl _) _).alloc (by simp) _).alloc (by simp;omega) _⟩
theorem PutW.cells {w W:World} {n:Int} {most:Nat} {told:Int} {u:Value} {told':Int} {u':Value} {d':Bool} (h:PutW w n most told u W told' u' d') :
  W.cell? ⟨w.heap.size,0,none⟩=some (.int .i64 n)/\W.cell? ⟨w.heap.size,1,none⟩=some (.int .i64 (most:Int))/\W.cell? ⟨w.heap.size,2,none⟩=some (.int .i64 told)/\W.cell? ⟨w.heap.size,3,none⟩=some u/\W.cell? ⟨w.heap.size,4,none⟩=some (.bool false) /\
  W.cell? ⟨w.heap.size+1+1,0,none⟩=some (.int .i64 n)/\W.cell? ⟨w.heap.size+1+1,1,none⟩=some (.int .i64 (most:Int))/\W.cell? ⟨w.heap.size+1+1,2,none⟩=some (.int .i64 told')/\W.cell? ⟨w.heap.size+1+1,3,none⟩=some u'/\W.cell? ⟨w.heap.size+1+1,4,none⟩=some (.bool d') /\
  W.frozen? ⟨w.heap.size+1+1,2,none⟩=false/\W.frozen? ⟨w.heap.size+1+1,3,none⟩=false/\W.frozen? ⟨w.heap.size+1+1,4,none⟩=false:=by
 obtain⟨h0,h1,h2,_⟩:=h;refine⟨?_,?_,?_,?_,?_,?_,?_,?_,?_,?_,frozen_of_row _ _ _ _ _ h2,frozen_of_row _ _ _ _ _ h2,frozen_of_row _ _ _ _ _ h2⟩
 iterate 5 (first|(rw [cell_of_row _ _ _ _ _ _ h0];rfl)|skip)
 all_goals first|(rw [cell_of_row _ _ _ _ _ _ h0];rfl)|(rw [cell_of_row _ _ _ _ _ _ h2];rfl)
theorem PutW.set {w W:World} {n:Int} {most:Nat} {told:Int} {u:Value} {told':Int} {u':Value} {d':Bool} (h:PutW w n most told u W told' u' d') (i:Nat) (x:Value) (told'':Int) (u'':Value) (d'':Bool)
  (he:(rdc n most told' u' d').setIfInBounds i x=rdc n most told'' u'' d''):PutW w n most told u (W.setCell ⟨w.heap.size+1+1,i,none⟩ x) told'' u'' d'':=by
 obtain⟨h0,h1,h2,h3,h4⟩:=h;refine⟨?_,?_,?_,by simpa [World.setCell] using h3,h4.setCell (by show w.heap.size<=w.heap.size+1+1;omega) _⟩
 ·exact(heap_setCell_other W _ _ _ (by show w.heap.size≠w.heap.size+1+1;omega)).trans h0
 ·exact(heap_setCell_other W _ _ _ (by show w.heap.size+1≠w.heap.size+1+1;omega)).trans h1
 ·rw [<-he];exact heap_setCell_same W _ i _ _ x h2
theorem PutW.told {w W:World} {n:Int} {most:Nat} {told:Int} {u:Value} {told':Int} {u':Value} {d':Bool} (h:PutW w n most told u W told' u' d') (cs:Array Value) (hB:Below w.heap.size w W) :
  (W.setRow (w.heap.size+1) cs).heap[w.heap.size+1]?=some (.cells cs 172 (0,0))/\Below w.heap.size w (W.setRow (w.heap.size+1) cs):=
 ⟨setRow_heap W _ _ cs _ (0,0) h.2.1,Zae hB (by omega) cs⟩
theorem Zpz (n:Int) (most:Nat) (s:St) (c:Int) (u:Value) (w:World) (hu:OwnI w 0 u s.rc) (h1:1<=n) (h2:n<=256) (hok:Ok most s) (hm:most<=1099511627776) (hd:s.done=false) (hc0:0<=c) (hc2:c<2) :
  Calls Tryz.prog 125 #[.agg #[.int .i64 n,.int .i64 (most:Int),.int .i64 (s.out.length:Int),u,.bool s.done],.int .i64 c] w (RPutP n most s c u w):=by
 have HU:=zh hu;have hL:=hok.len hm;have hcl:=hok.le;have hcnt:cnt (putS n s c)=cnt s+(1+c.toNat)*2^s.rc.length:=Zlm hc2
 have hXl:(1+c.toNat)*2^s.rc.length<=2199023255552:=by
  have hp:2^s.rc.length<=2^40:=Nat.pow_le_pow_right (by omega) hL;simp at hp;rcases(show c=0\/c=1 by omega) with rfl|rfl<;>(simp;omega)
 have hcv:cnt s=s.out.length+val s.rc:=rfl;have hcv2:cnt (putS n s c)=s.out.length+val (s.rc++[c]):=by rw [putS_part hc2];rfl
 obtain⟨C,hC⟩:∃C,cnt (putS n s c)=C:=⟨_,rfl⟩
 have hCb:C<=3298534883328:=by omega
 have HCO:=zh (fun W u' (h:OwnI W 0 u' (s.rc++[c]))=>Zm2 n most ⟨s.out,s.rc++[c],false⟩ u' C W h (hok.bin.snoc (by omega)) (by simp;omega) (by show val (s.rc++[c])<=_;omega) (by show s.out.length<=_;omega) (by rw [<-hC,putS_part hc2]));have HPS:=zh (show putS n s c=⟨s.out,s.rc++[c],false⟩ from putS_part hc2);have HZ:Hid (putZ s c=0):=zh (by unfold putZ;rw [if_pos hc2]);have HP:Hid (putP n c=-1):=zh (by unfold putP;rw [if_pos (Or.inl hc2)])
 have HE:Hid (putE n most s c=if most<C then 2 else 0):=zh (by
  unfold putE;rw [if_neg (by simp [hd]),if_neg (by omega),hC])
 have hw1:IntKind.i64.wrap (n+1)=n+1:=IntWalk.i64_in _ (by omega);have hn1c:¬n+1<c:=by omega
 have HD:=zh hd;obtain⟨a,cap,hus⟩:=hu.slice;have hlen:s.rc.length+1<=17592186044416:=by omega
 rw [hd];clear hu hXl hcnt hcv hcv2 hok hd hcl hC;have HI:=zh (PutW.init w n most (s.out.length:Int) u);have HSRC:Hid (OwnI (((w.alloc (.cells (rdc n most (s.out.length:Int) u false) 170)).alloc (.cells (stc 0 0 0 (.slice none 0 0) false 0 0 0) 172)).alloc (.cells (rdc n most (s.out.length:Int) u false) 170)) 0 u s.rc):=zh (((HU.out.alloc _).alloc _).alloc _);have hsz:(((w.alloc (.cells (rdc n most (s.out.length:Int) u false) 170)).alloc (.cells (stc 0 0 0 (.slice none 0 0) false 0 0 0) 172)).alloc (.cells (rdc n most (s.out.length:Int) u false) 170)).heap.size=w.heap.size+3:=by simp
 subst hus;go_enter Tryz.func125,Tryz.ntmps125;go_wp2_with (at_builtin;go_loud (refine ZbK _ rfl _ _ rfl (w.heap.size+3) _ [] 0 _ s.rc (OwnI.nil _ _) (by exact HSRC.out) rfl rfl (by simp;omega) (by exact Nat.le_of_eq hsz.symm) ?_));intro v1 w1 hO1 hB1;have HO1:=zh hO1;have HI1:=zh (HI.out.below hB1 (Nat.le_refl _));have hs1:w.heap.size+3<=w1.heap.size:=HI1.out.2.2.2.1;clear hO1 hB1 HI HSRC hsz;go_wp2_with (at_builtin;go_loud (refine Zar w1 rfl _ _ rfl (w.heap.size+3) _ ([]++s.rc) c HO1.out rfl rfl (by simpa using hlen) hs1 ?_));intro v2 w2 hO2 hB2
 obtain⟨a2,N,cap2,rfl⟩:∃a2 N cap2,v2=.slice a2 N cap2:=by
  obtain⟨a2,cap2,h⟩:=hO2.slice;exact⟨a2,_,cap2,h⟩
 have HI2:=zh (HI1.out.below hB2 (Nat.le_refl _));obtain⟨d0,d1,d2,d3,d4,e0,e1,e2,e3,e4,f2,f3,f4⟩:=HI2.out.cells;have HI3:=zh (HI2.out.set 3 (.slice a2 N cap2) (s.out.length:Int) (.slice a2 N cap2) false rfl)
 have HO3:Hid (OwnI (w2.setCell ⟨w.heap.size+1+1,3,none⟩ (.slice a2 N cap2)) (w.heap.size+3) (.slice a2 N cap2) (s.rc++[c])):=zh (by
  have h:=ZkF hO2 (w.heap.size+1+1) (by omega) 3 (.slice a2 N cap2);unfold OwnI;simpa using h)
 clear hO2 hB2 HI1 HO1;go_wp2_with fail;generalize w2.setCell ⟨w.heap.size+1+1,3,none⟩ (.slice a2 N cap2)=W3 at *;clear d0 d1 d2 d3 d4 e0 e1 e2 e3 e4 f2 f3 f4 HI2;obtain⟨d0,d1,d2,d3,d4,e0,e1,e2,e3,e4,f2,f3,f4⟩:=HI3.out.cells;have hG:w.heap.size+3<=W3.heap.size:=HI3.out.2.2.2.1;have q1:∀sb:Beneath W3.heap.size W3,sb.val.cell? ⟨w.heap.size,1,none⟩=some (.int .i64 (most:Int)):=fun sb=>Beneath.cell d1 (by show w.heap.size<_;omega) sb
 have r0:∀sb:Beneath W3.heap.size W3,sb.val.cell? ⟨w.heap.size+1+1,0,none⟩=some (.int .i64 n):=fun sb=>Beneath.cell e0 (by show w.heap.size+1+1<_;omega) sb
 have r1:∀sb:Beneath W3.heap.size W3,sb.val.cell? ⟨w.heap.size+1+1,1,none⟩=some (.int .i64 (most:Int)):=fun sb=>Beneath.cell e1 (by show w.heap.size+1+1<_;omega) sb
 have r2:∀sb:Beneath W3.heap.size W3,sb.val.cell? ⟨w.heap.size+1+1,2,none⟩=some (.int .i64 (s.out.length:Int)):=fun sb=>Beneath.cell e2 (by show w.heap.size+1+1<_;omega) sb
 have r3:∀sb:Beneath W3.heap.size W3,sb.val.cell? ⟨w.heap.size+1+1,3,none⟩=some (.slice a2 N cap2):=fun sb=>Beneath.cell e3 (by show w.heap.size+1+1<_;omega) sb
 have r4:∀sb:Beneath W3.heap.size W3,sb.val.cell? ⟨w.heap.size+1+1,4,none⟩=some (.bool false):=fun sb=>Beneath.cell e4 (by show w.heap.size+1+1<_;omega) sb
 have HOB:Hid (∀sb:Beneath W3.heap.size W3,OwnI sb.val (w.heap.size+3) (.slice a2 N cap2) (s.rc++[c])):=zh (fun sb=>HO3.out.below sb.is);refine ZaF W3.heap.size W3 (Below.refl _ _) (by kernel_rfl) (by kernel_rfl) ?_
 repeat (go_big_quiet_step (first
  | (go_at_call 182;rename_i sb;exact Calls.beneath sb (Nat.le_refl _) (HCO.out _ _ (HOB.out sb).weak))))
 refine wpQuiet_nil ?_;rintro _ ⟨sb,rfl⟩;have HI4:=zh (HI3.out.below sb.is hG);have HO4:=zh (HOB.out sb);clear d0 d1 d2 d3 d4 e0 e1 e2 e3 e4 f2 f3 f4 q1 r0 r1 r2 r3 r4 HOB HI3 HO3;generalize sb.val=W4 at *;have hx0:=HI4.out.1;have hx1:=HI4.out.2.1;have hx2:=HI4.out.2.2.1;have HX0:=zh hx0;have HX1:=zh hx1;have HX2:=zh hx2;have HBW:=zh HI4.out.2.2.2.2;clear hx0 hx1 hx2;by_cases hov:most<C
 ·have hovI:(most:Int)<(C:Int):=by omega
  have HE2:Hid (putE n most s c=2):=zh (by rw [HE.out,if_pos hov]);clear hov HE;go_wp2_with (first|(refine wpList_load_row rfl 170 _ rfl w.heap.size rfl 170 (rdc n most (s.out.length:Int) (.slice a s.rc.length cap) false) (0,0) _ HX0.out Tryz.underlying170 rfl ZcN ?_;simp only [rdc])|(refine wpList_store_row rfl 172 _ _ rfl (w.heap.size+1) (stc n most (s.out.length:Int) (.slice a s.rc.length cap) false 0 0 2) rfl rfl 172 _ HX1.out Zba rfl (Zf0 ..) ?_));obtain⟨g1,g2⟩:=HI4.out.told (stc n most (s.out.length:Int) (.slice a s.rc.length cap) false 0 0 2) HBW.out;refine bodyPost_ret (v:=.agg (stc n most (s.out.length:Int) (.slice a s.rc.length cap) false 0 0 2)) (results_cell_row rfl _ _ (w.heap.size+1) 172 _ (0,0) _ rfl g1 Tryz.underlying172 rfl Zba) rfl ?_;exact⟨g2,Or.inr ⟨by rw [HE2.out];decide,by rw [HE2.out,HD.out];rfl⟩⟩
 ·have hovI:¬(most:Int)<(C:Int):=by omega
  have HE2:Hid (putE n most s c=0):=zh (by rw [HE.out,if_neg hov]);clear hov HE;go_wp2_with (first|(refine wpList_load_row rfl 170 _ rfl (w.heap.size+1+1) rfl 170 (rdc n most (s.out.length:Int) (.slice a2 N cap2) false) (0,0) _ HX2.out Tryz.underlying170 rfl ZcN ?_;simp only [rdc])|(refine wpList_store_row rfl 172 _ _ rfl (w.heap.size+1) (stc n most (s.out.length:Int) (.slice a2 N cap2) false 0 (-1) 0) rfl rfl 172 _ HX1.out Zba rfl (Zf0 ..) ?_));obtain⟨g1,g2⟩:=HI4.out.told (stc n most (s.out.length:Int) (.slice a2 N cap2) false 0 (-1) 0) HBW.out;refine bodyPost_ret (v:=.agg (stc n most (s.out.length:Int) (.slice a2 N cap2) false 0 (-1) 0)) (results_cell_row rfl _ _ (w.heap.size+1) 172 _ (0,0) _ rfl g1 Tryz.underlying172 rfl Zba) rfl ?_;refine⟨g2,Or.inl ⟨HE2.out,.slice a2 N cap2,?_,by rw [HPS.out,HZ.out,HP.out];rfl⟩⟩;rw [HPS.out];exact OwnI.lower (OwnI.setRow HO4.out _ _ (by omega)) (by omega)
theorem Zrs (n:Int) (most:Nat) (s:St) (u:Value) (w:World) (hu:OwnI w 0 u s.rc) (h1:1<=n) (h2:n<=256) (hok:Ok most s) (hm:most<=1099511627776) (hd:s.done=false) :
  Calls Tryz.prog 125 #[.agg #[.int .i64 n,.int .i64 (most:Int),.int .i64 (s.out.length:Int),u,.bool s.done],.int .i64 (n+1)] w (RPutP n most s (n+1) u w):=by
 have HU:=zh hu;have hL:=hok.len hm;have hcl:=hok.le;have hcv:cnt s=s.out.length+val s.rc:=rfl;have hn2:¬n+1<2:=by omega
 have hcnt:cnt (putS n s (n+1))=cnt s:=ZjI hn2 rfl;have HVA:=zh (fun W (h:IsInts W u s.rc)=>Zek u s.rc W h hok.bin (by omega) (by omega));have HO2:Hid (((putS n s (n+1)).out.length:Int)=(s.out.length:Int)+(val s.rc:Int)):=zh (by rw [putS_end hn2 rfl];simp);have HR2:Hid ((putS n s (n+1)).rc=[]):=zh (by rw [putS_end hn2 rfl]);have HD2:Hid ((putS n s (n+1)).done=true):=zh (by rw [putS_end hn2 rfl]);have HZ:Hid (putZ s (n+1)=val s.rc):=zh (by unfold putZ;rw [if_neg hn2]);have HP:Hid (putP n (n+1)=-1):=zh (by unfold putP;rw [if_pos (Or.inr rfl)]);have HE:Hid (putE n most s (n+1)=0):=zh (Zby hd (by omega) (by omega) (by omega));have hw1:IntKind.i64.wrap (n+1)=n+1:=IntWalk.i64_in _ (by omega);have hw2:IntKind.i64.wrap ((s.out.length:Int)+(val s.rc:Int))=(s.out.length:Int)+(val s.rc:Int):=IntWalk.i64_in _ (by omega);obtain⟨c,hc⟩:∃c,n+1=c:=⟨_,rfl⟩
 rw [hc] at hn2 HO2 HR2 HD2 HZ HP HE;rw [hc];have hc1:¬c<0:=by omega
 have hc2:n+1<=c:=by omega
 have hc3:c<=n+1:=by omega
 have hc4:(c==n+1)=true:=by rw [<-hc];exact beq_self_eq_true _
 obtain⟨a,cap,hus⟩:=hu.slice;rw [hd];clear hu hcnt hcv hok hd hcl;have HI:=zh (PutW.init w n most (s.out.length:Int) u);have HSRC:Hid (IsInts (((w.alloc (.cells (rdc n most (s.out.length:Int) u false) 170)).alloc (.cells (stc 0 0 0 (.slice none 0 0) false 0 0 0) 172)).alloc (.cells (rdc n most (s.out.length:Int) u false) 170)) u s.rc):=zh (((HU.out.alloc _).alloc _).alloc _).ints;have hsz:(((w.alloc (.cells (rdc n most (s.out.length:Int) u false) 170)).alloc (.cells (stc 0 0 0 (.slice none 0 0) false 0 0 0) 172)).alloc (.cells (rdc n most (s.out.length:Int) u false) 170)).heap.size=w.heap.size+3:=by simp
 subst hus;generalize val s.rc=V at *;have HC:=zh hc;clear hc;go_enter Tryz.func125,Tryz.ntmps125;go_wp2_with fail;refine(HVA.out _ (by exact HSRC.out)).mono ?_;rintro e w1 ⟨rfl,k,hk⟩
 have HI1:Hid (PutW w n most (s.out.length:Int) (.slice a s.rc.length cap) w1 (s.out.length:Int) (.slice a s.rc.length cap) false):=zh (by
  rw [hk];exact HI.out.below (Zai _ k) (Nat.le_of_eq hsz.symm))
 clear hk HI HSRC hsz HVA;obtain⟨d0,d1,d2,d3,d4,e0,e1,e2,e3,e4,f2,f3,f4⟩:=HI1.out.cells;have HI2:=zh (HI1.out.set 2 (.int .i64 ((s.out.length:Int)+(V:Int))) ((s.out.length:Int)+(V:Int)) (.slice a s.rc.length cap) false rfl);have HI3:=zh (HI2.out.set 3 (.slice none 0 0) ((s.out.length:Int)+(V:Int)) (.slice none 0 0) false rfl);have HI4:=zh (HI3.out.set 4 (.bool true) ((s.out.length:Int)+(V:Int)) (.slice none 0 0) true rfl);clear HI1 HI2 HI3;have HX1:=zh HI4.out.2.1;have HX2:=zh HI4.out.2.2.1;have HBW:=zh HI4.out.2.2.2.2
 go_upto_region 19 with fail
 generalize ((w1.setCell ⟨w.heap.size+1+1,2,none⟩ (.int .i64 ((s.out.length:Int)+(V:Int)))).setCell ⟨w.heap.size+1+1,3,none⟩ (.slice none 0 0)).setCell ⟨w.heap.size+1+1,4,none⟩ (.bool true)=W4 at *;go_wp2_with (first|(refine wpList_load_row rfl 170 _ rfl (w.heap.size+1+1) rfl 170 (rdc n most ((s.out.length:Int)+(V:Int)) (.slice none 0 0) true) (0,0) _ HX2.out Tryz.underlying170 rfl ZcN ?_;simp only [rdc])|(refine wpList_store_row rfl 172 _ _ rfl (w.heap.size+1) (stc n most ((s.out.length:Int)+(V:Int)) (.slice none 0 0) true (V:Int) (-1) 0) rfl rfl 172 _ HX1.out Zba rfl (Zf0 ..) ?_));obtain⟨g1,g2⟩:=HI4.out.told (stc n most ((s.out.length:Int)+(V:Int)) (.slice none 0 0) true (V:Int) (-1) 0) HBW.out;refine bodyPost_ret (v:=.agg (stc n most ((s.out.length:Int)+(V:Int)) (.slice none 0 0) true (V:Int) (-1) 0)) (results_cell_row rfl _ _ (w.heap.size+1) 172 _ (0,0) _ rfl g1 Tryz.underlying172 rfl Zba) rfl ?_;exact⟨g2,Or.inl ⟨HE.out,.slice none 0 0,by rw [HR2.out];exact OwnI.nil _ _,by rw [HO2.out,HD2.out,HZ.out,HP.out]⟩⟩
theorem Zrt (n:Int) (most:Nat) (s:St) (c:Int) (u:Value) (w:World) (hu:OwnI w 0 u s.rc) (h1:1<=n) (h2:n<=256) (hok:Ok most s) (hm:most<=1099511627776) (hd:s.done=false) (hc0:2<=c) (hcn:c<=n) :
  Calls Tryz.prog 125 #[.agg #[.int .i64 n,.int .i64 (most:Int),.int .i64 (s.out.length:Int),u,.bool s.done],.int .i64 c] w (RPutP n most s c u w):=by
 have HU:=zh hu;have hL:=hok.len hm;have hcl:=hok.le;have hcv:cnt s=s.out.length+val s.rc:=rfl;have hn2:¬c<2:=by omega
 have hn3:c≠n+1:=by omega
 have hcnt:cnt (putS n s c)=cnt s+1:=ZjJ hn2 hn3;have HVA:=zh (fun W (h:IsInts W u s.rc)=>Zek u s.rc W h hok.bin (by omega) (by omega));have HO2:Hid (((putS n s c).out.length:Int)=(s.out.length:Int)+(val s.rc:Int)+1):=zh (by rw [putS_one hn2 hn3];simp;omega);have HR2:Hid ((putS n s c).rc=[]):=zh (by rw [putS_one hn2 hn3]);have HD2:Hid ((putS n s c).done=false):=zh (by rw [putS_one hn2 hn3]);have HZ:Hid (putZ s c=val s.rc):=zh (by unfold putZ;rw [if_neg hn2]);have HP:Hid (putP n c=c-1):=zh (by unfold putP;rw [if_neg (by omega)])
 have HE:Hid (putE n most s c=if most<s.out.length+val s.rc+1 then 2 else 0):=zh (by
  unfold putE;rw [if_neg (by simp [hd]),if_neg (by omega),hcnt,hcv])
 have hw1:IntKind.i64.wrap (n+1)=n+1:=IntWalk.i64_in _ (by omega);have hw2:IntKind.i64.wrap ((s.out.length:Int)+(val s.rc:Int))=(s.out.length:Int)+(val s.rc:Int):=IntWalk.i64_in _ (by omega);have hw3:IntKind.i64.wrap ((s.out.length:Int)+(val s.rc:Int)+1)=(s.out.length:Int)+(val s.rc:Int)+1:=IntWalk.i64_in _ (by omega);have hw4:IntKind.i64.wrap (c-1)=c-1:=IntWalk.i64_in _ (by omega);have hc1:¬c<0:=by omega
 have hc3:c<=n+1:=by omega
 have hc4:(c==n+1)=false:=by rw [beq_eq_false_iff_ne];exact hn3
 obtain⟨a,cap,hus⟩:=hu.slice;rw [hd];have HD:=zh hd;clear hu hcnt hok hd;have HI:=zh (PutW.init w n most (s.out.length:Int) u);have HSRC:Hid (IsInts (((w.alloc (.cells (rdc n most (s.out.length:Int) u false) 170)).alloc (.cells (stc 0 0 0 (.slice none 0 0) false 0 0 0) 172)).alloc (.cells (rdc n most (s.out.length:Int) u false) 170)) u s.rc):=zh (((HU.out.alloc _).alloc _).alloc _).ints;have hsz:(((w.alloc (.cells (rdc n most (s.out.length:Int) u false) 170)).alloc (.cells (stc 0 0 0 (.slice none 0 0) false 0 0 0) 172)).alloc (.cells (rdc n most (s.out.length:Int) u false) 170)).heap.size=w.heap.size+3:=by simp
 subst hus;generalize val s.rc=V at *;generalize hT:s.out.length=T at *;have HT:=zh hT;clear hT;by_cases hov:most<T+V+1
 ·have hovI:(most:Int)<(T:Int)+(V:Int)+1:=by omega
  have HE2:Hid (putE n most s c=2):=zh (by rw [HE.out,if_pos hov]);clear hov HE;go_enter Tryz.func125,Tryz.ntmps125;go_wp2_with fail;refine(HVA.out _ (by exact HSRC.out)).mono ?_;rintro e w1 ⟨rfl,k,hk⟩
  have HI1:Hid (PutW w n most (T:Int) (.slice a s.rc.length cap) w1 (T:Int) (.slice a s.rc.length cap) false):=zh (by
   rw [hk];exact HI.out.below (Zai _ k) (Nat.le_of_eq hsz.symm))
  clear hk HI HSRC hsz HVA;obtain⟨d0,d1,d2,d3,d4,e0,e1,e2,e3,e4,f2,f3,f4⟩:=HI1.out.cells;have HI2:=zh (HI1.out.set 2 (.int .i64 ((T:Int)+(V:Int))) ((T:Int)+(V:Int)) (.slice a s.rc.length cap) false rfl);have HI3:=zh (HI2.out.set 3 (.slice none 0 0) ((T:Int)+(V:Int)) (.slice none 0 0) false rfl);have HI4:=zh (HI3.out.set 2 (.int .i64 ((T:Int)+(V:Int)+1)) ((T:Int)+(V:Int)+1) (.slice none 0 0) false rfl);clear HI1 HI2 HI3;have HX0:=zh HI4.out.1;have HX1:=zh HI4.out.2.1;have HBW:=zh HI4.out.2.2.2.2
  go_upto_region 22 with fail
  generalize ((w1.setCell ⟨w.heap.size+1+1,2,none⟩ (.int .i64 ((T:Int)+(V:Int)))).setCell ⟨w.heap.size+1+1,3,none⟩ (.slice none 0 0)).setCell ⟨w.heap.size+1+1,2,none⟩ (.int .i64 ((T:Int)+(V:Int)+1))=W4 at *;go_wp2_with (first|(refine wpList_load_row rfl 170 _ rfl w.heap.size rfl 170 (rdc n most (T:Int) (.slice a s.rc.length cap) false) (0,0) _ HX0.out Tryz.underlying170 rfl ZcN ?_;simp only [rdc])|(refine wpList_store_row rfl 172 _ _ rfl (w.heap.size+1) (stc n most (T:Int) (.slice a s.rc.length cap) false 0 0 2) rfl rfl 172 _ HX1.out Zba rfl (Zf0 ..) ?_));obtain⟨g1,g2⟩:=HI4.out.told (stc n most (T:Int) (.slice a s.rc.length cap) false 0 0 2) HBW.out;refine bodyPost_ret (v:=.agg (stc n most (T:Int) (.slice a s.rc.length cap) false 0 0 2)) (results_cell_row rfl _ _ (w.heap.size+1) 172 _ (0,0) _ rfl g1 Tryz.underlying172 rfl Zba) rfl ?_;exact⟨g2,Or.inr ⟨by rw [HE2.out];decide,by rw [HE2.out,HD.out,HT.out];rfl⟩⟩
 ·have hovI:¬(most:Int)<(T:Int)+(V:Int)+1:=by omega
  have HE2:Hid (putE n most s c=0):=zh (by rw [HE.out,if_neg hov]);clear hov HE;go_enter Tryz.func125,Tryz.ntmps125;go_wp2_with fail;refine(HVA.out _ (by exact HSRC.out)).mono ?_;rintro e w1 ⟨rfl,k,hk⟩
  have HI1:Hid (PutW w n most (T:Int) (.slice a s.rc.length cap) w1 (T:Int) (.slice a s.rc.length cap) false):=zh (by
   rw [hk];exact HI.out.below (Zai _ k) (Nat.le_of_eq hsz.symm))
  clear hk HI HSRC hsz HVA;obtain⟨d0,d1,d2,d3,d4,e0,e1,e2,e3,e4,f2,f3,f4⟩:=HI1.out.cells;have HI2:=zh (HI1.out.set 2 (.int .i64 ((T:Int)+(V:Int))) ((T:Int)+(V:Int)) (.slice a s.rc.length cap) false rfl);have HI3:=zh (HI2.out.set 3 (.slice none 0 0) ((T:Int)+(V:Int)) (.slice none 0 0) false rfl);have HI4:=zh (HI3.out.set 2 (.int .i64 ((T:Int)+(V:Int)+1)) ((T:Int)+(V:Int)+1) (.slice none 0 0) false rfl);clear HI1 HI2 HI3;have HX1:=zh HI4.out.2.1;have HX2:=zh HI4.out.2.2.1;have HBW:=zh HI4.out.2.2.2.2
  go_upto_region 23 with fail
  generalize ((w1.setCell ⟨w.heap.size+1+1,2,none⟩ (.int .i64 ((T:Int)+(V:Int)))).setCell ⟨w.heap.size+1+1,3,none⟩ (.slice none 0 0)).setCell ⟨w.heap.size+1+1,2,none⟩ (.int .i64 ((T:Int)+(V:Int)+1))=W4 at *;go_wp2_with (first|(refine wpList_load_row rfl 170 _ rfl (w.heap.size+1+1) rfl 170 (rdc n most ((T:Int)+(V:Int)+1) (.slice none 0 0) false) (0,0) _ HX2.out Tryz.underlying170 rfl ZcN ?_;simp only [rdc])|(refine wpList_store_row rfl 172 _ _ rfl (w.heap.size+1) (stc n most ((T:Int)+(V:Int)+1) (.slice none 0 0) false (V:Int) (c-1) 0) rfl rfl 172 _ HX1.out Zba rfl (Zf0 ..) ?_));obtain⟨g1,g2⟩:=HI4.out.told (stc n most ((T:Int)+(V:Int)+1) (.slice none 0 0) false (V:Int) (c-1) 0) HBW.out;refine bodyPost_ret (v:=.agg (stc n most ((T:Int)+(V:Int)+1) (.slice none 0 0) false (V:Int) (c-1) 0)) (results_cell_row rfl _ _ (w.heap.size+1) 172 _ (0,0) _ rfl g1 Tryz.underlying172 rfl Zba) rfl ?_;exact⟨g2,Or.inl ⟨HE2.out,.slice none 0 0,by rw [HR2.out];exact OwnI.nil _ _,by rw [HO2.out,HD2.out,HZ.out,HP.out]⟩⟩
theorem ZlZ (n:Int) (most:Nat) (s:St) (c:Int) (u:Value) (w:World) (hu:OwnI w 0 u s.rc) (h1:1<=n) (h2:n<=256) (hok:Ok most s) (hm:most<=1099511627776) :
  Calls Tryz.prog 125 #[.agg #[.int .i64 n,.int .i64 (most:Int),.int .i64 (s.out.length:Int),u,.bool s.done],.int .i64 c] w (RPutP n most s c u w):=by
 by_cases hs:s.done=true\/c<0\/n+1<c
 ·exact Zpy n most s c u w hu h1 h2 hs
 ·have hd:s.done=false:=by
   rw [Bool.eq_false_iff];exact fun e=>hs (Or.inl e)
  by_cases hc2:c<2
  ·exact Zpz n most s c u w hu h1 h2 hok hm hd (by omega) hc2
  ·by_cases hc3:c=n+1
   ·subst hc3;exact Zrs n most s u w hu h1 h2 hok hm hd
   ·exact Zrt n most s c u w hu h1 h2 hok hm hd (by omega) (by omega)
def RdVar (w:World) (b:Nat) (n:Int) (most:Nat) (s:St) (u:Value):Prop:=w.heap[b]?=some (.cells (rdc n most (s.out.length:Int) u s.done) 170 (0,0))
theorem ZkJ (n:Int) (most:Nat) (told:Int) (a:Option Addr) (N cap:Nat) (d:Bool):(rdc n most told (.slice a N cap) d).all (·.oneCell')=true:=by kernel_rfl
theorem RdVar.lt {w:World} {b:Nat} {n:Int} {most:Nat} {s:St} {u:Value} (h:RdVar w b n most s u):b<w.heap.size:=(Array.getElem?_eq_some_iff.1 h).1
theorem RdVar.below {w w':World} {b:Nat} {n:Int} {most:Nat} {s:St} {u:Value} (h:RdVar w b n most s u) (hb:Below w.heap.size w w'):RdVar w' b n most s u:=(hb.block b h.lt).trans h
def StVar (w:World) (b:Nat) (n:Int) (most:Nat) (told:Int) (u:Value) (d:Bool) (z p e:Int):Prop:=w.heap[b]?=some (.cells (stc n most told u d z p e) 172 (0,0))
theorem StVar.lt {w:World} {b:Nat} {n:Int} {most:Nat} {told:Int} {u:Value} {d:Bool} {z p e:Int} (h:StVar w b n most told u d z p e):b<w.heap.size:=(Array.getElem?_eq_some_iff.1 h).1
theorem StVar.cells {w:World} {b:Nat} {n:Int} {most:Nat} {told:Int} {u:Value} {d:Bool} {z p e:Int} (h:StVar w b n most told u d z p e) :
  w.cell? ⟨b,0,none⟩=some (.int .i64 n)/\w.cell? ⟨b,1,none⟩=some (.int .i64 (most:Int))/\w.cell? ⟨b,2,none⟩=some (.int .i64 told)/\w.cell? ⟨b,3,none⟩=some u/\w.cell? ⟨b,4,none⟩=some (.bool d) /\
  w.cell? ⟨b,5,none⟩=some (.int .i64 z)/\w.cell? ⟨b,6,none⟩=some (.int .i64 p)/\w.cell? ⟨b,7,none⟩=some (.int .i64 e):=by
 refine⟨?_,?_,?_,?_,?_,?_,?_,?_⟩<;>(rw [cell_of_row _ _ _ _ _ _ h];rfl)
theorem RdVar.cells {w:World} {b:Nat} {n:Int} {most:Nat} {s:St} {u:Value} (h:RdVar w b n most s u) :
  w.cell? ⟨b,0,none⟩=some (.int .i64 n)/\w.cell? ⟨b,1,none⟩=some (.int .i64 (most:Int))/\w.cell? ⟨b,2,none⟩=some (.int .i64 (s.out.length:Int))/\w.cell? ⟨b,3,none⟩=some u/\w.cell? ⟨b,4,none⟩=some (.bool s.done):=by
 refine⟨?_,?_,?_,?_,?_⟩<;>(rw [cell_of_row _ _ _ _ _ _ h];rfl)
def RD (w:World) (n:Int) (M:Nat) (zs:List Int) (k:Nat) (s:St) (u v:Value) (wr:World):Prop:=
 RdVar wr w.heap.size n M s u/\OwnI wr (w.heap.size+1) u s.rc/\OwnI wr (w.heap.size+1) v s.out/\(∀k,u.ownBlock=some k->v.ownBlock≠some k)/\Ok M s/\dec n M ini zs=dec n M s (zs.drop k)/\Below w.heap.size w wr
def RE (w:World) (n:Int) (M:Nat) (s s2:St) (u u2:Value) (S:Nat) (z p:Int) (l:List Int) (v:Value) (wr:World):Prop:=
 RdVar wr w.heap.size n M s u/\OwnI wr (w.heap.size+1) u2 s2.rc/\OwnI wr (w.heap.size+1) v l/\StVar wr S n M (s2.out.length:Int) u2 s2.done z p 0/\w.heap.size+1<=S/\v.ownBlock≠some S/\u2.ownBlock≠some S/\(∀k,u2.ownBlock=some k->v.ownBlock≠some k)/\Below w.heap.size w wr
theorem RE.push {w:World} {n:Int} {M:Nat} {s s2:St} {u u2:Value} {S:Nat} {z p:Int} {l:List Int} {v v':Value} {wr w':World} {x:Int} (h:RE w n M s s2 u u2 S z p l v wr)
  (h1:OwnI w' (w.heap.size+1) v' (l++[x])) (h2:Below (w.heap.size+1) wr w') (h3:∀k,k<wr.heap.size->v.ownBlock≠some k->w'.heap[k]?=wr.heap[k]?) (h4:∀k,v'.ownBlock=some k->v.ownBlock=some k\/wr.heap.size<=k) :
  RE w n M s s2 u u2 S z p (l++[x]) v' w':=by
 obtain⟨a1,a2,a3,a4,a5,a6,a7,a8,a9⟩:=h;refine⟨(h2.block _ (by omega)).trans a1,a2.same (fun k hk=>h3 k (a2.lt k hk).2 (a8 k hk)),h1,(h3 S a4.lt a6).trans a4,a5,?_,a7,?_,a9.trans (h2.mono (by omega))⟩
 ·intro e;rcases h4 S e with h|h
  ·exact a6 h
  ·have:=a4.lt;omega
 ·intro k hk e;rcases h4 k e with h|h
  ·exact a8 k hk h
  ·have:=(a2.lt k hk).2;omega
theorem RE.fin {w:World} {n:Int} {M:Nat} {s s2:St} {u u2:Value} {S:Nat} {z p:Int} {l:List Int} {v:Value} {wr:World} {zs:List Int} {k:Nat} (h:RE w n M s s2 u u2 S z p l v wr) (hl:s2.out=l) (hk:Ok M s2)
  (hd:dec n M ini zs=dec n M s2 (zs.drop k)):RD w n M zs k s2 u2 v (wr.setRow w.heap.size (rdc n M (s2.out.length:Int) u2 s2.done)):=by
 obtain⟨a1,a2,a3,a4,a5,a6,a7,a8,a9⟩:=h;subst hl;exact⟨setRow_heap wr _ _ _ _ (0,0) a1,a2.setRow _ _ (by omega),a3.setRow _ _ (by omega),a8,hk,hd,Zae a9 (Nat.le_refl _) _⟩
theorem ZkK (v0:Value) (zs:List Int) (n most:Int) (w:World) (hv:IsInts w v0 zs) (hz:zs.length<=1000000) (hms:DecOk n most->most<=1000000) :
  Calls Tryz.prog 67 #[v0,.int .i64 n,.int .i64 most] w fun e w'=>∃(u:Value) (ys:List Int) (err:Nat),e=.returned (.tuple #[u,.int .i64 (err:Int)])/\IsInts w' u ys/\Below w.heap.size w w'/\DecP zs n most ys err:=by
 have HV:=zh hv;obtain⟨a,cap,rfl,_⟩:=hv;by_cases hn1:n<1
 ·go_enter Tryz.func67,Tryz.ntmps67;go_wp2_with fail;go_ret2;exact⟨_,[],1,rfl,IsInts.nil _,Below.refl _ _,Or.inl ⟨fun h=>by have:=h.1;omega,rfl,rfl⟩⟩
 by_cases hn2:256<n
 ·go_enter Tryz.func67,Tryz.ntmps67;go_wp2_with fail;go_ret2;exact⟨_,[],1,rfl,IsInts.nil _,Below.refl _ _,Or.inl ⟨fun h=>by have:=h.2.1;omega,rfl,rfl⟩⟩
 by_cases hm1:most<0
 ·go_enter Tryz.func67,Tryz.ntmps67;go_wp2_with fail;go_ret2;exact⟨_,[],1,rfl,IsInts.nil _,Below.refl _ _,Or.inl ⟨fun h=>by have:=h.2.2.1;omega,rfl,rfl⟩⟩
 by_cases hm2:1099511627776<most
 ·go_enter Tryz.func67,Tryz.ntmps67;go_wp2_with fail;go_ret2;exact⟨_,[],1,rfl,IsInts.nil _,Below.refl _ _,Or.inl ⟨fun h=>by have:=h.2.2.2;omega,rfl,rfl⟩⟩
 have hok:DecOk n most:=⟨by omega,by omega,by omega,by omega⟩
 have hmo:=hms hok;obtain⟨M,rfl⟩:∃M:Nat,most=(M:Int):=⟨most.toNat,by omega⟩
 have HOK:=zh hok;have h1n:1<=n:=by omega
 have hn256:n<=256:=by omega
 have HPUT:=zh (fun s c u w (hu:OwnI w 0 u s.rc) (ho:Ok M s)=>ZlZ n M s c u w hu h1n hn256 ho (by omega));have HB0:=zh ((Below.refl w.heap.size w).alloc (Nat.le_refl _) (.cells #[.int .i64 n,.int .i64 (M:Int),.int .i64 0,.slice none 0 0,.bool false] 170));have HR0:=zh (heap_alloc_new w (.cells #[.int .i64 n,.int .i64 (M:Int),.int .i64 0,.slice none 0 0,.bool false] 170));clear hok hms;go_enter Tryz.func67,Tryz.ntmps67;go_wp2_with fail;generalize w.alloc (.cells #[.int .i64 n,.int .i64 (M:Int),.int .i64 0,.slice none 0 0,.bool false] 170)=w1 at *
 go_loopw [9,32] (fun o i wr=>∃(k:Nat) (s:St) (u v:Value),k<=zs.length/\i=.int .i64 k/\v=o/\RD w n M zs k s u v wr) (fun _ i _=>zs.length-(intOf i).toNat)
 case atStart=>exact⟨0,ini,.slice none 0 0,.slice none 0 0,by omega,rfl,rfl,HR0.out,OwnI.nil _ _,OwnI.nil _ _,fun k h=>by simp [Value.ownBlock] at h,Ok.ini M,rfl,HB0.out⟩
 case round=>
  clear HB0 HR0;obtain⟨k,s,u,v,hk,rfl,rfl,hR,hU,hO,hA,hK,hD,hB⟩:=hrel;have HR:=zh hR;have HU:=zh hU;have HO:=zh hO;have HA:=zh hA;have HK:=zh hK;have HD:=zh hD;have HB:=zh hB;have hcl:=hK.le;have hcv:cnt s=s.out.length+val s.rc:=rfl;obtain⟨d0,d1,d2,d3,d4⟩:=hR.cells;have hG:=hR.lt;clear hR hU hO hA hK hD hB;by_cases hlk:k<zs.length
  ·have hki:(k:Int)<(zs.length:Int):=by omega
   have HV2:=zh (HV.out.below HB.out);obtain⟨b1,o1,k1,he1,c1⟩:=HV2.out.cell hlk;simp only [Value.slice.injEq] at he1;obtain⟨rfl,_,rfl⟩:=he1;obtain⟨x,hx⟩:∃x,zs.getD k 0=x:=⟨_,rfl⟩
   have HDR:Hid (zs.drop k=x::zs.drop (k+1)):=zh (by rw [<-hx];exact Zi9 zs k hlk);rw [hx] at c1;rw [HDR.out] at HD;clear hx
   obtain⟨au,Nu,cu,hus⟩:∃au Nu cu,u=.slice au Nu cu:=by
    obtain⟨au,cu,h⟩:=HU.out.slice;exact⟨au,_,cu,h⟩
   subst hus;go_wp2_with fail;refine(HPUT.out s x (.slice au Nu cu) wr HU.out.weak HK.out).mono ?_;rintro e w2 ⟨hb2,hp⟩;have HB2:=zh (HB.out.trans (hb2.mono HB.out.size));rcases hp with⟨hput,u2,hu2,rfl⟩|⟨hput,rfl⟩
   ·have HD2:Hid (dec n M ini zs=dec n M (putS n s x) (zs.drop (k+1))):=zh (by rw [HD.out,dec_go hput]);have HK2:=zh (HK.out.put hput);obtain⟨_,hx0,hx1⟩:=Zs6 hput;have hs2:=hb2.size
    obtain⟨au2,Nu2,cu2,rfl⟩:∃a N c,u2=.slice a N c:=by
     obtain⟨au,cu,h⟩:=hu2.slice;exact⟨au,_,cu,h⟩
    have HRE:Hid (RE w n M s (putS n s x) (.slice au Nu cu) (.slice au2 Nu2 cu2) w2.heap.size (putZ s x:Int) (putP n x) s.out v (w2.alloc (.cells (stc n M ((putS n s x).out.length:Int) (.slice au2 Nu2 cu2) (putS n s x).done (putZ s x:Int) (putP n x) 0) 172))):=zh ⟨
     (HR.out.below hb2).below ((Below.refl _ _).alloc (Nat.le_refl _) _),(hu2.lower (by omega)).alloc _,(HO.out.below hb2).alloc _,heap_alloc_new _ _,by omega,
     fun e=>by have:=(HO.out.lt _ e).2;omega,fun e=>by have:=(hu2.lt _ e).2;omega,fun j hj e=>by have h1:=(hu2.lt _ hj).1;have h2:=(HO.out.lt _ e).2;omega,HB2.out.alloc HB2.out.size _⟩
    have hout:(putS n s x).out=s.out++List.replicate (putZ s x) 0++(if 0<=putP n x then[putP n x] else[]):=by
     by_cases h2:x<2
     ·have hZ:putZ s x=0:=by unfold putZ;rw [if_pos h2]
      have hP:putP n x=-1:=by unfold putP;rw [if_pos (Or.inl h2)]
      rw [hZ,hP,putS_part h2];simp
     ·have hZ:putZ s x=val s.rc:=by unfold putZ;rw [if_neg h2]
      by_cases h3:x=n+1
      ·have hP:putP n x=-1:=by unfold putP;rw [if_pos (Or.inr h3)]
       rw [hZ,hP,putS_end h2 h3];simp
      ·have hP:putP n x=x-1:=by unfold putP;rw [if_neg (by omega)]
       rw [hZ,hP,putS_one h2 h3,if_pos (by omega)]
    have hpr:-1<=putP n x:=by unfold putP;split<;>omega
    have HOUT:=zh hout
    have hzl:putZ s x<=1000000:=by
     unfold putZ;split<;>omega
    have hsl:s.out.length<=1000000:=by omega
    clear hu2 hb2 hout HB2 HPUT d0 d1 d2 d3 d4 hput;generalize putS n s x=s2 at *;generalize putZ s x=Z at *;generalize putP n x=p at *;unfold stc;go_wp2_with fail
    go_loopw [9,49] (fun o i wr=>∃(j:Nat) (v:Value),j<=Z/\i=.int .i64 j/\v=o/\RE w n M s s2 (.slice au Nu cu) (.slice au2 Nu2 cu2) w2.heap.size (Z:Int) p (s.out++List.replicate j 0) v wr) (fun _ i _=>Z-(intOf i).toNat)
    case atStart=>exact⟨0,v,by omega,rfl,rfl,by rw [List.replicate_zero,List.append_nil];exact HRE.out⟩
    case round=>
     clear HRE;obtain⟨j,v,hj,rfl,rfl,hE⟩:=hrel;have hbw:=hE.2.2.2.2.2.2.2.2.size;have hlt:=hE.2.2.2.1.lt;have hS:=hE.2.2.2.2.1;have HE:=zh hE;clear hE;by_cases hjz:j<Z
     ·have hjI:(j:Int)<(Z:Int):=by omega
      have hln:(s.out++List.replicate j 0).length+1<=17592186044416:=by simp;omega
      go_wp2_with (at_builtin;go_loud (refine Zi8 wr rfl _ _ rfl (w.heap.size+1) _ (s.out++List.replicate j 0) 0 HE.out.2.2.1 rfl rfl hln (by omega) ?_));intro v3 w3 hO3 hB3 hK3 hV3
      have HE3:Hid (RE w n M s s2 (.slice au Nu cu) (.slice au2 Nu2 cu2) w2.heap.size (Z:Int) p (s.out++List.replicate (j+1) 0) v3 w3):=zh (by
       rw [List.replicate_succ',<-List.append_assoc];exact HE.out.push (by simpa only [List.append_assoc] using hO3) hB3 hK3 hV3)
      clear hO3 hB3 hK3 hV3;go_wp2_with fail;go_roundw
      case rel=>exact⟨j+1,v3,by omega,by go_num,rfl,HE3.out⟩
      case measure=>simp [intOf];omega
     ·obtain rfl:j=Z:=by omega
      obtain⟨d0,d1,d2,d3,d4,d5,d6,d7⟩:=HE.out.2.2.2.1.cells;by_cases hp:0<=p
      ·have hln:(s.out++List.replicate j 0).length+1<=17592186044416:=by simp;omega
       go_upto_region 19 with(at_builtin;go_loud (refine Zi8 wr rfl _ _ rfl (w.heap.size+1) _ (s.out++List.replicate j 0) p HE.out.2.2.1 rfl rfl hln (by omega) ?_))
       intro v3 w3 hO3 hB3 hK3 hV3;have HE3:=zh (HE.out.push (by simpa only [List.append_assoc] using hO3) hB3 hK3 hV3);clear hO3 hB3 hK3 hV3 d0 d1 d2 d3 d4 d5 d6 d7;obtain⟨d0,d1,d2,d3,d4,d5,d6,d7⟩:=HE3.out.2.2.2.1.cells;rw [if_pos hp] at HOUT;have HX:=zh HE3.out.1;have HF:=zh (HE3.out.fin HOUT.out HK2.out HD2.out);go_wp2_with (refine wpList_store_row rfl 170 _ _ rfl w.heap.size (rdc n M (s2.out.length:Int) (.slice au2 Nu2 cu2) s2.done) rfl rfl 170 _ HX.out ZcN rfl (ZkJ ..) ?_);go_roundw
       case rel=>exact⟨k+1,s2,_,v3,by omega,by go_num,rfl,HF.out⟩
       case measure=>simp [intOf];omega
      ·have hp1:p<0:=by omega
       rw [if_neg hp,List.append_nil] at HOUT;have HX:=zh HE.out.1;have HF:=zh (HE.out.fin HOUT.out HK2.out HD2.out);go_wp2_with (refine wpList_store_row rfl 170 _ _ rfl w.heap.size (rdc n M (s2.out.length:Int) (.slice au2 Nu2 cu2) s2.done) rfl rfl 170 _ HX.out ZcN rfl (ZkJ ..) ?_);go_roundw
       case rel=>exact⟨k+1,s2,_,v,by omega,by go_num,rfl,HF.out⟩
       case measure=>simp [intOf];omega
   ·have HE:Hid (dec n M ini zs=([],if putE n M s x=7 then 25 else putE n M s x)):=zh (by rw [HD.out,dec_stop hput]);obtain⟨E,hE⟩:∃E,putE n M s x=E:=⟨_,rfl⟩
    rw [hE] at HE hput;rw [hE];clear hb2 HPUT d0 d1 d2 d3 d4 hE;unfold stc;by_cases h7:E=7
    ·subst h7;rw [if_pos rfl] at HE;go_wp2_with fail;go_ret2;exact⟨_,[],25,rfl,IsInts.nil _,HB2.out.alloc HB2.out.size _,Or.inr ⟨HOK.out,HE.out.symm⟩⟩
    ·rw [if_neg h7] at HE;have h7b:((E:Int)==7)=false:=by rw [beq_eq_false_iff_ne];omega
     have h0b:((E:Int) != 0)=true:=by rw [bne_iff_ne];omega
     clear h7 hput;go_wp2_with fail
     go_quiet (fail)
     go_wp2_with fail;go_ret2;exact⟨_,[],E,rfl,IsInts.nil _,(HB2.out.alloc HB2.out.size _).trans ⟨rfl,rfl,rfl,Nat.le_refl _,fun _ _=>rfl⟩,Or.inr ⟨HOK.out,HE.out.symm⟩⟩
  ·obtain rfl:k=zs.length:=by omega
   rw [List.drop_length] at HD;by_cases hd:s.done=true
   ·have HE:Hid (dec n M ini zs=(s.out,0)):=zh (by rw [HD.out];simp only [dec];rw [if_pos hd]);rw [hd] at d4;go_wp2_with fail;go_ret2;exact⟨_,s.out,0,rfl,HO.out.ints,HB.out,Or.inr ⟨HOK.out,HE.out.symm⟩⟩
   ·have HE:Hid (dec n M ini zs=([],24)):=zh (by rw [HD.out];simp only [dec];rw [if_neg hd]);rw [show s.done=false by simpa using hd] at d4;go_wp2_with fail;go_ret2;exact⟨_,[],24,rfl,IsInts.nil _,HB.out,Or.inr ⟨HOK.out,HE.out.symm⟩⟩
end
end Go.Proofs.YtnachbjhhpnadaaGreatDoor

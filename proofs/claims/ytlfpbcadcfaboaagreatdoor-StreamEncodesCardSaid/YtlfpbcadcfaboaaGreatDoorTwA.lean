import Derived.Test.YtlfpbcadcfaboaaGreatDoorTcA
import Derived.Test.YtlfpbcadcfaboaaGreatDoorTcB
import Derived.Test.YtlfpbcadcfaboaaGreatDoorTcC
import Derived.Test.YtlfpbcadcfaboaaGreatDoorTcD
import Derived.Test.YtlfpbcadcfaboaaGreatDoorTcE
import Derived.Test.YtlfpbcadcfaboaaGreatDoorTcH
import Derived.Test.YtlfpbcadcfaboaaGreatDoorTcI
import Derived.Test.YtlfpbcadcfaboaaGreatDoorTcL
import Derived.Test.YtlfpbcadcfaboaaGreatDoorTcM
import Derived.Test.YtlfpbcadcfaboaaGreatDoorTcN
import Derived.Test.YtlfpbcadcfaboaaGreatDoorRows
import Derived.WalkKit
import Derived.WalkSpells
import Derived.WalkLawsBesides
import Derived.ProofKit
import Derived.OpenShut
import Derived.ShutString
import Derived.ChangeOld
import Derived.Below
import Derived.Lib.Hide
import Derived.BigQuiet
import Derived.SliceStrings
import Derived.Deep.RegionLaw
import Derived.Deep.QuietTactic
import Derived.Outline
import Derived.IntWalk
import Derived.Shelf.Abstract
import Derived.Laws.OwnMore
import Derived.Laws.AppendOwnNone
import Derived.StillTailTactics
import Derived.Lib.SmallJoins
import Derived.Deep.Slices
import Derived.Lib.BytesEntry
import Derived.Lib.IndexLaws
import Derived.Deep.RegionHeld3
set_option linter.unusedVariables false
set_option linter.unusedSimpArgs false
set_option maxHeartbeats 8000000
set_option maxRecDepth 100000
namespace Go.Proofs.YtlfpbcadcfaboaaGreatDoor
section
open Go.ChangeShapes Go.WideShapes Go.ChangeAt Go.RowKit
open Go.ChangeMaps (open_string shut_string)
namespace LawShell
theorem own:ownKnob Tryz.prog.godebug=none:=by kernel_rfl
theorem laidOut:laidOutB Tryz.prog=true:=by kernel_rfl
end LawShell
theorem Calls.beneath_same {P:Program} {f:FuncId} {args:Array Value} {B:Nat} {w:World} {v:Value} (s:Beneath B w)
  (h:Calls P f args s.val fun e w'=>e=.returned v/\s.val=w'):Calls P f args s.val fun e w''=>e=.returned v/\∃s':Beneath B w,w''=s'.val:=
 h.mono fun _ _ ⟨he,hb⟩=>⟨he,s,hb.symm⟩
end
section
namespace CrcM
open Go.RowKit
theorem ZdY (x:BitVec 32) (h:2147483648<=(x.toNat:Int)):bits BinOp.xor IntKind.u32 (((x.toNat:Int)-2147483648)*2) 79764919=((b1 x).toNat:Int):=by
 have hx:=x.isLt;have e:((x.toNat:Int)-(2147483648:Int))*(2:Int)=((x <<< 1).toNat:Int):=by rw [<-ZaG];omega
 have e2:(79764919:Int)=(poly.toNat:Int):=rfl;rw [e,e2,ZaY];unfold b1;rw [if_pos ((Zge x).2 (by omega))]
theorem ZdZ (x:BitVec 32) (h:(x.toNat:Int)<2147483648):(x.toNat:Int)*(2:Int)=((b1 x).toNat:Int):=by
 unfold b1;rw [if_neg (fun g=>by have:=(Zge x).1 g;omega)];simp only [BitVec.xor_zero];rw [<-ZaG];omega
theorem ZiJ (X:BitVec 32) (b:UInt8):bits BinOp.xor IntKind.u32 (X.toNat:Int) ((b.toNat:Int)*16777216)=((X ^^^ up b.toNat).toNat:Int):=by
 rw [Zh5 _ b.toNat_lt,ZaY]
theorem ZiK (x:BitVec 32):(4294967295:Int)-(x.toNat:Int)=((ng x).toNat:Int):=by
 have:=x.isLt;unfold ng;rw [BitVec.toNat_not];omega
end CrcM
end
section
open Go.RowKit CrcM
theorem Zbk (n:Int) (X:BitVec 32) (hX:n=(X.toNat:Int)) (w:World) :
  Calls Tryz.prog 81 #[.int .u32 n] w fun e w'=>e=.returned (.int .u32 ((it 8 X).toNat:Int))/\w=w':=by
 subst hX;go_enter Tryz.func81,Tryz.ntmps81;go_wp2
 go_loop [0,3] (fun v i=>∃(k:Nat),k<=8/\i=.int .i64 k/\v=.int .u32 ((it k X).toNat:Int)) (fun _ i=>8-(intOf i).toNat)
 case atStart=>exact⟨0,by omega,rfl,rfl⟩
 case round=>
  obtain⟨k,hk,rfl,rfl⟩:=hrel;obtain⟨hb0,hb1⟩:=bd32 (it k X);by_cases hlt:k<8
  ·by_cases hh:2147483648<=((it k X).toNat:Int)
   ·go_wp2
    go_round
    case rel=>exact⟨k+1,by omega,by go_num,by rw [ZdY _ hh];rfl⟩
    case measure=>simp [intOf];omega
   ·go_wp2
    go_round
    case rel=>exact⟨k+1,by omega,by go_num,by rw [ZdZ _ (by omega)];rfl⟩
    case measure=>simp [intOf];omega
  ·obtain rfl:k=8:=by omega
   go_wp2;go_ret;exact⟨rfl,rfl⟩
theorem Zcn (X:BitVec 32) (b:UInt8) (w:World) :
  Calls Tryz.prog 52 #[.int .u32 (X.toNat:Int),.int .u8 (b.toNat:Int)] w fun e w'=>e=.returned (.int .u32 ((nx X b).toNat:Int))/\w=w':=by
 have hb:(b.toNat:Int)<256:=by have:=b.toNat_lt;omega
 go_enter Tryz.func52,Tryz.ntmps52;go_wp2_with fail;refine(Zbk _ (X ^^^ up b.toNat) (ZiJ X b) _).mono ?_;rintro e w' ⟨rfl,rfl⟩;go_wp2_with fail;go_ret;exact⟨rfl,rfl⟩
theorem ZcW (s:ByteArray) (w:World) (hs:s.size<=maxLen) :
  Calls Tryz.prog 28 #[.string s] w fun e w'=>e=.returned (.int .u32 ((crc s.data.toList).toNat:Int))/\w=w':=by
 unfold maxLen at hs;go_enter Tryz.func28,Tryz.ntmps28;go_wp2_with fail
 go_loop [3,4] (fun v i=>∃k:Nat,k<=s.size/\i=.int .i64 k/\v=.int .u32 ((run (ng 0#32) (s.data.toList.take k)).toNat:Int)) (fun _ i=>s.size-(intOf i).toNat)
 case atStart=>exact⟨0,by omega,rfl,rfl⟩
 case round=>
  obtain⟨k,hk,rfl,rfl⟩:=hrel;obtain⟨hb0,hb1⟩:=bd32 (run (ng 0#32) (s.data.toList.take k));by_cases hlt:k<s.size
  ·have hsn:=zh (Zfr s k hlt);go_wp2_with fail;refine(Zcn (run (ng 0#32) (s.data.toList.take k)) s[k] w).mono ?_;rintro e w' ⟨rfl,rfl⟩;go_wp2_with fail
   go_round
   case rel=>exact⟨k+1,by omega,by go_num,by rw [hsn.out,ZgS]⟩
   case measure=>simp [intOf];omega
  ·obtain rfl:k=s.size:=by omega
   go_wp2_with fail;go_ret;rw [List.take_of_length_le (by simp)];rw [ZiK];exact⟨rfl,rfl⟩
theorem ZiL (x:BitVec 32) (h:2147483648<=(x.toNat:Int)):(x.toNat:Int)*2 % 4294967296+1=((rot x).toNat:Int):=by
 have hx:=x.isLt;rw [<-ZbD,show(x.toNat:Int) / (2147483648:Int)=((1:Nat):Int) by omega,ZaG,u32_or_nat _ _ (x <<< 1).isLt (by omega),nat_join 1 _ 1 (by rw [BitVec.toNat_shiftLeft,Nat.shiftLeft_eq];omega) (by omega)];rfl
theorem ZiM (x:BitVec 32) (h:(x.toNat:Int)<2147483648):(x.toNat:Int)*2=((rot x).toNat:Int):=by
 rw [<-ZbD,show(x.toNat:Int) / (2147483648:Int)=((0:Nat):Int) by omega,ZaG,u32_or_nat _ _ (x <<< 1).isLt (by omega),Nat.or_zero,<-ZaG];omega
theorem Zbl (X Y:BitVec 32) (w:World) :
  Calls Tryz.prog 85 #[.int .u32 (X.toNat:Int),.int .u32 (Y.toNat:Int)] w fun e w'=>e=.returned (.int .u32 ((cmb X Y).toNat:Int))/\w=w':=by
 obtain⟨hb0,hb1⟩:=bd32 X;by_cases h:2147483648<=(X.toNat:Int)
 ·have ho:=zh (ZiL X h);have hz:0<=(X.toNat:Int)*2 % 4294967296/\(X.toNat:Int)*2 % 4294967296<=4294967294:=by omega
  obtain⟨z0,z1⟩:=hz;go_enter Tryz.func85,Tryz.ntmps85;go_wp2;go_ret;rw [ho.out,ZaY];exact⟨rfl,rfl⟩
 ·have ho:=zh (ZiM X (by omega));go_enter Tryz.func85,Tryz.ntmps85;go_wp2;go_ret;rw [ho.out,ZaY];exact⟨rfl,rfl⟩
end
section
namespace RleM
theorem Zk9 (l:List UInt8):row l<=l.length:=by
 cases l with
 | nil=>exact Nat.le_refl _
 | cons c l=>have:=Zh7 c (c::l);rw [Zh8];omega
theorem ZcI:∀ps:List Pc,Good ps->4*(pack ps).length<=5*(flat ps).length
 | [],_=>by simp [pack,flat]
 | p::ps,h=>by
  have ih:=ZcI ps h.2.2.2;have hl:=ZcF p;rw [Zft,ZaR,List.length_append,List.length_append,List.length_replicate,hl];split<;>omega
end RleM
end
section
open RleM
namespace SplM
theorem ZeJ:∀{ps qs:List Pc},RleM.Good (ps++qs)->RleM.Good qs:=by
 intro ps
 induction ps with
 | nil=>intro qs h;exact h
 | cons p r ih=>
  intro qs h;refine ih (qs:=qs) ?_;simp only [List.cons_append] at h;unfold RleM.Good at h;exact h.2.2.2
theorem Zhk:∀{bs:List (List Pc)} {b:List Pc},RleM.Good bs.flatten->b∈bs->RleM.Good b:=by
 intro bs
 induction bs with
 | nil=>intro b h hb;cases hb
 | cons x xs ih=>
  intro b h hb;rw [List.flatten_cons] at h;rcases List.mem_cons.1 hb with rfl|hb
  ·exact ZbQ h
  ·exact ih (ZeJ h) hb
theorem ZbA:∀bs:List (List Pc),flat bs.flatten=(bs.map flat).flatten
 | []=>rfl
 | b::bs=>by
  rw [List.flatten_cons,ZaH,ZbA bs];rfl
theorem Zdu (room:Nat) (hr:5<=room) (l:List UInt8):((blks room l).map flat).flatten=l:=by
 rw [<-ZbA];unfold blks;rw [Zce (rightS room hr (pieces l)),ZaK]
theorem ZfQ (room:Nat) (hr:5<=room) (l:List UInt8) {b:List Pc} (h:b∈blks room l):RleM.Good b:=by
 refine Zhk (bs:=blks room l) ?_ h;unfold blks;rw [Zce (rightS room hr (pieces l))];exact good l
end SplM
end
section
open Go.RowKit
theorem Za3 (w:World) (x:UInt8) (X:Int) (hX:X=(x.toNat:Int)):(convert 73 9 (.slice (some ⟨w.heap.size,0,none⟩) 1 1)).run Tryz.prog (w.alloc (.cells #[.int .u8 X] 5))=.ok (.string ⟨#[x]⟩) (w.alloc (.cells #[.int .u8 X] 5)):=by
 subst hX;refine Zew _ w.heap.size 1 [x] 1 rfl (fun j y hj=>?_);rw [cell_of_row _ _ _ _ _ _ (heap_alloc_new w _)];have:j<1:=(List.getElem?_eq_some_iff.1 hj).1;obtain rfl:j=0:=by omega
 have e:x=y:=by simpa using hj
 subst e;rfl
theorem ZgA (s:ByteArray):s=⟨s.data.toList.toArray⟩:=by cases s;simp
end
section
open Go.RowKit RleM
theorem Zdv {s:ByteArray} (h0:0<s.size):∃c l,s.data.toList=c::l:=by
 cases h:s.data.toList with
 | nil=>
  have h1:s.data.toList.length=0:=by rw [h];rfl
  have h2:s.size=0:=h1;omega
 | cons c l=>exact⟨c,l,rfl⟩
theorem ZeK (s:ByteArray) (w:World) (h0:0<s.size) (hs:s.size<=maxLen):Calls Tryz.prog 82 #[.string s] w fun e w'=>e=.returned (.int .i64 (row s.data.toList:Int))/\∃n,w'=w.drewN n:=by
 unfold maxLen at hs;obtain⟨c,l,hL⟩:=Zdv h0;have hc:s[0]=c:=by have:=Ztz hL h0;simpa using this.symm
 have HZ:Hid (s.size=(c::l).length):=zh (by rw [<-hL];rfl);have HL:=zh hL;have HC:=zh hc;clear hL hc;go_enter Tryz.func82,Tryz.ntmps82;go_wp2_with fail
 go_loopw [3] (fun n wr=>∃k m:Nat,k<=s.size/\k<=255/\Hid (∀j,j<k->(c::l)[j]?=some c)/\n=.int .i64 k/\wr=w.drewN m) (fun n _=>255-(intOf n).toNat)
 case atStart=>exact⟨0,0,by omega,by omega,zh (fun j hj=>by omega),rfl,rfl⟩
 case round=>
  obtain⟨k,m,hk,hk2,hall,rfl,rfl⟩:=hrel;by_cases hks:k<s.size
  ·by_cases h255:(k:Int)<255
   ·have hk0:(0:Int)<=(k:Int):=by omega
    by_cases he:s[k]=s[0]
    ·have hb:=ZjO he;have HE:=zh he;clear he;go_wp2_with fail
     go_quiet (fail)
     go_wp2_with fail;go_roundw
     case rel=>exact⟨k+1,_,by omega,by omega,zh (fun j hj=>by
      rcases Nat.lt_or_ge j k with h|h
      ·exact hall.out j h
      ·obtain rfl:j=k:=by omega
       rw [Ztz HL.out hks,HE.out,HC.out]),by go_num,rfl⟩
     case measure=>simp [intOf];omega
    ·have hb:=Zia he;have HE:=zh he;clear he;go_wp2_with fail
     go_quiet (fail)
     go_wp2_with fail;go_ret;refine⟨ZaP ?_,_,World.drewN_drewN ..⟩;rw [HL.out,Zgf c l k (by omega) hall.out (Or.inr (Or.inr ⟨s[k],Ztz HL.out hks,by rw [<-HC.out];exact HE.out⟩))]
   ·have hd:decide ((k:Int)<255)=false:=by simp only [decide_eq_false_iff_not];exact h255
    go_wp2_with fail
    go_quiet (fail)
    go_wp2_with fail;go_ret;refine⟨ZaP ?_,_,World.drewN_drewN ..⟩;rw [HL.out,Zgf c l k (by omega) hall.out (Or.inl (by omega))]
  ·have hd:decide ((k:Int)<(s.size:Int))=false:=by simp only [decide_eq_false_iff_not];omega
   have hd2:decide (k<s.size)=false:=by simp only [decide_eq_false_iff_not];omega
   go_wp2_with fail
   go_quiet (fail)
   go_wp2_with fail;go_ret;refine⟨ZaP ?_,_,World.drewN_drewN ..⟩;rw [HL.out,Zgf c l k (by omega) hall.out (Or.inr (Or.inl (by have:=HZ.out;omega)))]
def pcCells (p:Pc):List Value:=[.int .u8 (p.1.toNat:Int),.int .i64 (p.2:Int)]
def vsize:Value->Nat
 | .string t=>t.size
 | _=>0
theorem Zhl (t:ByteArray) (n:Nat):(t.extract n t.size).data.toList=t.data.toList.drop n:=by
 have e:t.size=t.data.toList.length:=rfl;rw [ByteArray.data_extract,e];simp only [Array.toList_extract,List.extract_eq_take_drop];rw [List.take_of_length_le (by simp)]
theorem ZfR:(Tryz.prog.info? 93).map (fun i=>(i.zero,i.size,i.bytes))=some (some (.agg #[.int .u8 0,.int .i64 0]),2,16):=by kernel_rfl
theorem ZbB (l:List UInt8):(pieces l).length<=l.length:=by
 have h:∀ps:List Pc,RleM.Good ps->ps.length<=(flat ps).length:=by
  intro ps
  induction ps with
  | nil=>intro _;exact Nat.le_refl _
  | cons p ps ih=>
   intro h;have h1:=ih h.2.2.2;have h2:=h.1;rw [ZaR,List.length_append,List.length_replicate,List.length_cons];omega
 have:=h _ (good l)
 rwa [ZaK] at this
end
section
open Go.RowKit
theorem ZaF {ops:Array Oper} {rest:List Oper} {o:Oper} {a:Act} {Q:Exit->Act->World->Prop} (W:World) (hgd:o.guard=none) (s x:Operand)
  (ho:o.op=.call { callee:=.builtin .append,args:=#[s,x],argTypes:=#[106,106] })
  (base:Nat) (v:Value) (zs:List Int) (base2:Nat) (u:Value) (ys:List Int) (hown:OwnI W base v zs) (hsrc:OwnI W base2 u ys) (hs:a.eval s=v) (hx:a.eval x=u)
  (hlen:zs.length+ys.length<=17592186044416) (hb:base<=W.heap.size)
  (h:∀v' w',OwnI w' base v' (zs++ys)->Below base W w'->wpList Tryz.prog ops Q rest (a.put o.dst v') w') :
  wpList Tryz.prog ops Q (o::rest) a W:=by
 obtain⟨i0,hi,hz0,hz1,hz2⟩:=info_parts Zdn;rcases hsrc.2 with⟨rfl,h0⟩|⟨g,cap,cur,rfl,_,hg,hnc,_,_,htake⟩
 ·obtain rfl:ys=[]:=List.eq_nil_of_length_eq_zero h0;refine wpList_append_own_none hgd s x 106 ho base 3 i0 1 Tryz.underlying106 hi v zs.length (zs.map iv64) hs hown hx ?_;have:=h v W;rw [List.append_nil] at this;exact this hown (Below.refl _ _)
 ·refine wpList_append_own _ hgd s x 106 ho base 3 i0 (.int .i64 0) 1 8 Tryz.underlying106 hi hz0 hz1 hz2 rfl (by decide) v zs.length (zs.map iv64) hs hown ⟨g,0,none⟩ ys.length cap (ys.map iv64) hx (by simp) ?_ ?_ ?_ ?_ ?_ ?_
  ·exact World.ownsRow.cells hsrc rfl
  ·intro u hu;obtain⟨y,_,rfl⟩:=List.mem_map.1 hu;rfl
  ·unfold maxLen;omega
  ·omega
  ·exact hb
  ·intro v' w' hown' hgr _;refine h v' w' ?_ (Below.grown (Below.refl base W) hgr hb (fun j hj=>(World.ownsRow.lt hown j hj).1));unfold OwnI;rw [List.length_append,List.map_append];exact hown'
end
section
open Go.RowKit RleM
theorem ZcX (s:ByteArray) (w:World) (hs:s.size<=549755813888) :
  Calls Tryz.prog 53 #[.string s] w fun e w'=>∃v,e=.returned v/\w'.ownsRow w.heap.size 93 2 v (pieces s.data.toList).length ((pieces s.data.toList).flatMap pcCells)/\Below w.heap.size w w':=by
 obtain⟨i0,hi,hz0,hz1,hz2⟩:=info_parts ZfR;have HI:=zh hi;have HZ0:=zh hz0;have HZ1:=zh hz1;have HZ2:=zh hz2;have HCnt:=zh (ZbB s.data.toList);have HZ:=zh (show s.data.toList.length=s.size from rfl);clear hi hz0 hz1 hz2;go_enter Tryz.func53,Tryz.ntmps53;go_wp2_with fail
 go_loopw [0,3,4] (fun t v _ wr=>∃(u:ByteArray) (ps:List Pc),t=.string u/\u.size<=s.size/\Hid (pieces s.data.toList=ps++pieces u.data.toList)/\Hid (wr.ownsRow w.heap.size 93 2 v ps.length (ps.flatMap pcCells))/\Hid (Below w.heap.size w wr)) (fun t _ _ _=>vsize t)
 case atStart=>exact⟨s,[],rfl,Nat.le_refl _,zh rfl,zh (World.ownsRow_nil _ _ _ _),zh (Below.refl _ _)⟩
 case round=>
  obtain⟨u,ps,rfl,hu,hps,hO,hB⟩:=hrel;by_cases h0:0<u.size
  ·obtain⟨c,l,hL⟩:=Zdv h0;have hc:u[0]=c:=by have:=Ztz hL h0;simpa using this.symm
   have HL:=zh hL;have HC:=zh hc;have hr1:1<=row u.data.toList:=by rw [hL];exact Zgq c l
   have hr2:row u.data.toList<=u.size:=Zk9 _;have hr3:row u.data.toList<=255:=ZjL _;have hpn:ps.length<=s.size:=by have h1:=HCnt.out;have h2:=HZ.out;rw [hps.out,List.length_append] at h1;omega
   have hbs:=hB.out.size;clear hL hc;go_wp2_with fail;refine(ZeK u wr h0 (by unfold maxLen;omega)).mono ?_;rintro e w' ⟨rfl,m,rfl⟩;generalize hR:row u.data.toList=R at *;have HR:=zh hR;have HOm:=zh (show(wr.drewN m).ownsRow w.heap.size 93 2 _ ps.length (ps.flatMap pcCells) from hO.out);have HBm:=zh (hB.out.trans (show Below w.heap.size wr (wr.drewN m) from⟨rfl,rfl,rfl,Nat.le_refl _,fun _ _=>rfl⟩));clear hR hO hB;go_wp2_with (at_builtin;refine wpList_append_own _ rfl _ _ 90 rfl w.heap.size 93 i0 (.agg #[.int .u8 0,.int .i64 0]) 2 16 Tryz.underlying90 HI.out HZ0.out HZ1.out HZ2.out rfl (by decide) _ _ _ rfl (HOm.out.alloc _) ⟨wr.heap.size,0,none⟩ 1 1 [.int .u8 (u[0].toNat:Int),.int .i64 (R:Int)] rfl rfl ?c1 ?c2 ?c3 ?c4 ?c5 ?_)
   case c1=>exact ZaB _ _ _ _ rfl
   case c2=>intro x hx;simp at hx;rcases hx with rfl|rfl<;>rfl
   case c3=>unfold maxLen;omega
   case c4=>omega
   case c5=>simp;omega
   intro v' w1 hown' hgrow _;obtain⟨a',c',rfl⟩:=Zao hown';have HO1:=zh hown';have HB1:=zh (Below.grown (HBm.out.alloc (by simp;omega) _) hgrow (by simp;omega) (fun j hj=>(HOm.out.lt j hj).1));clear hown' hgrow;go_wp2_with fail;go_roundw
   case rel=>
    refine⟨_,ps++[(u[0],R)],rfl,by simp [ByteArray.size_extract];omega,zh (by rw [hps.out,Zhl,HL.out,Zc5,<-HL.out,HR.out,HC.out];simp),zh ?_,HB1⟩;have h:=HO1.out;have e:(ps++[(u[0],R)]).flatMap pcCells=ps.flatMap pcCells++[.int .u8 (u[0].toNat:Int),.int .i64 (R:Int)]:=by simp [pcCells]
    rw [e,List.length_append];exact h
   case measure=>simp [vsize,ByteArray.size_extract];omega
  ·have hz:u.size=0:=by omega
   have hnil:u.data.toList=[]:=List.eq_nil_of_length_eq_zero hz;have HN:=zh hnil;obtain⟨a',c',hv⟩:=Zao hO.out;clear hz hnil;go_wp2_with fail;go_ret;rw [hps.out,HN.out,ZfZ,List.append_nil];exact⟨_,rfl,hO.out,hB.out⟩
theorem Zbs:∀(ps:List Pc) (k:Nat) (p:Pc),ps[k]?=some p->(ps.flatMap pcCells)[k*2]?=some (.int .u8 (p.1.toNat:Int))/\(ps.flatMap pcCells)[k*2+1]?=some (.int .i64 (p.2:Int))
 | [],k,p,h=>by simp at h
 | q::ps,0,p,h=>by
  have:q=p:=by simpa using h
  subst this;exact⟨rfl,rfl⟩
 | q::ps,k+1,p,h=>by
  have ih:=Zbs ps k p (by simpa using h);rw [List.flatMap_cons];have e:(pcCells q).length=2:=rfl;rw [List.getElem?_append_right (by rw [e];omega),List.getElem?_append_right (by rw [e];omega),e];rw [show(k+1)*2-2=k*2 from by omega,show(k+1)*2+1-2=k*2+1 from by omega];exact ih
theorem ZeL {w:World} {B:Nat} {v:Value} {ps:List Pc} (h:w.ownsRow B 93 2 v ps.length (ps.flatMap pcCells)):IsPcs w B v ps:=by
 have hc:=h;rcases h.2 with⟨rfl,h0⟩|⟨g,cap,cur,rfl,hB,hg,hr⟩
 ·refine⟨none,0,by rw [h0],fun k p hk=>?_⟩;have:=(List.getElem?_eq_some_iff.1 hk).1;omega
 ·refine⟨_,cap,rfl,fun k p hk=>⟨g,rfl,hB,(Array.getElem?_eq_some_iff.1 hg).1,?_,?_⟩⟩
  ·have:=hc.cells (g:=g) rfl (k*2) _ (Zbs ps k p hk).1
   rwa [Addr.add_lit,Nat.zero_add] at this
  ·have:=hc.cells (g:=g) rfl (k*2+1) _ (Zbs ps k p hk).2
   rwa [Addr.add_lit,Nat.zero_add] at this
theorem Zdw (p:Pc) (w:World) (h2:p.2<=255) :
  Calls Tryz.prog 54 #[pcv p] w fun e w'=>e=.returned (.string ⟨(packP p).toArray⟩)/\Below w.heap.size w w':=by
 obtain⟨c,n⟩:=p;simp only at h2;unfold pcv;simp only;go_enter Tryz.func54,Tryz.ntmps54;go_wp2_with fail
 go_loopw [3,4,7] (fun t _ i wr=>∃k:Nat,k<=n/\i=.int .i64 k/\t=.string ⟨(List.replicate (min k 4) c).toArray⟩/\Hid (wr.heap[w.heap.size]?=some (.cells #[.int .u8 (c.toNat:Int),.int .i64 (n:Int)] 93 (0,0)))/\Hid (Below w.heap.size w wr)) (fun _ _ i _=>n-(intOf i).toNat)
 case atStart=>exact⟨0,by omega,rfl,rfl,zh (heap_alloc_new _ _),zh ((Below.refl _ _).alloc (Nat.le_refl _) _)⟩
 case round=>
  obtain⟨k,hk,rfl,rfl,hK,hB⟩:=hrel;have a0:wr.cell? ⟨w.heap.size,0,none⟩=some (.int .u8 (c.toNat:Int)):=by rw [cell_of_row _ _ _ _ _ _ hK.out];rfl
  have a1:wr.cell? ⟨w.heap.size,1,none⟩=some (.int .i64 (n:Int)):=by rw [cell_of_row _ _ _ _ _ _ hK.out];rfl
  have hlt0:=(Array.getElem?_eq_some_iff.1 hK.out).1;have hbs:=hB.out.size;by_cases hlt:k<n
  ·by_cases h4:(k:Int)<4
   ·have hcv:=Za3 wr c _ rfl
    have hsz:(⟨(List.replicate (min k 4) c).toArray⟩:ByteArray).size+(⟨#[c]⟩:ByteArray).size<=100:=by
     rw [Zaj,List.length_replicate];show _+1<=_;omega
    have HR:=zh (show List.replicate (min k 4) c++[c]=List.replicate (min (k+1) 4) c by
     rw [show min k 4=k from by omega,show min (k+1) 4=k+1 from by omega,List.replicate_succ'])
    generalize List.replicate (min k 4) c=R at *;go_wp2_with fail;go_roundw
    case rel=>exact⟨k+1,by omega,by go_num,by rw [<-HR.out,<-Zaw],zh ((Below.heap_alloc _ _ _ hlt0).trans hK.out),zh (hB.out.alloc hbs _)⟩
    case measure=>simp [intOf];omega
   ·have HR:=zh (show List.replicate (min k 4) c=List.replicate (min (k+1) 4) c by
     rw [show min k 4=4 from by omega,show min (k+1) 4=4 from by omega])
    generalize List.replicate (min k 4) c=R at *;go_wp2_with fail;go_roundw
    case rel=>exact⟨k+1,by omega,by go_num,by rw [<-HR.out],hK,hB⟩
    case measure=>simp [intOf];omega
  ·obtain rfl:k=n:=by omega
   by_cases h4:(4:Int)<=(k:Int)
   ·have hx:((k:Int)-4)=((UInt8.ofNat (k-4)).toNat:Int):=by rw [UInt8.toNat_ofNat'];omega
    have hcv:=Za3 wr (UInt8.ofNat (k-4)) ((k:Int)-4) hx
    have HP:=zh (show packP (c,k)=List.replicate (min k 4) c++[UInt8.ofNat (k-4)] by
     unfold packP;rw [if_neg (by simp;omega),show min k 4=4 from by omega])
    have hsz:(⟨(List.replicate (min k 4) c).toArray⟩:ByteArray).size+(⟨#[UInt8.ofNat (k-4)]⟩:ByteArray).size<=100:=by
     rw [Zaj,List.length_replicate];show _+1<=_;omega
    clear hx;generalize List.replicate (min k 4) c=R at *;go_wp2_with fail;go_ret;exact⟨by rw [HP.out,<-Zaw];rfl,hB.out.alloc hbs _⟩
   ·have HP:=zh (show packP (c,k)=List.replicate (min k 4) c by
     unfold packP;rw [if_pos (by simp;omega),show min k 4=k from by omega])
    generalize List.replicate (min k 4) c=R at *;go_wp2_with fail;go_ret;exact⟨by rw [HP.out];rfl,hB.out⟩
end
section
open Go.RowKit RleM SplM
theorem ZbC (ps:List Pc) (k:Nat):(flat (ps.take k)).length<=(flat ps).length:=by
 conv=>rhs;rw [<-List.take_append_drop k ps]
 rw [ZaH,List.length_append];omega
end
section
namespace Opn
open Go.ChangeShapes Go.WideShapes Go.ChangeAt Go.RowKit Go.Deep
section
variable (P : Program)
def joined (f:TypeId->Option (List Kd)):Nat->List (Nat×TypeId)->Option (List Kd)
 | _,[]=>some []
 | at_,(o,t)::rest=>
  match f t,joined f (at_+P.cellsOf t) rest with
  | some l,some r=>if o=at_/\l.length=P.cellsOf t then some (l++r) else none
  | _,_=>none
def whole (t:TypeId):Option (List Kd)->Option (List Kd)
 | some l=>if l.length=P.cellsOf t then some l else none
 | none=>none
def kinds:Nat->TypeId->Option (List Kd)
 | 0,_=>none
 | n+1,t=>
  match P.underlying t with
  | some (.int k)=>some [.int k]
  | some .bool=>some [.bool]
  | some .string=>some [.str]
  | some (.slice e)=>some [.sl e]
  | some (.struct fs)=>whole P t (joined P (kinds n) 0 (fs.toList.map fun f=>(f.offset,f.type)))
  | some (.array m e)=>whole P t (joined P (kinds n) 0 ((List.range m).map fun i=>(i*P.cellsOf e,e)))
  | _=>none
end
theorem ZtD {P:Program} {t:TypeId} {o:Option (List Kd)} {ks:List Kd} (h:whole P t o=some ks):o=some ks/\ks.length=P.cellsOf t:=by
 cases o with
 | none=>cases h
 | some l=>
  unfold whole at h;split at h
  ·rename_i l' e;cases e;split at h
   ·rename_i hl;cases h;exact⟨rfl,hl⟩
   ·cases h
  ·cases h
section
variable {H : Type} {enc : TypeId × Value -> H} {P : Program} {w : World} {spare : Nat -> Bool}
theorem ZtC {n:Nat} (ih:∀t ks cs x,kinds P n t=some ks->(∃m,DataW.trod enc P w 0 spare true m t cs=some x)->AllOk enc P w spare ks cs) :
  ∀(ps:List (Nat×TypeId)) (at_:Nat) (ks:List Kd) (cs:List Value),joined P (kinds P n) at_ ps=some ks->(∀p∈ps,∃m x,DataW.trod enc P w 0 spare true m p.2 ((cs.drop p.1).take (P.cellsOf p.2))=some x) ->
   cs.length=at_+ks.length->AllOk enc P w spare ks (cs.drop at_)
 | [],at_,ks,cs,h,_,hl=>by
  obtain rfl:ks=[]:=by simpa [joined] using h.symm
  rw [List.drop_of_length_le (by simpa using Nat.le_of_eq hl)]
  trivial
 | (o,t)::rest,at_,ks,cs,h,hp,hl=>by
  unfold joined at h;split at h
  ·rename_i l r hf hr;split at h
   ·rename_i hc;obtain⟨rfl,hlen⟩:=hc;obtain rfl:l++r=ks:=by simpa using h
    obtain⟨m,x,hx⟩:=hp (o,t) (by simp);have h1:=ih t l _ x hf ⟨m,hx⟩;have h2:=ZtC ih rest (o+P.cellsOf t) r cs hr (fun p hp'=>hp p (List.mem_cons_of_mem _ hp')) (by simp at hl;omega)
    have:cs.drop o=(cs.drop o).take (P.cellsOf t)++cs.drop (o+P.cellsOf t):=by
     rw [<-List.drop_drop];exact(List.take_append_drop _ _).symm
    rw [this];exact h1.append h2
   ·cases h
  ·cases h
theorem ZtB:∀(n:Nat) (t:TypeId) (ks:List Kd) (cs:List Value) (x:DataW H×List MemPlace),kinds P n t=some ks->(∃m,DataW.trod enc P w 0 spare true m t cs=some x)->AllOk enc P w spare ks cs
 | 0,_,_,_,_,h,_=>by simp [kinds] at h
 | n+1,t,ks,cs,x,h,⟨m,hx⟩=>by
  unfold kinds at h;split at h
  ·rename_i k hu;obtain rfl:[Kd.int k]=ks:=by simpa using h
   obtain⟨q,rfl,_,hw⟩:=DataW.trod_int hu hx;exact⟨⟨q,rfl,hw⟩,trivial⟩
  ·rename_i hu;obtain rfl:[Kd.bool]=ks:=by simpa using h
   obtain⟨b,rfl,_⟩:=DataW.trod_bool hu hx;exact⟨⟨b,rfl⟩,trivial⟩
  ·rename_i hu;obtain rfl:[Kd.str]=ks:=by simpa using h
   obtain⟨s,rfl,_,hs⟩:=DataW.trod_string hu hx;exact⟨⟨s,rfl,hs⟩,trivial⟩
  ·rename_i e hu;obtain rfl:[Kd.sl e]=ks:=by simpa using h
   rcases open_slice hu hx with⟨rfl,_⟩|⟨a,len,cap,mm,q,D,Pl,rfl,_,hl,hm,hmm,_,hi⟩
   ·exact⟨Or.inl rfl,trivial⟩
   ·refine⟨Or.inr ⟨a,len,cap,q,rfl,hl,hm,fun i hi'=>?_⟩,trivial⟩;obtain⟨cs',h1,h2⟩:=hi i (by rw [hmm];split<;>omega);exact⟨cs',_,h1,h2⟩
  ·rename_i fs hu;obtain⟨xs,q,_,_,hl,hxs,hf⟩:=DataW.trod_struct hu hx;obtain⟨h,hlen⟩:=ZtD h
   have:=ZtC (cs:=cs) (ZtB n) (fs.toList.map fun f=>(f.offset,f.type)) 0 ks h (fun p hp=>by
    obtain⟨f,hfm,rfl⟩:=List.mem_map.1 hp;obtain⟨i,hi,hfi⟩:=List.getElem_of_mem hfm
    have hfi':fs[i]?=some f:=by
     rw [<-hfi,Array.getElem_toList];exact Array.getElem?_eq_getElem (by simpa using hi)
    have:=hf i f hfi';have hi2:i<xs.length:=by rw [hxs];simpa using hi
    rw [List.getElem?_eq_getElem hi2] at this;exact⟨q,_,this⟩)
   simpa using this (by rw [hl,hlen,Nat.zero_add])
  ·rename_i m' e hu;obtain⟨xs,q,_,_,hl,hxs,hf⟩:=DataW.trod_array hu hx;obtain⟨h,hlen⟩:=ZtD h
   have:=ZtC (cs:=cs) (ZtB n) ((List.range m').map fun i=>(i*P.cellsOf e,e)) 0 ks h (fun p hp=>by
    obtain⟨i,hi,rfl⟩:=List.mem_map.1 hp;have hi':i<m':=List.mem_range.1 hi;have:=hf i hi';rw [List.getElem?_eq_getElem (by omega)] at this;exact⟨q,_,this⟩)
   simpa using this (by rw [hl,hlen,Nat.zero_add])
  ·cases h
theorem ZtF {W:World} {base:Nat} {t:TypeId} {v:Value} {d:DataW H} {p:List MemPlace} (n:Nat) (ks:List Kd) (hk:kinds P n t=some ks) (hu:(match P.underlying t with|some (.struct _)|some (.array _ _)=>true|_=>false)=true)
  (hv:Value.okWide P W .any base t v) (h:DataW.Trod enc P W 0 (fun _=>true) true t v d p):∃cs:Array Value,v=.agg cs/\AllOk enc P W (fun _=>true) ks cs.toList:=by
 obtain⟨fuel,hf⟩:=h;unfold Value.okWide at hv;split at hv
 ·obtain⟨cs,rfl,_,_⟩:=hv;exact⟨cs,rfl,ZtB n t ks _ _ hk ⟨fuel,hf⟩⟩
 ·obtain⟨cs,rfl,_,_⟩:=hv;exact⟨cs,rfl,ZtB n t ks _ _ hk ⟨fuel,hf⟩⟩
 ·rename_i h1 h2;split at hu<;>simp_all
theorem open_pair {W:World} {base:Nat} {t:TypeId} {v:Value} {d:DataW H} {p:List MemPlace} {k:IntKind} (hk:kinds P 2 t=some [.int k,.int k]) (hu:(match P.underlying t with|some (.struct _)|some (.array _ _)=>true|_=>false)=true)
  (hv:Value.okWide P W .any base t v) (h:DataW.Trod enc P W 0 (fun _=>true) true t v d p):∃q0 q1,v=.agg #[.int k q0,.int k q1]/\((Lit.int k q0).wf=true/\(Lit.int k q1).wf=true):=by
 obtain⟨cs,rfl,hall⟩:=ZtF 2 _ hk hu hv h;clear h hv;have e:cs=cs.toList.toArray:=by simp
 rw [e];clear e
 revert hall
 generalize cs.toList=l;intro hall
 match l,hall with
 | [_,_],⟨⟨q0,e0,h0⟩,⟨q1,e1,h1⟩,_⟩=>exact⟨q0,q1,by rw [e0,e1],h0,h1⟩
end
end Opn
end
section
open Go.RowKit BitM
def chr (b:Bool):UInt8:=if b then 49 else 48
def txt (q:List Bool):ByteArray:=⟨(q.map chr).toArray⟩
theorem Zac (q:List Bool):(txt q).size=q.length:=by show(q.map chr).toArray.size=_;simp
theorem Zab (p q:List Bool):txt p++txt q=txt (p++q):=by
 apply ByteArray.ext;simp [txt]
theorem Zdd (X k:Nat):field X (k+1)=(X / 2^k % 2==1)::field X k:=by
 apply ZcO
 ·simp [Zaa]
 ·have e:num ((X / 2^k % 2==1)::field X k)=bn (X / 2^k % 2==1)*2^(field X k).length+num (field X k):=ZaZ [X / 2^k % 2==1] (field X k) |>.trans (by rw [show num [X / 2^k % 2==1]=bn (X / 2^k % 2==1) from Nat.zero_add _])
  have hb:bn (X / 2^k % 2==1)=X / 2^k % 2:=by
   have:X / 2^k % 2=0\/X / 2^k % 2=1:=by omega
   rcases this with h|h<;>simp [h,bn]
  rw [e,hb,Zaa,Zax,Zax,Nat.pow_succ,Nat.mod_mul,Nat.mul_comm,Nat.add_comm]
theorem ZgB (v:Nat):(⟨#[48,49]⟩:ByteArray).extract (v % 2) (v % 2+1)=txt [v % 2==1]:=by
 have:v % 2=0\/v % 2=1:=by omega
 rcases this with h|h<;>rw [h]<;>decide
theorem Zak (X n:Nat) (w:World) (hn:n<=32) (hX32:X<4294967296):Calls Tryz.prog 56 #[.int .u32 (X:Int),.int .i64 (n:Int)] w fun e w'=>e=.returned (.string (txt (field X n)))/\w=w':=by
 go_enter Tryz.func56,Tryz.ntmps56;go_wp2_with fail
 go_loop [0,5,7] (fun v s i=>∃k:Nat,k<=n/\i=.int .i64 k/\v=.int .u32 ((X / 2^k:Nat):Int)/\s=.string (txt (field X k))) (fun _ _ i=>n-(intOf i).toNat)
 case atStart=>exact⟨0,by omega,rfl,by simp,rfl⟩
 case round=>
  obtain⟨k,hk,rfl,rfl,rfl⟩:=hrel;have hv:X / 2^k<=X:=Nat.div_le_self _ _;by_cases hlt:k<n
  ·have h1:=ZgB (X / 2^k);have hf:=zh (Zdd X k);have hd:Hid (X / 2^k / 2=X / 2^(k+1)):=zh (by rw [Nat.pow_succ,Nat.div_div_eq_div_mul]);have hsz:(txt [X / 2^k % 2==1]).size+(txt (field X k)).size<=64:=by rw [Zac,Zac,Zaa];simp;omega
   generalize X / 2^k=V at *;go_wp2_with fail
   go_round
   case rel=>exact⟨k+1,by omega,by go_num,iv (by rw [<-hd.out];simp),by rw [Zab,hf.out];rfl⟩
   case measure=>simp [intOf];omega
  ·obtain rfl:k=n:=by omega
   go_wp2_with fail;go_ret;exact⟨rfl,rfl⟩
theorem Zco (s:ByteArray) (w:World) (hs:s.size<=1099511627776):Calls Tryz.prog 36 #[.string s] w fun e w'=>e=.returned (.string (txt (bitsOf s.data.toList)))/\w=w':=by
 go_enter Tryz.func36,Tryz.ntmps36;go_wp2_with fail
 go_loop [3,4] (fun o i=>∃k:Nat,k<=s.size/\i=.int .i64 k/\o=.string (txt (bitsOf (s.data.toList.take k)))) (fun _ i=>s.size-(intOf i).toNat)
 case atStart=>exact⟨0,by omega,rfl,rfl⟩
 case round=>
  obtain⟨k,hk,rfl,rfl⟩:=hrel;by_cases hlt:k<s.size
  ·have hc:=s[k].toNat_lt
   have hsz:(txt (bitsOf (s.data.toList.take k))).size+(txt (field s[k].toNat 8)).size<=10000000000000:=by
    rw [Zac,Zac,Zaa,ZaJ,List.length_take];omega
   have HT:Hid (bitsOf (s.data.toList.take (k+1))=bitsOf (s.data.toList.take k)++field s[k].toNat 8):=zh (by
    rw [List.take_succ_eq_append_getElem (by simpa using hlt),ZbE];congr 1)
   go_wp2_with fail;refine(Zak s[k].toNat 8 w (by omega) (by omega)).mono ?_;rintro e w' ⟨rfl,rfl⟩;go_wp2_with fail
   go_round
   case rel=>exact⟨k+1,by omega,by go_num,by rw [Zab,HT.out]⟩
   case measure=>simp [intOf];omega
  ·obtain rfl:k=s.size:=by omega
   go_wp2_with fail;go_ret;rw [List.take_of_length_le (by simp)];exact⟨rfl,rfl⟩
theorem ZgC (q:List Bool) (k:Nat) (hk:k<q.length) (h:k<(txt q).size):((txt q)[k].toNat:Int)=48+(bn q[k]:Int):=by
 have e:(txt q)[k]=chr q[k]:=by
  have h2:(txt q).data[k]'(by simpa [txt] using hk)=chr q[k]:=by simp [txt]
  exact h2
 rw [e];unfold chr bn;split<;>rfl
theorem Zde (q:List Bool) (w:World) (hq:q.length<=32):Calls Tryz.prog 38 #[.string (txt q)] w fun e w'=>e=.returned (.int .u32 (num q:Int))/\w=w':=by
 have hts:=Zac q;have HTS:=zh hts;have hz:((txt q).size:Int)=(q.length:Int):=by omega
 clear hts;go_enter Tryz.func38,Tryz.ntmps38;go_wp2_with fail
 go_loop [3,4] (fun v i=>∃k:Nat,k<=q.length/\i=.int .i64 k/\v=.int .u32 (num (q.take k):Int)) (fun _ i=>q.length-(intOf i).toNat)
 case atStart=>exact⟨0,by omega,rfl,rfl⟩
 case round=>
  obtain⟨k,hk,rfl,rfl⟩:=hrel;by_cases hlt:k<q.length
  ·have hlz:k<(txt q).size:=by have:=HTS.out;omega
   have hg:=ZgC q k hlt hlz;have hb:=Zoj q[k];have hv:num (q.take k)<2^31:=Nat.lt_of_lt_of_le (Zbg _) (Nat.pow_le_pow_right (by omega) (by simp;omega));have HN:Hid (num (q.take (k+1))=2*num (q.take k)+bn q[k]):=zh (by rw [List.take_succ_eq_append_getElem hlt,ZdC]);generalize num (q.take k)=V at *;generalize bn q[k]=B at *;go_wp2_with fail
   go_round
   case rel=>exact⟨k+1,by omega,by go_num,iv (by rw [HN.out];omega)⟩
   case measure=>simp [intOf];omega
  ·obtain rfl:k=q.length:=by omega
   go_wp2_with fail;go_ret;exact⟨rfl,rfl⟩
theorem Za8 (k:Nat):field 0 k++[false]=field 0 (k+1):=by
 show _=field (0 / 2) k++[0 % 2==1];rfl
theorem Zcb (q:List Bool) (w:World) (hq:q.length<=1099511627776):Calls Tryz.prog 22 #[.string (txt q)] w fun e w'=>e=.returned (.string (txt (q++padding q)))/\w=w':=by
 have H0:=zh (show txt (q++field 0 0)=txt q by simp [field]);go_enter Tryz.func22,Tryz.ntmps22;go_wp2_with fail
 go_loop [0] (fun s=>∃k:Nat,k<=(8-q.length % 8) % 8/\s=.string (txt (q++field 0 k))) (fun s=>match s with|.string s=>q.length+8-s.size|_=>0)
 case atStart=>exact⟨0,by omega,by rw [H0.out]⟩
 case round=>
  obtain⟨k,hk,rfl⟩:=hrel;have hsz:(txt (q++field 0 k)).size=q.length+k:=by rw [Zac,List.length_append,Zaa]
  have HS1:Hid (txt (q++field 0 k)++⟨#[48]⟩=txt (q++field 0 (k+1))):=zh (by
   rw [<-Za8,<-List.append_assoc,show(⟨#[48]⟩:ByteArray)=txt [false] from rfl,Zab])
  have hsz1:(txt (q++field 0 (k+1))).size=q.length+(k+1):=by rw [Zac,List.length_append,Zaa]
  have HSE:Hid (k=(8-q.length % 8) % 8->txt (q++field 0 k)=txt (q++padding q)):=zh (fun h=>by rw [h];rfl);generalize txt (q++field 0 k)=T at *;obtain⟨T1,hT1⟩:∃T1,txt (q++field 0 (k+1))=T1:=⟨_,rfl⟩
  rw [hT1] at HS1 hsz1;have HT1:=zh hT1;clear hT1;by_cases hlt:k<(8-q.length % 8) % 8
  ·have hc:((T.size:Int) % 8 != 0)=true:=by simp only [bne_iff_ne];omega
   have h1:(⟨#[48]⟩:ByteArray).size=1:=rfl;go_wp2_with fail;rw [HS1.out];exact⟨⟨k+1,by omega,by rw [HT1.out]⟩,by show q.length+8-T1.size<q.length+8-T.size;omega⟩
  ·have hc:((T.size:Int) % 8 != 0)=false:=by simp only [bne_eq_false_iff_eq];omega
   go_wp2_with fail;go_ret;rw [HSE.out (by omega)];exact⟨rfl,rfl⟩
theorem Ze1 (q:List Bool) (n:Nat) (h:n<=q.length):(txt q).extract 0 n=txt (q.take n):=by
 apply ByteArray.ext;simp [txt]
theorem Ze2 (q:List Bool) (n:Nat) (h:n<=q.length):(txt q).extract n (txt q).size=txt (q.drop n):=by
 apply ByteArray.ext;have e:(txt q).size=q.length:=Zac q;rw [e];simp only [txt,ByteArray.data_extract,List.extract_toArray,List.extract_eq_take_drop,List.map_drop];rw [List.take_of_length_le (by simp)]
theorem Ze3 (q:List Bool) (k:Nat) (h:k<q.length / 8):∃x:UInt8,(byts q)[k]?=some x/\num ((q.drop (8*k)).take 8)=x.toNat:=by
 refine⟨UInt8.ofNat (num ((q.drop (8*k)).take 8)),?_,?_⟩
 ·unfold byts;rw [List.getElem?_map,List.getElem?_range h];rfl
 ·have hlt:=Zbg ((q.drop (8*k)).take 8);have hl:((q.drop (8*k)).take 8).length=8:=by simp;omega
  rw [hl] at hlt;rw [UInt8.toNat_ofNat'];exact(Nat.mod_eq_of_lt hlt).symm
theorem Zdx (q:List Bool) (w:World) (hq:q.length<=1099511627776):Calls Tryz.prog 17 #[.string (txt q)] w fun e w'=>e=.returned (.string ⟨(byts q).toArray⟩)/\Below w.heap.size w w':=by
 go_enter Tryz.func17,Tryz.ntmps17;go_wp2_with fail
 go_loopw [0,3] (fun s o wr=>∃k:Nat,k<=q.length / 8/\s=.string (txt (q.drop (8*k)))/\o=.string ⟨((byts q).take k).toArray⟩/\Below w.heap.size w wr) (fun s _ _=>match s with|.string s=>s.size|_=>0)
 case atStart=>exact⟨0,by omega,rfl,rfl,Below.refl _ _⟩
 case round=>
  obtain⟨k,hk,rfl,rfl,hB⟩:=hrel;have HB:=zh hB;clear hB;have hsz:(txt (q.drop (8*k))).size=q.length-8*k:=by rw [Zac,List.length_drop]
  by_cases hlt:k<q.length / 8
  ·have HT8:Hid ((txt (q.drop (8*k))).extract 0 8=txt ((q.drop (8*k)).take 8)):=zh (Ze1 _ _ (by simp;omega))
   have HD8:Hid ((txt (q.drop (8*k))).extract 8 (txt (q.drop (8*k))).size=txt (q.drop (8*(k+1)))):=zh (by
    rw [Ze2 _ _ (by simp;omega),List.drop_drop];rfl)
   obtain⟨x,hx,hn⟩:=Ze3 q k hlt
   have HNUM:∀w,Calls Tryz.prog 38 #[.string ((txt (q.drop (8*k))).extract 0 8)] w fun e w'=>e=.returned (.int .u32 (x.toNat:Int))/\w=w':=fun w=>by
    rw [HT8.out,<-hn];exact Zde _ w (by simp;omega)
   have hnum:=zh HNUM;have hos:(⟨((byts q).take k).toArray⟩:ByteArray).size<=1099511627776:=by show((byts q).take k).toArray.size<=_;simp [Zav];omega
   have HX:Hid ((⟨((byts q).take k).toArray⟩:ByteArray)++⟨#[x]⟩=⟨((byts q).take (k+1)).toArray⟩):=zh (by
    apply ByteArray.ext;rw [List.take_add_one,hx];simp)
   have hx1:(⟨#[x]⟩:ByteArray).size=1:=rfl;have hxt:=x.toNat_lt;clear HNUM hn hx;generalize txt (q.drop (8*k))=T at *;generalize (⟨((byts q).take k).toArray⟩:ByteArray)=O at *;go_wp2_with fail;refine(hnum.out wr).mono ?_;rintro e w' ⟨rfl,rfl⟩
   have hcv:(convert 73 9 (.slice (some ⟨wr.heap.size,0,none⟩) 1 1)).run Tryz.prog (wr.alloc (.cells #[.int .u8 (x.toNat:Int)] 5))=.ok (.string ⟨#[x]⟩) (wr.alloc (.cells #[.int .u8 (x.toNat:Int)] 5)):=run_convert_bytes_back (P:=Tryz.prog) (wr.alloc (.cells #[.int .u8 (x.toNat:Int)] 5)) 73 9 5 ⟨wr.heap.size,0,none⟩ 1 [x] Tryz.underlying73 Tryz.underlying5 Tryz.underlying9 (fun j hj=>by
    obtain rfl:j=0:=by simpa using hj
    have hb:(wr.alloc (.cells #[.int .u8 (x.toNat:Int)] 5)).heap[wr.heap.size]?=some (.cells #[.int .u8 (x.toNat:Int)] 5):=by show(wr.heap.push _)[_]?=_;simp
    rw [Addr.add_lit,cell_of_row _ _ _ _ _ _ hb];rfl)
   have h8:8<=T.size:=by omega
   have HTS:=zh hsz;have HE:Hid ((T.extract 8 T.size).size=T.size-8):=zh (by rw [ByteArray.size_extract];omega);clear hsz;go_wp2_with fail;refine⟨⟨k+1,by omega,?_,by rw [HX.out],HB.out.alloc HB.out.size _⟩,?_⟩
   ·first
     | rw [HD8.out]
     | (have:=HD8.out;have:=HTS.out;simp_all)
   ·show(T.extract 8 _).size<T.size;rw [ByteArray.size_extract];omega
  ·obtain rfl:k=q.length / 8:=by omega
   have HO:Hid ((byts q).take (q.length / 8)=byts q):=zh (List.take_of_length_le (by rw [Zav];exact Nat.le_refl _));rw [HO.out];go_wp2_with fail;go_ret;exact⟨rfl,HB.out⟩
theorem Zhm (q:List Bool) (w:World) (hq:q.length<=1099511620000):Calls Tryz.prog 32 #[.string (txt q)] w fun e w'=>e=.returned (.string ⟨(byts (q++padding q)).toArray⟩)/\Below w.heap.size w w':=by
 have HP:Hid (Calls Tryz.prog 22 #[.string (txt q)] w fun e w'=>e=.returned (.string (txt (q++padding q)))/\w=w'):=zh (Zcb q w (by omega))
 have HBY:=zh (Zdx (q++padding q) w (by
  have h1:(padding q).length<8:=by unfold padding;rw [Zaa];omega
  rw [List.length_append];omega))
 go_enter Tryz.func32,Tryz.ntmps32;go_wp2_with fail;refine HP.out.mono ?_;rintro e w1 ⟨rfl,rfl⟩;go_wp2_with fail;refine HBY.out.mono ?_;rintro e w2 ⟨rfl,hb⟩;have HB:=zh hb;clear hb;go_wp2_with fail;go_ret;exact⟨rfl,HB.out⟩
end
section
namespace UsedM
open Go.RowKit BitM
theorem Zdf (l:List UInt8):IsSyms l↔(l≠[]/\syms (has l) 256=l):=
 ⟨fun h=>⟨h.2,Zg2 h.1⟩,fun h=>⟨h.2▸Zfw (has l),h.1⟩⟩
end UsedM
end
section
namespace MtfM
open Go.RowKit UsedM
theorem Zd0 {l:List UInt8} {c:UInt8} (hn:∀j,j<l.length->l[j]?≠some c):Lib.indexByte l c=-1:=by
 have hge:=Lib.indexByte_ge l c;by_cases h1:Lib.indexByte l c=-1
 ·exact h1
 ·obtain⟨o,ho⟩:∃o:Nat,Lib.indexByte l c=(o:Int):=⟨(Lib.indexByte l c).toNat,by omega⟩
  obtain⟨h2,h3⟩:=Lib.indexByte_some ho;exact absurd h2 (hn o (List.getElem?_eq_some_iff.1 h2).1)
end MtfM
end
section
namespace PkM
open Go.RowKit
theorem Za9 (ps qs:List Nat):toI (ps++qs)=toI ps++toI qs:=by simp [toI]
end PkM
end
section
namespace PkM
open Go.RowKit BitM
def lets (o:List Nat):List UInt8:=o.map fun n=>UInt8.ofNat (48+n)
theorem Ze4 (o:List Nat) (i:Nat):MtfM.touch (lets o) i=lets (tch o i):=by
 unfold MtfM.touch tch lets;rw [<-List.map_drop,<-List.map_take,<-List.map_take,<-List.map_drop,<-List.map_append,<-List.map_append]
theorem Zcp (o:List Nat):(lets o).length=o.length:=by simp [lets]
theorem ZcY {o:List Nat} {i x:Nat} (h:o[i]?=some x):(lets o)[i]?=some (UInt8.ofNat (48+x)):=by
 unfold lets;rw [List.getElem?_map,h];rfl
theorem Zdg {o:List Nat} (h:Six o) {p:Nat} (hp:p∈o):Lib.indexByte (lets o) (UInt8.ofNat (48+p))=(o.idxOf p:Int):=by
 have hp6:=h.2 p hp;have hi:o.idxOf p<o.length:=List.idxOf_lt_length_of_mem hp;refine MtfM.ZtJ (ZcY (by rw [List.getElem?_eq_getElem hi,List.getElem_idxOf])) (fun j hj hh=>?_);have hj2:j<o.length:=by omega
 rw [ZcY (List.getElem?_eq_getElem hj2)] at hh;have h6:=h.2 _ (List.getElem_mem hj2);have e:=congrArg UInt8.toNat (Option.some.inj hh);simp only [UInt8.toNat_ofNat'] at e;refine Zfz hj ?_;rw [List.getElem?_eq_getElem hj2];congr 1;omega
end PkM
end
section
open Go.RowKit
theorem Zd1 (v:Value) (zs:List Int) (a b:Int) (r:Bool) (w:World) (hv:IsInts w v zs) (hr:r=true↔Within a b zs) (hz:zs.length<=9223372036854775807) :
  Calls Tryz.prog 180 #[v,.int .i64 a,.int .i64 b] w fun e w'=>e=.returned (.bool r)/\w'=w:=by
 have HV:=zh hv;have HRR:=zh hr;obtain⟨ad,cap,rfl,_⟩:=hv;clear hr;go_enter Tryz.func180,Tryz.ntmps180;go_wp2_with fail
 go_loopw [11] (fun i wr=>∃k:Nat,k<=zs.length/\i=.int .i64 k/\wr=w/\∀j,j<k->a<=zs.getD j 0/\zs.getD j 0<=b) (fun i _=>zs.length-(intOf i).toNat)
 case atStart=>exact⟨0,by omega,rfl,rfl,fun j hj=>by omega⟩
 case round=>
  obtain⟨k,hk,rfl,rfl,hA⟩:=hrel;have HA:=zh hA;clear hA;by_cases hlk:k<zs.length
  ·have hki:(k:Int)<(zs.length:Int):=by omega
   obtain⟨b1,o1,k1,he1,c1⟩:=HV.out.cell hlk;simp only [Value.slice.injEq] at he1;obtain⟨rfl,_,rfl⟩:=he1;obtain⟨x,hx⟩:∃x,zs.getD k 0=x:=⟨_,rfl⟩
   rw [hx] at c1;have HX:=zh hx;clear hx;by_cases h1:x<a
   ·have hrf:r=false:=by
     rw [Bool.eq_false_iff,Ne,HRR.out];intro h;have:=h _ (getD_mem hlk);rw [HX.out] at this;omega
    subst hrf;go_wp2_with fail;go_ret;exact⟨rfl,rfl⟩
   ·have hd:decide (x<a)=false:=by simp only [decide_eq_false_iff_not];exact h1
    by_cases h2:b<x
    ·have hrf:r=false:=by
      rw [Bool.eq_false_iff,Ne,HRR.out];intro h;have:=h _ (getD_mem hlk);rw [HX.out] at this;omega
     subst hrf;go_wp2_with fail;go_ret;exact⟨rfl,rfl⟩
    ·have hd2:decide (b<x)=false:=by simp only [decide_eq_false_iff_not];exact h2
     go_wp2_with fail;go_roundw
     case rel=>exact⟨k+1,by omega,by go_num,(by first|rfl|trivial),fun j hj=>by
      by_cases e:j=k
      ·subst e;rw [HX.out];omega
      ·exact HA.out j (by omega)⟩
     case measure=>simp [intOf];omega
  ·have hki:¬(k:Int)<(zs.length:Int):=by omega
   have hrt:r=true:=by
    rw [HRR.out];exact ZeA (fun j hj=>HA.out j (by omega))
   subst hrt;go_wp2_with fail;go_ret;exact⟨rfl,rfl⟩
end
section
namespace CanM
open Go.RowKit HufM BitM
theorem Zba:∀(q:List Bool) (e:Nat),num (q++List.replicate e false)=num q*2^e
 | q,0=>by simp
 | q,e+1=>by
  rw [List.replicate_succ',<-List.append_assoc,ZdC,Zba q e,Nat.pow_succ];show 2*_+0=_;rw [Nat.add_zero,<-Nat.mul_assoc,Nat.mul_comm 2,Nat.mul_assoc,Nat.mul_comm 2]
end CanM
end
section
namespace FreqM
open Go.RowKit
theorem Zcq (l:List Int) (N:Nat):counts l (N+1)=counts l N++[(l.count (N:Int):Int)]:=by
 simp [counts,List.range_succ]
def wgh (l lens:List Int) (k:Nat):Int:=sumF ((List.range k).map fun j:Nat=>lens.getD j 0*(l.count (j:Int):Int))
theorem Za4 (l lens:List Int) (k:Nat):wgh l lens (k+1)=wgh l lens k+lens.getD k 0*(l.count (k:Int):Int):=by
 unfold wgh;rw [List.range_succ,List.map_append,Zf4];simp [sumF]
theorem Zbb (x:Nat) (t lens:List Int):∀k:Nat,wgh ((x:Int)::t) lens k=wgh t lens k+if x<k then lens.getD x 0 else 0
 | 0=>by simp [wgh,sumF]
 | k+1=>by
  rw [Za4,Za4,Zbb x t lens k,List.count_cons];by_cases e:x=k
  ·subst e;rw [if_neg (by omega),if_pos (by simp),if_pos (by omega)];simp only [Int.natCast_add,Int.mul_add];simp;omega
  ·rw [show((if ((x:Int)==(k:Int))=true then 1 else 0):Nat)=0 from if_neg (by simp;omega)];by_cases h:x<k
   ·rw [if_pos h,if_pos (by omega)];simp;omega
   ·rw [if_neg h,if_neg (by omega)];simp
theorem ZgD (l lens:List Int) (h:Syms l (lens.length:Int)):wgh l lens lens.length=costS l lens:=by
 induction l with
 | nil=>
  have:∀k,wgh [] lens k=0:=fun k=>by
   induction k with
   | zero=>rfl
   | succ k ih=>rw [Za4,ih];simp
  rw [this];rfl
 | cons x t ih=>
  have hx:=h x (List.mem_cons_self ..);have ht:=ih (fun y hy=>h y (List.mem_cons_of_mem _ hy));obtain⟨n,rfl⟩:∃n:Nat,x=(n:Int):=⟨x.toNat,by omega⟩
  rw [Zbb,ht,if_pos (by omega)];unfold costS;simp only [List.map_cons,sumF];simp;omega
def grps (l:List Int) (q:Nat):List (List Int):=(List.range q).map (grp l)
theorem Zaz (l:List Int) (q:Nat):(grps l q).length=q:=by simp [grps]
theorem ZbX (l:List Int) (q:Nat):grps l (q+1)=grps l q++[grp l q]:=by simp [grps,List.range_succ]
theorem Ze5 (l:List Int) (q i:Nat) (h:i<(grps l q).length):(grps l q)[i]=grp l i:=by simp [grps]
end FreqM
end
section
namespace ZerM
open Go.RowKit
structure St where
 out:List Int
 rc:List Int
 done:Bool
end ZerM
end
section
theorem ZaU (a b:ByteArray) (r:Bool) (h:r=true↔a=b):(a.toList==b.toList)=r:=by
 rw [Bool.eq_iff_iff,beq_iff_eq,ByteArray.toList_eq,ByteArray.toList_eq,h];constructor
 ·intro h;apply ByteArray.ext;exact Array.toList_inj.1 h
 ·rintro rfl;rfl
end
section
open Go.RowKit UsedM MtfM
theorem Zb0 (s:ByteArray) (c:UInt8) (w:World) (hs:s.size<=9223372036854775807) :
  Calls Tryz.prog 109 #[.string s,.int .u8 (c.toNat:Int)] w fun e w'=>e=.returned (.int .i64 (Lib.indexByte s.data.toList c))/\w=w':=by
 have hsl:s.data.toList.length=s.size:=rfl;have hcl:=c.toNat_lt;go_enter Tryz.func109,Tryz.ntmps109;go_wp2_with fail
 go_loop [5] (fun i=>∃k:Nat,k<=s.size/\i=.int .i64 k/\∀j,j<k->s.data.toList[j]?≠some c) (fun i=>s.size-(intOf i).toNat)
 case atStart=>exact⟨0,by omega,rfl,fun j hj=>by omega⟩
 case round=>
  obtain⟨k,hk,rfl,hn⟩:=hrel;have HN:=zh hn;clear hn;by_cases hlt:k<s.size
  ·have hki:(k:Int)<(s.size:Int):=by omega
   have hx:=s[k].toNat_lt;have HG:=zh (show s.data.toList[k]?=some s[k] from List.getElem?_eq_getElem (l:=s.data.toList) (by simpa using hlt));by_cases he:s[k]=c
   ·have hp:=ZtJ (l:=s.data.toList) (c:=c) (k:=k) (by rw [HG.out,he]) HN.out;have hd:((s[k].toNat:Int)==(c.toNat:Int))=true:=by rw [he];exact beq_self_eq_true _
    have HP:=zh hp;clear he hp;go_wp2_with fail;go_ret;exact⟨by rw [HP.out];rfl,rfl⟩
   ·have hd:((s[k].toNat:Int)==(c.toNat:Int))=false:=by
     rw [beq_eq_false_iff_ne];intro h;exact he (UInt8.toNat_inj.1 (by omega))
    have HNE:=zh he;clear he;go_wp2_with fail
    go_round
    case rel=>exact⟨k+1,by omega,by go_num,fun j hj=>by
     by_cases e:j=k
     ·subst e;rw [HG.out];intro h;exact HNE.out (by simpa using h)
     ·exact HN.out j (by omega)⟩
    case measure=>simp [intOf];omega
  ·obtain rfl:k=s.size:=by omega
   have hp:=Zd0 (l:=s.data.toList) (c:=c) (fun j hj=>HN.out j (by omega));have HP:=zh hp;clear hp;go_wp2_with fail;go_ret;exact⟨by rw [HP.out];rfl,rfl⟩
theorem Zdh (m:List UInt8) (i:Nat) (h:i<m.length) :
  ((⟨m.toArray⟩:ByteArray).extract i (i+1)++(⟨m.toArray⟩:ByteArray).extract 0 i)++(⟨m.toArray⟩:ByteArray).extract (i+1) m.length=⟨(touch m i).toArray⟩:=by
 apply ByteArray.ext;apply Array.toList_inj.1;unfold touch;simp only [ByteArray.data_append,ByteArray.data_extract,Array.toList_append,List.extract_toArray,List.extract_eq_take_drop];simp only [Nat.add_sub_cancel_left,Nat.sub_zero,List.drop_zero];rw [List.take_of_length_le (l:=m.drop (i+1)) (by rw [List.length_drop];exact Nat.le_refl _)]
theorem Zbt (m:List UInt8) (i:Nat) (w:World) (hi:i<m.length) (hm:m.length<=256) :
  Calls Tryz.prog 110 #[.string ⟨m.toArray⟩,.int .i64 (i:Int)] w fun e w'=>e=.returned (.string ⟨(touch m i).toArray⟩)/\∃n,w'=w.drewN n:=by
 have HT:=Zdh m i hi;have hsz:(⟨m.toArray⟩:ByteArray).size=m.length:=Zaj m;obtain⟨L,hL⟩:∃L,m.length=L:=⟨_,rfl⟩
 rw [hL] at HT hsz hi hm;generalize (⟨m.toArray⟩:ByteArray)=T at *;obtain⟨j,hj⟩:∃j,i+1=j:=⟨_,rfl⟩
 rw [hj] at HT;have z1:(T.extract i j).size=1:=by rw [ByteArray.size_extract];omega
 have z2:(T.extract 0 i).size=i:=by rw [ByteArray.size_extract];omega
 have z3:(T.extract j L).size=L-j:=by rw [ByteArray.size_extract];omega
 have z4:(T.extract i j++T.extract 0 i).size=j:=by rw [ByteArray.size_append];omega
 have hji:(i:Int)+1=(j:Int):=by omega
 have hjw:IntKind.i64.wrap (j:Int)=(j:Int):=IntWalk.i64_in _ (by omega);have b1:(0:Int)<=(i:Int):=by omega
 have b2:(i:Int)<=(j:Int):=by omega
 have b3:(j:Int)<=(L:Int):=by omega
 have b4:(i:Int)<=(L:Int):=by omega
 have b5:(0:Int)<=(j:Int):=by omega
 have b6:(L:Int)<=256:=by omega
 have hc1:∀W,(Op.stringOp .add (T.extract i j) (T.extract 0 i)).run Tryz.prog W=.ok (.string (T.extract i j++T.extract 0 i)) W:=fun W=>by
  rw [run_string_add_if,if_neg (by omega)]
 have hc2:∀W,(Op.stringOp .add (T.extract i j++T.extract 0 i) (T.extract j L)).run Tryz.prog W=.ok (.string ((T.extract i j++T.extract 0 i)++T.extract j L)) W:=fun W=>by
  rw [run_string_add_if,if_neg (by omega)]
 have HTT:=zh HT;clear HT z1 z2 z3 z4 hL;go_enter Tryz.func110,Tryz.ntmps110;go_wp2_with fail
 go_quiet (fail)
 go_wp2_with fail;go_ret;rw [HTT.out];exact⟨rfl,_,rfl⟩
end
section
open Go.RowKit
theorem OwnRR.nil (W:World) (B:Nat) (hB:B<=W.heap.size):OwnRR W B B (.slice none 0 0) []:=
 ⟨Nat.le_refl _,hB,fun k h=>by simp [Value.ownBlock] at h,[],rfl,World.ownsRow_nil _ _ _ _,fun i u h=>by simp at h⟩
theorem OwnRR.below {W W':World} {B bn:Nat} {v:Value} {gs:List (List Int)} (h:OwnRR W B bn v gs) (hb:Below bn W W'):OwnRR W' B bn v gs:=by
 obtain⟨h1,h2,h3,vs,h4,h5,h6⟩:=h;refine⟨h1,Nat.le_trans h2 hb.size,h3,vs,h4,Zag h5 (fun k hk=>hb.block k (h3 k hk)),fun i u hu=>?_⟩;obtain⟨g,hg,ho,hk⟩:=h6 i u hu;exact⟨g,hg,ho.same (fun k hkk=>hb.block k (hk k hkk).1),hk⟩
end
section
open Go.RowKit FreqM
theorem Zd2 (n:Int) (w:World):Calls Tryz.prog 206 #[.int .i64 n] w fun e w'=>e=.returned (.int .i64 (cap n))/\w=w':=by
 by_cases h:1099511627776<n
 ·rw [ZkD _ h];go_enter Tryz.func206,Tryz.ntmps206;go_wp2_with fail;go_ret;exact⟨rfl,rfl⟩
 ·rw [Zgk _ (by omega)];go_enter Tryz.func206,Tryz.ntmps206;go_wp2_with fail;go_ret;exact⟨rfl,rfl⟩
theorem ZcZ (v:Value) (zs:List Int) (x:Int) (w:World) (hv:IsInts w v zs) (hz:zs.length<=1000000) :
  Calls Tryz.prog 177 #[v,.int .i64 x] w fun e w'=>e=.returned (.int .i64 (zs.count x:Int))/\w=w':=by
 have HV:=zh hv;obtain⟨a,cap,rfl,_⟩:=hv;go_enter Tryz.func177,Tryz.ntmps177;go_wp2_with fail
 go_loop [5,10] (fun c i=>∃k:Nat,k<=zs.length/\i=.int .i64 k/\c=.int .i64 ((zs.take k).count x:Int)) (fun _ i=>zs.length-(intOf i).toNat)
 case atStart=>exact⟨0,by omega,rfl,rfl⟩
 case round=>
  obtain⟨k,hk,rfl,rfl⟩:=hrel;by_cases hlk:k<zs.length
  ·have hki:(k:Int)<(zs.length:Int):=by omega
   obtain⟨b1,o1,k1,he1,c1⟩:=HV.out.cell hlk;simp only [Value.slice.injEq] at he1;obtain⟨rfl,_,rfl⟩:=he1;have HCT:=zh (count_take zs x k hlk);have hcl:=List.count_le_length (a:=x) (l:=zs.take k);rw [List.length_take] at hcl;obtain⟨y,hy⟩:∃y,zs.getD k 0=y:=⟨_,rfl⟩
   rw [hy] at c1 HCT;clear hy;generalize (zs.take k).count x=c at *;by_cases e:x=y
   ·have hb:(x==y)=true:=by rw [e];exact beq_self_eq_true _
    have HC2:Hid (((zs.take (k+1)).count x:Int)=(c:Int)+1):=zh (by rw [HCT.out,if_pos e];simp);have hw:IntKind.i64.wrap ((c:Int)+1)=(c:Int)+1:=IntWalk.i64_in _ (by omega);clear e;go_wp2_with fail
    go_round
    case rel=>exact⟨k+1,by omega,by go_num,by rw [HC2.out]⟩
    case measure=>simp [intOf];omega
   ·have hb:(x==y)=false:=by rw [beq_eq_false_iff_ne];exact e
    have HC2:Hid (((zs.take (k+1)).count x:Int)=(c:Int)):=zh (by rw [HCT.out,if_neg e];simp);clear e;go_wp2_with fail
    go_round
    case rel=>exact⟨k+1,by omega,by go_num,by rw [HC2.out]⟩
    case measure=>simp [intOf];omega
  ·obtain rfl:k=zs.length:=by omega
   rw [List.take_of_length_le (Nat.le_refl _)];go_wp2_with fail;go_ret;exact⟨rfl,rfl⟩
theorem Zbc (v:Value) (zs:List Int) (N:Nat) (w:World) (hv:IsInts w v zs) (hz:zs.length<=1000000) (hN:N<=1000) :
  Calls Tryz.prog 149 #[v,.int .i64 (N:Int)] w fun e w'=>∃u,e=.returned u/\IsInts w' u (counts zs N)/\Below w.heap.size w w':=by
 have HV:=zh hv;obtain⟨a,cap,rfl,_⟩:=hv;have HCN:=zh (fun i W (h:IsInts W (.slice a zs.length cap) zs)=>ZcZ _ zs i W h hz);have hNI:(N:Int)<=1000:=by omega
 go_enter Tryz.func149,Tryz.ntmps149;go_wp2_with fail
 go_loopw [5,8] (fun o i wr=>∃(k:Nat) (u:Value),k<=N/\i=.int .i64 k/\u=o/\OwnI wr w.heap.size u (counts zs k)/\Below w.heap.size w wr) (fun _ i _=>N-(intOf i).toNat)
 case atStart=>exact⟨0,_,by omega,rfl,rfl,OwnI.nil _ _,Below.refl _ _⟩
 case round=>
  obtain⟨k,u,hk,rfl,rfl,hO,hB⟩:=hrel;have HO:=zh hO;have HB:=zh hB;have hbw:=hB.size;clear hO hB;by_cases hlk:k<N
  ·have hki:(k:Int)<(N:Int):=by omega
   have HSU:=zh (Zcq zs k);have hcl:=List.count_le_length (a:=(k:Int)) (l:=zs);have hln:(counts zs k).length+1<=17592186044416:=by rw [Zaq];omega
   have HC:=zh (HCN.out (k:Int) wr (HV.out.below HB.out));generalize zs.count (k:Int)=c at *;go_wp2_with fail;refine HC.out.mono ?_;rintro e w' ⟨rfl,rfl⟩;go_wp2_with (at_builtin;refine Zaf wr rfl _ _ rfl w.heap.size _ (counts zs k) (c:Int) HO.out rfl rfl hln hbw ?_);intro v' w2 hO2 hB2;rw [<-HSU.out] at hO2;have HO2:=zh hO2;have HB2:=zh (HB.out.trans hB2);clear hO2 hB2;go_wp2_with fail;go_roundw
   case rel=>exact⟨k+1,_,by omega,by go_num,rfl,HO2.out,HB2.out⟩
   case measure=>simp [intOf];omega
  ·obtain rfl:k=N:=by omega
   go_wp2_with fail;go_ret;exact⟨_,rfl,HO.out.ints,HB.out⟩
theorem ZiN {l lens:List Int} (h:Nums lens) (k:Nat):0<=wgh l lens k:=by
 unfold wgh;apply Zhu;intro x hx;obtain⟨j,_,rfl⟩:=List.mem_map.1 hx;apply Int.mul_nonneg
 ·rw [List.getD_eq_getElem?_getD];cases he:lens[j]? with
  | none=>simp
  | some z=>exact(h z (List.mem_of_getElem? he)).1
 ·omega
theorem Zd3 (v u:Value) (zs ls:List Int) (w:World) (hv:IsInts w v zs) (hu:IsInts w u ls) (hz:zs.length<=1000000) (hl:ls.length<=1000000) (hok:CostOk zs ls) :
  Calls Tryz.prog 178 #[v,u] w fun e w'=>e=.returned (.int .i64 (cap (costS zs ls)))/\w=w':=by
 have HV:=zh hv;have HU:=zh hu;obtain⟨a,cap1,rfl,_⟩:=hv;obtain⟨b,cap2,rfl,_⟩:=hu;have HWA:=zh (ZgD zs ls hok.1);have HNN:=zh (fun k=>ZiN (l:=zs) hok.2 k);have HNU:=zh hok.2;have HCN:=zh (fun i=>ZcZ _ zs i w HV.out hz);clear hok;go_enter Tryz.func178,Tryz.ntmps178;go_wp2_with fail
 go_loop [5,10] (fun c i=>∃k:Nat,k<=ls.length/\i=.int .i64 k/\c=.int .i64 (cap (wgh zs ls k))) (fun _ i=>ls.length-(intOf i).toNat)
 case atStart=>exact⟨0,by omega,rfl,rfl⟩
 case round=>
  obtain⟨k,hk,rfl,rfl⟩:=hrel;by_cases hlk:k<ls.length
  ·have hki:(k:Int)<(ls.length:Int):=by omega
   obtain⟨b1,o1,k1,he1,c1⟩:=HU.out.cell hlk;simp only [Value.slice.injEq] at he1;obtain⟨rfl,_,rfl⟩:=he1;have HWS:=zh (Za4 zs ls k);have hyr:=HNU.out _ (FreqM.getD_mem ls k hlk);have hw0:=HNN.out k;have hcl:=List.count_le_length (a:=(k:Int)) (l:=zs);have HC:=zh (HCN.out (k:Int));generalize ls.getD k 0=y at *;generalize wgh zs ls k=A at *;generalize zs.count (k:Int)=N at *;obtain⟨hy0,hy1⟩:=hyr;have hNI:(N:Int)<=1000000:=by omega
   go_wp2_with fail;refine HC.out.mono ?_;rintro e w' ⟨rfl,rfl⟩;go_wp2_with fail
   go_loop [5,18] (fun c i=>∃j:Nat,j<=N/\i=.int .i64 j/\c=.int .i64 (cap (A+y*(j:Int)))) (fun _ i=>N-(intOf i).toNat)
   case atStart=>exact⟨0,by omega,rfl,by simp⟩
   case round=>
    obtain⟨j,hj,rfl,rfl⟩:=hrel;have hm0:0<=y*(j:Int):=Int.mul_nonneg hy0 (by omega);by_cases hjn:j<N
    ·have hji:(j:Int)<(N:Int):=by omega
     have HMS:Hid (A+y*((j+1:Nat):Int)=A+y*(j:Int)+y):=zh (by
      rw [Int.natCast_add,Int.mul_add];simp;omega)
     generalize y*(j:Int)=B at *;have HCA:Hid (cap (A+B+y)=cap (cap (A+B)+y)):=zh (Zim _ _ hy0).symm;have hc0:=ZkC (A+B) (by omega);have hc1:=ZkB (A+B);generalize cap (A+B)=c at *;have hw:IntKind.i64.wrap (c+y)=c+y:=IntWalk.i64_in _ (by omega);go_wp2_with fail;refine(Zd2 (c+y) w).mono ?_;rintro e w' ⟨rfl,rfl⟩;go_wp2_with fail
     go_round
     case rel=>exact⟨j+1,by omega,by go_num,by rw [HMS.out,HCA.out]⟩
     case measure=>simp [intOf];omega
    ·obtain rfl:j=N:=by omega
     rw [<-HWS.out];go_wp2_with fail
     go_round
     case rel=>exact⟨k+1,by omega,by go_num,rfl⟩
     case measure=>simp [intOf];omega
  ·obtain rfl:k=ls.length:=by omega
   rw [HWA.out];go_wp2_with fail;go_ret;exact⟨rfl,rfl⟩
end
section
namespace BwtM
open Go.RowKit
def Vie (T:List UInt8) (a k on:Nat):Prop:=a<k/\a<T.length/\(∀j,j<k->j<T.length->j≠a->∃m,m<T.length/\Ahead T m j)/\eqH T on a k
theorem Vie.beat {T:List UInt8} {a k on t:Nat} (h:eqH T on a k) (ho:on<T.length) (hlt:bt T (a+on)<bt T (k+on)) (ht:t<=on):ltH T T.length (a+t) (k+t):=
 ⟨on-t,by omega,fun u hu=>by have:=h (t+u) (by omega);rwa [Nat.add_assoc,Nat.add_assoc],by rwa [Nat.add_assoc,Nat.add_assoc,show t+(on-t)=on by omega]⟩
theorem Vie.less {T:List UInt8} {a k on:Nat} (h:Vie T a k on) (ho:on<T.length) (hk:k<T.length) (hlt:bt T (a+on)<bt T (k+on)):Vie T a (k+on+1) 0:=by
 obtain⟨h1,h2,h3,h4⟩:=h;refine⟨by omega,h2,fun j hj hn hne=>?_,fun t ht=>by omega⟩;by_cases c:j<k
 ·exact h3 j c hn hne
 ·have hb:=Vie.beat h4 ho hlt (t:=j-k) (by omega);rw [show k+(j-k)=j by omega] at hb;exact⟨a+(j-k),by omega,(ZfJ (by omega) (by omega)).2 (Or.inl hb)⟩
end BwtM
end
section
open Go.RowKit BwtM
def rotT (s:ByteArray) (i:Nat):ByteArray:=s.extract i s.size++s.extract 0 i
theorem Zb3 (t:ByteArray) (n:Nat):(t.extract n t.size).data.toList=t.data.toList.drop n:=by
 have e:t.size=t.data.toList.length:=rfl;rw [ByteArray.data_extract,e];simp only [Array.toList_extract,List.extract_eq_take_drop];rw [List.take_of_length_le (by simp)]
theorem Zd4 (s:ByteArray) (c:Nat):(s.extract 0 c).data.toList=s.data.toList.take c:=by
 rw [ByteArray.data_extract];simp only [Array.toList_extract,List.extract_eq_take_drop,List.drop_zero,Nat.sub_zero]
theorem Zay (s:ByteArray) (i:Nat):(rotT s i).data.toList=rot s.data.toList i:=by
 unfold rotT rot;rw [ByteArray.data_append,Array.toList_append,Zb3,Zd4]
theorem Zc0 {a b:ByteArray}:a=b↔a.data.toList=b.data.toList:=by
 constructor
 ·rintro rfl;rfl
 ·intro h;apply ByteArray.ext;exact Array.toList_inj.1 h
theorem ZgE (s:ByteArray) (i k:Nat):rotT s i=rotT s k↔rot s.data.toList i=rot s.data.toList k:=by rw [Zc0,Zay,Zay]
theorem Zb4 (s:ByteArray) (i:Nat) (h:i<=s.size):(rotT s i).size=s.size:=by
 have h1:(rotT s i).size=(rotT s i).data.toList.length:=by simp
 rw [h1,Zay,ZbP _ _ (by rw [Zbr];exact h),Zbr]
theorem ZaM:∀(x y:List UInt8),Op.bytesLess x y=true↔lle x y/\x≠y
 | [],[]=>by simp [Op.bytesLess,lle]
 | _::_,[]=>by simp [Op.bytesLess,lle]
 | [],_::_=>by simp [Op.bytesLess,lle]
 | a::x,b::y=>by
  have ih:=ZaM x y;simp only [Op.bytesLess,lle,Bool.or_eq_true,Bool.and_eq_true,decide_eq_true_eq,beq_iff_eq,ih,ne_eq,List.cons.injEq,not_and,UInt8.lt_iff_toNat_lt];constructor
  ·rintro(h|⟨rfl,h1,h2⟩)
   ·exact⟨Or.inl h,fun e=>by subst e;exact absurd h (Nat.lt_irrefl _)⟩
   ·exact⟨Or.inr ⟨rfl,h1⟩,fun _=>h2⟩
  ·rintro⟨h|⟨rfl,h⟩,h2⟩
   ·exact Or.inl h
   ·exact Or.inr ⟨rfl,h,h2 rfl⟩
theorem ZiO (s:ByteArray) (i k:Nat):Op.bytesLess (rotT s i).toList (rotT s k).toList=true↔lle (rot s.data.toList i) (rot s.data.toList k)/\rot s.data.toList i≠rot s.data.toList k:=by
 rw [ZaM,ByteArray.toList_eq,ByteArray.toList_eq,Zay,Zay]
theorem ZaA (s:ByteArray) (i:Nat) (w:World) (hs:s.size<=1099511627776) (hi:i<=s.size) :
  Calls Tryz.prog 121 #[.string s,.int .i64 (i:Int)] w fun e w'=>e=.returned (.string (rotT s i))/\Below w.heap.size w w':=by
 have hR:s.extract i s.size++s.extract 0 i=rotT s i:=rfl;have hx1s:(s.extract i s.size).size<=s.size:=by rw [ByteArray.size_extract];omega
 have hx2s:(s.extract 0 i).size<=s.size:=by rw [ByteArray.size_extract];omega
 have hii:(i:Int)<=(s.size:Int):=by omega
 have hi0:(0:Int)<=(i:Int):=by omega
 go_enter Tryz.func121,Tryz.ntmps121;go_wp2_with fail
 go_quiet (fail)
 go_wp2_with fail;go_ret;exact⟨rfl,rfl,rfl,rfl,Nat.le_refl _,fun _ _=>rfl⟩
theorem Zdi (s:ByteArray) (i k:Nat) (r:Bool) (w:World) (hs:s.size<=1099511627776) (hi:i<s.size) (hk:k<s.size) (hr:r=true↔Ahead s.data.toList i k) :
  Calls Tryz.prog 122 #[.string s,.int .i64 (i:Int),.int .i64 (k:Int)] w fun e w'=>e=.returned (.bool r)/\Below w.heap.size w w':=by
 have H1:=zh (fun W=>ZaA s i W hs (Nat.le_of_lt hi));have H2:=zh (fun W=>ZaA s k W hs (Nat.le_of_lt hk));have hbl:=ZiO s i k;have heq:∀b:Bool,(b=true↔rot s.data.toList i=rot s.data.toList k)->((rotT s i).toList==(rotT s k).toList)=b:=fun b hb=>ZaU _ _ _ (by rw [hb,ZgE])
 unfold Ahead at hr;rw [<-hbl] at hr;generalize rotT s i=A at *;generalize rotT s k=B at *;cases hl:Op.bytesLess A.toList B.toList with
 | true=>
  obtain rfl:r=true:=hr.2 (Or.inl hl);clear hr hbl heq hi hk hs;go_enter Tryz.func122,Tryz.ntmps122;go_wp2_with fail;refine(H1.out _).mono ?_;rintro e w1 ⟨rfl,hb1⟩;have HB1:=zh hb1;clear hb1;go_wp2_with fail;refine(H2.out _).mono ?_;rintro e w2 ⟨rfl,hb2⟩;have HB2:=zh (HB1.out.trans (hb2.mono HB1.out.size));clear hb2;go_wp2_with fail;go_ret;exact⟨rfl,HB2.out⟩
 | false=>
  rw [hl] at hr;by_cases he:rot s.data.toList i=rot s.data.toList k
  ·have hE:=heq true ⟨fun _=>he,fun _=>rfl⟩;by_cases hik:i<k
   ·obtain rfl:r=true:=hr.2 (Or.inr ⟨he,hik⟩);have h2:(i:Int)<(k:Int):=by omega
    clear hr hbl heq hi hk hs he hik;go_enter Tryz.func122,Tryz.ntmps122;go_wp2_with fail;refine(H1.out _).mono ?_;rintro e w1 ⟨rfl,hb1⟩;have HB1:=zh hb1;clear hb1;go_wp2_with fail;refine(H2.out _).mono ?_;rintro e w2 ⟨rfl,hb2⟩;have HB2:=zh (HB1.out.trans (hb2.mono HB1.out.size));clear hb2;go_wp2_with fail;go_ret;exact⟨rfl,HB2.out⟩
   ·obtain rfl:r=false:=by
     cases r
     ·rfl
     ·rcases hr.1 rfl with h|h
      ·cases h
      ·exact absurd h.2 hik
    have h2:decide (i<k)=false:=by simp only [decide_eq_false_iff_not];exact hik
    clear hr hbl heq hi hk hs he hik;go_enter Tryz.func122,Tryz.ntmps122;go_wp2_with fail;refine(H1.out _).mono ?_;rintro e w1 ⟨rfl,hb1⟩;have HB1:=zh hb1;clear hb1;go_wp2_with fail;refine(H2.out _).mono ?_;rintro e w2 ⟨rfl,hb2⟩;have HB2:=zh (HB1.out.trans (hb2.mono HB1.out.size));clear hb2;go_wp2_with fail;go_ret;exact⟨rfl,HB2.out⟩
  ·have hE:=heq false ⟨fun e=>(by cases e),fun e=>absurd e he⟩
   obtain rfl:r=false:=by
    cases r
    ·rfl
    ·rcases hr.1 rfl with h|h
     ·cases h
     ·exact absurd h.1 he
   clear hr hbl heq hi hk hs he;go_enter Tryz.func122,Tryz.ntmps122;go_wp2_with fail;refine(H1.out _).mono ?_;rintro e w1 ⟨rfl,hb1⟩;have HB1:=zh hb1;clear hb1;go_wp2_with fail;refine(H2.out _).mono ?_;rintro e w2 ⟨rfl,hb2⟩;have HB2:=zh (HB1.out.trans (hb2.mono HB1.out.size));clear hb2;go_wp2_with fail;go_ret;exact⟨rfl,HB2.out⟩
end
section
open Go.RowKit BwtM PkM
def InsAt (T:List UInt8) (i:Nat) (L nx l:List Nat) (put:Bool):Prop:=(put=true/\nx++l=insP T i L)\/(put=false/\nx++insP T i l=insP T i L)
theorem InsAt.start (T:List UInt8) (i:Nat) (L:List Nat):InsAt T i L [] L false:=Or.inr ⟨rfl,rfl⟩
theorem InsAt.go {T:List UInt8} {i x:Nat} {L nx l:List Nat} {put:Bool} (h:InsAt T i L nx (x::l) put) :
  (put=true/\InsAt T i L (nx++[x]) l true)\/(put=false/\Ahead T i x/\InsAt T i L (nx++[i]++[x]) l true)\/(put=false/\¬Ahead T i x/\InsAt T i L (nx++[x]) l false):=by
 rcases h with⟨rfl,h⟩|⟨rfl,h⟩
 ·exact Or.inl ⟨rfl,Or.inl ⟨rfl,by rw [<-h];simp⟩⟩
 ·by_cases ha:Ahead T i x
  ·refine Or.inr (Or.inl ⟨rfl,ha,Or.inl ⟨rfl,?_⟩⟩);rw [<-h,insP,if_pos ha];simp
  ·refine Or.inr (Or.inr ⟨rfl,ha,Or.inr ⟨rfl,?_⟩⟩);rw [<-h,insP,if_neg ha];simp
theorem InsAt.last {T:List UInt8} {i:Nat} {L nx:List Nat} {put:Bool} (h:InsAt T i L nx [] put):(put=true/\nx=insP T i L)\/(put=false/\nx++[i]=insP T i L):=by
 rcases h with⟨rfl,h⟩|⟨rfl,h⟩
 ·exact Or.inl ⟨rfl,by rw [<-h,List.append_nil]⟩
 ·exact Or.inr ⟨rfl,by rw [<-h];rfl⟩
theorem ZaD (T:List UInt8) (k:Nat):(sortP T k).length=k:=by rw [(Zbq T k).length_eq,List.length_range]
theorem Ze8 {T:List UInt8} {k x:Nat} (h:x∈sortP T k):x<k:=List.mem_range.1 ((Zbq T k).mem_iff.1 h)
theorem Zcu (s:ByteArray) (w:World) (hs:s.size<=1000000) :
  Calls Tryz.prog 84 #[.string s] w fun e w'=>∃v,e=.returned v/\OwnI w' w.heap.size v (toI (sortP s.data.toList s.size))/\Below w.heap.size w w':=by
 have HAH:=zh (fun i k r W (hi:i<s.size) (hk:k<s.size) hr=>Zdi s i k r W (by omega) hi hk hr);obtain⟨n,hn⟩:∃n,s.size=n:=⟨_,rfl⟩
 have HN:=zh hn;rw [hn] at hs HAH;go_enter Tryz.func84,Tryz.ntmps84;go_wp2_with fail
 go_loopw [3,11] (fun vo vi wr=>∃(i:Nat) (v:Value),vi=.int .i64 (i:Int)/\v=vo/\i<=n/\OwnI wr w.heap.size v (toI (sortP s.data.toList i))/\Below w.heap.size w wr) (fun _ vi _=>n-(intOf vi).toNat)
 case atStart=>exact⟨0,_,rfl,rfl,by omega,OwnI.nil _ _,Below.refl _ _⟩
 case round=>
  obtain⟨i,v,rfl,rfl,hi,hO,hB⟩:=hrel;have HO:=zh hO;have HB:=zh hB;have HBS:=zh hB.size;clear hO hB;by_cases hin:i<n
  ·have hii:(i:Int)<(n:Int):=by omega
   obtain⟨oa,oc,rfl⟩:=HO.out.slice;have hlen:(toI (sortP s.data.toList i)).length=i:=by rw [toI_length,ZaD]
   rw [hlen] at HO ⊢;have HLEN:=zh hlen;clear hlen;go_wp2_with fail;obtain⟨wa,rfl⟩:∃wa:World,wa=wr:=⟨_,rfl⟩
   go_loopw [5,6,16] (fun vx vp vj wr=>∃(j:Nat) (u:Value) (nx:List Nat) (put:Bool),vj=.int .i64 (j:Int)/\u=vx/\vp=.bool put/\j<=i/\nx.length<=2*j/\InsAt s.data.toList i (sortP s.data.toList i) nx ((sortP s.data.toList i).drop j) put/\OwnI wr wa.heap.size u (toI nx)/\Below wa.heap.size wa wr) (fun _ _ vj _=>i-(intOf vj).toNat)
   case atStart=>exact⟨0,_,[],false,rfl,rfl,rfl,by omega,by simp,InsAt.start _ _ _,OwnI.nil _ _,Below.refl _ _⟩
   case round=>
    obtain⟨j,u,nx,put,rfl,rfl,rfl,hj,hnx,hI,hU,hBI⟩:=hrel;have HI:=zh hI;have HU:=zh hU;have HBI:=zh hBI;have HBIS:=zh hBI.size;have hl1:(toI nx).length+1<=17592186044416:=by rw [toI_length];omega
    clear hI hU hBI;by_cases hji:j<i
    ·have hjii:(j:Int)<(i:Int):=by omega
     have HV2:=zh (HO.out.ints.below (HBI.out.mono (Nat.le_refl _)));obtain⟨b1,o1,k1,he1,c1⟩:=HV2.out.cell (show j<(toI (sortP s.data.toList i)).length by rw [HLEN.out];exact hji);rw [HLEN.out] at he1;simp only [Value.slice.injEq] at he1;obtain⟨rfl,_,rfl⟩:=he1;rw [toI_getD] at c1;have hjl:j<(sortP s.data.toList i).length:=by rw [ZaD];exact hji
     have hdr:(sortP s.data.toList i).drop j=(sortP s.data.toList i).getD j 0::(sortP s.data.toList i).drop (j+1):=by
      rw [List.getD_eq_getElem?_getD,List.getElem?_eq_getElem hjl];exact List.drop_eq_getElem_cons hjl
     have hxl:(sortP s.data.toList i).getD j 0<i:=Ze8 (by
      rw [List.getD_eq_getElem?_getD,List.getElem?_eq_getElem hjl];exact List.getElem_mem hjl)
     rw [hdr] at HI;obtain⟨x,hx⟩:∃x,(sortP s.data.toList i).getD j 0=x:=⟨_,rfl⟩
     rw [hx] at HI c1 hxl;have hgo:=HI.out.go;clear hdr hx hjl;rcases hgo with⟨rfl,hgo⟩|⟨rfl,ha,hgo⟩|⟨rfl,ha,hgo⟩
     ·have HGO:=zh hgo;clear hgo;go_wp2_with (at_builtin;refine Zaf wr rfl _ _ rfl wa.heap.size _ (toI nx) (x:Int) HU.out rfl rfl hl1 HBIS.out ?_);intro u2 w2 hO2 hB2;have HU2:Hid (OwnI w2 wa.heap.size u2 (toI (nx++[x]))):=zh (by rw [Za9];exact hO2);have HB2:=zh (HBI.out.trans hB2);clear hO2 hB2;go_wp2_with fail;go_roundw
      case rel=>exact⟨j+1,u2,nx++[x],true,by go_num,rfl,rfl,by omega,by simp;omega,HGO.out,HU2.out,HB2.out⟩
      case measure=>simp [intOf];omega
     ·have HGO:=zh hgo;have HA:=zh (HAH.out i x true wr hin (by omega) ⟨fun _=>ha,fun _=>rfl⟩);clear hgo ha;go_wp2_with fail;refine HA.out.mono ?_;rintro e w1 ⟨rfl,hb1⟩;have HU1:=zh (HU.out.below hb1);have HB1:=zh (HBI.out.trans (hb1.mono HBI.out.size));have HBS1:=zh HB1.out.size;have HV3:=zh (HV2.out.below hb1);clear hb1;go_wp2_with (at_builtin;refine Zaf w1 rfl _ _ rfl wa.heap.size _ (toI nx) (i:Int) HU1.out rfl rfl hl1 HBS1.out ?_);intro u2 w2 hO2 hB2;have HU2:Hid (OwnI w2 wa.heap.size u2 (toI (nx++[i]))):=zh (by rw [Za9];exact hO2);have HB2:=zh (HB1.out.trans hB2);have HBS2:=zh HB2.out.size;have hl2:(toI (nx++[i])).length+1<=17592186044416:=by rw [toI_length,List.length_append,List.length_singleton];omega
      clear hO2 hB2;go_wp2_with (at_builtin;refine Zaf w2 rfl _ _ rfl wa.heap.size _ (toI (nx++[i])) (x:Int) HU2.out rfl rfl hl2 HBS2.out ?_);intro u3 w3 hO3 hB3;have HU3:Hid (OwnI w3 wa.heap.size u3 (toI (nx++[i]++[x]))):=zh (by rw [Za9 (nx++[i])];exact hO3);have HB3:=zh (HB2.out.trans hB3);clear hO3 hB3;go_wp2_with fail;go_roundw
      case rel=>exact⟨j+1,u3,nx++[i]++[x],true,by go_num,rfl,rfl,by omega,by simp;omega,HGO.out,HU3.out,HB3.out⟩
      case measure=>simp [intOf];omega
     ·have HGO:=zh hgo;have HA:=zh (HAH.out i x false wr hin (by omega) ⟨fun e=>(by cases e),fun e=>absurd e ha⟩);clear hgo ha;go_wp2_with fail;refine HA.out.mono ?_;rintro e w1 ⟨rfl,hb1⟩;have HU1:=zh (HU.out.below hb1);have HB1:=zh (HBI.out.trans (hb1.mono HBI.out.size));have HBS1:=zh HB1.out.size;clear hb1;go_wp2_with (at_builtin;refine Zaf w1 rfl _ _ rfl wa.heap.size _ (toI nx) (x:Int) HU1.out rfl rfl hl1 HBS1.out ?_);intro u2 w2 hO2 hB2;have HU2:Hid (OwnI w2 wa.heap.size u2 (toI (nx++[x]))):=zh (by rw [Za9];exact hO2);have HB2:=zh (HB1.out.trans hB2);clear hO2 hB2;go_wp2_with fail;go_roundw
      case rel=>exact⟨j+1,u2,nx++[x],false,by go_num,rfl,rfl,by omega,by simp;omega,HGO.out,HU2.out,HB2.out⟩
      case measure=>simp [intOf];omega
    ·have hjii:¬(j:Int)<(i:Int):=by omega
     have hl:=HI.out;rw [List.drop_of_length_le (by rw [ZaD];omega)] at hl;have HBT:Hid (Below w.heap.size w wr):=zh (HB.out.trans (HBI.out.mono HB.out.size));have hq:=hl.last;clear hl;rcases hq with⟨rfl,hq⟩|⟨rfl,hq⟩
     ·have HU2:Hid (OwnI wr w.heap.size u (toI (sortP s.data.toList (i+1)))):=zh (by
       rw [show sortP s.data.toList (i+1)=nx from hq.symm];exact HU.out.lower HBS.out)
      clear hq;go_wp2_with fail;go_roundw
      case rel=>exact⟨i+1,u,by go_num,rfl,by omega,HU2.out,HBT.out⟩
      case measure=>simp [intOf];omega
     ·have HL:Hid (nx++[i]=sortP s.data.toList (i+1)):=zh hq;clear hq;go_wp2_with (at_builtin;refine Zaf wr rfl _ _ rfl wa.heap.size _ (toI nx) (i:Int) HU.out rfl rfl hl1 HBIS.out ?_);intro u2 w2 hO2 hB2
      have HU2:Hid (OwnI w2 w.heap.size u2 (toI (sortP s.data.toList (i+1)))):=zh (by
       rw [<-HL.out,Za9];exact OwnI.lower hO2 HBS.out)
      have HB2:Hid (Below w.heap.size w w2):=zh (HBT.out.trans (hB2.mono HBS.out));clear hO2 hB2;go_wp2_with fail;go_roundw
      case rel=>exact⟨i+1,u2,by go_num,rfl,by omega,HU2.out,HB2.out⟩
      case measure=>simp [intOf];omega
  ·have hii:¬(i:Int)<(n:Int):=by omega
   obtain rfl:i=n:=by omega
   go_wp2_with fail;go_ret;exact⟨_,rfl,HO.out,HB.out⟩
end
end Go.Proofs.YtlfpbcadcfaboaaGreatDoor

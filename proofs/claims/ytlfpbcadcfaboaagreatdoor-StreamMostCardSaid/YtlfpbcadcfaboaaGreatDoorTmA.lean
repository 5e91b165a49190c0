import Derived.Test.YtlfpbcadcfaboaaGreatDoorTcA
import Derived.Test.YtlfpbcadcfaboaaGreatDoorTcB
import Derived.Test.YtlfpbcadcfaboaaGreatDoorTcP
import Derived.Test.YtlfpbcadcfaboaaGreatDoorRows
import Derived.WalkKit
import Derived.WalkSpells
import Derived.WalkLawsBesides
import Derived.ProofKit
import Derived.OpenShut
import Derived.ShutString
import Derived.ChangeOld
import Derived.Below
import Derived.Lib.Hide
import Derived.BigQuiet
import Derived.SliceStrings
import Derived.Deep.RegionLaw
set_option linter.unusedVariables false
set_option linter.unusedSimpArgs false
set_option maxHeartbeats 8000000
set_option maxRecDepth 100000
namespace Go.Proofs.YtlfpbcadcfaboaaGreatDoor
section
open Go.ChangeShapes Go.WideShapes Go.ChangeAt Go.RowKit
open Go.ChangeMaps (open_string shut_string)
namespace LawShell
theorem own:ownKnob Tryz.prog.godebug=none:=by kernel_rfl
theorem laidOut:laidOutB Tryz.prog=true:=by kernel_rfl
end LawShell
end
section
namespace CrcM
open Go.RowKit
theorem ZdY (x:BitVec 32) (h:2147483648<=(x.toNat:Int)):bits BinOp.xor IntKind.u32 (((x.toNat:Int)-2147483648)*2) 79764919=((b1 x).toNat:Int):=by
 have hx:=x.isLt;have e:((x.toNat:Int)-(2147483648:Int))*(2:Int)=((x <<< 1).toNat:Int):=by rw [<-ZaG];omega
 have e2:(79764919:Int)=(poly.toNat:Int):=rfl;rw [e,e2,ZaY];unfold b1;rw [if_pos ((Zge x).2 (by omega))]
theorem ZdZ (x:BitVec 32) (h:(x.toNat:Int)<2147483648):(x.toNat:Int)*(2:Int)=((b1 x).toNat:Int):=by
 unfold b1;rw [if_neg (fun g=>by have:=(Zge x).1 g;omega)];simp only [BitVec.xor_zero];rw [<-ZaG];omega
theorem ZiJ (X:BitVec 32) (b:UInt8):bits BinOp.xor IntKind.u32 (X.toNat:Int) ((b.toNat:Int)*16777216)=((X ^^^ up b.toNat).toNat:Int):=by
 rw [Zh5 _ b.toNat_lt,ZaY]
theorem ZiK (x:BitVec 32):(4294967295:Int)-(x.toNat:Int)=((ng x).toNat:Int):=by
 have:=x.isLt;unfold ng;rw [BitVec.toNat_not];omega
end CrcM
end
section
open Go.RowKit CrcM
theorem Zbk (n:Int) (X:BitVec 32) (hX:n=(X.toNat:Int)) (w:World) :
  Calls Tryz.prog 81 #[.int .u32 n] w fun e w'=>e=.returned (.int .u32 ((it 8 X).toNat:Int))/\w=w':=by
 subst hX;go_enter Tryz.func81,Tryz.ntmps81;go_wp2
 go_loop [0,3] (fun v i=>∃(k:Nat),k<=8/\i=.int .i64 k/\v=.int .u32 ((it k X).toNat:Int)) (fun _ i=>8-(intOf i).toNat)
 case atStart=>exact⟨0,by omega,rfl,rfl⟩
 case round=>
  obtain⟨k,hk,rfl,rfl⟩:=hrel;obtain⟨hb0,hb1⟩:=bd32 (it k X);by_cases hlt:k<8
  ·by_cases hh:2147483648<=((it k X).toNat:Int)
   ·go_wp2
    go_round
    case rel=>exact⟨k+1,by omega,by go_num,by rw [ZdY _ hh];rfl⟩
    case measure=>simp [intOf];omega
   ·go_wp2
    go_round
    case rel=>exact⟨k+1,by omega,by go_num,by rw [ZdZ _ (by omega)];rfl⟩
    case measure=>simp [intOf];omega
  ·obtain rfl:k=8:=by omega
   go_wp2;go_ret;exact⟨rfl,rfl⟩
theorem Zcn (X:BitVec 32) (b:UInt8) (w:World) :
  Calls Tryz.prog 52 #[.int .u32 (X.toNat:Int),.int .u8 (b.toNat:Int)] w fun e w'=>e=.returned (.int .u32 ((nx X b).toNat:Int))/\w=w':=by
 have hb:(b.toNat:Int)<256:=by have:=b.toNat_lt;omega
 go_enter Tryz.func52,Tryz.ntmps52;go_wp2_with fail;refine(Zbk _ (X ^^^ up b.toNat) (ZiJ X b) _).mono ?_;rintro e w' ⟨rfl,rfl⟩;go_wp2_with fail;go_ret;exact⟨rfl,rfl⟩
theorem ZcW (s:ByteArray) (w:World) (hs:s.size<=maxLen) :
  Calls Tryz.prog 28 #[.string s] w fun e w'=>e=.returned (.int .u32 ((crc s.data.toList).toNat:Int))/\w=w':=by
 unfold maxLen at hs;go_enter Tryz.func28,Tryz.ntmps28;go_wp2_with fail
 go_loop [3,4] (fun v i=>∃k:Nat,k<=s.size/\i=.int .i64 k/\v=.int .u32 ((run (ng 0#32) (s.data.toList.take k)).toNat:Int)) (fun _ i=>s.size-(intOf i).toNat)
 case atStart=>exact⟨0,by omega,rfl,rfl⟩
 case round=>
  obtain⟨k,hk,rfl,rfl⟩:=hrel;obtain⟨hb0,hb1⟩:=bd32 (run (ng 0#32) (s.data.toList.take k));by_cases hlt:k<s.size
  ·have hsn:=zh (Zfr s k hlt);go_wp2_with fail;refine(Zcn (run (ng 0#32) (s.data.toList.take k)) s[k] w).mono ?_;rintro e w' ⟨rfl,rfl⟩;go_wp2_with fail
   go_round
   case rel=>exact⟨k+1,by omega,by go_num,by rw [hsn.out,ZgS]⟩
   case measure=>simp [intOf];omega
  ·obtain rfl:k=s.size:=by omega
   go_wp2_with fail;go_ret;rw [List.take_of_length_le (by simp)];rw [ZiK];exact⟨rfl,rfl⟩
end
section
open Go.RowKit BitM
theorem ZiW (b:Nat) (v:Value) (q:List Bool) (tk:Nat) (w:World) (h:IsWriter w b v q tk):Calls Tryz.prog 48 #[.pointer (some ⟨b,0,none⟩)] w fun e w'=>e=.returned (.int .i64 ((q.length / 8-tk:Nat):Int))/\w=w':=by
 obtain⟨c0,c1,c2,f0,f1,f2⟩:=h.cells;obtain⟨a,cap,rfl⟩:=Zao h.2.2;clear h;go_enter Tryz.func48,Tryz.ntmps48;go_wp2;go_ret;exact⟨rfl,rfl⟩
end
section
open Go.RowKit
theorem ZgR (r:Int) (w:World):Calls Tryz.prog 26 #[.int .i64 r] w fun e w'=>e=.returned (.bool (decide (5<=r/\r<=900000)))/\w'=w:=by
 by_cases h1:r<5
 ·have h2:¬r>=5:=by omega
  have h3:decide (5<=r/\r<=900000)=false:=by rw [decide_eq_false_iff_not];omega
  rw [h3];go_enter Tryz.func26,Tryz.ntmps26;go_wp2_with fail;go_ret;exact⟨rfl,rfl⟩
 ·have h2:r>=5:=by omega
  by_cases h4:r<=900000
  ·have h3:decide (5<=r/\r<=900000)=true:=by rw [decide_eq_true_eq];omega
   rw [h3];go_enter Tryz.func26,Tryz.ntmps26;go_wp2_with fail;go_ret;exact⟨rfl,rfl⟩
  ·have h3:decide (5<=r/\r<=900000)=false:=by rw [decide_eq_false_iff_not];omega
   rw [h3];go_enter Tryz.func26,Tryz.ntmps26;go_wp2_with fail;go_ret;exact⟨rfl,rfl⟩
end
end Go.Proofs.YtlfpbcadcfaboaaGreatDoor

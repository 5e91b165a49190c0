import Derived.Test.YtnachbjhhpnadaaGreatDoorBcR
import Derived.Test.YtnachbjhhpnadaaGreatDoorBcT
set_option linter.unusedVariables false
set_option linter.unusedSimpArgs false
set_option maxHeartbeats 8000000
set_option maxRecDepth 100000
namespace Go.Proofs.YtnachbjhhpnadaaGreatDoor
section
open Go.RowKit BwtM SrtM PkM
def SoOne (B:Nat) (w:World) (b n:Nat) (P:List Nat):Prop:=∃bo bc ba S,IsSo B w b bo bc ba .nilFunc (.slice none 0 0) n [] S/\S.ord=P/\S.steps=0
theorem SoOne.below {B:Nat} {w w':World} {b n:Nat} {P:List Nat} (h:SoOne B w b n P) (hb:Below w.heap.size w w'):SoOne B w' b n P:=by
 obtain⟨bo,bc,ba,S,h1,h2,h3⟩:=h;exact⟨bo,bc,ba,S,h1.below hb,h2,h3⟩
theorem SoOne.base {B:Nat} {w:World} {b n:Nat} {P:List Nat} (h:SoOne B w b n P):B<=b/\b<w.heap.size:=by
 obtain⟨bo,bc,ba,S,h1,h2,h3⟩:=h;exact⟨h1.base.1,h1.obj.lt⟩
theorem SoOne.count {B:Nat} {w:World} {b n:Nat} {P:List Nat} (h:SoOne B w b n P):w.cell? ⟨b,10,none⟩=some (.int .i64 0)/\w.frozen? ⟨b,10,none⟩=false/\SoOne B (w.setCell ⟨b,10,none⟩ (.int .i64 0)) b n P:=by
 obtain⟨bo,bc,ba,S,h1,h2,h3⟩:=h;obtain⟨_,_,_,_,_,_,_,_,_,_,d10⟩:=h1.obj.cells;rw [h3] at d10;exact⟨d10,h1.obj.frozen 10 (by omega),bo,bc,ba,_,h1.own (Zaa (Touch.refl _ _)) (h1.obj.set10 0) rfl rfl rfl rfl,h2,rfl⟩
theorem SoOne.done {B:Nat} {w:World} {b n:Nat} {P:List Nat} (h:SoOne B w b n P):Calls Tryz.prog 154 #[.pointer (some ⟨b,0,none⟩)] w fun e w'=>e=.returned (.bool true)/\w'=w:=by
 obtain⟨bo,bc,ba,S,h1,h2,h3⟩:=h;exact Zo0 w h1.obj
theorem SoOne.held {B:Nat} {w:World} {b n:Nat} {P:List Nat} (h:SoOne B w b n P) (hn:n<=1000000):Calls Tryz.prog 152 #[.pointer (some ⟨b,0,none⟩)] w fun e w'=>e=.returned (.int .i64 ((3*n:Nat):Int))/\∃m,w'=w.drewN m:=by
 obtain⟨bo,bc,ba,S,h1,h2,h3⟩:=h;exact Zo1 w h1.obj hn
def NewOne (w w':World) (n:Nat) (e:Ending):Prop:=
 ∃b,e=.returned (.tuple #[.pointer (some ⟨b,0,none⟩),.int .i64 0])/\SoOne w.heap.size w' b n (List.range n)/\Below w.heap.size w w'
theorem Zea {w w':World} {b bo bc ba n:Nat} (h:IsSo w.heap.size w' b bo bc ba .nilFunc (.slice none 0 0) n [] (zeroS n n)) (hB:Below w.heap.size w w'):NewOne w w' n (.returned (.tuple #[.pointer (some ⟨b,0,none⟩),.int .i64 0])):=
 ⟨b,rfl,⟨bo,bc,ba,_,h,ZsN n,rfl⟩,hB⟩
theorem Zq0 (s:ByteArray) (n:Nat) (w:World) (hn:s.size=n) (hn2:n<2):Calls Tryz.prog 151 #[.string s] w fun e w'=>NewOne w w' n e:=by
 have h1:¬(n:Int)>900000:=by omega
 have hmk:=Za2 n (by omega);have HN:=zh hn;go_enter Tryz.func151,Tryz.ntmps151;go_wp2_with fail
 go_region
 ·have HI0:=zh (ZgH w n (w.heap.size) (w.heap.size+1) (w.heap.size+1+1) (by omega) (by omega) (by omega) (by omega));generalize ((((w.alloc (.cells (madeCells #[.int .i64 0] n) 3)).alloc (.cells (madeCells #[.int .i64 0] n) 3)).alloc (.cells (madeCells #[.int .i64 0] n) 3)).alloc (.cells #[.slice (some ⟨w.heap.size,0,none⟩) n n,.slice (some ⟨w.heap.size+1,0,none⟩) n n,.slice (some ⟨w.heap.size+1+1,0,none⟩) n n,.int .i64 0,.nilFunc,.slice none 0 0,.int .i64 0,.int .i64 0,.int .i64 0,.int .i64 0,.int .i64 0] 276)).drew=w4 at *;obtain⟨d0,_⟩:=HI0.out.1.obj.cells;clear hmk;go_wp2_with fail
  go_loopw [25,6] (fun vg _ wr=>∃(j:Nat),vg=.int .i64 (j:Int)/\j<=n/\IsSo w.heap.size wr (w.heap.size+1+1+1) (w.heap.size) (w.heap.size+1) (w.heap.size+1+1) .nilFunc (.slice none 0 0) n [] (zeroS n j)/\Below w.heap.size w wr) (fun vg _ _=>n-(intOf vg).toNat)
  case atStart=>exact⟨0,rfl,Nat.zero_le _,HI0.out.1,HI0.out.2⟩
  case round=>
   clear d0 HI0;obtain⟨j,rfl,hj,hI,hB⟩:=hrel;have HI:=zh hI;have HB:=zh hB;obtain⟨d0,_⟩:=hI.obj.cells;clear hI hB;by_cases hjn:j<n
   ·have hji:(j:Int)<(n:Int):=by omega
    have cO:=(HI.out.ro.cell (i:=j) (by rw [toI_length,HI.out.lo];exact hjn)).1;have fO:=(HI.out.ro.cell (i:=j) (by rw [toI_length,HI.out.lo];exact hjn)).2.1;have HF:=zh (ZcW HI.out hjn);have HB2:=zh (HB.out.trans HF.out.2);go_wp2_with fail;go_roundw
    case rel=>exact⟨j+1,by go_num,by omega,HF.out.1,HB2.out⟩
    case measure=>simp [intOf];omega
   ·have hji:¬(j:Int)<(n:Int):=by omega
    have hjE:j=n:=by omega
    have h2i:¬(n:Int)>=2:=by omega
    have HR:Hid (NewOne w wr n (.returned (.tuple #[.pointer (some ⟨w.heap.size+1+1+1,0,none⟩),.int .i64 0]))):=zh (Zea (hjE▸HI.out) HB.out);go_wp2_with fail;go_ret2;exact HR.out
 ·have HI0:=zh (ZgH w n (w.heap.size) (w.heap.size+1+1) (w.heap.size+1) (by omega) (by omega) (by omega) (by omega));generalize ((((w.alloc (.cells (madeCells #[.int .i64 0] n) 3)).alloc (.cells (madeCells #[.int .i64 0] n) 3)).alloc (.cells (madeCells #[.int .i64 0] n) 3)).alloc (.cells #[.slice (some ⟨w.heap.size,0,none⟩) n n,.slice (some ⟨w.heap.size+1+1,0,none⟩) n n,.slice (some ⟨w.heap.size+1,0,none⟩) n n,.int .i64 0,.nilFunc,.slice none 0 0,.int .i64 0,.int .i64 0,.int .i64 0,.int .i64 0,.int .i64 0] 276)).drew=w4 at *;obtain⟨d0,_⟩:=HI0.out.1.obj.cells;clear hmk;go_wp2_with fail
  go_loopw [25,6] (fun vg _ wr=>∃(j:Nat),vg=.int .i64 (j:Int)/\j<=n/\IsSo w.heap.size wr (w.heap.size+1+1+1) (w.heap.size) (w.heap.size+1+1) (w.heap.size+1) .nilFunc (.slice none 0 0) n [] (zeroS n j)/\Below w.heap.size w wr) (fun vg _ _=>n-(intOf vg).toNat)
  case atStart=>exact⟨0,rfl,Nat.zero_le _,HI0.out.1,HI0.out.2⟩
  case round=>
   clear d0 HI0;obtain⟨j,rfl,hj,hI,hB⟩:=hrel;have HI:=zh hI;have HB:=zh hB;obtain⟨d0,_⟩:=hI.obj.cells;clear hI hB;by_cases hjn:j<n
   ·have hji:(j:Int)<(n:Int):=by omega
    have cO:=(HI.out.ro.cell (i:=j) (by rw [toI_length,HI.out.lo];exact hjn)).1;have fO:=(HI.out.ro.cell (i:=j) (by rw [toI_length,HI.out.lo];exact hjn)).2.1;have HF:=zh (ZcW HI.out hjn);have HB2:=zh (HB.out.trans HF.out.2);go_wp2_with fail;go_roundw
    case rel=>exact⟨j+1,by go_num,by omega,HF.out.1,HB2.out⟩
    case measure=>simp [intOf];omega
   ·have hji:¬(j:Int)<(n:Int):=by omega
    have hjE:j=n:=by omega
    have h2i:¬(n:Int)>=2:=by omega
    have HR:Hid (NewOne w wr n (.returned (.tuple #[.pointer (some ⟨w.heap.size+1+1+1,0,none⟩),.int .i64 0]))):=zh (Zea (hjE▸HI.out) HB.out);go_wp2_with fail;go_ret2;exact HR.out
 ·have HI0:=zh (ZgH w n (w.heap.size+1) (w.heap.size) (w.heap.size+1+1) (by omega) (by omega) (by omega) (by omega));generalize ((((w.alloc (.cells (madeCells #[.int .i64 0] n) 3)).alloc (.cells (madeCells #[.int .i64 0] n) 3)).alloc (.cells (madeCells #[.int .i64 0] n) 3)).alloc (.cells #[.slice (some ⟨w.heap.size+1,0,none⟩) n n,.slice (some ⟨w.heap.size,0,none⟩) n n,.slice (some ⟨w.heap.size+1+1,0,none⟩) n n,.int .i64 0,.nilFunc,.slice none 0 0,.int .i64 0,.int .i64 0,.int .i64 0,.int .i64 0,.int .i64 0] 276)).drew=w4 at *;obtain⟨d0,_⟩:=HI0.out.1.obj.cells;clear hmk;go_wp2_with fail
  go_loopw [25,6] (fun vg _ wr=>∃(j:Nat),vg=.int .i64 (j:Int)/\j<=n/\IsSo w.heap.size wr (w.heap.size+1+1+1) (w.heap.size+1) (w.heap.size) (w.heap.size+1+1) .nilFunc (.slice none 0 0) n [] (zeroS n j)/\Below w.heap.size w wr) (fun vg _ _=>n-(intOf vg).toNat)
  case atStart=>exact⟨0,rfl,Nat.zero_le _,HI0.out.1,HI0.out.2⟩
  case round=>
   clear d0 HI0;obtain⟨j,rfl,hj,hI,hB⟩:=hrel;have HI:=zh hI;have HB:=zh hB;obtain⟨d0,_⟩:=hI.obj.cells;clear hI hB;by_cases hjn:j<n
   ·have hji:(j:Int)<(n:Int):=by omega
    have cO:=(HI.out.ro.cell (i:=j) (by rw [toI_length,HI.out.lo];exact hjn)).1;have fO:=(HI.out.ro.cell (i:=j) (by rw [toI_length,HI.out.lo];exact hjn)).2.1;have HF:=zh (ZcW HI.out hjn);have HB2:=zh (HB.out.trans HF.out.2);go_wp2_with fail;go_roundw
    case rel=>exact⟨j+1,by go_num,by omega,HF.out.1,HB2.out⟩
    case measure=>simp [intOf];omega
   ·have hji:¬(j:Int)<(n:Int):=by omega
    have hjE:j=n:=by omega
    have h2i:¬(n:Int)>=2:=by omega
    have HR:Hid (NewOne w wr n (.returned (.tuple #[.pointer (some ⟨w.heap.size+1+1+1,0,none⟩),.int .i64 0]))):=zh (Zea (hjE▸HI.out) HB.out);go_wp2_with fail;go_ret2;exact HR.out
 ·have HI0:=zh (ZgH w n (w.heap.size+1+1) (w.heap.size) (w.heap.size+1) (by omega) (by omega) (by omega) (by omega));generalize ((((w.alloc (.cells (madeCells #[.int .i64 0] n) 3)).alloc (.cells (madeCells #[.int .i64 0] n) 3)).alloc (.cells (madeCells #[.int .i64 0] n) 3)).alloc (.cells #[.slice (some ⟨w.heap.size+1+1,0,none⟩) n n,.slice (some ⟨w.heap.size,0,none⟩) n n,.slice (some ⟨w.heap.size+1,0,none⟩) n n,.int .i64 0,.nilFunc,.slice none 0 0,.int .i64 0,.int .i64 0,.int .i64 0,.int .i64 0,.int .i64 0] 276)).drew=w4 at *;obtain⟨d0,_⟩:=HI0.out.1.obj.cells;clear hmk;go_wp2_with fail
  go_loopw [25,6] (fun vg _ wr=>∃(j:Nat),vg=.int .i64 (j:Int)/\j<=n/\IsSo w.heap.size wr (w.heap.size+1+1+1) (w.heap.size+1+1) (w.heap.size) (w.heap.size+1) .nilFunc (.slice none 0 0) n [] (zeroS n j)/\Below w.heap.size w wr) (fun vg _ _=>n-(intOf vg).toNat)
  case atStart=>exact⟨0,rfl,Nat.zero_le _,HI0.out.1,HI0.out.2⟩
  case round=>
   clear d0 HI0;obtain⟨j,rfl,hj,hI,hB⟩:=hrel;have HI:=zh hI;have HB:=zh hB;obtain⟨d0,_⟩:=hI.obj.cells;clear hI hB;by_cases hjn:j<n
   ·have hji:(j:Int)<(n:Int):=by omega
    have cO:=(HI.out.ro.cell (i:=j) (by rw [toI_length,HI.out.lo];exact hjn)).1;have fO:=(HI.out.ro.cell (i:=j) (by rw [toI_length,HI.out.lo];exact hjn)).2.1;have HF:=zh (ZcW HI.out hjn);have HB2:=zh (HB.out.trans HF.out.2);go_wp2_with fail;go_roundw
    case rel=>exact⟨j+1,by go_num,by omega,HF.out.1,HB2.out⟩
    case measure=>simp [intOf];omega
   ·have hji:¬(j:Int)<(n:Int):=by omega
    have hjE:j=n:=by omega
    have h2i:¬(n:Int)>=2:=by omega
    have HR:Hid (NewOne w wr n (.returned (.tuple #[.pointer (some ⟨w.heap.size+1+1+1,0,none⟩),.int .i64 0]))):=zh (Zea (hjE▸HI.out) HB.out);go_wp2_with fail;go_ret2;exact HR.out
 ·have HI0:=zh (ZgH w n (w.heap.size+1) (w.heap.size+1+1) (w.heap.size) (by omega) (by omega) (by omega) (by omega));generalize ((((w.alloc (.cells (madeCells #[.int .i64 0] n) 3)).alloc (.cells (madeCells #[.int .i64 0] n) 3)).alloc (.cells (madeCells #[.int .i64 0] n) 3)).alloc (.cells #[.slice (some ⟨w.heap.size+1,0,none⟩) n n,.slice (some ⟨w.heap.size+1+1,0,none⟩) n n,.slice (some ⟨w.heap.size,0,none⟩) n n,.int .i64 0,.nilFunc,.slice none 0 0,.int .i64 0,.int .i64 0,.int .i64 0,.int .i64 0,.int .i64 0] 276)).drew=w4 at *;obtain⟨d0,_⟩:=HI0.out.1.obj.cells;clear hmk;go_wp2_with fail
  go_loopw [25,6] (fun vg _ wr=>∃(j:Nat),vg=.int .i64 (j:Int)/\j<=n/\IsSo w.heap.size wr (w.heap.size+1+1+1) (w.heap.size+1) (w.heap.size+1+1) (w.heap.size) .nilFunc (.slice none 0 0) n [] (zeroS n j)/\Below w.heap.size w wr) (fun vg _ _=>n-(intOf vg).toNat)
  case atStart=>exact⟨0,rfl,Nat.zero_le _,HI0.out.1,HI0.out.2⟩
  case round=>
   clear d0 HI0;obtain⟨j,rfl,hj,hI,hB⟩:=hrel;have HI:=zh hI;have HB:=zh hB;obtain⟨d0,_⟩:=hI.obj.cells;clear hI hB;by_cases hjn:j<n
   ·have hji:(j:Int)<(n:Int):=by omega
    have cO:=(HI.out.ro.cell (i:=j) (by rw [toI_length,HI.out.lo];exact hjn)).1;have fO:=(HI.out.ro.cell (i:=j) (by rw [toI_length,HI.out.lo];exact hjn)).2.1;have HF:=zh (ZcW HI.out hjn);have HB2:=zh (HB.out.trans HF.out.2);go_wp2_with fail;go_roundw
    case rel=>exact⟨j+1,by go_num,by omega,HF.out.1,HB2.out⟩
    case measure=>simp [intOf];omega
   ·have hji:¬(j:Int)<(n:Int):=by omega
    have hjE:j=n:=by omega
    have h2i:¬(n:Int)>=2:=by omega
    have HR:Hid (NewOne w wr n (.returned (.tuple #[.pointer (some ⟨w.heap.size+1+1+1,0,none⟩),.int .i64 0]))):=zh (Zea (hjE▸HI.out) HB.out);go_wp2_with fail;go_ret2;exact HR.out
 ·have HI0:=zh (ZgH w n (w.heap.size+1+1) (w.heap.size+1) (w.heap.size) (by omega) (by omega) (by omega) (by omega));generalize ((((w.alloc (.cells (madeCells #[.int .i64 0] n) 3)).alloc (.cells (madeCells #[.int .i64 0] n) 3)).alloc (.cells (madeCells #[.int .i64 0] n) 3)).alloc (.cells #[.slice (some ⟨w.heap.size+1+1,0,none⟩) n n,.slice (some ⟨w.heap.size+1,0,none⟩) n n,.slice (some ⟨w.heap.size,0,none⟩) n n,.int .i64 0,.nilFunc,.slice none 0 0,.int .i64 0,.int .i64 0,.int .i64 0,.int .i64 0,.int .i64 0] 276)).drew=w4 at *;obtain⟨d0,_⟩:=HI0.out.1.obj.cells;clear hmk;go_wp2_with fail
  go_loopw [25,6] (fun vg _ wr=>∃(j:Nat),vg=.int .i64 (j:Int)/\j<=n/\IsSo w.heap.size wr (w.heap.size+1+1+1) (w.heap.size+1+1) (w.heap.size+1) (w.heap.size) .nilFunc (.slice none 0 0) n [] (zeroS n j)/\Below w.heap.size w wr) (fun vg _ _=>n-(intOf vg).toNat)
  case atStart=>exact⟨0,rfl,Nat.zero_le _,HI0.out.1,HI0.out.2⟩
  case round=>
   clear d0 HI0;obtain⟨j,rfl,hj,hI,hB⟩:=hrel;have HI:=zh hI;have HB:=zh hB;obtain⟨d0,_⟩:=hI.obj.cells;clear hI hB;by_cases hjn:j<n
   ·have hji:(j:Int)<(n:Int):=by omega
    have cO:=(HI.out.ro.cell (i:=j) (by rw [toI_length,HI.out.lo];exact hjn)).1;have fO:=(HI.out.ro.cell (i:=j) (by rw [toI_length,HI.out.lo];exact hjn)).2.1;have HF:=zh (ZcW HI.out hjn);have HB2:=zh (HB.out.trans HF.out.2);go_wp2_with fail;go_roundw
    case rel=>exact⟨j+1,by go_num,by omega,HF.out.1,HB2.out⟩
    case measure=>simp [intOf];omega
   ·have hji:¬(j:Int)<(n:Int):=by omega
    have hjE:j=n:=by omega
    have h2i:¬(n:Int)>=2:=by omega
    have HR:Hid (NewOne w wr n (.returned (.tuple #[.pointer (some ⟨w.heap.size+1+1+1,0,none⟩),.int .i64 0]))):=zh (Zea (hjE▸HI.out) HB.out);go_wp2_with fail;go_ret2;exact HR.out
theorem Zo5 {B:Nat} {b n:Nat} {P:List Nat} (w:World) (k:Nat) (h:SoOne B w b n P) (hk1:1<=k) (hk:k<=9223372036854775807):Calls Tryz.prog 153 #[.pointer (some ⟨b,0,none⟩),.int .i64 (k:Int)] w fun e w'=>e=.returned (.int .i64 0)/\SoOne B w' b n P/\Touch (·=b) w w':=by
 obtain⟨d10,f10,hS⟩:=h.count;have HD:=zh h.done;have HS:=zh hS;have HT:Hid (Touch (·=b) w (w.setCell ⟨b,10,none⟩ (.int .i64 0))):=zh (Zaa (Touch.refl _ _));have hki:(0:Int)<(k:Int):=by omega
 clear h hS;go_enter Tryz.func153,Tryz.ntmps153;go_wp2_with fail
 go_loopw [5] (fun vg wr=>vg=.int .i64 0/\wr=w) (fun _ _=>0)
 case atStart=>exact⟨rfl,rfl⟩
 case round=>
  obtain⟨rfl,rfl⟩:=hrel;go_wp2_with fail;refine HD.out.mono ?_;rintro e w2 ⟨rfl,rfl⟩;go_wp2_with fail;go_ret;exact⟨rfl,HS.out,HT.out⟩
theorem ZmP {B:Nat} {b n:Nat} {P:List Nat} (w:World) (h:SoOne B w b n P) (hn:n<=900000):Calls Tryz.prog 155 #[.pointer (some ⟨b,0,none⟩)] w fun e w'=>∃v,e=.returned v/\OwnI w' w.heap.size v (toI P)/\Below w.heap.size w w':=by
 have HD:=zh h.done;obtain⟨bo,bc,ba,S,h1,rfl,h3⟩:=h;obtain⟨d0,_⟩:=h1.obj.cells;have HC:=zh (ZdH bo 0 n n (toI S.ord) w (h1.ro.ints n n (by rw [toI_length,h1.lo])) (by rw [toI_length,h1.lo];omega));clear h1 h3;go_enter Tryz.func155,Tryz.ntmps155;go_wp2_with fail;refine HD.out.mono ?_;rintro e w2 ⟨rfl,rfl⟩;go_wp2_with fail;refine HC.out.mono ?_;rintro e w3 ⟨v,rfl,hO,hB⟩;have HO:=zh hO;have HB:=zh hB;clear hO hB;go_wp2_with fail;go_ret;exact⟨v,rfl,HO.out,HB.out⟩
theorem Zo6 (w:World):Calls Tryz.prog 157 #[.int .i64 1] w fun e w'=>e=.returned (.int .i64 0)/\w'=w:=by
 go_enter Tryz.func157,Tryz.ntmps157;go_wp2_with fail;go_ret;exact⟨rfl,rfl⟩
theorem Zo7 (w:World):Calls Tryz.prog 96 #[.int .i64 1] w fun e w'=>e=.returned (.int .i64 1)/\w'=w:=by
 go_enter Tryz.func96,Tryz.ntmps96;go_wp2_with fail;refine(Zo6 _).mono ?_;rintro e w' ⟨rfl,rfl⟩;go_wp2_with fail;go_ret;exact⟨rfl,rfl⟩
theorem Zq1 (s:ByteArray) (n:Nat) (w:World) (hn:s.size=n) (h0:0<n) (hs:n<2):Calls Tryz.prog 94 #[.string s] w fun e w'=>∃t b,e=.returned (.tuple #[.pointer (some ⟨t,0,none⟩),.int .i64 0])/\SoOne w.heap.size w' b n (List.range n)/\b≠t/\IsTu w.heap.size w' t s (.pointer (some ⟨b,0,none⟩)) (3*n) [] [] 0 0 (.slice none 0 0) (.slice none 0 0)/\Below w.heap.size w w':=by
 have hemp:=ZgI s (by omega);have HNEW:=zh (Zq0 s n w hn hs);have HN:=zh hn;clear hn;go_enter Tryz.func94,Tryz.ntmps94;go_wp2_with fail;refine HNEW.out.mono ?_;rintro e w1 ⟨b,rfl,hS,hB⟩;have HS:=zh hS;have HB:=zh hB;have HH:=zh (hS.held (by omega));clear hS hB;go_wp2_with fail;refine HH.out.mono ?_;rintro e w2 ⟨rfl,m,rfl⟩
 have HF:Hid (SoOne w.heap.size ((w1.drewN m).alloc (.cells #[.string s,.pointer (some ⟨b,0,none⟩),.int .i64 ((3*n:Nat):Int),.slice none 0 0,.slice none 0 0,.int .i64 0,.int .i64 0] 210)) b n (List.range n)/\b≠w1.heap.size/\IsTu w.heap.size ((w1.drewN m).alloc (.cells #[.string s,.pointer (some ⟨b,0,none⟩),.int .i64 ((3*n:Nat):Int),.slice none 0 0,.slice none 0 0,.int .i64 0,.int .i64 0] 210)) w1.heap.size s (.pointer (some ⟨b,0,none⟩)) (3*n) [] [] 0 0 (.slice none 0 0) (.slice none 0 0)/\Below w.heap.size w ((w1.drewN m).alloc (.cells #[.string s,.pointer (some ⟨b,0,none⟩),.int .i64 ((3*n:Nat):Int),.slice none 0 0,.slice none 0 0,.int .i64 0,.int .i64 0] 210))):=zh (by
  have hb2:Below w1.heap.size w1 ((w1.drewN m).alloc (.cells #[.string s,.pointer (some ⟨b,0,none⟩),.int .i64 ((3*n:Nat):Int),.slice none 0 0,.slice none 0 0,.int .i64 0,.int .i64 0] 210)):=(Zai w1 m).trans ((Below.refl w1.heap.size (w1.drewN m)).alloc (Nat.le_refl _) _);refine⟨HS.out.below hb2,by have:=HS.out.base;omega,?_,HB.out.trans (hb2.mono HB.out.size)⟩;exact⟨ZtH (w1.drewN m) s _ _ _,IsInts.nil _,OwnY.nil _ _,fun e=>(by cases e),fun j hj=>(by cases hj),HB.out.size,fun j hj=>(by cases hj),Or.inl rfl⟩)
 go_wp2_with fail;go_ret2;obtain⟨h1,h2,h3,h4⟩:=HF.out;exact⟨_,b,rfl,h1,h2,h3,h4⟩
theorem Zo8 {B t n b:Nat} {s:ByteArray} {P:List Nat} (w:World) (k:Nat) (hl1:P.length=n) (hl3:∀p∈P,p<n) (hsz:s.size=n) (hpos:0<n) (hn1:n<=1024) (hS:SoOne B w b n P) (hbt:b≠t) (h:IsTu B w t s (.pointer (some ⟨b,0,none⟩)) (3*n) [] [] 0 0 (.slice none 0 0) (.slice none 0 0)) (hk1:n<=k) (hk:k<=9223372036854775807) (hb:B<=w.heap.size) :
  Calls Tryz.prog 95 #[.pointer (some ⟨t,0,none⟩),.int .i64 (k:Int)] w fun e w'=>e=.returned (.int .i64 (n:Int))/\Below B w w'/\∃zs ov vw,IsTu B w' t s (.pointer none) (3*n) zs (lastN s.data.toList P n) (orgN P n) n ov vw:=by
 have HST:=zh (Zo5 w k hS (by omega) hk);obtain⟨c0,c1,_,_,_,_,c6⟩:=h.obj.cells;have H:=zh h;have HBT:=zh h.base;have HL1:=zh hl1;have HP:=zh hl3;have HSZ:=zh hsz;have HBB:=zh hS.base;have HBTN:=zh hbt;have hkk:(1:Int)<=(k:Int):=by omega
 have hk2i:(k:Int)-0=(k:Int):=by omega
 have hk2w:IntKind.i64.wrap (k:Int)=(k:Int):=IntWalk.i64_in _ (by omega);clear h hS hl1 hl3 hsz hbt;go_enter Tryz.func95,Tryz.ntmps95;go_wp2_with fail;refine HST.out.mono ?_;rintro e w1 ⟨rfl,hS1,hT1⟩;have HS1:=zh hS1;have HB1:Hid (Below B w w1):=zh (hT1.below hb (fun k hk=>by rw [hk];exact HBB.out.1));have H1:=zh (H.out.other hT1 (fun e=>HBTN.out e.symm) (fun k hk=>by cases hk) (fun k hk=>by cases hk));have HD:=zh hS1.done;have HOR:=zh (ZmP w1 hS1 (by omega));obtain⟨d0,d1,_,d3,_,_,d6⟩:=H1.out.obj.cells;have e1:=H1.out.obj.frozen 1 (by omega);have e3:=H1.out.obj.frozen 3 (by omega);clear hS1 hT1;go_wp2_with fail;refine HD.out.mono ?_;rintro e w2 ⟨rfl,rfl⟩;go_wp2_with fail;refine HOR.out.mono ?_;rintro e w3 ⟨v,rfl,hO,hB3⟩;have HO:=zh hO;have hzl:(toI P).length=n:=by rw [toI_length];exact HL1.out
 obtain⟨bo,cap,hve,hc1,hc2⟩:=ZsP hO (by rw [hzl];exact hpos);rw [hzl] at hve hc1;subst hve;have H3:=zh (H1.out.below hB3);have HB3:=zh (HB1.out.trans (hB3.mono (Nat.le_trans hb HB1.out.size)));obtain⟨d0,d1,_,d3,_,_,d6⟩:=H3.out.obj.cells;have e1:=H3.out.obj.frozen 1 (by omega);have e3:=H3.out.obj.frozen 3 (by omega);have e6:=H3.out.obj.frozen 6 (by omega);have HBO:Hid (w2.heap.size<=bo/\bo<w3.heap.size):=zh (hO.lt bo rfl)
 have HT5:Hid (IsTu B ((w3.setCell ⟨t,3,none⟩ (.slice (some ⟨bo,0,none⟩) n cap)).setCell ⟨t,1,none⟩ (.pointer none)) t s (.pointer none) (3*n) (toI (P.drop 0)) (lastN s.data.toList P 0) (orgN P 0) 0 (.slice (some ⟨bo,0,none⟩) n cap) (.slice none 0 0)):=zh (by
  have hlt:=H1.out.obj.lt;have hbo:=HBO.out;have h4:=H3.out.setRow (ov':=.slice (some ⟨bo,0,none⟩) n cap) (zs':=toI P) HO.out.ints (fun e=>by simp [Value.ownBlock] at e;omega) (fun j hj=>by cases hj) (fun j hj=>by simp [Value.ownBlock] at hj;omega) (Or.inr ⟨bo,0,n,cap,rfl,hc1,hc2⟩);have h5:=h4.own (Zaa (i:=1) (Touch.refl _ _)) (h4.obj.set1 (.pointer none));exact h5)
 have HB5:Hid (Below B w ((w3.setCell ⟨t,3,none⟩ (.slice (some ⟨bo,0,none⟩) n cap)).setCell ⟨t,1,none⟩ (.pointer none))):=zh ((HB3.out.setCell (p:=⟨t,3,none⟩) HBT.out _).setCell (p:=⟨t,1,none⟩) HBT.out _);clear hO hB3 hzl;go_wp2_with fail;generalize (w3.setCell ⟨t,3,none⟩ (.slice (some ⟨bo,0,none⟩) n cap)).setCell ⟨t,1,none⟩ (.pointer none)=w5 at *;have HTK:=zh (Zo4 w5 P 0 k bo 0 cap n (.slice none 0 0) HT5.out (by rw [HSZ.out];exact HP.out) (Nat.zero_le _) (by rw [HL1.out];omega) hc1 hc2 (by rw [HL1.out];omega) (by rw [HSZ.out];omega) (by omega) (Nat.le_trans hb HB5.out.size));rw [Nat.min_eq_right hk1] at HTK;refine HTK.out.mono ?_;rintro e w6 ⟨rfl,b6,o6,n6,c6,v6,h6,hk6,hB6⟩;rw [Nat.zero_add] at h6;have H6:=zh h6;have HB6:=zh (HB5.out.trans hB6);obtain⟨_,_,_,_,_,_,d6⟩:=h6.obj.cells;have e6:=h6.obj.frozen 6 (by omega);have hni:(0:Int)+(n:Int)=(n:Int):=by omega
 have hnw:IntKind.i64.wrap (n:Int)=(n:Int):=IntWalk.i64_in _ (by omega);have HR:Hid (Below B w (w6.setCell ⟨t,6,none⟩ (.int .i64 (n:Int)))/\∃zs ov vw,IsTu B (w6.setCell ⟨t,6,none⟩ (.int .i64 (n:Int))) t s (.pointer none) (3*n) zs (lastN s.data.toList P n) (orgN P n) n ov vw):=zh ⟨HB6.out.setCell (p:=⟨t,6,none⟩) HBT.out _,_,_,_,H6.out.own (Zaa (i:=6) (Touch.refl _ _)) (H6.out.obj.set6 n)⟩;clear h6 hk6 hB6;go_wp2_with fail;go_ret;exact⟨rfl,HR.out.1,HR.out.2⟩
theorem ZsQ (w:World):Calls Tryz.prog 46 #[.string ⟨#[97]⟩] w fun e w'=>e=.returned (.tuple #[.string ⟨#[97]⟩,.int .i64 0,.int .i64 0])/\Below w.heap.size w w':=by
 have HNEW:=zh (Zq1 ⟨#[97]⟩ 1 w rfl (by omega) (by omega));have HM:=zh (fun W=>Zo7 W);go_enter Tryz.func46,Tryz.ntmps46;go_wp2_with fail;refine HNEW.out.mono ?_;rintro e w1 ⟨t,b,rfl,hS,hbt,hT,hB⟩;have HB:=zh hB;have HST:=zh (Zo8 (n:=1) (s:=⟨#[97]⟩) (P:=List.range 1) w1 1 (by rfl) (fun p hp=>by have:=List.mem_range.1 hp;omega) rfl (by omega) (by omega) hS hbt hT (by omega) (by omega) hB.size);clear hS hbt hT hB;go_wp2_with fail;refine(HM.out _).mono ?_;rintro e w2 ⟨rfl,rfl⟩;go_wp2_with fail;refine HST.out.mono ?_;rintro e w3 ⟨rfl,hB3,zs,ov,vw,h3⟩;have HRES:=zh (Zkf h3 (by decide) (by decide) (by rfl));rw [show(⟨(lastN (⟨#[97]⟩:ByteArray).data.toList (List.range 1) 1).toArray⟩:ByteArray)=⟨#[97]⟩ from rfl,show((orgN (List.range 1) 1:Nat):Int)=0 from rfl] at HRES;have HB3:=zh (HB.out.trans hB3);clear h3 hB3;go_wp2_with fail;refine HRES.out.mono ?_;rintro e w4 ⟨rfl,m,rfl⟩;have HB4:=zh (HB3.out.trans (ZiU w.heap.size w3 m));go_wp2_with fail;go_ret3;exact⟨rfl,HB4.out⟩
end
section
open Go.RowKit BitM HufM CanM CodM UsedM MtfM TabM FreqM BlkM BwtM SrtM
theorem ZiV (b:Nat) (v:Value) (q0:List Bool) (tk sum:Nat) (w:World) (hw:IsWriter w b v q0 tk) (hB:Bnds w) (hsum:sum<4294967296) (hq:q0.length<=100000) (hgb:1<b) :
  Calls Tryz.prog 13 #[.pointer (some ⟨b,0,none⟩),.string ⟨#[97]⟩,.int .u32 (sum:Int)] w fun e w'=>e=.returned (.int .i64 0)/\Wrote w b v tk (q0++allK [97] 0 sum) w':=by
 have HOF:=zh (ZsQ w);have HTU:=zh (fun(v:Value) W (h:IsWriter W b v q0 tk) (h2:Bnds W)=>Zes b v q0 tk ⟨#[97]⟩ 0 sum W h h2 (by decide) (by decide) hsum hq hgb);have HW:=zh hw;have HBN:=zh hB;clear hw hB hgb hq hsum;go_enter Tryz.func13,Tryz.ntmps13;go_wp2_with fail;refine HOF.out.mono ?_;rintro e w1 ⟨rfl,hb⟩;have HW1:=zh (HW.out.other (Touch.ofBelow (S:=fun _=>False) hb) (fun _ _ h=>h));have HT:=zh (HTU.out v w1 HW1.out (HBN.out.below hb));have HB1:=zh hb;clear hb;rw [show((0:Nat):Int)=0 from rfl] at HT;go_wp2_with fail;refine HT.out.mono ?_;rintro e w2 ⟨rfl,k⟩;have HFIN:=zh (Wrote.wrote (Touch.ofBelow HB1.out) (fun k hk=>Or.inl hk) k);clear k;go_wp2_with fail;go_ret;exact⟨rfl,HFIN.out⟩
theorem letter20_one (w:World) (hB:Bnds w):Calls Tryz.prog 11 #[] w fun e w'=>e=.returned (.bool true)/\Below w.heap.size w w':=
 ZiR w hB (fun g W h1 h2 h3=>by
  refine(ZiV g _ [] 0 _ W h1 h2 (CrcM.crc [97]).isLt (by decide) h3).mono ?_;rintro e w' ⟨rfl,hw⟩;rw [List.nil_append] at hw;exact⟨rfl,hw⟩)
end
end Go.Proofs.YtnachbjhhpnadaaGreatDoor

import Derived.Test.YtlfpbcadcfaboaaGreatDoorTcA
import Derived.Test.YtlfpbcadcfaboaaGreatDoorTcB
import Derived.Test.YtlfpbcadcfaboaaGreatDoorTcC
import Derived.Test.YtlfpbcadcfaboaaGreatDoorTcD
import Derived.Test.YtlfpbcadcfaboaaGreatDoorTcE
import Derived.Test.YtlfpbcadcfaboaaGreatDoorTcF
import Derived.Test.YtlfpbcadcfaboaaGreatDoorTcG
import Derived.Test.YtlfpbcadcfaboaaGreatDoorTcH
import Derived.Test.YtlfpbcadcfaboaaGreatDoorTcI
import Derived.Test.YtlfpbcadcfaboaaGreatDoorTcJ
import Derived.Test.YtlfpbcadcfaboaaGreatDoorTcK
import Derived.Test.YtlfpbcadcfaboaaGreatDoorTcL
import Derived.Test.YtlfpbcadcfaboaaGreatDoorTcM
import Derived.Test.YtlfpbcadcfaboaaGreatDoorTcN
import Derived.Test.YtlfpbcadcfaboaaGreatDoorTcO
import Derived.Test.YtlfpbcadcfaboaaGreatDoorTcP
import Derived.Test.YtlfpbcadcfaboaaGreatDoorTcQ
import Derived.Test.YtlfpbcadcfaboaaGreatDoorTcR
import Derived.Test.YtlfpbcadcfaboaaGreatDoorTcS
import Derived.Test.YtlfpbcadcfaboaaGreatDoorTcT
import Derived.Test.YtlfpbcadcfaboaaGreatDoorTcU
import Derived.Test.YtlfpbcadcfaboaaGreatDoorTmA
import Derived.WalkKit
import Derived.Lib.BytesEntry
import Derived.Lib.IndexLaws
import Derived.Laws.OwnMore
import Derived.Laws.AppendOwnNone
import Derived.StillTailTactics
import Derived.BigRegion
import Derived.BigQuiet
import Derived.IntWalk
import Derived.Deep.AppendSrc
import Derived.Deep.Upon
import Derived.ProofKit
import Derived.OpenShut
import Derived.ShutString
import Derived.ChangeOld
import Derived.Below
import Derived.Lib.Hide
import Derived.Lib.SmallJoins
import Derived.Deep.Slices
import Derived.Shelf.Abstract
import Derived.Laws.CopyRow
import Derived.Deep.Cut
import Derived.Lib.SliceRun
import Derived.Deep.LoopGhost
import Derived.Deep.RegionHeld3
import Derived.Lib.BufferWrite
import Derived.Laws.StandIn
import Derived.Test.YtlfpbcadcfaboaaGreatDoorProg
import Derived.Shelf.Strings.Builder1
import Derived.Shelf.Strings.Builder2
import Derived.Shelf.Strings.BuilderF
import Derived.Shelf.Strings.BuilderK
import Derived.Shelf.Strings.Builder2Cap
import Derived.Shelf.Strings.BuilderCap
import Derived.ChangeKeysEq
import Derived.Laws.BitsAllLaws
import Derived.Deep.MidRow
import Derived.Outline
import Derived.Laws.EntriesVeiled
import Derived.Deep.RegionWith
import Derived.Deep.RegionLaw
import Derived.Deep.QuietTactic
import Derived.WalkMore
import Derived.Shelf.Strconv.Itoa0
import Derived.Test.YtlfpbcadcfaboaaGreatDoorCards
import Derived.Test.YtlfpbcadcfaboaaGreatDoorTie
import Derived.LaidMore
import Derived.Stop.Joined
import Derived.LaidSub
set_option linter.unusedVariables false
set_option linter.unusedSimpArgs false
set_option maxHeartbeats 8000000
set_option maxRecDepth 100000
namespace Go.Proofs.YtlfpbcadcfaboaaGreatDoor
section
open Go.RowKit BitM HufM CanM CodM UsedM MtfM TabM FreqM BlkM
theorem Zn0 {zs:List Int} {N:Nat} (h:May14 zs (N:Int)) (hz:zs.length<=41):(allC (rnd zs N 4) (pks zs N) zs).length<=61700:=by
 have h3:3<=N:=by have:=h.1;omega
 have h258:N<=258:=by have:=h.2.1;omega
 have hT6:(rnd zs N 4).length<=6:=(h.pk (by omega)).2.1;have hpl:(pks zs N).length<=1:=by rw [Ziv];unfold ng;omega
 have h1:=ZfD h3 h258 _ (h.whs (by omega));have h2:=PkM.encK_len (pks zs N) hT6 (fun x hx=>Zhc x hx) _ (Nat.le_refl _);have h4:=(ZeR (h.tbs (by omega)) zs 0 h.2.2.2.1 (by omega)).2;have h5:=PkM.allB_length (pks zs N) (rnd zs N 4).length;rw [<-PkM.encK_all _ _ (Nat.le_refl _)] at h5;unfold allC symB;rw [List.take_length,List.length_append,List.length_append];omega
theorem ZsR {l:List UInt8} (h:l≠[]) (hl:l.length<=40) (o sum:Nat):(allK l o sum).length<=62100:=by
 have h1:=Zn0 (mayK h) (by have:=Zda l;omega);have h2:(ubits (has l)).length<=272:=by rw [ZbT];have:=Zfp (has l) 16;omega
 unfold allK rowK;simp only [List.length_append,Zaa,List.length_cons,List.length_nil];omega
end
section
open Go.RowKit RleM SplM BitM CrcM
theorem Zbi {t g sum:Nat} {en:Bool} {v:Value} {q:List Bool} {tk:Nat} (w:World) (h:TwOk w t g sum en v q tk):Calls Tryz.prog 23 #[.pointer (some ⟨t,0,none⟩)] w fun e w'=>e=.returned (.int .i64 ((q.length / 8-tk:Nat):Int))/\w'=w:=by
 obtain⟨c0,_⟩:=h.1.cells;have HW:=zh (ZiW g v q tk w h.2.1);clear h;go_enter Tryz.func23,Tryz.ntmps23;go_wp2_with fail;refine HW.out.mono ?_;rintro e w1 ⟨rfl,rfl⟩;go_wp2_with fail;go_ret;exact⟨rfl,rfl⟩
end
section
open Go.RowKit BitM HufM CanM CodM UsedM MtfM TabM FreqM BlkM BwtM SrtM RleM SplM CrcM
theorem Zp9 (R:Nat) (w:World) (h5:5<=R) (h9:R<=900000):Calls Tryz.prog 27 #[.int .i64 (R:Int)] w fun e w'=>e=.returned (.int .i64 (12000+3*(R:Int)))/\Below w.heap.size w w':=by
 have HN:=zh (Zhq R w h5 h9);go_enter Tryz.func27,Tryz.ntmps27;go_wp2_with fail;refine HN.out.mono ?_;rintro e w1 ⟨t,pb,sb,rfl,_,hb1⟩;have HB1:=zh hb1;clear hb1;go_wp2_with fail;go_ret;exact⟨rfl,HB1.out⟩
theorem Zla (r:Int) (w:World) (h:r<5\/900000<r):Calls Tryz.prog 27 #[.int .i64 r] w fun e w'=>e=.returned (.int .i64 0)/\w'=w:=by
 have HN:=zh (Zje r w h);clear h;go_enter Tryz.func27,Tryz.ntmps27;go_wp2_with fail;refine HN.out.mono ?_;rintro e w1 ⟨rfl,rfl⟩;go_wp2_with fail;go_ret;exact⟨rfl,rfl⟩
theorem ZtK.below {w w':World} (h:ZtK w) (hb:Below w.heap.size w w'):ZtK w':=⟨h.1.below hb h.1.lt,h.2.below hb⟩
theorem ZiX {T:List UInt8} (h0:0<T.length) (hl:T.length<=40) (sum:Nat):(writeK T sum).length<=62100:=by
 have h3:(lastN T (sortP T T.length) T.length).length=T.length:=ZaT (by rw [(ZcT T).1.length_eq,List.length_range];exact Nat.le_refl _);exact ZsR (by intro e;rw [e] at h3;simp at h3;omega) (by omega) _ _
theorem streamMost.inn (R:Nat) (b:ByteArray) (w:World) (h:ZtK w) (hr:-9223372036854775808<=(R:Int)/\(R:Int)<=9223372036854775807) (hs:b.size<=maxLen) (h5:5<=R) (h9:R<=900000) :
  Calls Tryz.prog 7 #[.int .i64 (R:Int),.string b] w fun e w'=>e=.returned (.bool true)/\Below w.heap.size w w':=by
 have HLD:=zh h;have HNO:=zh (fun W (h:ZtK W)=>Za2 W h.1);have HRM:=zh (fun W=>ZgR ((R:Int)) W);rw [show decide (5<=(R:Int)/\(R:Int)<=900000)=true by rw [decide_eq_true_eq];omega] at HRM;have HMO:=zh (fun W=>Zp9 R W h5 h9);have hne:((12000+3*(R:Int)) != (12000+3*(R:Int)))=false:=by simp
 have hgt:¬(R:Int)>900000:=by omega
 have hlt5:¬(R:Int)<5:=by omega
 have hcut:(40:Int)<(b.size:Int)\/(¬(40:Int)<(b.size:Int)/\((R:Int))<(b.size:Int))\/(¬(40:Int)<(b.size:Int)/\¬((R:Int))<(b.size:Int)/\b.size=0)\/(¬(40:Int)<(b.size:Int)/\¬((R:Int))<(b.size:Int)/\0<b.size):=by omega
 unfold maxLen at hs;rcases hcut with k1|⟨k1,k2⟩|⟨k1,k2,k3⟩|⟨k1,k2,k3⟩
 ·go_enter Tryz.func7,Tryz.ntmps7;go_wp2_with fail;refine(HRM.out _).mono ?_;rintro e w1 ⟨rfl,hw1⟩;obtain rfl:=hw1.symm;go_wp2_with fail;refine(HMO.out _).mono ?_;rintro e w2 ⟨rfl,hb2⟩;have HB2:=zh hb2;clear hb2;go_wp2_with fail;refine(HNO.out _ (HLD.out.below HB2.out)).mono ?_;rintro e w9 ⟨rfl,hb9⟩;have HB9:=zh (HB2.out.trans (hb9.mono HB2.out.size));clear hb9;go_wp2_with fail;go_ret;exact⟨rfl,HB9.out⟩
 ·go_enter Tryz.func7,Tryz.ntmps7;go_wp2_with fail;refine(HRM.out _).mono ?_;rintro e w1 ⟨rfl,hw1⟩;obtain rfl:=hw1.symm;go_wp2_with fail;refine(HMO.out _).mono ?_;rintro e w2 ⟨rfl,hb2⟩;have HB2:=zh hb2;clear hb2;go_wp2_with fail;refine(HNO.out _ (HLD.out.below HB2.out)).mono ?_;rintro e w9 ⟨rfl,hb9⟩;have HB9:=zh (HB2.out.trans (hb9.mono HB2.out.size));clear hb9;go_wp2_with fail;go_ret;exact⟨rfl,HB9.out⟩
 ·have he:(b.toList.isEmpty)=true:=by
   have hl:b.data.toList=[]:=List.eq_nil_of_length_eq_zero k3;rw [ByteArray.toList_eq,hl];rfl
  go_enter Tryz.func7,Tryz.ntmps7;go_wp2_with fail;refine(HRM.out _).mono ?_;rintro e w1 ⟨rfl,hw1⟩;obtain rfl:=hw1.symm;go_wp2_with fail;refine(HMO.out _).mono ?_;rintro e w2 ⟨rfl,hb2⟩;have HB2:=zh hb2;clear hb2;go_wp2_with fail;refine(HNO.out _ (HLD.out.below HB2.out)).mono ?_;rintro e w9 ⟨rfl,hb9⟩;have HB9:=zh (HB2.out.trans (hb9.mono HB2.out.size));clear hb9;go_wp2_with fail;go_ret;exact⟨rfl,HB9.out⟩
 ·have he:(b.toList.isEmpty)=false:=by
   have hl:b.data.toList.length=b.size:=rfl;rw [ByteArray.toList_eq];cases hx:b.data.toList with
   | nil=>rw [hx] at hl;simp at hl;omega
   | cons _ _=>rfl
  have HN:=zh (fun W=>Ze0 1 W (by omega) (by omega));rw [show((1:Nat):Int)=1 from rfl] at HN;have HOF:=zh (fun W=>ZcW b W (by unfold maxLen;omega));have hhq:=Zbh 1 4;have hwk:=ZiX (T:=b.data.toList) (by show 0<b.size;omega) (by show b.size<=40;omega) (crc b.data.toList).toNat;obtain⟨QQ,hQQ⟩:∃QQ,headQ 1 4++blockQ++writeK b.data.toList (crc b.data.toList).toNat=QQ:=⟨_,rfl⟩
  have hql:QQ.length<=62180:=by
   rw [<-hQQ,List.length_append,List.length_append,hhq];unfold blockQ;rw [List.length_append,Zaa,Zaa];omega
  obtain⟨Hh,hHh⟩:∃Hh,QQ.length / 8-(headQ 1 4).length / 8=Hh:=⟨_,rfl⟩
  have hle:Hh<=7800:=by omega
  have HQQ:=zh hQQ;have HHH:=zh hHh;have HS0:=zh (show 0<b.size/\b.size<=300 by omega);have HL1:=zh (show(headQ 1 4).length<=800000000 by omega);clear hhq hwk hQQ hql hHh;go_enter Tryz.func7,Tryz.ntmps7;go_wp2_with fail;refine(HRM.out _).mono ?_;rintro e w1 ⟨rfl,hw1⟩;obtain rfl:=hw1.symm;go_wp2_with fail;refine(HMO.out _).mono ?_;rintro e w2 ⟨rfl,hb2⟩;have HB2:=zh hb2;clear hb2;go_wp2_with fail;refine(HN.out _).mono ?_;rintro e w3 ⟨t,g,v,rfl,h3,hf3,hb3⟩;have H3:=zh h3;have HF3:=zh hf3;have HB3:=zh (HB2.out.trans (hb3.mono HB2.out.size));have HD3:=zh (HLD.out.below HB3.out);have HLW:=zh (HLD.out.below HB2.out);have hs23:=HB2.out.size;clear h3 hf3 hb3;go_wp2_with fail;refine(ZcV w3 H3.out).mono ?_;rintro e w4 ⟨rfl,v4,h4,t4,o4⟩;have H4:=zh h4;have HB4:=zh (HB3.out.trans (t4.below HB3.out.size (fun k hk=>hk.elim (fun e=>by have:=HF3.out k e;omega) (fun e=>e.elim))))
  have HF4:=zh (show ∀k,ftT t g v4 k->w.heap.size<=k by
   intro k hk;rcases hk with hk|hk|hk
   ·have:=HF3.out k (Or.inl hk);omega
   ·have:=HF3.out k (Or.inr (Or.inl hk));omega
   ·rcases o4 k hk with e|e
    ·have:=HF3.out k (Or.inr (Or.inr e));omega
    ·have:=HB3.out.size;omega)
  have HN4:=zh (HLD.out.below HB4.out).2;clear h4 t4 o4;go_wp2_with fail;refine(HOF.out _).mono ?_;rintro e w5 ⟨rfl,rfl⟩;go_wp2_with fail;refine(Zdc 0#32 (crc b.data.toList) b _ H4.out HN4.out HL1.out HS0.out.1 HS0.out.2).mono ?_;rintro e w6 ⟨rfl,v6,h6,t6,o6⟩;rw [HQQ.out] at h6;have HHL:=zh (Zbi w6 h6);rw [HHH.out] at HHL;have HB6:=zh (HB4.out.trans (t6.below HB4.out.size (fun k hk=>hk.elim (HF4.out k) (fun e=>e.elim))));clear h6 t6 o6;go_wp2_with fail;refine HHL.out.mono ?_;rintro e w7 ⟨rfl,rfl⟩;go_wp2_with fail;refine(HMO.out _).mono ?_;rintro e w8 ⟨rfl,hb8⟩;have HB8:=zh (HB6.out.trans (hb8.mono HB6.out.size));clear hb8;have hle2:(Hh:Int)<=12000+3*(R:Int):=by omega
  go_wp2_with fail;refine(HNO.out _ (HLD.out.below HB8.out)).mono ?_;rintro e w9 ⟨rfl,hb9⟩;have HB9:=zh (HB8.out.trans (hb9.mono HB8.out.size));clear hb9;go_wp2_with fail;go_ret;exact⟨rfl,HB9.out⟩
theorem streamMost.low (r:Int) (b:ByteArray) (w:World) (h:ZtK w) (hr:-9223372036854775808<=r/\r<=9223372036854775807) (hs:b.size<=maxLen) (h5:r<5) :
  Calls Tryz.prog 7 #[.int .i64 r,.string b] w fun e w'=>e=.returned (.bool true)/\Below w.heap.size w w':=by
 have HLD:=zh h;have HNO:=zh (fun W (h:ZtK W)=>Za2 W h.1);have HRM:=zh (fun W=>ZgR (r) W);rw [show decide (5<=r/\r<=900000)=false by rw [decide_eq_false_iff_not];omega] at HRM;have HMO:=zh (fun W=>(Zla r W (by omega)).mono (fun e w' h=>(⟨h.1,h.2▸Below.refl _ _⟩:e=.returned (.int .i64 0)/\Below W.heap.size W w')));have hgt:¬r>900000:=by omega
 have hcut:(40:Int)<(b.size:Int)\/(¬(40:Int)<(b.size:Int)/\(r)<(b.size:Int))\/(¬(40:Int)<(b.size:Int)/\¬(r)<(b.size:Int)/\b.size=0)\/(¬(40:Int)<(b.size:Int)/\¬(r)<(b.size:Int)/\0<b.size):=by omega
 unfold maxLen at hs;rcases hcut with k1|⟨k1,k2⟩|⟨k1,k2,k3⟩|⟨k1,k2,k3⟩
 ·go_enter Tryz.func7,Tryz.ntmps7;go_wp2_with fail;refine(HRM.out _).mono ?_;rintro e w1 ⟨rfl,hw1⟩;obtain rfl:=hw1.symm;go_wp2_with fail;refine(HMO.out _).mono ?_;rintro e w2 ⟨rfl,hb2⟩;have HB2:=zh hb2;clear hb2;go_wp2_with fail;refine(HNO.out _ (HLD.out.below HB2.out)).mono ?_;rintro e w9 ⟨rfl,hb9⟩;have HB9:=zh (HB2.out.trans (hb9.mono HB2.out.size));clear hb9;go_wp2_with fail;go_ret;exact⟨rfl,HB9.out⟩
 ·go_enter Tryz.func7,Tryz.ntmps7;go_wp2_with fail;refine(HRM.out _).mono ?_;rintro e w1 ⟨rfl,hw1⟩;obtain rfl:=hw1.symm;go_wp2_with fail;refine(HMO.out _).mono ?_;rintro e w2 ⟨rfl,hb2⟩;have HB2:=zh hb2;clear hb2;go_wp2_with fail;refine(HNO.out _ (HLD.out.below HB2.out)).mono ?_;rintro e w9 ⟨rfl,hb9⟩;have HB9:=zh (HB2.out.trans (hb9.mono HB2.out.size));clear hb9;go_wp2_with fail;go_ret;exact⟨rfl,HB9.out⟩
 ·have he:(b.toList.isEmpty)=true:=by
   have hl:b.data.toList=[]:=List.eq_nil_of_length_eq_zero k3;rw [ByteArray.toList_eq,hl];rfl
  go_enter Tryz.func7,Tryz.ntmps7;go_wp2_with fail;refine(HRM.out _).mono ?_;rintro e w1 ⟨rfl,hw1⟩;obtain rfl:=hw1.symm;go_wp2_with fail;refine(HMO.out _).mono ?_;rintro e w2 ⟨rfl,hb2⟩;have HB2:=zh hb2;clear hb2;go_wp2_with fail;refine(HNO.out _ (HLD.out.below HB2.out)).mono ?_;rintro e w9 ⟨rfl,hb9⟩;have HB9:=zh (HB2.out.trans (hb9.mono HB2.out.size));clear hb9;go_wp2_with fail;go_ret;exact⟨rfl,HB9.out⟩
 ·have he:(b.toList.isEmpty)=false:=by
   have hl:b.data.toList.length=b.size:=rfl;rw [ByteArray.toList_eq];cases hx:b.data.toList with
   | nil=>rw [hx] at hl;simp at hl;omega
   | cons _ _=>rfl
  have HN:=zh (fun W=>Ze0 1 W (by omega) (by omega));rw [show((1:Nat):Int)=1 from rfl] at HN;have HOF:=zh (fun W=>ZcW b W (by unfold maxLen;omega));have hhq:=Zbh 1 4;have hwk:=ZiX (T:=b.data.toList) (by show 0<b.size;omega) (by show b.size<=40;omega) (crc b.data.toList).toNat;obtain⟨QQ,hQQ⟩:∃QQ,headQ 1 4++blockQ++writeK b.data.toList (crc b.data.toList).toNat=QQ:=⟨_,rfl⟩
  have hql:QQ.length<=62180:=by
   rw [<-hQQ,List.length_append,List.length_append,hhq];unfold blockQ;rw [List.length_append,Zaa,Zaa];omega
  obtain⟨Hh,hHh⟩:∃Hh,QQ.length / 8-(headQ 1 4).length / 8=Hh:=⟨_,rfl⟩
  have hle:Hh<=7800:=by omega
  have HQQ:=zh hQQ;have HHH:=zh hHh;have HS0:=zh (show 0<b.size/\b.size<=300 by omega);have HL1:=zh (show(headQ 1 4).length<=800000000 by omega);clear hhq hwk hQQ hql hHh;go_enter Tryz.func7,Tryz.ntmps7;go_wp2_with fail;refine(HRM.out _).mono ?_;rintro e w1 ⟨rfl,hw1⟩;obtain rfl:=hw1.symm;go_wp2_with fail;refine(HMO.out _).mono ?_;rintro e w2 ⟨rfl,hb2⟩;have HB2:=zh hb2;clear hb2;go_wp2_with fail;refine(HN.out _).mono ?_;rintro e w3 ⟨t,g,v,rfl,h3,hf3,hb3⟩;have H3:=zh h3;have HF3:=zh hf3;have HB3:=zh (HB2.out.trans (hb3.mono HB2.out.size));have HD3:=zh (HLD.out.below HB3.out);have HLW:=zh (HLD.out.below HB2.out);have hs23:=HB2.out.size;clear h3 hf3 hb3;go_wp2_with fail;refine(ZcV w3 H3.out).mono ?_;rintro e w4 ⟨rfl,v4,h4,t4,o4⟩;have H4:=zh h4;have HB4:=zh (HB3.out.trans (t4.below HB3.out.size (fun k hk=>hk.elim (fun e=>by have:=HF3.out k e;omega) (fun e=>e.elim))))
  have HF4:=zh (show ∀k,ftT t g v4 k->w.heap.size<=k by
   intro k hk;rcases hk with hk|hk|hk
   ·have:=HF3.out k (Or.inl hk);omega
   ·have:=HF3.out k (Or.inr (Or.inl hk));omega
   ·rcases o4 k hk with e|e
    ·have:=HF3.out k (Or.inr (Or.inr e));omega
    ·have:=HB3.out.size;omega)
  have HN4:=zh (HLD.out.below HB4.out).2;clear h4 t4 o4;go_wp2_with fail;refine(HOF.out _).mono ?_;rintro e w5 ⟨rfl,rfl⟩;go_wp2_with fail;refine(Zdc 0#32 (crc b.data.toList) b _ H4.out HN4.out HL1.out HS0.out.1 HS0.out.2).mono ?_;rintro e w6 ⟨rfl,v6,h6,t6,o6⟩;rw [HQQ.out] at h6;have HHL:=zh (Zbi w6 h6);rw [HHH.out] at HHL;have HB6:=zh (HB4.out.trans (t6.below HB4.out.size (fun k hk=>hk.elim (HF4.out k) (fun e=>e.elim))));clear h6 t6 o6;go_wp2_with fail;refine(HNO.out _ (HLD.out.below HB6.out)).mono ?_;rintro e w9 ⟨rfl,hb9⟩;have HB9:=zh (HB6.out.trans (hb9.mono HB6.out.size));clear hb9;go_wp2_with fail;go_ret;exact⟨rfl,HB9.out⟩
theorem streamMost.high (r:Int) (b:ByteArray) (w:World) (h:ZtK w) (hr:-9223372036854775808<=r/\r<=9223372036854775807) (hs:b.size<=maxLen) (h9:900000<r) :
  Calls Tryz.prog 7 #[.int .i64 r,.string b] w fun e w'=>e=.returned (.bool true)/\Below w.heap.size w w':=by
 have HLD:=zh h;have HNO:=zh (fun W (h:ZtK W)=>Za2 W h.1);have HRM:=zh (fun W=>ZgR (r) W);rw [show decide (5<=r/\r<=900000)=false by rw [decide_eq_false_iff_not];omega] at HRM;have HMO:=zh (fun W=>(Zla r W (by omega)).mono (fun e w' h=>(⟨h.1,h.2▸Below.refl _ _⟩:e=.returned (.int .i64 0)/\Below W.heap.size W w')));have hgt:r>900000:=by omega
 have hcut:(40:Int)<(b.size:Int)\/(¬(40:Int)<(b.size:Int)/\(r)<(b.size:Int))\/(¬(40:Int)<(b.size:Int)/\¬(r)<(b.size:Int)/\b.size=0)\/(¬(40:Int)<(b.size:Int)/\¬(r)<(b.size:Int)/\0<b.size):=by omega
 unfold maxLen at hs;rcases hcut with k1|⟨k1,k2⟩|⟨k1,k2,k3⟩|⟨k1,k2,k3⟩
 ·go_enter Tryz.func7,Tryz.ntmps7;go_wp2_with fail;refine(HRM.out _).mono ?_;rintro e w1 ⟨rfl,hw1⟩;obtain rfl:=hw1.symm;go_wp2_with fail;refine(HMO.out _).mono ?_;rintro e w2 ⟨rfl,hb2⟩;have HB2:=zh hb2;clear hb2;go_wp2_with fail;refine(HNO.out _ (HLD.out.below HB2.out)).mono ?_;rintro e w9 ⟨rfl,hb9⟩;have HB9:=zh (HB2.out.trans (hb9.mono HB2.out.size));clear hb9;go_wp2_with fail;go_ret;exact⟨rfl,HB9.out⟩
 ·go_enter Tryz.func7,Tryz.ntmps7;go_wp2_with fail;refine(HRM.out _).mono ?_;rintro e w1 ⟨rfl,hw1⟩;obtain rfl:=hw1.symm;go_wp2_with fail;refine(HMO.out _).mono ?_;rintro e w2 ⟨rfl,hb2⟩;have HB2:=zh hb2;clear hb2;go_wp2_with fail;refine(HNO.out _ (HLD.out.below HB2.out)).mono ?_;rintro e w9 ⟨rfl,hb9⟩;have HB9:=zh (HB2.out.trans (hb9.mono HB2.out.size));clear hb9;go_wp2_with fail;go_ret;exact⟨rfl,HB9.out⟩
 ·have he:(b.toList.isEmpty)=true:=by
   have hl:b.data.toList=[]:=List.eq_nil_of_length_eq_zero k3;rw [ByteArray.toList_eq,hl];rfl
  go_enter Tryz.func7,Tryz.ntmps7;go_wp2_with fail;refine(HRM.out _).mono ?_;rintro e w1 ⟨rfl,hw1⟩;obtain rfl:=hw1.symm;go_wp2_with fail;refine(HMO.out _).mono ?_;rintro e w2 ⟨rfl,hb2⟩;have HB2:=zh hb2;clear hb2;go_wp2_with fail;refine(HNO.out _ (HLD.out.below HB2.out)).mono ?_;rintro e w9 ⟨rfl,hb9⟩;have HB9:=zh (HB2.out.trans (hb9.mono HB2.out.size));clear hb9;go_wp2_with fail;go_ret;exact⟨rfl,HB9.out⟩
 ·have he:(b.toList.isEmpty)=false:=by
   have hl:b.data.toList.length=b.size:=rfl;rw [ByteArray.toList_eq];cases hx:b.data.toList with
   | nil=>rw [hx] at hl;simp at hl;omega
   | cons _ _=>rfl
  have HN:=zh (fun W=>Ze0 1 W (by omega) (by omega));rw [show((1:Nat):Int)=1 from rfl] at HN;have HOF:=zh (fun W=>ZcW b W (by unfold maxLen;omega));have hhq:=Zbh 1 4;have hwk:=ZiX (T:=b.data.toList) (by show 0<b.size;omega) (by show b.size<=40;omega) (crc b.data.toList).toNat;obtain⟨QQ,hQQ⟩:∃QQ,headQ 1 4++blockQ++writeK b.data.toList (crc b.data.toList).toNat=QQ:=⟨_,rfl⟩
  have hql:QQ.length<=62180:=by
   rw [<-hQQ,List.length_append,List.length_append,hhq];unfold blockQ;rw [List.length_append,Zaa,Zaa];omega
  obtain⟨Hh,hHh⟩:∃Hh,QQ.length / 8-(headQ 1 4).length / 8=Hh:=⟨_,rfl⟩
  have hle:Hh<=7800:=by omega
  have HQQ:=zh hQQ;have HHH:=zh hHh;have HS0:=zh (show 0<b.size/\b.size<=300 by omega);have HL1:=zh (show(headQ 1 4).length<=800000000 by omega);clear hhq hwk hQQ hql hHh;go_enter Tryz.func7,Tryz.ntmps7;go_wp2_with fail;refine(HRM.out _).mono ?_;rintro e w1 ⟨rfl,hw1⟩;obtain rfl:=hw1.symm;go_wp2_with fail;refine(HMO.out _).mono ?_;rintro e w2 ⟨rfl,hb2⟩;have HB2:=zh hb2;clear hb2;go_wp2_with fail;refine(HN.out _).mono ?_;rintro e w3 ⟨t,g,v,rfl,h3,hf3,hb3⟩;have H3:=zh h3;have HF3:=zh hf3;have HB3:=zh (HB2.out.trans (hb3.mono HB2.out.size));have HD3:=zh (HLD.out.below HB3.out);have HLW:=zh (HLD.out.below HB2.out);have hs23:=HB2.out.size;clear h3 hf3 hb3;go_wp2_with fail;refine(ZcV w3 H3.out).mono ?_;rintro e w4 ⟨rfl,v4,h4,t4,o4⟩;have H4:=zh h4;have HB4:=zh (HB3.out.trans (t4.below HB3.out.size (fun k hk=>hk.elim (fun e=>by have:=HF3.out k e;omega) (fun e=>e.elim))))
  have HF4:=zh (show ∀k,ftT t g v4 k->w.heap.size<=k by
   intro k hk;rcases hk with hk|hk|hk
   ·have:=HF3.out k (Or.inl hk);omega
   ·have:=HF3.out k (Or.inr (Or.inl hk));omega
   ·rcases o4 k hk with e|e
    ·have:=HF3.out k (Or.inr (Or.inr e));omega
    ·have:=HB3.out.size;omega)
  have HN4:=zh (HLD.out.below HB4.out).2;clear h4 t4 o4;go_wp2_with fail;refine(HOF.out _).mono ?_;rintro e w5 ⟨rfl,rfl⟩;go_wp2_with fail;refine(Zdc 0#32 (crc b.data.toList) b _ H4.out HN4.out HL1.out HS0.out.1 HS0.out.2).mono ?_;rintro e w6 ⟨rfl,v6,h6,t6,o6⟩;rw [HQQ.out] at h6;have HHL:=zh (Zbi w6 h6);rw [HHH.out] at HHL;have HB6:=zh (HB4.out.trans (t6.below HB4.out.size (fun k hk=>hk.elim (HF4.out k) (fun e=>e.elim))));clear h6 t6 o6;go_wp2_with fail;refine(HNO.out _ (HLD.out.below HB6.out)).mono ?_;rintro e w9 ⟨rfl,hb9⟩;have HB9:=zh (HB6.out.trans (hb9.mono HB6.out.size));clear hb9;go_wp2_with fail;go_ret;exact⟨rfl,HB9.out⟩
theorem streamMost.walk (r:Int) (b:ByteArray) (w:World) (h:ZtK w) (hr:(Lit.int .i64 r).wf=true) (hs:b.size<=maxLen) :
  Calls Tryz.prog 7 #[.int .i64 r,.string b] w fun e w'=>e=.returned (.bool true)/\Below w.heap.size w w':=by
 have hr2:-9223372036854775808<=r/\r<=9223372036854775807:=by
  simp only [Lit.wf,Bool.and_eq_true,decide_eq_true_eq] at hr;exact hr
 by_cases h5:r<5
 ·exact streamMost.low r b w h hr2 hs h5
 ·by_cases h9:900000<r
  ·exact streamMost.high r b w h hr2 hs h9
  ·obtain⟨R,rfl⟩:∃R:Nat,r=(R:Int):=⟨r.toNat,by omega⟩
   exact streamMost.inn R b w h hr2 hs (by omega) (by omega)
end
end Go.Proofs.YtlfpbcadcfaboaaGreatDoor

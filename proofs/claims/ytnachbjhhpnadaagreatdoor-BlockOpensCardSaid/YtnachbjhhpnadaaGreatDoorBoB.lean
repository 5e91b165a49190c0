import Derived.Test.YtnachbjhhpnadaaGreatDoorBcA
import Derived.Test.YtnachbjhhpnadaaGreatDoorBcB
import Derived.Test.YtnachbjhhpnadaaGreatDoorBcC
import Derived.Test.YtnachbjhhpnadaaGreatDoorBcD
import Derived.Test.YtnachbjhhpnadaaGreatDoorBcE
import Derived.Test.YtnachbjhhpnadaaGreatDoorBcF
import Derived.Test.YtnachbjhhpnadaaGreatDoorBcG
import Derived.Test.YtnachbjhhpnadaaGreatDoorBcH
import Derived.Test.YtnachbjhhpnadaaGreatDoorBcI
import Derived.Test.YtnachbjhhpnadaaGreatDoorBcJ
import Derived.Test.YtnachbjhhpnadaaGreatDoorBcK
import Derived.Test.YtnachbjhhpnadaaGreatDoorBcL
import Derived.Test.YtnachbjhhpnadaaGreatDoorBcM
import Derived.Test.YtnachbjhhpnadaaGreatDoorBcN
import Derived.Test.YtnachbjhhpnadaaGreatDoorBcO
import Derived.Test.YtnachbjhhpnadaaGreatDoorBcP
import Derived.Test.YtnachbjhhpnadaaGreatDoorBcQ
import Derived.Test.YtnachbjhhpnadaaGreatDoorBcR
import Derived.Test.YtnachbjhhpnadaaGreatDoorBcS
import Derived.Test.YtnachbjhhpnadaaGreatDoorBcT
import Derived.Test.YtnachbjhhpnadaaGreatDoorBcU
import Derived.Test.YtnachbjhhpnadaaGreatDoorBoA
import Derived.IntWalk
import Derived.Shelf.Abstract
import Derived.Test.YtnachbjhhpnadaaGreatDoorProg
import Derived.Shelf.Strings.Builder1
import Derived.Shelf.Strings.Builder2
import Derived.Shelf.Strings.BuilderF
import Derived.Shelf.Strings.BuilderK
import Derived.Shelf.Strings.Builder2Cap
import Derived.Shelf.Strings.BuilderCap
import Derived.StillTailTactics
import Derived.Test.YtnachbjhhpnadaaGreatDoorRows
import Derived.WalkKit
import Derived.WalkSpells
import Derived.WalkLawsBesides
import Derived.Lib.Hide
import Derived.Laws.EntriesVeiled
import Derived.Deep.RegionHeld3
import Derived.Lib.BytesEntry
import Derived.Lib.IndexLaws
import Derived.Laws.OwnMore
import Derived.Laws.AppendOwnNone
import Derived.BigRegion
import Derived.BigQuiet
import Derived.Deep.RegionLaw
import Derived.Deep.AppendSrc
import Derived.Deep.Upon
import Derived.Laws.CopyRow
import Derived.Deep.Cut
import Derived.Lib.SliceRun
import Derived.Deep.LoopGhost
import Derived.Lib.BufferWrite
import Derived.Laws.StandIn
import Derived.ChangeKeysEq
import Derived.Laws.BitsAllLaws
import Derived.Deep.MidRow
import Derived.Outline
import Derived.WalkMore
import Derived.Deep.QuietTactic
import Derived.Shelf.Strconv.Itoa0
set_option linter.unusedVariables false
set_option linter.unusedSimpArgs false
set_option maxHeartbeats 8000000
set_option maxRecDepth 100000
namespace Go.Proofs.YtnachbjhhpnadaaGreatDoor
section
open Go.RowKit
theorem Zcn {s:ByteArray} (hs:0<s.size):s.toList.isEmpty=false:=by
 rw [ByteArray.toList_eq];have h2:s.data.toList.length=s.size:=by simp
 cases hl:s.data.toList with
 | nil=>rw [hl] at h2;simp at h2;omega
 | cons a t=>rfl
theorem ZsU {s:ByteArray} (h:s.size=0):s=⟨#[]⟩:=by
 have h1:s.data.toList=[]:=List.eq_nil_of_length_eq_zero h;apply ByteArray.ext;apply Array.toList_inj.1;rw [h1]
theorem Zkm (s:ByteArray) (o:Int) (sum:Nat) (w:World) (hs:s.size<=1000) :
  Calls Tryz.prog 36 #[.agg #[.string s,.int .i64 o,.int .u32 (sum:Int)]] w fun e w'=>∃(t:ByteArray) (er:Int),e=.returned (.tuple #[.string t,.int .i64 er])/\OpenP s o (sum:Int) t er/\Below w.heap.size w w':=by
 have hg:=heap_alloc_new w (.cells #[.string s,.int .i64 o,.int .u32 (sum:Int)] 37);have c0:(w.alloc (.cells #[.string s,.int .i64 o,.int .u32 (sum:Int)] 37)).cell? ⟨w.heap.size,0,none⟩=some (.string s):=by rw [cell_of_row _ _ _ _ _ _ hg];rfl
 have c1:(w.alloc (.cells #[.string s,.int .i64 o,.int .u32 (sum:Int)] 37)).cell? ⟨w.heap.size,1,none⟩=some (.int .i64 o):=by rw [cell_of_row _ _ _ _ _ _ hg];rfl
 have HB0:=zh ((Below.refl w.heap.size w).alloc (Nat.le_refl _) (.cells #[.string s,.int .i64 o,.int .u32 (sum:Int)] 37));have hsz:Hid ((w.alloc (.cells #[.string s,.int .i64 o,.int .u32 (sum:Int)] 37)).heap.size=w.heap.size+1):=zh (by simp);have HG:=zh hg;clear hg;by_cases h0:s.size=0
 ·have H0:=zh h0;have hse:s.toList.isEmpty=true:=by rw [ZsU h0,ByteArray.toList_eq];rfl
  clear h0;go_enter Tryz.func36,Tryz.ntmps36;go_wp2_with fail;go_ret2;exact⟨⟨#[]⟩,1,rfl,Or.inl ⟨H0.out,rfl,rfl⟩,HB0.out⟩
 ·have h1:0<s.size:=by omega
  have hse:=Zcn h1;by_cases ho:o<0\/(s.size:Int)<=o
  ·have H1:=zh (And.intro h1 ho);by_cases ho1:o<0
   ·clear h0 h1 ho;go_enter Tryz.func36,Tryz.ntmps36;go_wp2_with fail;go_ret2;exact⟨⟨#[]⟩,23,rfl,Or.inr (Or.inl ⟨H1.out.1,H1.out.2,rfl,rfl⟩),HB0.out⟩
   ·have ho2:(s.size:Int)<=o:=by omega
    clear h0 h1 ho;go_enter Tryz.func36,Tryz.ntmps36;go_wp2_with fail;go_ret2;exact⟨⟨#[]⟩,23,rfl,Or.inr (Or.inl ⟨H1.out.1,H1.out.2,rfl,rfl⟩),HB0.out⟩
  ·obtain⟨O,rfl⟩:∃O:Nat,o=(O:Int):=⟨o.toNat,by omega⟩
   have hO:O<s.size:=by omega
   have HU:=zh (fun W=>Zpa s O W (by omega) hO);have hus:=Zcl s O;have HD:=zh (fun W=>ZfM (unText s O) W (by omega));have hdl:=ZoT s O;have HC:=zh (fun W=>(ZiP ⟨(decO s O).1.toArray⟩ W (by rw [ZiQ];unfold maxLen;omega)).mono fun e w' h=>(⟨h.1,h.2.symm⟩:_/\w'=W));have HO:=zh hO;have e1:RleM.dec (unText s O).data.toList=decO s O:=rfl;have e2:(CrcM.crc (⟨(decO s O).1.toArray⟩:ByteArray).data.toList).toNat=sumO s O:=rfl;rw [e1] at HD;rw [e2] at HC;obtain⟨X,hX⟩:∃X,sumO s O=X:=⟨_,rfl⟩
   obtain⟨E,hE⟩:∃E,(decO s O).2=E:=⟨_,rfl⟩
   obtain⟨T,hT⟩:∃T:ByteArray,(⟨(decO s O).1.toArray⟩:ByteArray)=T:=⟨_,rfl⟩
   have HX:=zh hX;have HE:=zh hE;have HT:=zh hT;rw [hE,hT] at HD;rw [hX,hT] at HC;have hOs:(O:Int)<(s.size:Int):=by omega
   generalize hut:unText s O=u at *;clear h0 h1 ho hO hdl e1 e2 hX hE hT hus hut;go_enter Tryz.func36,Tryz.ntmps36;go_wp2_with fail;refine(HU.out _).mono ?_;rintro e w1 ⟨rfl,hb1⟩;have HB1:=zh (HB0.out.trans (hb1.mono HB0.out.size));have HG1:=zh ((hb1.block w.heap.size (by have:=hsz.out;omega)).trans HG.out);have HL1:Hid (w.heap.size<w1.heap.size):=zh (by have h1:=hb1.size;have:=hsz.out;omega);clear hb1 c0 c1;go_wp2_with fail;refine(HD.out _).mono ?_;rintro e w2 ⟨rfl,m,hw2⟩;have HB2:Hid (Below w.heap.size w w2):=zh (by rw [hw2];exact HB1.out.trans ⟨rfl,rfl,rfl,Nat.le_refl _,fun _ _=>rfl⟩);have hg2:w2.heap[w.heap.size]?=some (.cells #[.string s,.int .i64 (O:Int),.int .u32 (sum:Int)] 37 (0,0)):=by rw [hw2];exact HG1.out
   have HG2:=zh hg2;have c2:w2.cell? ⟨w.heap.size,2,none⟩=some (.int .u32 (sum:Int)):=by rw [cell_of_row _ _ _ _ _ _ hg2];rfl
   clear hw2 hg2;by_cases hE0:E=0
   ·have hEb:((E:Int) != 0)=false:=by rw [hE0];rfl
    have HE0:=zh hE0;clear hE0;by_cases hx:(X:Int)=(sum:Int)
    ·have hxb:((X:Int) != (sum:Int))=false:=by rw [hx];simp
     have HXS:=zh hx;clear hx;go_wp2_with fail
     go_quiet ((go_at_call 38;exact Calls.quiet_of_same (HC.out _)))
     go_wp2_with fail;go_ret2;exact⟨T,0,rfl,Or.inr (Or.inr ⟨O,rfl,HO.out,Or.inr (Or.inr ⟨by rw [HE.out,HE0.out],by rw [HX.out];exact HXS.out,HT.out.symm,rfl⟩)⟩),HB2.out.trans ⟨rfl,rfl,rfl,Nat.le_refl _,fun _ _=>rfl⟩⟩
    ·have hxb:((X:Int) != (sum:Int))=true:=by simp;omega
     have HXS:=zh hx;clear hx;go_wp2_with fail
     go_quiet ((go_at_call 38;exact Calls.quiet_of_same (HC.out _)))
     go_wp2_with fail;go_ret2;exact⟨⟨#[]⟩,21,rfl,Or.inr (Or.inr ⟨O,rfl,HO.out,Or.inr (Or.inl ⟨by rw [HE.out,HE0.out],by rw [HX.out];exact HXS.out,rfl,rfl⟩)⟩),HB2.out.trans ⟨rfl,rfl,rfl,Nat.le_refl _,fun _ _=>rfl⟩⟩
   ·have hEb:((E:Int) != 0)=true:=by simp;omega
    have HE0:=zh hE0;clear hE0;go_wp2_with fail;go_ret2;exact⟨⟨#[]⟩,25,rfl,Or.inr (Or.inr ⟨O,rfl,HO.out,Or.inl ⟨by rw [HE.out];exact HE0.out,rfl,rfl⟩⟩),HB2.out⟩
theorem Zb4 (s:ByteArray) (o sum:Int) (w:World):Calls Tryz.prog 21 #[.agg #[.string s,.int .i64 o,.int .u32 sum]] w fun e w'=>e=.returned (.agg #[.string s,.int .i64 o,.int .u32 sum])/\Below w.heap.size w w':=by
 obtain⟨wq,hwq⟩:∃wq,w.alloc (.cells #[.string s,.int .i64 o,.int .u32 sum] 34)=wq:=⟨_,rfl⟩
 have hg:wq.heap[w.heap.size]?=some (.cells #[.string s,.int .i64 o,.int .u32 sum] 34 (0,0)):=by rw [<-hwq];exact heap_alloc_new _ _
 have hz:wq.heap.size=w.heap.size+1:=by rw [<-hwq];simp
 have HBQ:Hid (Below w.heap.size w wq):=zh (by rw [<-hwq];exact(Below.refl _ _).alloc (Nat.le_refl _) _);have c0:wq.cell? ⟨w.heap.size,0,none⟩=some (.string s):=by rw [cell_of_row _ _ 0 _ _ _ hg];rfl
 have c1:wq.cell? ⟨w.heap.size,1,none⟩=some (.int .i64 o):=by rw [cell_of_row _ _ 1 _ _ _ hg];rfl
 have c2:wq.cell? ⟨w.heap.size,2,none⟩=some (.int .u32 sum):=by rw [cell_of_row _ _ 2 _ _ _ hg];rfl
 have hbt:Tryz.prog.built 37 [(0,.string s),(1,.int .i64 o),(2,.int .u32 sum)]=some #[.string s,.int .i64 o,.int .u32 sum]:=by kernel_rfl
 have hz0:Tryz.prog.built 37 []=some #[.string ⟨#[]⟩,.int .i64 0,.int .u32 0]:=by kernel_rfl
 have hi:∀A:Array Value,A.size=3->(Tryz.prog.info? 37).map (·.size)=some A.size:=fun A h=>by rw [h];kernel_rfl
 have hu:=Tryz.underlying37;go_enter Tryz.func21,Tryz.ntmps21;go_wp2_with (first|(refine Zaz rfl 37 0 1 2 _ _ _ rfl _ _ _ rfl rfl rfl _ hbt ?_));have hf:=heap_alloc_new wq (.cells #[.string s,.int .i64 o,.int .u32 sum] 37);rw [hz] at hf;refine bodyPost_ret (v:=.agg #[.string s,.int .i64 o,.int .u32 sum]) (ZaT rfl _ _ (w.heap.size+1) #[.string s,.int .i64 o,.int .u32 sum] 37 _ rfl hf hu rfl (hi _ rfl)) rfl ⟨rfl,HBQ.out.alloc HBQ.out.size _⟩
end
section
open Go.RowKit BitM HufM CanM CodM UsedM MtfM TabM FreqM BlkM BwtM SrtM
theorem blockOpens.main (s:ByteArray) (o:Int) (sum:Nat) (w:World) (hB:Bnds w) (hs:s.size<=maxLen) :
  Calls Tryz.prog 7 #[.agg #[.string s,.int .i64 o,.int .u32 (sum:Int)]] w fun e w'=>e=.returned (.bool true)/\Below w.heap.size w w':=by
 have HLE:=zh (fun W (h:Bnds W)=>letter20_one W h);obtain⟨w0,hw0⟩:∃w0,w.alloc (.cells #[.string s,.int .i64 o,.int .u32 (sum:Int)] 34)=w0:=⟨_,rfl⟩
 have hg:w0.heap[w.heap.size]?=some (.cells #[.string s,.int .i64 o,.int .u32 (sum:Int)] 34 (0,0)):=by rw [<-hw0];exact heap_alloc_new _ _
 have HB0:Hid (Below w.heap.size w w0):=zh (by rw [<-hw0];exact(Below.refl _ _).alloc (Nat.le_refl _) _);have hz0:Hid (w.heap.size<w0.heap.size):=zh (by rw [<-hw0];simp);have c0:w0.cell? ⟨w.heap.size,0,none⟩=some (.string s):=by rw [cell_of_row _ _ 0 _ _ _ hg];rfl
 have HBW:=zh hB;have HBN:=zh (hB.below HB0.out);have hi:=ZbI #[.string s,.int .i64 o,.int .u32 (sum:Int)] rfl;have hu:=Tryz.underlying34;have HG:=zh hg;unfold maxLen at hs;clear hB;by_cases h0:100<s.size
 ·have h0i:(100:Int)<(s.size:Int):=by omega
  go_enter Tryz.func7,Tryz.ntmps7;go_wp2_with fail;refine(HLE.out _ HBN.out).mono ?_;rintro e w9 ⟨rfl,hb9⟩;have HB9:=zh (HB0.out.trans (hb9.mono HB0.out.size));clear hb9;go_wp2_with fail;go_ret;exact⟨rfl,HB9.out⟩
 ·have h0i:¬(100:Int)<(s.size:Int):=by omega
  have HO:=zh (fun W=>ZfE s o sum W (by omega));have HR:=zh (fun W=>Zkm s o sum W (by omega));have HGR:=zh (fun W=>Zb4 s o (sum:Int) W);clear h0;go_enter Tryz.func7,Tryz.ntmps7;go_wp2_with (first|(refine wpList_load_row rfl 34 _ rfl w.heap.size rfl 34 #[.string s,.int .i64 o,.int .u32 (sum:Int)] (0,0) _ hg hu rfl hi ?_));refine(HO.out _).mono ?_;rintro e w1 ⟨t,er,rfl,hp1,hb1⟩;have HP1:=zh hp1;have HB1:=zh (HB0.out.trans (hb1.mono HB0.out.size));have hg1:=(hb1.block _ hz0.out).trans HG.out;clear hp1 hb1 hg c0 hw0;go_wp2_with (first|(refine wpList_load_row rfl 34 _ rfl w.heap.size rfl 34 #[.string s,.int .i64 o,.int .u32 (sum:Int)] (0,0) _ hg1 hu rfl hi ?_));refine(HGR.out _).mono ?_;rintro e w2 ⟨rfl,hb2⟩;have HB2:=zh (HB1.out.trans (hb2.mono HB1.out.size));clear hb2;go_wp2_with fail;refine(HR.out _).mono ?_;rintro e w3 ⟨t2,er2,rfl,hp3,hb3⟩;obtain⟨rfl,rfl⟩:=HP1.out.same hp3;have HB3:=zh (HB2.out.trans (hb3.mono HB2.out.size));have HBN3:=zh (HBW.out.below HB3.out);clear hp3 hb3;have hee:(er==er)=true:=by simp
  have htt:(t.toList==t.toList)=true:=by simp
  go_wp2_with fail;refine(HLE.out _ HBN3.out).mono ?_;rintro e w9 ⟨rfl,hb9⟩;have HB9:=zh (HB3.out.trans (hb9.mono HB3.out.size));clear hb9;go_wp2_with fail;go_ret;exact⟨rfl,HB9.out⟩
end
section
namespace Opn
open Go.ChangeShapes Go.WideShapes Go.ChangeAt Go.RowKit Go.Deep
def GotIn (s:ByteArray) (o x:Int):Prop:=s.size<=maxLen/\(Lit.int .i64 o).wf=true/\(Lit.int .u32 x).wf=true
section
variable {H : Type} {enc : TypeId × Value -> H} {P : Program}
theorem open_got {W:World} {base:Nat} {t:TypeId} {v:Value} {d:DataW H} {p:List MemPlace} (hk:kinds P 2 t=some [.str,.int .i64,.int .u32]) (hu:(match P.underlying t with|some (.struct _)|some (.array _ _)=>true|_=>false)=true)
  (hv:Value.okWide P W .any base t v) (h:DataW.Trod enc P W 0 (fun _=>true) true t v d p):∃s o x,v=.agg #[.string s,.int .i64 o,.int .u32 x]/\GotIn s o x:=by
 obtain⟨cs,rfl,hall⟩:=ZfH 2 _ hk hu hv h;clear h hv;have e:cs=cs.toList.toArray:=by simp
 rw [e];clear e
 revert hall
 generalize cs.toList=l;intro hall;have hl:=hall.length
 obtain⟨x,y,z,rfl⟩:∃x y z,l=[x,y,z]:=by
  rcases l with _|⟨x,_|⟨y,_|⟨z,_|⟨u,r⟩⟩⟩⟩
  ·cases hl
  ·simp at hl
  ·simp at hl
  ·exact⟨_,_,_,rfl⟩
  ·simp at hl
 obtain⟨⟨s,e0,h0⟩,hx,hy,_⟩:=hall;obtain⟨o,e1,h1⟩:=hx;obtain⟨x,e2,h2⟩:=hy;exact⟨s,o,x,by rw [e0,e1,e2],h0,h1,h2⟩
end
end Opn
open Go.RowKit
theorem ZsV {s:ByteArray} {o x:Int} (h:Opn.GotIn s o x):∃X:Nat,x=(X:Int):=by
 have hx:0<=x/\x<=4294967295:=by simpa [Lit.wf,IntKind.min,IntKind.max,IntKind.signed,IntKind.bits] using h.2.2
 exact⟨x.toNat,by omega⟩
theorem blockOpens.walk (s:ByteArray) (o x:Int) (w:World) (hB:Bnds w) (h:Opn.GotIn s o x) :
  Calls Tryz.prog 7 #[.agg #[.string s,.int .i64 o,.int .u32 x]] w fun e w'=>e=.returned (.bool true)/\Below w.heap.size w w':=by
 obtain⟨X,rfl⟩:=ZsV h;exact blockOpens.main s o X w hB h.1
end
end Go.Proofs.YtnachbjhhpnadaaGreatDoor

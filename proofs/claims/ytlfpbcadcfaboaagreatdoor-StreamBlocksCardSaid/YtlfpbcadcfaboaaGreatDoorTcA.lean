import Derived.Test.YtlfpbcadcfaboaaGreatDoorRows
import Derived.WalkKit
import Derived.WalkSpells
import Derived.WalkLawsBesides
import Derived.ProofKit
import Derived.OpenShut
import Derived.ShutString
import Derived.ChangeOld
import Derived.Below
import Derived.Lib.Hide
import Derived.BigQuiet
import Derived.SliceStrings
import Derived.Deep.RegionWith
import Derived.Deep.RegionLaw
import Derived.Deep.QuietTactic
import Derived.Outline
set_option linter.unusedVariables false
set_option linter.unusedSimpArgs false
set_option maxHeartbeats 8000000
set_option maxRecDepth 100000
namespace Go.Proofs.YtlfpbcadcfaboaaGreatDoor
section
theorem zh {p:Prop} (h:p):Go.RowKit.Hid p:=h
open Go.ChangeShapes Go.WideShapes Go.ChangeAt Go.RowKit
open Go.ChangeMaps (open_string shut_string)
namespace LawShell
end LawShell
theorem Zal {B:Nat} {a w:World} (h:Below B a w) {g:Nat} (hg:B<=g) (cs:Array Value):Below B a (w.setRow g cs):=
 h.trans ⟨rfl,rfl,rfl,by simp [World.setRow],fun j hj=>setRow_other _ _ j _ (by omega)⟩
theorem Zat (w:World) (g:Nat) (cs:Array Value):(w.setRow g cs).heap.size=w.heap.size:=by simp [World.setRow]
structure Beneath (B:Nat) (w:World):Type where
 val:World
 is:Below B w val
instance (B:Nat) (w:World):Nonempty (Beneath B w):=⟨⟨w,Below.refl _ _⟩⟩
theorem Beneath.cell {B:Nat} {w:World} {p:Addr} {v:Value} (h:w.cell? p=some v) (hB:p.block<B) (s:Beneath B w):s.val.cell? p=some v:=(s.is.cell hB).trans h
theorem Zap {P:Program} {id:Nat} {Q:Exit->Act->World->Prop} {a:Act} {w:World} {l:List Oper} (B:Nat) (w0:World) (h0:Below B w0 w) (hm:P.follows .mixedOrders=true) (hB:Region.lexB .any l.toArray=true)
  (h:wpQuiet P l.toArray (fun w'=>∃s:Beneath B w0,w'=s.val) (fun a'=>∀w',(∃s:Beneath B w0,w'=s.val)->Q .normal a' w') l a):(Code.region id l.toArray true).wp P Q a w:=
 wp_region_quiet (C:=fun w'=>∃s:Beneath B w0,w'=s.val) hm hB ⟨⟨w.drew,h0.drew⟩,rfl⟩ (by simpa using h)
theorem Calls.beneath {P:Program} {f:FuncId} {args:Array Value} {B:Nat} {w:World} {v:Value} (s:Beneath B w) (hB:B<=w.heap.size)
  (h:Calls P f args s.val fun e w'=>e=.returned v/\Below s.val.heap.size s.val w'):Calls P f args s.val fun e w''=>e=.returned v/\∃s':Beneath B w,w''=s'.val:=
 h.mono fun _ w' ⟨he,hb⟩=>⟨he,⟨w',s.is.trans (hb.mono (Nat.le_trans hB s.is.size))⟩,rfl⟩
end
section
namespace CrcM
open Go.RowKit
def poly:BitVec 32:=79764919#32
def b1 (x:BitVec 32):BitVec 32:=(x <<< 1) ^^^ (if x.msb then poly else 0#32)
def it:Nat->BitVec 32->BitVec 32
 | 0,x=>x
 | k+1,x=>b1 (it k x)
def up (b:Nat):BitVec 32:=BitVec.ofNat 32 b <<< 24
def nx (s:BitVec 32) (b:UInt8):BitVec 32:=it 8 (s ^^^ up b.toNat)
def run (s:BitVec 32) (l:List UInt8):BitVec 32:=l.foldl nx s
def ng (x:BitVec 32):BitVec 32:= ~~~ x
def crc (l:List UInt8):BitVec 32:=ng (run (ng 0#32) l)
def rot (t:BitVec 32):BitVec 32:=t.rotateLeft 1
def cmb (t b:BitVec 32):BitVec 32:=rot t ^^^ b
theorem ZsS (x y:BitVec 32):b1 (x ^^^ y)=b1 x ^^^ b1 y:=by
 unfold b1;rw [BitVec.shiftLeft_xor_distrib,BitVec.msb_xor];cases hx:x.msb<;>cases hy:y.msb<;>simp
 ·ac_rfl
 ·ac_rfl
 ·rw [show x <<< 1 ^^^ poly ^^^ (y <<< 1 ^^^ poly)=x <<< 1 ^^^ y <<< 1 ^^^ (poly ^^^ poly) by ac_rfl];simp
theorem Zn5 (k:Nat) (x y:BitVec 32):it k (x ^^^ y)=it k x ^^^ it k y:=by
 induction k with
 | zero=>rfl
 | succ k ih=>simp only [it,ih,ZsS]
theorem ZsT (s:BitVec 32) (k:Nat) (hk:k<=8):it k ((s <<< 8) >>> 8)=((s <<< 8) >>> 8) <<< k:=by
 induction k with
 | zero=>simp [it]
 | succ k ih=>
  simp only [it,ih (by omega),b1]
  have:(((s <<< 8) >>> 8) <<< k).msb=false:=by
   rw [BitVec.msb_eq_getLsbD_last];simp;intro h;omega
  rw [this];simp [<-BitVec.shiftLeft_add]
theorem split (s:BitVec 32):s=((s >>> 24) <<< 24) ^^^ ((s <<< 8) >>> 8):=by
 apply BitVec.eq_of_getLsbD_eq;intro i hi;by_cases h:i<24
 ·simp [h,show 8+i<32 by omega,show i<32 from hi]
 ·have:¬(8+i<32):=by omega
  simp [h,this,hi,show 24+(i-24)=i by omega]
theorem Ztp (s:BitVec 32):((s <<< 8) >>> 8) <<< 8=s <<< 8:=by
 apply BitVec.eq_of_getLsbD_eq;intro i hi;by_cases h:i<8
 ·simp [h]
 ·simp [h,hi,show 8+(i-8)=i by omega]
theorem Zm3 (s:BitVec 32) (b:UInt8) (i:Nat) (hi:BitVec.ofNat 32 i=(s >>> 24) ^^^ BitVec.ofNat 32 b.toNat) :
  (s <<< 8) ^^^ it 8 (up i)=nx s b:=by
 unfold nx up;rw [hi,BitVec.shiftLeft_xor_distrib,Zn5,Zn5]
 conv=>rhs;rw [split s]
 rw [Zn5,ZsT s 8 (by omega),Ztp]
 ac_rfl
theorem Zm4 (s:BitVec 32) (a b:List UInt8):run s (a++b)=run (run s a) b:=by simp [run,List.foldl_append]
theorem ZgS (s:BitVec 32) (a:List UInt8) (c:UInt8):run s (a++[c])=nx (run s a) c:=by simp [run,List.foldl_append]
theorem ZaY (a b:BitVec 32):bits BinOp.xor IntKind.u32 (a.toNat:Int) (b.toNat:Int)=((a ^^^ b).toNat:Int):=by
 rw [u32_xor_nat _ _ a.isLt b.isLt,BitVec.toNat_xor]
theorem ZaG (x:BitVec 32):(x.toNat:Int)*(2:Int) % (4294967296:Int)=((x <<< 1).toNat:Int):=by
 simp [BitVec.toNat_shiftLeft,Nat.shiftLeft_eq]
theorem Zge (x:BitVec 32):x.msb=true↔2147483648<=x.toNat:=by
 rw [BitVec.msb_eq_decide];simp
theorem ZrX (x:BitVec 32):bits BinOp.xor IntKind.u32 ((x.toNat:Int)*2 % 4294967296) ((x.toNat:Int) / 2147483648*79764919)=((b1 x).toNat:Int):=by
 have hx:=x.isLt
 have:(x.toNat:Int) / (2147483648:Int)*(79764919:Int)=(((if x.msb then poly else 0#32):BitVec 32).toNat:Int):=by
  by_cases h:x.msb=true
  ·have:=(Zge x).1 h;rw [if_pos h];have e:(x.toNat:Int) / 2147483648=1:=by omega
   rw [e];rfl
  ·have h':¬2147483648<=x.toNat:=fun g=>h ((Zge x).2 g)
   rw [if_neg h];have e:(x.toNat:Int) / 2147483648=0:=by omega
   rw [e];rfl
 rw [ZaG,this,ZaY];rfl
theorem Zh5 (b:Nat) (h:b<256):(b:Int)*(16777216:Int)=((up b).toNat:Int):=by
 unfold up;simp [BitVec.toNat_shiftLeft,Nat.shiftLeft_eq];omega
theorem ZsU (X:BitVec 32) (b:UInt8):∃i:Nat,i<256/\bits BinOp.xor IntKind.u8 ((X.toNat:Int) / (16777216:Int)) (b.toNat:Int)=(i:Int)/\BitVec.ofNat 32 i=(X >>> 24) ^^^ BitVec.ofNat 32 b.toNat:=by
 have hX:=X.isLt;have hb:=b.toNat_lt;refine⟨(X.toNat / 16777216) ^^^ b.toNat,Nat.xor_lt_two_pow (n:=8) (by omega) (by omega),?_,?_⟩
 ·rw [show(X.toNat:Int) / (16777216:Int)=((X.toNat / 16777216:Nat):Int) by omega,u8_xor_nat _ _ (by omega) (by omega)]
 ·apply BitVec.eq_of_toNat_eq;rw [BitVec.toNat_xor,BitVec.toNat_ushiftRight,BitVec.toNat_ofNat,BitVec.toNat_ofNat,Nat.shiftRight_eq_div_pow];have h8:(X.toNat / 16777216) ^^^ b.toNat<256:=Nat.xor_lt_two_pow (n:=8) (by omega) (by omega);rw [Nat.mod_eq_of_lt (by omega),Nat.mod_eq_of_lt (by omega:b.toNat<2^32)]
theorem Zn6 (x:BitVec 32):(x.toNat:Int)*(256:Int) % (4294967296:Int)=((x <<< 8).toNat:Int):=by
 simp [BitVec.toNat_shiftLeft,Nat.shiftLeft_eq]
theorem ZrY (X:BitVec 32) (b:UInt8) (i:Nat) (hi:BitVec.ofNat 32 i=(X >>> 24) ^^^ BitVec.ofNat 32 b.toNat) :
  bits BinOp.xor IntKind.u32 ((X.toNat:Int)*256 % 4294967296) ((it 8 (up i)).toNat:Int)=((nx X b).toNat:Int):=by
 rw [Zn6,ZaY,Zm3 X b i hi]
theorem ZsV (x:BitVec 32):bits BinOp.xor IntKind.u32 IntKind.u32.max (x.toNat:Int)=((ng x).toNat:Int):=by
 have e:IntKind.u32.max=(((4294967295#32:BitVec 32).toNat:Nat):Int):=by decide
 rw [e,ZaY];congr 2
theorem Ztq (x:BitVec 32):ng (ng x)=x:=by simp [ng]
theorem crc_nil:crc []=0#32:=by decide
end CrcM
end
section
open Go.RowKit CrcM
theorem bd32 (x:BitVec 32):0<=(x.toNat:Int)/\(x.toNat:Int)<=4294967295:=by have:=x.isLt;omega
theorem Zn7 (n:Int) (X:BitVec 32) (hX:n=(X.toNat:Int)) (w:World) :
  Calls Tryz.prog 211 #[.int .u32 n] w fun e w'=>e=.returned (.int .u32 ((it 8 X).toNat:Int))/\w=w':=by
 subst hX;go_enter Tryz.func211,Tryz.ntmps211;go_wp2
 go_loop [0,4] (fun v i=>∃(k:Nat),k<=8/\i=.int .i64 k/\v=.int .u32 ((it k X).toNat:Int)) (fun _ i=>8-(intOf i).toNat)
 case atStart=>exact⟨0,by omega,rfl,rfl⟩
 case round=>
  obtain⟨k,hk,rfl,rfl⟩:=hrel;obtain⟨hb0,hb1⟩:=bd32 (it k X);by_cases hlt:k<8
  ·go_wp2
   go_round
   case rel=>exact⟨k+1,by omega,by go_num,by rw [ZrX];rfl⟩
   case measure=>simp [intOf];omega
  ·obtain rfl:k=8:=by omega
   go_wp2;go_ret;exact⟨rfl,rfl⟩
def IsTable (w:World) (B:Nat):Prop:=∀i,i<256->w.cell? ⟨B,i,none⟩=some (.int .u32 ((it 8 (up i)).toNat:Int))
theorem Zli (B:Nat) (X:BitVec 32) (b:UInt8) (w:World) (hT:IsTable w B) :
  Calls Tryz.prog 212 #[.pointer (some ⟨B,0,none⟩),.int .u32 (X.toNat:Int),.int .u8 (b.toNat:Int)] w fun e w'=>e=.returned (.int .u32 ((nx X b).toNat:Int))/\w=w':=by
 have hb:(b.toNat:Int)<256:=by have:=b.toNat_lt;omega
 obtain⟨hb0,hb1⟩:=bd32 X;obtain⟨i,hi,hidx,hbv⟩:=ZsU X b;have hc:=hT i hi;have hi2:(i:Int)<256:=by omega
 have HV:=zh hbv;clear hbv hT;go_enter Tryz.func212,Tryz.ntmps212;go_wp2;go_ret;rw [ZrY X b i HV.out];exact⟨rfl,rfl⟩
theorem Zfr (s:ByteArray) (k:Nat) (h:k<s.size):s.data.toList.take (k+1)=s.data.toList.take k++[s[k]]:=by
 rw [List.take_succ_eq_append_getElem (by simpa using h)];rfl
theorem Zh6 (B:Nat) (X:BitVec 32) (s:ByteArray) (w:World) (hT:IsTable w B) (hs:s.size<=maxLen) :
  Calls Tryz.prog 187 #[.pointer (some ⟨B,0,none⟩),.int .u32 (X.toNat:Int),.string s] w fun e w'=>e=.returned (.int .u32 ((ng (run (ng X) s.data.toList)).toNat:Int))/\w=w':=by
 unfold maxLen at hs;have HT:=zh hT;clear hT;have hsig:IntKind.u32.signed=false:=rfl;have hng:=ZsV;go_enter Tryz.func187,Tryz.ntmps187;go_wp2_with fail
 go_loop [7,8,13] (fun v _ i=>∃k:Nat,k<=s.size/\i=.int .i64 k/\v=.int .u32 ((run (ng X) (s.data.toList.take k)).toNat:Int)) (fun _ _ i=>s.size-(intOf i).toNat)
 case atStart=>exact⟨0,by omega,rfl,rfl⟩
 case round=>
  obtain⟨k,hk,rfl,rfl⟩:=hrel;by_cases hlt:k<s.size
  ·have hsn:=zh (Zfr s k hlt);go_wp2_with fail;refine(Zli B (run (ng X) (s.data.toList.take k)) s[k] w HT.out).mono ?_;rintro e w' ⟨rfl,rfl⟩;go_wp2_with fail
   go_round
   case rel=>exact⟨k+1,by omega,by go_num,by rw [hsn.out,ZgS]⟩
   case measure=>simp [intOf];omega
  ·obtain rfl:k=s.size:=by omega
   go_wp2_with fail;go_ret;rw [List.take_of_length_le (by simp)];exact⟨rfl,rfl⟩
def tabArr:Array Value:=Array.ofFn (n:=256) fun i=>.int .u32 ((it 8 (up i)).toNat:Int)
theorem ZdN:tabArr.size=256:=by simp [tabArr]
theorem Zja (i:Nat) (h:i<256):tabArr[i]?=some (.int .u32 ((it 8 (up i)).toNat:Int)):=by
 simp [tabArr,h]
theorem Zn8 (cs:Array Value) (hs:cs.size=256) (h:∀i,i<256->cs[i]?=some (.int .u32 ((it 8 (up i)).toNat:Int))):cs=tabArr:=by
 apply Array.ext_getElem?;intro i;by_cases hi:i<256
 ·rw [h i hi,Zja i hi]
 ·rw [Array.getElem?_eq_none (by omega),Array.getElem?_eq_none (by rw [ZdN];omega)]
theorem ZhE:tabArr.all (·.oneCell')=true:=by
 rw [Array.all_eq_true];intro i h;simp [tabArr,Value.oneCell']
theorem Zn9:Tryz.zeroCells242.size=256:=by kernel_rfl
theorem Zmk:(Tryz.prog.info? 242).map (·.size)=some tabArr.size:=by rw [ZdN];kernel_rfl
def Filled (N k:Nat) (w wr:World):Prop:=
 Below N w wr/\wr.heap.size=N+2/\wr.heap[N]?=some (.cells Tryz.zeroCells242 242 (0,0))/\∃cs,wr.heap[N+1]?=some (.cells cs 242 (0,0))/\cs.size=256/\∀i,i<k->cs[i]?=some (.int .u32 ((it 8 (up i)).toNat:Int))
theorem Filled.start (w:World):Filled w.heap.size 0 w ((w.alloc (.cells Tryz.zeroCells242 242)).alloc (.cells Tryz.zeroCells242 242)):=
 ⟨((Below.refl _ _).alloc (Nat.le_refl _) _).alloc (by simp) _,by simp,heap_alloc2_old _ _ _,Tryz.zeroCells242,heap_alloc2_new _ _ _,Zn9,fun i h=>by omega⟩
theorem Filled.cell {N k:Nat} {w wr:World} (h:Filled N k w wr) (hk:k<256):∃v,wr.cell? ⟨N+1,k,none⟩=some v/\wr.frozen? ⟨N+1,k,none⟩=false:=by
 obtain⟨_,_,_,cs,hc,hs,_⟩:=h;refine⟨cs[k],?_,frozen_of_row wr _ k cs 242 hc⟩;rw [cell_of_row wr _ k cs 242 _ hc];simp [hs,hk]
theorem Filled.step {N k:Nat} {w wr:World} (h:Filled N k w wr) (hk:k<256):Filled N (k+1) w (wr.setCell ⟨N+1,k,none⟩ (.int .u32 ((it 8 (up k)).toNat:Int))):=by
 obtain⟨hb,hz,h0,cs,hc,hs,hi⟩:=h;refine⟨hb.setCell (by simp) _,by simpa [World.setCell] using hz,?_,cs.setIfInBounds k (.int .u32 ((it 8 (up k)).toNat:Int)),heap_setCell_same wr _ k cs 242 _ hc,by simpa using hs,?_⟩
 ·rw [heap_setCell_other wr _ N _ (by simp)];exact h0
 ·intro i hi';rw [Array.getElem?_setIfInBounds];by_cases e:k=i
  ·subst e;simp [hs,hk]
  ·simp [e];exact hi i (by omega)
theorem Zoa (w:World)  :
  Calls Tryz.prog 186 #[] w fun e w'=>e=.returned (.agg tabArr)/\Below w.heap.size w w':=by
 have hstart:=Filled.start w;go_enter Tryz.func186,Tryz.ntmps186;go_wp2_with fail
 go_loopw [2,3] (fun _ i wr=>∃k:Nat,k<=256/\i=.int .i64 k/\Filled w.heap.size k w wr) (fun _ i _=>256-(intOf i).toNat)
 case atStart=>exact⟨0,by omega,rfl,hstart⟩
 case round=>
  clear hstart;obtain⟨k,hk,rfl,hF⟩:=hrel;by_cases hlt:k<256
  ·obtain⟨v,hv,hfr⟩:=hF.cell hlt;have hk2:(k:Int)<256:=by omega
   go_wp2_with fail;refine(Zn7 _ (up k) (Zh5 k hlt) _).mono ?_;rintro e w' ⟨rfl,rfl⟩;go_wp2_with fail;go_roundw
   case rel=>exact⟨k+1,by omega,by go_num,hF.step hlt⟩
   case measure=>simp [intOf];omega
  ·obtain rfl:k=256:=by omega
   obtain⟨hb,hz,h0,cs,hc,hs,hi⟩:=hF;obtain rfl:=Zn8 cs hs hi;have hT:tabArr.size=256:=ZdN;go_wp2_with (first|(refine wpList_load_row rfl 242 _ rfl (w.heap.size+1) rfl 242 tabArr (0,0) _ hc Tryz.underlying242 rfl Zmk ?_)|(refine wpList_store_row rfl 242 _ _ rfl w.heap.size tabArr rfl rfl 242 Tryz.zeroCells242 h0 Zmk (Zn9.trans ZdN.symm) ZhE ?_));refine bodyPost_ret (v:=.agg tabArr) (results_cell_row rfl _ _ w.heap.size 242 tabArr (0,0) _ rfl (setRow_heap wr _ Tryz.zeroCells242 tabArr 242 _ h0) Tryz.underlying242 rfl Zmk) rfl ⟨rfl,?_⟩;exact hb.trans ⟨rfl,rfl,rfl,by simp [World.setRow],fun j hj=>setRow_other wr _ j _ (by omega)⟩
theorem ZbD (x:BitVec 32):bits BinOp.or IntKind.u32 ((x.toNat:Int)*2 % 4294967296) ((x.toNat:Int) / 2147483648)=((rot x).toNat:Int):=by
 have hx:=x.isLt;rw [ZaG,show(x.toNat:Int) / (2147483648:Int)=((x >>> 31).toNat:Int) by simp [BitVec.toNat_ushiftRight,Nat.shiftRight_eq_div_pow]];rw [u32_or_nat _ _ (x <<< 1).isLt (x >>> 31).isLt,<-BitVec.toNat_or];rfl
theorem Zlj (X Y:BitVec 32) (w:World) :
  Calls Tryz.prog 60 #[.int .u32 (X.toNat:Int),.int .u32 (Y.toNat:Int)] w fun e w'=>e=.returned (.int .u32 ((cmb X Y).toNat:Int))/\w=w':=by
 obtain⟨hb0,hb1⟩:=bd32 X;have ho:=zh (ZbD X);go_enter Tryz.func60,Tryz.ntmps60;go_wp2;go_ret;rw [ho.out,ZaY];exact⟨rfl,rfl⟩
end
section
open Go.ChangeShapes Go.WideShapes Go.ChangeAt Go.RowKit CrcM
open Go.ChangeMaps (open_string shut_string)
noncomputable def Boxed (w1:World):World:=(w1.alloc (.cells Tryz.zeroCells242 242)).setRow w1.heap.size tabArr
theorem cboxed (w1 w:World) (hb:Below w.heap.size w w1):IsTable (Boxed w1) w1.heap.size/\Below w.heap.size w (Boxed w1)/\w1.heap.size+1<=(Boxed w1).heap.size:=by
 have hg:(w1.alloc (.cells Tryz.zeroCells242 242)).heap[w1.heap.size]?=some (.cells Tryz.zeroCells242 242 (0,0)):=heap_alloc_new _ _;have hz:=hb.size;refine⟨fun i hi=>?_,Zal (hb.alloc hz _) hz _,?_⟩
 ·unfold Boxed;rw [cell_of_row _ _ i tabArr 242 _ (setRow_heap _ _ _ _ 242 _ hg)];exact Zja i hi
 ·unfold Boxed;rw [Zat];simp
def IsSum (w:World) (b:Nat) (X:BitVec 32):Prop:=
 ∃tp,w.heap[b]?=some (.cells #[tp,.int .u32 (X.toNat:Int)] 177 (0,0))/\(tp=.pointer none\/∃t,tp=.pointer (some ⟨t,0,none⟩)/\IsTable w t/\t≠b/\t<w.heap.size)
theorem IsSum.cells {w:World} {b:Nat} {X:BitVec 32} (h:IsSum w b X):w.cell? ⟨b,1,none⟩=some (.int .u32 (X.toNat:Int))/\w.frozen? ⟨b,0,none⟩=false/\w.frozen? ⟨b,1,none⟩=false:=by
 obtain⟨tp,h,_⟩:=h;exact⟨by rw [cell_of_row _ _ _ _ _ _ h];rfl,frozen_of_row _ _ _ _ _ h,frozen_of_row _ _ _ _ _ h⟩
theorem IsTable.other {w w':World} {t:Nat} (h:IsTable w t) (he:w'.heap[t]?=w.heap[t]?):IsTable w' t:=fun i hi=>by
 rw [World.cell?_of_block (w:=w) (a:=⟨t,i,none⟩) he];exact h i hi
theorem IsTable.lt {w:World} {t:Nat} (h:IsTable w t):t<w.heap.size:=World.block_lt_of_cell? w _ (h 0 (by omega))
theorem ZcN (w:World) (a:Addr) (v:Value):w.grownBy (w.setCell a v) (some a.block):=
 ⟨rfl,rfl,rfl,by simp [World.setCell],fun k _ hk=>heap_setCell_other _ _ _ _ (fun e=>hk (by rw [e]))⟩
theorem ZgT {a b c:World} {r:Option Nat} (h:a.grownBy b r) (k:b.grownBy c r):a.grownBy c r:=
 ⟨k.os.trans h.os,k.tape.trans h.tape,k.output.trans h.output,Nat.le_trans h.size k.size,fun i hi hr=>(k.block i (Nat.lt_of_lt_of_le hi h.size) hr).trans (h.block i hi hr)⟩
theorem ZjJ {a b:World} (h:Below a.heap.size a b) (r:Option Nat):a.grownBy b r:=⟨h.os,h.tape,h.output,h.size,fun k hk _=>h.block k hk⟩
theorem ZhF {a b:World} {r:Option Nat} (h:a.grownBy b r):a.grownBy b.drew r:=⟨h.os,h.tape,h.output,h.size,h.block⟩
theorem tabled {w w1:World} {b:Nat} {X:BitVec 32} (hb:w.heap[b]?=some (.cells #[.pointer none,.int .u32 (X.toNat:Int)] 177 (0,0))) (hB:Below w.heap.size w w1) :
  ((Boxed w1).setCell ⟨b,0,none⟩ (.pointer (some ⟨w1.heap.size,0,none⟩))).heap[b]?=some (.cells #[.pointer (some ⟨w1.heap.size,0,none⟩),.int .u32 (X.toNat:Int)] 177 (0,0))/\IsTable ((Boxed w1).setCell ⟨b,0,none⟩ (.pointer (some ⟨w1.heap.size,0,none⟩))) w1.heap.size/\w1.heap.size≠b/\w.grownBy ((Boxed w1).setCell ⟨b,0,none⟩ (.pointer (some ⟨w1.heap.size,0,none⟩))) (some b) /\
  (Boxed w1).cell? ⟨b,0,none⟩=some (.pointer none)/\(Boxed w1).frozen? ⟨b,0,none⟩=false/\((Boxed w1).setCell ⟨b,0,none⟩ (.pointer (some ⟨w1.heap.size,0,none⟩))).cell? ⟨b,1,none⟩=some (.int .u32 (X.toNat:Int))/\((Boxed w1).setCell ⟨b,0,none⟩ (.pointer (some ⟨w1.heap.size,0,none⟩))).frozen? ⟨b,1,none⟩=false/\(Boxed w1).cell? ⟨b,1,none⟩=some (.int .u32 (X.toNat:Int))/\(Boxed w1).frozen? ⟨b,1,none⟩=false:=by
 obtain⟨hT,hBB,hz⟩:=cboxed w1 w hB;have hlt:b<w.heap.size:=(Array.getElem?_eq_some_iff.1 hb).1;have hz1:=hB.size;have hb1:(Boxed w1).heap[b]?=some (.cells #[.pointer none,.int .u32 (X.toNat:Int)] 177 (0,0)):=(hBB.block b hlt).trans hb;have hb2:((Boxed w1).setCell ⟨b,0,none⟩ (.pointer (some ⟨w1.heap.size,0,none⟩))).heap[b]?=some (.cells #[.pointer (some ⟨w1.heap.size,0,none⟩),.int .u32 (X.toNat:Int)] 177 (0,0)):=heap_setCell_same _ _ 0 _ _ _ hb1;have hne:w1.heap.size≠b:=by omega
 exact⟨hb2,hT.other (heap_setCell_other _ _ _ _ (by simpa using hne)),hne,ZgT (ZjJ hBB _) (ZcN _ _ _),
  by rw [cell_of_row _ _ _ _ _ _ hb1];rfl,frozen_of_row _ _ _ _ _ hb1,by rw [cell_of_row _ _ _ _ _ _ hb2];rfl,frozen_of_row _ _ _ _ _ hb2,by rw [cell_of_row _ _ _ _ _ _ hb1];rfl,frozen_of_row _ _ _ _ _ hb1⟩
theorem Zqb (a b:List UInt8):ng (run (ng (crc a)) b)=crc (a++b):=by unfold crc;rw [Ztq,Zm4]
end
section
open Go.RowKit
structure Touch (S:Nat->Prop) (w w':World):Prop where
 os:w'.os=w.os
 tape:w'.tape=w.tape
 output:w'.output=w.output
 size:w.heap.size<=w'.heap.size
 block:∀k,k<w.heap.size->¬S k->w'.heap[k]?=w.heap[k]?
namespace Touch
variable {S T : Nat -> Prop} {a b c : World}
theorem refl (S:Nat->Prop) (w:World):Touch S w w:=⟨rfl,rfl,rfl,Nat.le_refl _,fun _ _ _=>rfl⟩
theorem trans (h:Touch S a b) (k:Touch T b c) (hT:∀i,T i->S i\/a.heap.size<=i):Touch S a c:=
 ⟨k.os.trans h.os,k.tape.trans h.tape,k.output.trans h.output,Nat.le_trans h.size k.size,fun i hi hS=>
  (k.block i (Nat.lt_of_lt_of_le hi h.size) (fun ht=>by rcases hT i ht with g|g;exact hS g;omega)).trans (h.block i hi hS)⟩
theorem mono (h:Touch S a b) (hS:∀i,S i->T i):Touch T a b:=⟨h.os,h.tape,h.output,h.size,fun i hi ht=>h.block i hi (fun hs=>ht (hS i hs))⟩
theorem drew (h:Touch S a b):Touch S a b.drew:=⟨h.os,h.tape,h.output,h.size,h.block⟩
theorem alloc (h:Touch S a b) (o:Obj):Touch S a (b.alloc o):=
 ⟨h.os,h.tape,h.output,by have:=h.size;simp;omega,fun i hi hs=>(Below.heap_alloc b o i (Nat.lt_of_lt_of_le hi h.size)).trans (h.block i hi hs)⟩
theorem setCell (h:Touch S a b) {p:Addr} (hp:S p.block\/a.heap.size<=p.block) (v:Value):Touch S a (b.setCell p v):=
 ⟨h.os,h.tape,h.output,by simpa [World.setCell] using h.size,fun i hi hs=>(heap_setCell_other b p i v (fun e=>by rcases hp with g|g;exact hs (e▸g);omega)).trans (h.block i hi hs)⟩
theorem grown (h:Touch S a b) {r:Option Nat} (hg:b.grownBy c r) (hr:∀i,r=some i->S i\/a.heap.size<=i):Touch S a c:=
 ⟨hg.os.trans h.os,hg.tape.trans h.tape,hg.output.trans h.output,Nat.le_trans h.size hg.size,fun i hi hs=>
  (hg.block i (Nat.lt_of_lt_of_le hi h.size) (fun e=>by rcases hr i e.symm with g|g;exact hs g;omega)).trans (h.block i hi hs)⟩
theorem ofBelow (h:Below a.heap.size a b):Touch S a b:=⟨h.os,h.tape,h.output,h.size,fun i hi _=>h.block i hi⟩
theorem below {B:Nat} (h:Touch S a b) (hB:B<=a.heap.size) (hS:∀i,S i->B<=i):Below B a b:=
 ⟨h.os,h.tape,h.output,h.size,fun i hi=>h.block i (by omega) (fun hs=>by have:=hS i hs;omega)⟩
end Touch
theorem Zan (S:Nat->Prop) (w:World) (n:Nat):Touch S w (w.drewN n):=⟨rfl,rfl,rfl,Nat.le_refl _,fun _ _ _=>rfl⟩
theorem Zae {b i:Nat} {w0 w:World} {v:Value} (h:Touch (·=b) w0 w):Touch (·=b) w0 (w.setCell ⟨b,i,none⟩ v):=Touch.setCell (S:=(·=b)) (p:=⟨b,i,none⟩) h (Or.inl rfl) v
def u8v (x:UInt8):Value:=.int .u8 (x.toNat:Int)
theorem Zqc:(Tryz.prog.info? 5).map (fun i=>(i.zero,i.size,i.bytes))=some (some (.int .u8 0),1,1):=by kernel_rfl
def foot (b:Nat) (v:Value) (k:Nat):Prop:=k=b\/v.ownBlock=some k
theorem Zfs {P:Program} (w:World) (base:Nat) (t ty e:TypeId) (i:TypeInfo) (z:Value) (size bytes:Nat) (ht:P.underlying t=some (.slice e)) (hi:P.info? e=some i) (hz:i.zero=some z)
  (hsize:i.size=size) (hby:i.bytes=bytes) (hzs:z.cells.size=size) (hsz:0<size)
  (v:Value) (n:Nat) (xs:List Value) (hown:w.ownsRow base e size v n xs)
  (a:Addr) (m c:Nat) (news:List Value) (hl:news.length=m*size) (hnews:∀j u,news[j]?=some u->w.cell? (a.add j)=some u) (h1:∀u∈news,u.oneCell'=true)
  (h63:n+m<=maxLen) (hbytes:(n+m)*bytes<=140737488355328) (hbase:base<=w.heap.size) :
  ∃v' w',(Builtin.append_ #[t,t] ty #[v,.slice (some a) m c]).run P w=.ok v' w'/\w'.ownsRow base e size v' (n+m) (xs++news)/\w.grownBy w' v.ownBlock /\
   (∀k,v'.ownBlock=some k->v.ownBlock=some k\/w.heap.size<=k):=by
 obtain⟨v',w',hr,h2,h3,h4⟩:=run_append_own (P:=P) w base t ty e i z size bytes ht hi hz hsize hby hzs hsz v n xs hown a m c news hl hnews h1 h63 hbytes hbase;refine⟨v',w',hr,h2,h3,fun k hk=>?_⟩;have hsmall:n+m<=9223372036854775807:=by simp only [maxLen] at h63;omega
 subst hsize;subst hby;rcases hown.2 with⟨rfl,rfl⟩|⟨g,cap,cur,rfl,_,hg,hnc,hcm,hcs,htake⟩
 ·by_cases hm:m=0
  ·rw [(h4.2 ⟨rfl,hm⟩)] at hk;simp [Value.ownBlock] at hk
  ·have hr2:=run_append_nil (P:=P) w t ty e i z ht hi hz a m c news hl hnews (by omega) (by omega) (by have hb:=hbytes;simp only [Nat.zero_add] at hb;omega);rw [hr] at hr2;simp only [Result.ok.injEq] at hr2;rw [hr2.1] at hk;simp [Value.ownBlock] at hk;exact Or.inr (by omega)
 ·by_cases hroom:n+m<=cap
  ·have hfit:n*i.size+news.length<=cur.size:=by rw [hl,hcs,<-Nat.add_mul];exact Nat.mul_le_mul_right _ hroom
   have hr2:=run_append_room (P:=P) w t ty e i ht hi g n cap cur hg a m c news hl hnews h1 hroom hfit;rw [hr] at hr2;simp only [Result.ok.injEq] at hr2;rw [hr2.1] at hk;exact Or.inl hk
  ·have holds:∀j u,xs[j]?=some u->w.cell? ((⟨g,0,none⟩:Addr).add j)=some u:=hown.cells (g:=g) rfl;have hr2:=run_append_grow (P:=P) w t ty e i z ht hi hz ⟨g,0,none⟩ n cap xs hown.1 holds a m c news hl hnews (by omega) (by omega) (growslice_fits (by omega) hbytes);rw [hr] at hr2;simp only [Result.ok.injEq] at hr2;rw [hr2.1] at hk;simp [Value.ownBlock] at hk;exact Or.inr (by omega)
theorem Zdz {P:Program} {ops:Array Oper} {o:Oper} {a:Act} {w:World} {K:Act->World->Prop} {Q:Exit->Act->World->Prop} {E:Prop} (hg:o.guard=none) (s x:Operand) (t:TypeId)
  (ho:o.op=.call { callee:=.builtin .append,args:=#[s,x],argTypes:=#[t,t] })
  (base:Nat) (e:TypeId) (i:TypeInfo) (z:Value) (size bytes:Nat) (ht:P.underlying t=some (.slice e)) (hi:P.info? e=some i) (hz:i.zero=some z)
  (hsize:i.size=size) (hby:i.bytes=bytes) (hzs:z.cells.size=size) (hsz:0<size)
  (v:Value) (n:Nat) (xs:List Value) (hs:a.eval s=v) (hown:w.ownsRow base e size v n xs)
  (ad:Addr) (m c:Nat) (news:List Value) (hx:a.eval x=.slice (some ad) m c) (hl:news.length=m*size) (hnews:∀j u,news[j]?=some u->w.cell? (ad.add j)=some u) (h1:∀u∈news,u.oneCell'=true)
  (h63:n+m<=maxLen) (hbytes:(n+m)*bytes<=140737488355328) (hbase:base<=w.heap.size)
  (h:∀v' w',w'.ownsRow base e size v' (n+m) (xs++news)->w.grownBy w' v.ownBlock->(∀k,v'.ownBlock=some k->v.ownBlock=some k\/w.heap.size<=k)->K (a.put o.dst v') w') :
  if Region.wanted o (yielded ops a.tmps)=true then Oper.wp P o a w K Q else E:=by
 have hw:Region.wanted o (yielded ops a.tmps)=true:=by simp [Region.wanted,hg]
 rw [if_pos hw];obtain⟨v',w',hr,h2,h3,h4⟩:=Zfs (P:=P) w base t o.type e i z size bytes ht hi hz hsize hby hzs hsz v n xs hown ad m c news hl hnews h1 h63 hbytes hbase;unfold Oper.wp execOp;simp only [ho,resolve,invoke,builtin,Sem.run_bind,Sem.run_pure,Result.andThen_ok,List.map_toArray,List.map_cons,List.map_nil,hs,hx,hr];exact h v' w' h2 h3 h4
end
section
open Go.RowKit CrcM
def SumT (w:World) (b:Nat) (X:BitVec 32):Option Nat->Prop
 | none=>w.heap[b]?=some (.cells #[.pointer none,.int .u32 (X.toNat:Int)] 177 (0,0))
 | some t=>w.heap[b]?=some (.cells #[.pointer (some ⟨t,0,none⟩),.int .u32 (X.toNat:Int)] 177 (0,0))/\IsTable w t/\t≠b
theorem SumT.lt {w:World} {b:Nat} {X:BitVec 32} {tp:Option Nat} (h:SumT w b X tp):b<w.heap.size/\∀t,tp=some t->t<w.heap.size/\t≠b:=by
 cases tp with
 | none=>exact⟨(Array.getElem?_eq_some_iff.1 (show _=_ from h)).1,fun t e=>by cases e⟩
 | some t=>exact⟨(Array.getElem?_eq_some_iff.1 h.1).1,fun u e=>by cases e;exact⟨h.2.1.lt,h.2.2⟩⟩
theorem SumT.is {w:World} {b:Nat} {X:BitVec 32} {tp:Option Nat} (h:SumT w b X tp):IsSum w b X:=by
 cases tp with
 | none=>exact⟨_,h,Or.inl rfl⟩
 | some t=>exact⟨_,h.1,Or.inr ⟨t,rfl,h.2.1,h.2.2,h.2.1.lt⟩⟩
theorem SumT.other {w w':World} {b:Nat} {X:BitVec 32} {tp:Option Nat} (h:SumT w b X tp) {S:Nat->Prop} (ht:Touch S w w') (h1:¬S b) (h2:∀t,tp=some t->¬S t):SumT w' b X tp:=by
 have hl:=h.lt;cases tp with
 | none=>exact(ht.block b hl.1 h1).trans h
 | some t=>exact⟨(ht.block b hl.1 h1).trans h.1,h.2.1.other (ht.block t (hl.2 t rfl).1 (h2 t rfl)),h.2.2⟩
theorem SumT.drew {w:World} {b:Nat} {X:BitVec 32} {tp:Option Nat} (h:SumT w b X tp):SumT w.drew b X tp:=by
 cases tp<;>exact h
theorem Zgp {w w':World} {b:Nat} (h:w.grownBy w' (some b)):Touch (·=b) w w':=⟨h.os,h.tape,h.output,h.size,fun k hk hn=>h.block k hk (fun e=>hn (Option.some.inj e))⟩
theorem Zqd (w:World) :
  Calls Tryz.prog 76 #[] w fun e w'=>e=.returned (.pointer (some ⟨w.heap.size,0,none⟩))/\SumT w' w.heap.size 0#32 none/\Below w.heap.size w w':=by
 go_enter Tryz.func76,Tryz.ntmps76;go_wp2_with fail;go_ret;exact⟨rfl,heap_alloc_new _ _,(Below.refl _ _).alloc (Nat.le_refl _) _⟩
theorem SumT.put {w:World} {b t:Nat} {X Y:BitVec 32} (hb:w.heap[b]?=some (.cells #[.pointer (some ⟨t,0,none⟩),.int .u32 (X.toNat:Int)] 177 (0,0))) (hT:IsTable w t) (hne:t≠b) :
  SumT (w.setCell ⟨b,1,none⟩ (.int .u32 (Y.toNat:Int))) b Y (some t):=
 ⟨heap_setCell_same _ _ 1 _ _ _ hb,hT.other (heap_setCell_other _ _ _ _ (by simpa using hne)),hne⟩
theorem Zob (b:Nat) (X:BitVec 32) (tp:Option Nat) (s:ByteArray) (w:World) (hS:SumT w b X tp) (hs:s.size<=maxLen) :
  Calls Tryz.prog 155 #[.pointer (some ⟨b,0,none⟩),.string s] w fun e w'=>e=.returned (.tuple #[])/\(∃tp',SumT w' b (ng (run (ng X) s.data.toList)) tp'/\(tp'=tp\/∃t,tp'=some t/\w.heap.size<=t))/\Touch (·=b) w w':=by
 obtain⟨hc1,hf0,hf1⟩:=hS.is.cells;cases tp with
 | none=>
  have hb:w.heap[b]?=some (.cells #[.pointer none,.int .u32 (X.toNat:Int)] 177 (0,0)):=hS;have hc0:w.cell? ⟨b,0,none⟩=some (.pointer none):=by rw [cell_of_row _ _ _ _ _ _ hb];rfl
  have HB:=zh hb;clear hb hS;go_enter Tryz.func155,Tryz.ntmps155;go_wp2_with fail;refine(Zoa _).mono ?_;rintro e w1 ⟨rfl,hB⟩;have hg:(w1.alloc (.cells Tryz.zeroCells242 242)).heap[w1.heap.size]?=some (.cells Tryz.zeroCells242 242 (0,0)):=heap_alloc_new _ _;obtain⟨t1,t2,t3,t4,t5,t6,t7,t8,t9,t10⟩:=tabled HB.out hB;have T1:=zh t1;have T2:=zh t2;have T3:=zh t3;have T4:=zh t4;have HSZ:=zh hB.size;have T2D:=zh (t2.other (w':=((Boxed w1).setCell ⟨b,0,none⟩ (.pointer (some ⟨w1.heap.size,0,none⟩))).drew) rfl);have hc0':((Boxed w1).setCell ⟨b,0,none⟩ (.pointer (some ⟨w1.heap.size,0,none⟩))).cell? ⟨b,0,none⟩=some (.pointer (some ⟨w1.heap.size,0,none⟩)):=by rw [cell_of_row _ _ _ _ _ _ t1];rfl
  clear t1 t2 t3 t4 hB;go_wp2_with (refine wpList_store_row rfl 242 _ _ rfl w1.heap.size tabArr rfl rfl 242 Tryz.zeroCells242 hg Zmk (Zn9.trans ZdN.symm) ZhE ?_;change wpList _ _ _ _ _ (Boxed w1))
  go_region_with (first|(go_at_call 187;refine(Zh6 w1.heap.size X s _ T2D.out hs).mono ?_;rintro e w' ⟨rfl,rfl⟩))
  all_goals go_wp2_with fail
  all_goals go_end0
  all_goals exact⟨rfl,⟨_,(SumT.put T1.out T2.out T3.out).drew,Or.inr ⟨_,rfl,HSZ.out⟩⟩,Zgp (ZhF (ZgT T4.out (ZcN _ ⟨b,1,none⟩ _)))⟩
 | some t=>
  obtain⟨hb,hT,hne⟩:=hS;have hc0:w.cell? ⟨b,0,none⟩=some (.pointer (some ⟨t,0,none⟩)):=by rw [cell_of_row _ _ _ _ _ _ hb];rfl
  have HB:=zh hb;have HT:=zh hT;have HN:=zh hne;have HTD:=zh (hT.other (w':=w.drew) rfl);clear hb hT hne;go_enter Tryz.func155,Tryz.ntmps155;go_wp2_with fail
  go_region_with (first|(go_at_call 187;refine(Zh6 t X s _ HTD.out hs).mono ?_;rintro e w' ⟨rfl,rfl⟩))
  all_goals go_wp2_with fail
  all_goals go_end0
  all_goals exact⟨rfl,⟨_,(SumT.put HB.out HT.out HN.out).drew,Or.inl rfl⟩,Zgp (ZhF (ZcN _ ⟨b,1,none⟩ _))⟩
theorem Zm5 (b:Nat) (X:BitVec 32) (tp:Option Nat) (w:World) (hS:SumT w b X tp) :
  Calls Tryz.prog 120 #[.pointer (some ⟨b,0,none⟩)] w fun e w'=>e=.returned (.tuple #[])/\SumT w' b 0#32 tp/\Touch (·=b) w w':=by
 obtain⟨hc1,hf0,hf1⟩:=hS.is.cells;have HS:=zh hS;clear hS;go_enter Tryz.func120,Tryz.ntmps120;go_wp2_with fail;go_end0;refine⟨rfl,?_,Zgp (ZcN _ _ _)⟩;have h:=HS.out;cases tp with
 | none=>
  have hb:w.heap[b]?=some (.cells #[.pointer none,.int .u32 (X.toNat:Int)] 177 (0,0)):=h;exact heap_setCell_same _ _ 1 _ _ _ hb
 | some t=>exact⟨heap_setCell_same _ _ 1 _ _ _ h.1,h.2.1.other (heap_setCell_other _ _ _ _ (by simpa using h.2.2)),h.2.2⟩
end
section
namespace RleM
def like (c:UInt8):List UInt8->Nat
 | []=>0
 | d::l=>if d=c then like c l+1 else 0
theorem Zh7 (c:UInt8):∀l,like c l<=l.length
 | []=>Nat.le_refl _
 | d::l=>by
  unfold like;have:=Zh7 c l;split<;>simp<;>omega
theorem ZjK (c:UInt8):∀(l:List UInt8) (j:Nat),j<like c l->l[j]?=some c
 | [],j,h=>by simp [like] at h
 | d::l,j,h=>by
  unfold like at h;split at h
  ·rename_i e;cases j with
   | zero=>simp [e]
   | succ j=>simpa using ZjK c l j (by omega)
  ·omega
theorem Zoc (c:UInt8):∀(l:List UInt8) (k:Nat),(∀j,j<k->l[j]?=some c)->k<=like c l
 | _,0,_=>Nat.zero_le _
 | [],k+1,h=>by have:=h 0 (by omega);simp at this
 | d::l,k+1,h=>by
  have h0:d=c:=by simpa using h 0 (by omega)
  have:=Zoc c l k (fun j hj=>by simpa using h (j+1) (by omega));unfold like;rw [if_pos h0];omega
theorem Zkf (c:UInt8):∀(l:List UInt8) (x:UInt8),l[like c l]?=some x->x≠c
 | [],x,h=>by simp at h
 | d::l,x,h=>by
  unfold like at h;split at h
  ·exact Zkf c l x (by simpa using h)
  ·rename_i e;have:d=x:=by simpa using h
   exact this▸e
def row:List UInt8->Nat
 | []=>0
 | c::l=>min 255 (like c (c::l))
theorem Zh8 (c:UInt8) (l:List UInt8):row (c::l)=min 255 (like c (c::l)):=rfl
theorem Zgq (c:UInt8) (l:List UInt8):1<=row (c::l):=by
 unfold row like;simp;omega
theorem ZjL (l:List UInt8):row l<=255:=by
 cases l with
 | nil=>decide
 | cons c l=>rw [Zh8];omega
theorem row_get (c:UInt8) (l:List UInt8) (j:Nat) (h:j<row (c::l)):(c::l)[j]?=some c:=
 ZjK c (c::l) j (by rw [Zh8] at h;omega)
theorem Zgf (c:UInt8) (l:List UInt8) (k:Nat) (hk:k<=255) (h:∀j,j<k->(c::l)[j]?=some c) (hs:k=255\/k=(c::l).length\/∃x,(c::l)[k]?=some x/\x≠c):row (c::l)=k:=by
 have h1:=Zoc c (c::l) k h;rw [Zh8];rcases hs with rfl|rfl|⟨x,hx,hn⟩
 ·omega
 ·have:=Zh7 c (c::l);omega
 ·rcases Nat.lt_or_ge k (like c (c::l)) with h2|h2
  ·have:=ZjK c (c::l) k h2;rw [hx] at this;exact absurd (Option.some.inj this) hn
  ·omega
abbrev Pc:=UInt8×Nat
def piecesF:Nat->List UInt8->List Pc
 | 0,_=>[]
 | _,[]=>[]
 | f+1,c::l=>(c,row (c::l))::piecesF f ((c::l).drop (row (c::l)))
def pieces (l:List UInt8):List Pc:=piecesF l.length l
theorem ZhG:∀(f g:Nat) (l:List UInt8),l.length<=f->f<=g->piecesF f l=piecesF g l
 | 0,g,l,h,_=>by
  obtain rfl:l=[]:=List.eq_nil_of_length_eq_zero (by omega);cases g<;>rfl
 | f+1,0,l,_,h2=>by omega
 | f+1,g+1,[],_,_=>rfl
 | f+1,g+1,c::l,h,h2=>by
  unfold piecesF;rw [ZhG f g _ (by have:=Zgq c l;simp at h ⊢;omega) (by omega)]
theorem ZfZ:pieces []=[]:=rfl
theorem Zc5 (c:UInt8) (l:List UInt8):pieces (c::l)=(c,row (c::l))::pieces ((c::l).drop (row (c::l))):=by
 show piecesF (l.length+1) (c::l)=_;unfold piecesF pieces;rw [ZhG ((c::l).drop (row (c::l))).length l.length _ (Nat.le_refl _) (by have:=Zgq c l;simp;omega)]
def flat (ps:List Pc):List UInt8:=ps.flatMap fun p=>List.replicate p.2 p.1
theorem ZaR (p:Pc) (ps:List Pc):flat (p::ps)=List.replicate p.2 p.1++flat ps:=rfl
theorem ZaH (ps qs:List Pc):flat (ps++qs)=flat ps++flat qs:=by simp [flat]
def Good:List Pc->Prop
 | []=>True
 | p::ps=>1<=p.2/\p.2<=255/\(∀q,ps.head?=some q->q.1≠p.1\/p.2=255)/\Good ps
theorem Zqe (c:UInt8) (l:List UInt8):(c::l).take (row (c::l))=List.replicate (row (c::l)) c:=by
 apply List.ext_getElem?;intro j;rw [List.getElem?_take,List.getElem?_replicate];split
 ·exact row_get c l j (by assumption)
 ·rfl
theorem Zqf (c:UInt8) (l:List UInt8) (d:UInt8) (h:((c::l).drop (row (c::l))).head?=some d):d≠c\/row (c::l)=255:=by
 by_cases h255:row (c::l)=255
 ·exact Or.inr h255
 ·left;have e:row (c::l)=like c (c::l):=by rw [Zh8] at h255 ⊢;omega
  rw [e,List.head?_drop] at h;exact Zkf c (c::l) d h
theorem Zgr:∀(n:Nat) (l:List UInt8),l.length<=n->Good (pieces l)/\flat (pieces l)=l
 | _,[],_=>⟨trivial,rfl⟩
 | 0,c::l,h=>by simp at h
 | n+1,c::l,h=>by
  obtain⟨h1,h2⟩:=Zgr n ((c::l).drop (row (c::l))) (by have:=Zgq c l;simp at h ⊢;omega);rw [Zc5];refine⟨⟨Zgq c l,ZjL (c::l),fun q hq=>?_,h1⟩,?_⟩
  ·generalize hL:(c::l).drop (row (c::l))=L at *;cases L with
   | nil=>simp [ZfZ] at hq
   | cons d L=>
    rw [Zc5] at hq;have hq':(d,row (d::L))=q:=by simpa using hq
    subst hq';exact Zqf c l d (by rw [hL];rfl)
  ·rw [ZaR,h2,<-Zqe];exact List.take_append_drop _ _
theorem good (l:List UInt8):Good (pieces l):=(Zgr _ l (Nat.le_refl _)).1
theorem ZaK (l:List UInt8):flat (pieces l)=l:=(Zgr _ l (Nat.le_refl _)).2
theorem Zkg {p:Pc} {ps:List Pc} (h:1<=p.2):∃l,flat (p::ps)=p.1::l:=by
 obtain⟨m,hm⟩:∃m,p.2=m+1:=⟨p.2-1,by omega⟩
 rw [ZaR,hm,List.replicate_succ];exact⟨_,rfl⟩
theorem Zod (p:Pc) (ps:List Pc):(flat (p::ps)).drop p.2=flat ps:=by
 rw [ZaR,List.drop_left' (by simp)]
theorem ZeN:∀ps:List Pc,Good ps->pieces (flat ps)=ps
 | [],_=>rfl
 | p::ps,h=>by
  obtain⟨h1,h2,h3,h4⟩:=h;obtain⟨l,hl⟩:=Zkg (p:=p) (ps:=ps) h1
  have hr:row (p.1::l)=p.2:=by
   rw [<-hl]
   have hrep:∀j,j<p.2->(flat (p::ps))[j]?=some p.1:=fun j hj=>by
    rw [ZaR,List.getElem?_append_left (by simpa using hj)];simp [hj]
   have hlen:(flat (p::ps)).length=p.2+(flat ps).length:=by rw [ZaR];simp
   rw [hl] at hrep hlen ⊢;refine Zgf p.1 l p.2 h2 hrep ?_;cases ps with
   | nil=>exact Or.inr (Or.inl (by rw [hlen];simp [flat]))
   | cons q qs=>
    rcases h3 q rfl with h3|h3
    ·refine Or.inr (Or.inr ⟨q.1,?_,h3⟩);obtain⟨l2,hl2⟩:=Zkg (p:=q) (ps:=qs) h4.1;rw [<-hl,ZaR,List.getElem?_append_right (by simp),hl2];simp
    ·exact Or.inl h3
  rw [hl,Zc5,hr,<-hl,Zod,ZeN ps h4]
theorem Zgs:∀{ps:List Pc} {q:Pc},Good ps->1<=q.2->q.2<=255->(∀p,ps.getLast?=some p->q.1≠p.1\/p.2=255)->Good (ps++[q])
 | [],q,_,h1,h2,_=>⟨h1,h2,fun _ h=>by simp at h,trivial⟩
 | [p],q,h,h1,h2,h3=>⟨h.1,h.2.1,fun r hr=>by
   have:r=q:=by simpa using hr.symm
   exact this▸h3 p rfl,h1,h2,fun _ h=>by simp at h,trivial⟩
 | p::p2::ps,q,h,h1,h2,h3=>⟨h.1,h.2.1,fun r hr=>h.2.2.1 r (by simpa using hr),Zgs h.2.2.2 h1 h2 (fun r hr=>h3 r (by simpa using hr))⟩
theorem ZbQ:∀{ps qs:List Pc},Good (ps++qs)->Good ps
 | [],_,_=>trivial
 | [p],qs,h=>⟨h.1,h.2.1,fun _ h=>by simp at h,trivial⟩
 | p::p2::ps,qs,h=>⟨h.1,h.2.1,fun r hr=>h.2.2.1 r (by simpa using hr),ZbQ (ps:=p2::ps) h.2.2.2⟩
theorem Zkh:∀{ps:List Pc} {q:Pc},Good (ps++[q])->1<=q.2/\q.2<=255/\(∀p,ps.getLast?=some p->q.1≠p.1\/p.2=255)
 | [],q,h=>⟨h.1,h.2.1,fun _ h=>by simp at h⟩
 | [p],q,h=>⟨h.2.2.2.1,h.2.2.2.2.1,fun r hr=>by
   have:p=r:=by simpa using hr
   exact this▸h.2.2.1 q rfl⟩
 | p::p2::ps,q,h=>by
  obtain⟨a,b,c⟩:=Zkh (ps:=p2::ps) h.2.2.2;exact⟨a,b,fun r hr=>c r (by simpa using hr)⟩
theorem Zlk (l:List UInt8) (ps:List Pc) (c:UInt8) (n:Nat) (h:pieces l=ps++[(c,n)]) (hn:n<255):pieces (l++[c])=ps++[(c,n+1)]:=by
 have hg:=good l;rw [h] at hg;obtain⟨h1,h2,h3⟩:=Zkh hg
 have e:l++[c]=flat (ps++[(c,n+1)]):=by
  have:=ZaK l;rw [h,ZaH] at this;rw [<-this,ZaH];simp [flat,List.replicate_succ']
 rw [e];refine ZeN _ (Zgs (ZbQ hg) (by simp) (by show n+1<=255;omega) (fun p hp=>?_));exact h3 p hp
theorem Zjb (l:List UInt8) (b:UInt8) (h:∀p,(pieces l).getLast?=some p->b≠p.1\/p.2=255):pieces (l++[b])=pieces l++[(b,1)]:=by
 have e:l++[b]=flat (pieces l++[(b,1)]):=by
  rw [ZaH,ZaK];rfl
 rw [e];exact ZeN _ (Zgs (good l) (by simp) (by simp) h)
def packP (p:Pc):List UInt8:=if p.2<4 then List.replicate p.2 p.1 else List.replicate 4 p.1++[UInt8.ofNat (p.2-4)]
def pack (ps:List Pc):List UInt8:=ps.flatMap packP
def encode (l:List UInt8):List UInt8:=pack (pieces l)
theorem ZbR (ps qs:List Pc):pack (ps++qs)=pack ps++pack qs:=by simp [pack]
theorem Zbf (p:Pc):pack [p]=packP p:=by simp [pack]
theorem ZcF (p:Pc):(packP p).length=if p.2<4 then p.2 else 5:=by
 unfold packP;split<;>simp
theorem Zft (p:Pc) (ps:List Pc):pack (p::ps)=packP p++pack ps:=rfl
def ustep (st:UInt8×Nat) (c:UInt8):Option ((UInt8×Nat)×List UInt8):=
 if st.2=4 then(if 251<c.toNat then none else some ((st.1,0),List.replicate c.toNat st.1))
 else some ((c,if c=st.1 then st.2+1 else 1),[c])
def urun:UInt8×Nat->List UInt8->Option ((UInt8×Nat)×List UInt8)
 | st,[]=>some (st,[])
 | st,c::l=>(ustep st c).bind fun r=>(urun r.1 l).map fun q=>(q.1,r.2++q.2)
theorem Zgt:∀(l m:List UInt8) (st:UInt8×Nat),urun st (l++m)=(urun st l).bind fun r=>(urun r.1 m).map fun q=>(q.1,r.2++q.2)
 | [],m,st=>by simp [urun]
 | c::l,m,st=>by
  simp only [List.cons_append,urun];cases h:ustep st c with
  | none=>rfl
  | some r=>
   simp only [Option.bind_some,Zgt l m r.1];cases urun r.1 l with
   | none=>rfl
   | some q=>
    simp only [Option.bind_some,Option.map_some];cases urun q.1 m with
    | none=>rfl
    | some q2=>simp [List.append_assoc]
theorem Zh9 (l:List UInt8) (c:UInt8) (st:UInt8×Nat):urun st (l++[c])=(urun st l).bind fun r=>(ustep r.1 c).map fun q=>(q.1,r.2++q.2):=by
 rw [Zgt];cases urun st l with
 | none=>rfl
 | some r=>
  simp only [Option.bind_some,urun];cases ustep r.1 c with
  | none=>rfl
  | some q=>simp
def outc:Option ((UInt8×Nat)×List UInt8)->List UInt8×Nat
 | none=>([],25)
 | some (st,o)=>if st.2=4 then([],24) else(o,0)
def res (st:UInt8×Nat) (l:List UInt8):List UInt8×Nat:=outc (urun st l)
def dec (l:List UInt8):List UInt8×Nat:=res (0,0) l
def pfx (p:List UInt8) (r:List UInt8×Nat):List UInt8×Nat:=if r.2=0 then(p++r.1,0) else([],r.2)
theorem Zqg (p:List UInt8) (o:Option ((UInt8×Nat)×List UInt8)):outc (o.map fun q=>(q.1,p++q.2))=pfx p (outc o):=by
 cases o with
 | none=>rfl
 | some q=>
  obtain⟨st,t⟩:=q;simp only [outc,Option.map_some];split<;>simp [pfx]
theorem ZjM (st:UInt8×Nat) (c:UInt8) (l:List UInt8):res st (c::l)=match ustep st c with|none=>([],25)|some r=>pfx r.2 (res r.1 l):=by
 unfold res;rw [urun];cases ustep st c with
 | none=>rfl
 | some r=>exact Zqg _ _
theorem Zqh (a b:UInt8) (l:List UInt8):res (a,0) l=res (b,0) l:=by
 cases l with
 | nil=>rfl
 | cons c l=>
  rw [ZjM,ZjM];have e:∀x:UInt8,ustep (x,0) c=some ((c,1),[c]):=fun x=>by unfold ustep;simp
  rw [e,e]
theorem Zki {c:UInt8} {k:Nat} (hk:k<4):ustep (c,k) c=some ((c,k+1),[c]):=by
 unfold ustep;simp;omega
theorem Zll {c d:UInt8} {k:Nat} (hk:k<4) (h:d≠c):ustep (c,k) d=some ((d,1),[d]):=by
 unfold ustep;have:¬k=4:=by omega
 simp [this,h]
theorem Zqi {c:UInt8} {k:Nat} (l:List UInt8) (hk:k<4):res (c,k) (c::l)=pfx [c] (res (c,k+1) l):=by
 rw [ZjM,Zki hk]
theorem Zto (c:UInt8) (l:List UInt8):dec (c::l)=pfx [c] (res (c,1) l):=by
 unfold dec;rw [Zqh 0 c,Zqi l (by omega)]
theorem Zkj (c:UInt8):∀(n k:Nat) (l:List UInt8),k+n<=4->urun (c,k) (List.replicate n c++l)=(urun (c,k+n) l).map fun q=>(q.1,List.replicate n c++q.2)
 | 0,k,l,_=>by simp
 | n+1,k,l,h=>by
  rw [List.replicate_succ,List.cons_append,urun,Zki (by omega),Option.bind_some,Zkj c n (k+1) l (by omega)];rw [show k+1+n=k+(n+1) from by omega];cases urun (c,k+(n+1)) l<;>simp
theorem Zml (a c:UInt8) (k n:Nat) (l:List UInt8) (hk:k<4) (h:k=0\/c≠a) (h1:1<=n) (hn:n<=4) :
  urun (a,k) (List.replicate n c++l)=(urun (c,n) l).map fun q=>(q.1,List.replicate n c++q.2):=by
 obtain⟨m,rfl⟩:∃m,n=m+1:=⟨n-1,by omega⟩
 rw [List.replicate_succ,List.cons_append,urun]
 have:ustep (a,k) c=some ((c,1),[c]):=by
  rcases h with rfl|h
  ·unfold ustep;simp
  ·exact Zll hk h
 rw [this,Option.bind_some];simp only;rw [Zkj c m 1 l (by omega),show 1+m=m+1 from by omega];cases urun (c,m+1) l<;>simp
theorem Zm6 (a:UInt8) (k:Nat) (p:Pc) (l:List UInt8) (hk:k<4) (h:k=0\/p.1≠a) (h1:1<=p.2) (hn:p.2<=255) :
  ∃st:UInt8×Nat,urun (a,k) (packP p++l)=(urun st l).map (fun q=>(q.1,List.replicate p.2 p.1++q.2))/\st.2<4/\st.1=p.1/\(p.2=255->st.2=0):=by
 unfold packP;split
 ·rename_i hlt;exact⟨(p.1,p.2),Zml a p.1 k p.2 l hk h h1 (by omega),hlt,rfl,fun e=>by omega⟩
 ·rename_i hge;refine⟨(p.1,0),?_,Nat.zero_lt_succ 3,rfl,fun _=>rfl⟩;rw [List.append_assoc,Zml a p.1 k 4 _ hk h (by omega) (by omega)];have hc:(UInt8.ofNat (p.2-4)).toNat=p.2-4:=by rw [UInt8.toNat_ofNat'];omega
  have hs:ustep (p.1,4) (UInt8.ofNat (p.2-4))=some ((p.1,0),List.replicate (p.2-4) p.1):=by
   unfold ustep;rw [if_pos rfl,hc,if_neg (by omega)]
  rw [List.singleton_append,urun,hs,Option.bind_some];simp only;cases urun (p.1,0) l with
  | none=>rfl
  | some q=>
   simp only [Option.map_some,Option.some.injEq,Prod.mk.injEq,true_and];rw [<-List.append_assoc,List.replicate_append_replicate];rw [show 4+(p.2-4)=p.2 from by omega]
theorem Zkk:∀(ps:List Pc) (a:UInt8) (k:Nat),Good ps->k<4->(k=0\/∀p,ps.head?=some p->p.1≠a)->∃st:UInt8×Nat,urun (a,k) (pack ps)=some (st,flat ps)/\st.2<4
 | [],a,k,_,hk,_=>⟨(a,k),rfl,hk⟩
 | p::ps,a,k,hg,hk,h=>by
  obtain⟨h1,h2,h3,h4⟩:=hg;obtain⟨st,e,hs,hs1,hs2⟩:=Zm6 a k p (pack ps) hk (by rcases h with h|h;exact Or.inl h;exact Or.inr (h p rfl)) h1 h2
  obtain⟨st2,e2,hs3⟩:=Zkk ps st.1 st.2 h4 hs (by
   by_cases h255:p.2=255
   ·exact Or.inl (hs2 h255)
   ·refine Or.inr fun q hq=>?_
    rw [hs1];rcases h3 q hq with h|h
    ·exact h
    ·exact absurd h h255)
  refine⟨st2,?_,hs3⟩;rw [Zft,e,e2,ZaR];rfl
theorem Zlm (l:List UInt8):∃st:UInt8×Nat,urun (0,0) (encode l)=some (st,l)/\st.2<4:=by
 obtain⟨st,h,hs⟩:=Zkk (pieces l) 0 0 (good l) (by omega) (Or.inl rfl);rw [ZaK] at h;exact⟨st,h,hs⟩
theorem Zm7 (l:List UInt8):dec (encode l)=(l,0):=by
 obtain⟨st,h,hs⟩:=Zlm l;unfold dec res;rw [h];simp only [outc];rw [if_neg (by omega)]
theorem Zqj (o:Option ((UInt8×Nat)×List UInt8)):(outc o).2≠0->(outc o).1=[]:=by
 cases o with
 | none=>intro _;rfl
 | some q=>obtain⟨st,t⟩:=q;simp only [outc];split<;>simp
theorem Zoe (l:List UInt8):(dec l).2≠0->(dec l).1=[]:=Zqj _
end RleM
end
section
open RleM
namespace SplM
def stepS (room:Nat) (st:List (List Pc)×List Pc) (p:Pc):List (List Pc)×List Pc:=
 if (pack st.2).length+(packP p).length>room then(st.1++[st.2],[p]) else(st.1,st.2++[p])
def runS (room:Nat) (ps:List Pc):List (List Pc)×List Pc:=ps.foldl (stepS room) ([],[])
def endS (st:List (List Pc)×List Pc):List (List Pc):=st.1++(if st.2=[] then[] else[st.2])
def blks (room:Nat) (l:List UInt8):List (List Pc):=endS (runS room (pieces l))
theorem ZdO (room:Nat) (ps:List Pc) (p:Pc):runS room (ps++[p])=stepS room (runS room ps) p:=by
 unfold runS;rw [List.foldl_append];rfl
theorem packP_le (p:Pc):(packP p).length<=5:=by
 rw [ZcF];split<;>omega
theorem Zkl {p:Pc} (h:1<=p.2):1<=(packP p).length:=by
 rw [ZcF];split<;>omega
theorem ZeO {ps:List Pc} (h:ps≠[]) (hp:∀p∈ps,1<=p.2):1<=(pack ps).length:=by
 cases ps with
 | nil=>exact absurd rfl h
 | cons p r=>
  rw [Zft,List.length_append];have:=Zkl (hp p (List.mem_cons_self ..));omega
structure RightS (room:Nat) (ps:List Pc) (st:List (List Pc)×List Pc):Prop where
 all:st.1.flatten++st.2=ps
 now:(pack st.2).length<=room
 full:∀b∈st.1,b≠[]/\(pack b).length<=room
 none:st.2=[]->ps=[]
 next:∀i b p r,(st.1++[st.2])[i]?=some b->(st.1++[st.2])[i+1]?=some (p::r)->room<(pack b).length+(packP p).length
theorem Zm8 (room:Nat):RightS room [] (runS room []):=⟨rfl,by simp [runS,pack],fun b hb=>by simp [runS] at hb,fun _=>rfl,fun i b p r h1 h2=>by simp [runS] at h2⟩
theorem Zln {room:Nat} (hr:5<=room) {ps:List Pc} (p:Pc) (ih:RightS room ps (runS room ps)):RightS room (ps++[p]) (runS room (ps++[p])):=by
  obtain⟨h1,h2,h3,h4,h5⟩:=ih;rw [ZdO];generalize runS room ps=st at *;obtain⟨os,now⟩:=st;simp only at h1 h2 h3 h4 h5;unfold stepS;simp only;by_cases hc:(pack now).length+(packP p).length>room
  ·rw [if_pos hc]
   have hnn:now≠[]:=by
    rintro rfl;have:=packP_le p;simp [pack] at hc;omega
   refine⟨?_,?_,?_,?_,?_⟩
   ·simp only [List.flatten_append,List.flatten_cons,List.flatten_nil,List.append_nil];rw [h1]
   ·show(pack [p]).length<=room;rw [Zbf];exact Nat.le_trans (packP_le p) hr
   ·intro b hb;simp only [List.mem_append,List.mem_singleton] at hb;rcases hb with hb|rfl
    ·exact h3 b hb
    ·exact⟨hnn,h2⟩
   ·intro h;simp at h
   ·intro i b q r hi hj;simp only at hi hj;by_cases hi2:i+1<(os++[now]).length
    ·rw [List.getElem?_append_left (by omega)] at hi;rw [List.getElem?_append_left hi2] at hj;exact h5 i b q r hi hj
    ·have hlt:=(List.getElem?_eq_some_iff.1 hj).1;simp only [List.length_append,List.length_cons,List.length_nil] at hi2 hlt;have e:i=os.length:=by omega
     subst e;rw [List.getElem?_append_left (by simp),List.getElem?_append_right (Nat.le_refl _)] at hi;rw [List.getElem?_append_right (by simp)] at hj;simp at hi hj;obtain⟨rfl,_⟩:=hj;rw [<-hi];exact hc
  ·rw [if_neg hc];refine⟨?_,?_,h3,?_,?_⟩
   ·rw [<-List.append_assoc,h1]
   ·show(pack (now++[p])).length<=room;rw [ZbR,List.length_append,Zbf];omega
   ·intro h;simp at h
   ·intro i b q r hi hj;simp only at hi hj;have hlt:=(List.getElem?_eq_some_iff.1 hj).1;simp only [List.length_append,List.length_cons,List.length_nil] at hlt;rw [List.getElem?_append_left (by omega)] at hi;by_cases hi2:i+1<os.length
    ·rw [List.getElem?_append_left hi2] at hj;exact h5 i b q r (by rw [List.getElem?_append_left (by omega)];exact hi) (by rw [List.getElem?_append_left hi2];exact hj)
    ·have e:i+1=os.length:=by omega
     rw [e,List.getElem?_append_right (Nat.le_refl _)] at hj;simp at hj;cases now with
     | nil=>
      have hps:=h4 rfl;rw [hps] at h1
      have hos:os=[]:=by
       cases os with
       | nil=>rfl
       | cons x xs=>
        have:=(h3 x (List.mem_cons_self ..)).1;simp at h1;exact absurd h1.1 this
      rw [hos] at e;simp at e
     | cons a az=>
      simp at hj;obtain⟨rfl,_⟩:=hj;exact h5 i b a az (by rw [List.getElem?_append_left (by omega)];exact hi) (by rw [e,List.getElem?_append_right (Nat.le_refl _)];simp)
theorem rightS (room:Nat) (hr:5<=room) (ps:List Pc):RightS room ps (runS room ps):=by
 have key:∀n,n<=ps.length->RightS room (ps.take n) (runS room (ps.take n)):=by
  intro n
  induction n with
  | zero=>intro _;exact Zm8 room
  | succ n ih=>
   intro h;rw [List.take_succ_eq_append_getElem (by omega)];exact Zln hr _ (ih (by omega))
 have:=key ps.length (Nat.le_refl _)
 rwa [List.take_length] at this
theorem Zce {room:Nat} {ps:List Pc} {st:List (List Pc)×List Pc} (h:RightS room ps st):(endS st).flatten=ps:=by
 unfold endS;rw [<-h.all];by_cases e:st.2=[]
 ·rw [if_pos e,e];simp
 ·rw [if_neg e];simp
theorem Zgu {room:Nat} {ps:List Pc} {st:List (List Pc)×List Pc} (h:RightS room ps st):∀b∈endS st,b≠[]/\(pack b).length<=room:=by
 unfold endS;intro b hb;by_cases e:st.2=[]
 ·rw [if_pos e,List.append_nil] at hb;exact h.full b hb
 ·rw [if_neg e] at hb;rcases List.mem_append.1 hb with hb|hb
  ·exact h.full b hb
  ·rw [List.mem_singleton] at hb;subst hb;exact⟨e,h.now⟩
theorem Zof {b:List Pc} (h:RleM.Good b):dec (pack b)=(flat b,0):=by
 have:=Zm7 (flat b);unfold encode at this
 rwa [ZeN b h] at this
end SplM
end
section
open Go.RowKit
theorem iv {a b:Int} {k:IntKind} (h:a=b):Value.int k a=Value.int k b:=by rw [h]
theorem Zao {w:World} {base e size:Nat} {v:Value} {n:Nat} {xs:List Value} (h:w.ownsRow base e size v n xs):∃a cap,v=.slice a n cap:=by
 rcases h.2 with⟨rfl,rfl⟩|⟨g,cap,cur,rfl,_⟩
 ·exact⟨none,0,rfl⟩
 ·exact⟨_,cap,rfl⟩
theorem Zag {w w':World} {base e size:Nat} {v:Value} {n:Nat} {xs:List Value} (h:w.ownsRow base e size v n xs) (he:∀k,v.ownBlock=some k->w'.heap[k]?=w.heap[k]?):w'.ownsRow base e size v n xs:=by
 refine⟨h.1,?_⟩;rcases h.2 with hn|⟨g,cap,cur,rfl,hb,hg,r⟩
 ·exact Or.inl hn
 ·exact Or.inr ⟨g,cap,cur,rfl,hb,(he g rfl).trans hg,r⟩
theorem ZaB (w:World) (cs:Array Value) (t:TypeId) (n:Nat) (hn:n=w.heap.size):∀(j:Nat) u,cs.toList[j]?=some u->(w.alloc (.cells cs t)).cell? ((⟨n,0,none⟩:Addr).add j)=some u:=by
 subst hn;intro j u hj;rw [Addr.add_lit,cell_of_row _ _ _ _ _ _ (heap_alloc_new w (.cells cs t)),Nat.zero_add];simpa using hj
theorem ZjN {W:World} {base:Nat} {v:Value} {n:Nat} {l:List UInt8} (h:W.ownsRow base 5 1 v n (l.map u8v)) :
  (convert 73 9 v).run Tryz.prog W=.ok (.string ⟨l.toArray⟩) W:=by
 have hl:l.length=n:=by simpa using h.1
 rcases h.2 with⟨rfl,rfl⟩|⟨g,cap,cur,rfl,_,hg,_⟩
 ·obtain rfl:l=[]:=List.eq_nil_of_length_eq_zero hl;exact run_convert_bytes_nil W 73 5 Tryz.underlying73 Tryz.underlying5 0 0 9 Tryz.underlying9
 ·subst hl;refine run_convert_bytes_back W 73 9 5 ⟨g,0,none⟩ cap l Tryz.underlying73 Tryz.underlying5 Tryz.underlying9 (fun j hj=>?_);rw [Addr.add_lit,Nat.zero_add,h.cellAt j (by omega)];simp [hj,u8v]
theorem Zew (W:World) (b cap:Nat) (l:List UInt8) (m:Nat) (hm:m=l.length) (h:∀j x,l[j]?=some x->W.cell? ⟨b,j,none⟩=some (u8v x)) :
  (convert 73 9 (.slice (some ⟨b,0,none⟩) m cap)).run Tryz.prog W=.ok (.string ⟨l.toArray⟩) W:=by
 subst hm;refine run_convert_bytes_back W 73 9 5 ⟨b,0,none⟩ cap l Tryz.underlying73 Tryz.underlying5 Tryz.underlying9 (fun j hj=>?_);rw [Addr.add_lit,Nat.zero_add,h j _ (List.getElem?_eq_getElem hj)];simp [u8v]
theorem Zaw (a b:List UInt8):(⟨a.toArray⟩:ByteArray)++⟨b.toArray⟩=⟨(a++b).toArray⟩:=by
 apply ByteArray.ext;simp
theorem Zaj (a:List UInt8):(⟨a.toArray⟩:ByteArray).size=a.length:=by show a.toArray.size=_;simp
end
section
open Go.RowKit RleM
theorem Ztz {s:ByteArray} {L:List UInt8} (h:s.data.toList=L) {k:Nat} (hk:k<s.size):L[k]?=some s[k]:=by
 subst h;simp [ByteArray.getElem_eq_getElem_data,hk]
theorem Zia {a b:UInt8} (h:a≠b):((a.toNat:Int)==(b.toNat:Int))=false:=by
 rw [beq_eq_false_iff_ne];intro e;exact h (UInt8.toNat_inj.1 (by omega))
theorem ZjO {a b:UInt8} (h:a=b):((a.toNat:Int)==(b.toNat:Int))=true:=by rw [h];simp
theorem ZaP {k:IntKind} {a b:Int} (h:a=b):Ending.returned (.int k a)=.returned (.int k b):=by rw [h]
def pcv (p:Pc):Value:=.agg #[.int .u8 (p.1.toNat:Int),.int .i64 (p.2:Int)]
end
end Go.Proofs.YtlfpbcadcfaboaaGreatDoor

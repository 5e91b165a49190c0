import Derived.Test.YtlfpbcadcfaboaaGreatDoorTaA
import Derived.Test.YtlfpbcadcfaboaaGreatDoorTaD
import Derived.Test.YtlfpbcadcfaboaaGreatDoorTaE
import Derived.Test.YtlfpbcadcfaboaaGreatDoorTcA
import Derived.Test.YtlfpbcadcfaboaaGreatDoorTcB
import Derived.Test.YtlfpbcadcfaboaaGreatDoorTcC
import Derived.Test.YtlfpbcadcfaboaaGreatDoorTcD
import Derived.Test.YtlfpbcadcfaboaaGreatDoorTcE
import Derived.Test.YtlfpbcadcfaboaaGreatDoorTcF
import Derived.Test.YtlfpbcadcfaboaaGreatDoorTcG
import Derived.Test.YtlfpbcadcfaboaaGreatDoorTcH
import Derived.Test.YtlfpbcadcfaboaaGreatDoorTcI
import Derived.Test.YtlfpbcadcfaboaaGreatDoorTcP
import Derived.Test.YtlfpbcadcfaboaaGreatDoorTcQ
import Derived.Test.YtlfpbcadcfaboaaGreatDoorTcR
import Derived.Test.YtlfpbcadcfaboaaGreatDoorTcS
import Derived.Test.YtlfpbcadcfaboaaGreatDoorTcU
import Derived.Deep.RegionWith
import Derived.Deep.RegionLaw
import Derived.Deep.QuietTactic
import Derived.Outline
import Derived.IntWalk
import Derived.Shelf.Abstract
import Derived.Test.YtlfpbcadcfaboaaGreatDoorProg
import Derived.Shelf.Strings.Builder1
import Derived.Shelf.Strings.Builder2
import Derived.Shelf.Strings.BuilderF
import Derived.Shelf.Strings.BuilderK
import Derived.Shelf.Strings.Builder2Cap
import Derived.Shelf.Strings.BuilderCap
import Derived.StillTailTactics
import Derived.BigQuiet
import Derived.Deep.AppendSrc
import Derived.Deep.Upon
import Derived.Deep.RegionHeld3
import Derived.Test.YtlfpbcadcfaboaaGreatDoorCards
import Derived.Test.YtlfpbcadcfaboaaGreatDoorTie
import Derived.LaidMore
import Derived.Stop.Joined
import Derived.LaidSub
import Derived.BigRegion
import Derived.Laws.CopyRow
import Derived.Deep.Cut
import Derived.Lib.SliceRun
import Derived.Deep.LoopGhost
import Derived.Laws.BitsAllLaws
set_option linter.unusedVariables false
set_option linter.unusedSimpArgs false
set_option maxHeartbeats 8000000
set_option maxRecDepth 100000
namespace Go.Proofs.YtlfpbcadcfaboaaGreatDoor
section
open Go.RowKit BitM HufM CanM CodM UsedM MtfM TabM FreqM BlkM BwtM SrtM RleM SplM CrcM
theorem ZaX (r:Int) (w:World):Calls Tryz.prog 10 #[.int .i64 r] w fun e w'=>e=.returned (.bool (decide (1<=r/\r<=9)))/\w'=w:=by
 by_cases h1:r<1
 ·have h2:¬r>=1:=by omega
  have h3:decide (1<=r/\r<=9)=false:=by rw [decide_eq_false_iff_not];omega
  rw [h3];go_enter Tryz.func10,Tryz.ntmps10;go_wp2_with fail;go_ret;exact⟨rfl,rfl⟩
 ·have h2:r>=1:=by omega
  by_cases h4:r<=9
  ·have h3:decide (1<=r/\r<=9)=true:=by rw [decide_eq_true_eq];omega
   rw [h3];go_enter Tryz.func10,Tryz.ntmps10;go_wp2_with fail;go_ret;exact⟨rfl,rfl⟩
  ·have h3:decide (1<=r/\r<=9)=false:=by rw [decide_eq_false_iff_not];omega
   rw [h3];go_enter Tryz.func10,Tryz.ntmps10;go_wp2_with fail;go_ret;exact⟨rfl,rfl⟩
theorem Zen (L:Nat) (h9:L<=9):(⟨#[48,49,50,51,52,53,54,55,56,57]⟩:ByteArray).extract L (L+1)=⟨#[UInt8.ofNat (48+L)]⟩:=by
 rcases(by omega:L=0\/L=1\/L=2\/L=3\/L=4\/L=5\/L=6\/L=7\/L=8\/L=9) with rfl|rfl|rfl|rfl|rfl|rfl|rfl|rfl|rfl|rfl<;>rfl
theorem Zeo (L:Nat) (h9:L<=9):bitsOf ((⟨#[66,90,104]⟩:ByteArray)++⟨#[UInt8.ofNat (48+L)]⟩).data.toList=headQ L 4:=by
 rcases(by omega:L=0\/L=1\/L=2\/L=3\/L=4\/L=5\/L=6\/L=7\/L=8\/L=9) with rfl|rfl|rfl|rfl|rfl|rfl|rfl|rfl|rfl|rfl<;>decide +kernel
theorem ZgQ:txt tailQ=⟨#[48,48,48,49,48,49,49,49,48,49,49,49,48,48,49,48,48,49,48,48,48,49,48,49,48,48,49,49,49,48,48,48,48,49,48,49,48,48,48,48,49,48,48,49,48,48,48,48]⟩:=by decide +kernel
theorem Zdy:txt blockQ=⟨#[48,48,49,49,48,48,48,49,48,49,48,48,48,48,48,49,48,49,48,49,49,48,48,49,48,48,49,48,48,49,49,48,48,49,48,49,48,48,49,49,48,49,48,49,49,48,48,49]⟩:=by decide +kernel
theorem Zb8 (s:ByteArray) (o x:Int):Tryz.prog.built 82 [(0,.string s),(1,.int .i64 o),(2,.int .u32 x)]=some #[.string s,.int .i64 o,.int .u32 x]:=by kernel_rfl
theorem Zb9 (s:ByteArray) (sum:Nat) (w:World) (h0:0<s.size) (hs:s.size<=300) (hsum:sum<4294967296) :
  Calls Tryz.prog 30 #[.string s,.int .u32 (sum:Int)] w fun e w'=>e=.returned (.string (txt (writeK s.data.toList sum)))/\Below w.heap.size w w':=by
 have HO:=zh (ZgF s s.size w rfl h0 (by omega));have hll:s.data.toList.length=s.size:=rfl
 have HRB:Hid (∀P,IsSorted s.data.toList P->∀W,Calls Tryz.prog 47 #[.agg #[.string ⟨(lastN s.data.toList P s.size).toArray⟩,.int .i64 (orgN P s.size:Int),.int .u32 (sum:Int)]] W fun e w'=>e=.returned (.string (txt (writeK s.data.toList sum)))/\Below W.heap.size W w'):=zh (fun P hP W=>by
  have hl:P.length=s.size:=by rw [hP.1.length_eq,List.length_range];exact hll
  have h3:(lastN s.data.toList P s.size).length=s.size:=ZaT (by omega);have h:=Zb7 ⟨(lastN s.data.toList P s.size).toArray⟩ (orgN P s.size) sum W (by show(lastN s.data.toList P s.size).toArray.size<=300;rw [List.size_toArray];omega) (by show orgN P s.size<(lastN s.data.toList P s.size).toArray.size;rw [List.size_toArray,h3];exact ZiI P s.size h0) hsum;rw [show(⟨(lastN s.data.toList P s.size).toArray⟩:ByteArray).data.toList=lastN s.data.toList P s.size from rfl,ZfP hP hll] at h;exact h)
 clear h0 hs hsum hll;go_enter Tryz.func30,Tryz.ntmps30;go_wp2_with fail;refine HO.out.mono ?_;rintro e w1 ⟨⟨P,hP,rfl⟩,hb⟩;have HB1:=zh hb;have HR:=zh (HRB.out P hP);obtain⟨T,hT⟩:∃T:ByteArray,(⟨(lastN s.data.toList P s.size).toArray⟩:ByteArray)=T:=⟨_,rfl⟩
 obtain⟨og,hog⟩:∃og,orgN P s.size=og:=⟨_,rfl⟩
 rw [hT,hog] at HR ⊢;have hbt:=Zb8 T og sum;have hx:=HB1.out.alloc HB1.out.size (.cells #[.string T,.int .i64 (og:Int)] 96);clear hb hP hT hog;go_wp2_with (first|(refine Za0 rfl 82 0 1 2 _ _ _ rfl _ _ _ rfl rfl rfl _ hbt ?_));refine(HR.out _).mono ?_;rintro e w2 ⟨rfl,hb2⟩;have HB2:=zh (hx.trans (hb2.mono hx.size));clear hb2 hx;go_wp2_with fail;go_ret;exact⟨rfl,HB2.out⟩
theorem ZcD (L:Nat) (w:World) (h9:L<=9):Calls Tryz.prog 15 #[.int .i64 (L:Int)] w fun e w'=>e=.returned (.string (txt (headQ L 4)))/\w'=w:=by
 have hcut:=Zen L h9;obtain⟨D,hD⟩:∃D:ByteArray,(⟨#[UInt8.ofNat (48+L)]⟩:ByteArray)=D:=⟨_,rfl⟩
 have hDs:D.size=1:=by rw [<-hD];rfl
 have hb:=Zeo L h9;rw [hD] at hcut hb;have hT:((⟨#[66,90,104]⟩:ByteArray)++D).size=4:=by rw [ByteArray.size_append,hDs];rfl
 have HBT:=zh (fun W=>Zco ((⟨#[66,90,104]⟩:ByteArray)++D) W (by omega));rw [hb] at HBT
 have hs1:∀W,(Instr.slice 9 (.string ⟨#[48,49,50,51,52,53,54,55,56,57]⟩) (some (.int .i64 (L:Int))) (some (.int .i64 ((L:Int)+1))) none).run Tryz.prog W=.ok (.string D) W:=fun W=>by
  rw [run_slice_string_if (P:=Tryz.prog) (w:=W) 9 ⟨#[48,49,50,51,52,53,54,55,56,57]⟩ .i64 .i64 (L:Int) ((L:Int)+1) Tryz.underlying9,if_pos (by show 0<=(L:Int)+1/\(L:Int)+1<=10;omega),if_pos (by omega)];rw [show((L:Int)).toNat=L by omega,show((L:Int)+1).toNat=L+1 by omega,hcut]
 clear hD hb hcut;go_enter Tryz.func15,Tryz.ntmps15;go_wp2_with fail;refine(HBT.out _).mono ?_;rintro e w1 ⟨rfl,rfl⟩;go_wp2_with fail;go_ret;exact⟨rfl,rfl⟩
def OwnU (w:World) (base:Nat) (v:Value) (xs:List (BitVec 32)):Prop:=w.ownsRow base 37 1 v xs.length (xs.map u32v)
theorem OwnU.nil (w:World) (base:Nat):OwnU w base (.slice none 0 0) []:=World.ownsRow_nil _ _ _ _
theorem OwnU.lt {w:World} {base:Nat} {v:Value} {xs:List (BitVec 32)} (h:OwnU w base v xs):∀k,v.ownBlock=some k->base<=k/\k<w.heap.size:=World.ownsRow.lt h
theorem OwnU.same {w w':World} {base:Nat} {v:Value} {xs:List (BitVec 32)} (h:OwnU w base v xs) (he:∀k,v.ownBlock=some k->w'.heap[k]?=w.heap[k]?):OwnU w' base v xs:=Zag h he
theorem OwnU.below {w w':World} {base:Nat} {v:Value} {xs:List (BitVec 32)} (h:OwnU w base v xs) (hb:Below w.heap.size w w'):OwnU w' base v xs:=h.same (fun k hk=>hb.block k (h.lt k hk).2)
theorem OwnU.u32 {w:World} {base:Nat} {v:Value} {xs:List (BitVec 32)} (h:OwnU w base v xs) (hn:xs.length<=1000000):∃a cap,v=.slice a xs.length cap/\IsU32 w a xs.length xs:=Zdm h (by unfold maxLen;omega)
theorem Zev {ops:Array Oper} {rest:List Oper} {o:Oper} {a:Act} {Q:Exit->Act->World->Prop} (W:World) (hgd:o.guard=none) (s x:Operand)
  (ho:o.op=.call { callee:=.builtin .append,args:=#[s,x],argTypes:=#[36,36] })
  (B:Nat) (v:Value) (xs:List (BitVec 32)) (c:BitVec 32) (hown:OwnU W B v xs) (hs:a.eval s=v) (G:Nat) (hG:W.heap.size=G) (hx:a.eval x=.slice (some ⟨G,0,none⟩) 1 1)
  (hlen:xs.length<=1000000) (hb:B<=W.heap.size)
  (h:∀v' w',OwnU w' B v' (xs++[c])->Touch (fun k=>v.ownBlock=some k) W w'->(∀k,v'.ownBlock=some k->v.ownBlock=some k\/W.heap.size<=k)->wpList Tryz.prog ops Q rest (a.put o.dst v') w') :
  wpList Tryz.prog ops Q (o::rest) a (W.alloc (.cells #[.int .u32 (c.toNat:Int)] 37)):=by
 subst hG;obtain⟨i0,hi,hz0,hz1,hz2⟩:=info_parts ZiV;refine Zai hgd s x 36 ho B 37 i0 (.int .u32 0) 1 4 Tryz.underlying36 hi hz0 hz1 hz2 rfl (by decide) v xs.length (xs.map u32v) (World.ownsRow.alloc hown _) hs ⟨W.heap.size,0,none⟩ 1 1 [.int .u32 (c.toNat:Int)] hx rfl ?_ ?_ ?_ ?_ ?_ ?_
 ·exact ZaB _ _ _ _ rfl
 ·intro u hu;simp at hu;subst hu;rfl
 ·unfold maxLen;omega
 ·omega
 ·simp;omega
 ·intro v' w' hown' hg hv;refine h v' w' ?_ ?_ (fun k hk=>(hv k hk).imp id (fun h=>by simp at h;omega))
  ·unfold OwnU;rw [List.length_append,List.map_append];exact hown'
  ·exact⟨hg.os,hg.tape,hg.output,by have:=hg.size;simp at this;omega,fun k hk hn=>(hg.block k (by simp;omega) (fun e=>hn e.symm)).trans (Zam hk)⟩
theorem ZcE (a:Option Addr) (len cap:Nat) (xs:List (BitVec 32)) (w:World) (h:IsU32 w a len xs):Calls Tryz.prog 33 #[.slice a len cap] w fun e w'=>e=.returned (.string (txt (tailQ++field (strm xs).toNat 32)))/\w'=w:=by
 have HS:=zh (ZbJ a len cap xs w h);have HF:=zh (fun W=>Zak (strm xs).toNat 32 W (by omega) (strm xs).isLt);have HT:Hid (txt (tailQ++field (strm xs).toNat 32)=⟨#[48,48,48,49,48,49,49,49,48,49,49,49,48,48,49,48,48,49,48,48,48,49,48,49,48,48,49,49,49,48,48,48,48,49,48,49,48,48,48,48,49,48,48,49,48,48,48,48]⟩++txt (field (strm xs).toNat 32)):=zh (by rw [<-Zab,ZgQ]);have hz:(txt (field (strm xs).toNat 32)).size=32:=by rw [Zac,Zaa]
 have h48:(⟨#[48,48,48,49,48,49,49,49,48,49,49,49,48,48,49,48,48,49,48,48,48,49,48,49,48,48,49,49,49,48,48,48,48,49,48,49,48,48,48,48,49,48,48,49,48,48,48,48]⟩:ByteArray).size=48:=rfl;obtain⟨T,hTT⟩:∃T,txt (field (strm xs).toNat 32)=T:=⟨_,rfl⟩
 rw [hTT] at hz HT HF;clear hTT h;go_enter Tryz.func33,Tryz.ntmps33;go_wp2_with fail;refine HS.out.mono ?_;rintro e w1 ⟨rfl,rfl⟩;go_wp2_with fail;refine(HF.out _).mono ?_;rintro e w1 ⟨rfl,rfl⟩;go_wp2_with fail;go_ret;exact⟨by rw [HT.out];rfl,rfl⟩
def RactP (w:World) (c:Int) (S:ByteArray) (e:Ending) (w':World):Prop:=e=.returned (.tuple #[.int .i64 c,.string S])/\Below w.heap.size w w'
theorem ZhD (w:World) (K O:Int) (T:ByteArray) (x:BitVec 32):∃w0,w.alloc (.cells #[.int .i64 K,.int .i64 O,.string T,.int .u32 (x.toNat:Int)] 39)=w0/\Below w.heap.size w w0/\w0.cell? ⟨w.heap.size,0,none⟩=some (.int .i64 K)/\w0.cell? ⟨w.heap.size,1,none⟩=some (.int .i64 O)/\w0.cell? ⟨w.heap.size,2,none⟩=some (.string T)/\w0.cell? ⟨w.heap.size,3,none⟩=some (.int .u32 (x.toNat:Int)):=by
 have h:=heap_alloc_new w (.cells #[.int .i64 K,.int .i64 O,.string T,.int .u32 (x.toNat:Int)] 39);refine⟨_,rfl,(Below.refl _ _).alloc (Nat.le_refl _) _,?_,?_,?_,?_⟩<;>(rw [cell_of_row _ _ _ _ _ _ h];rfl)
theorem Zho (K O:Int) (T:ByteArray) (x:BitVec 32) (v:Value) (w:World):Calls Tryz.prog 21 #[.agg #[.int .i64 K,.int .i64 O,.string T,.int .u32 (x.toNat:Int)],.bool true,v] w (fun e w'=>RactP w 7 ⟨#[]⟩ e w'):=by
 obtain⟨w0,hw0,hb,c0,c1,c2,c3⟩:=ZhD w K O T x;have HB:=zh hb;clear hb;go_enter Tryz.func21,Tryz.ntmps21;go_wp2_with fail;go_ret2;exact⟨rfl,HB.out⟩
theorem Zn2 (O:Int) (T:ByteArray) (x:BitVec 32) (v:Value) (w:World) (hT:T.size=0):Calls Tryz.prog 21 #[.agg #[.int .i64 0,.int .i64 O,.string T,.int .u32 (x.toNat:Int)],.bool false,v] w (fun e w'=>RactP w 1 ⟨#[]⟩ e w'):=by
 obtain⟨w0,hw0,hb,c0,c1,c2,c3⟩:=ZhD w 0 O T x;have HB:=zh hb
 have he:T.toList.isEmpty=true:=by
  have hl:T.data.toList=[]:=List.eq_nil_of_length_eq_zero hT;rw [ByteArray.toList_eq,hl];rfl
 clear hb hT;go_enter Tryz.func21,Tryz.ntmps21;go_wp2_with fail;go_ret2;exact⟨rfl,HB.out⟩
theorem Zn3 (O:Int) (T:ByteArray) (x:BitVec 32) (v:Value) (w:World) (h0:0<T.size) (hs:T.size<=300):Calls Tryz.prog 21 #[.agg #[.int .i64 0,.int .i64 O,.string T,.int .u32 (x.toNat:Int)],.bool false,v] w (fun e w'=>RactP w 0 (txt (blockQ++writeK T.data.toList x.toNat)) e w'):=by
 obtain⟨w0,hw0,hb,c0,c1,c2,c3⟩:=ZhD w 0 O T x;have HB:=zh hb
 have he:T.toList.isEmpty=false:=by
  have hl:T.data.toList.length=T.size:=rfl;rw [ByteArray.toList_eq];cases hx:T.data.toList with
  | nil=>rw [hx] at hl;simp at hl;omega
  | cons _ _=>rfl
 have HWR:=zh (fun W=>Zb9 T x.toNat W h0 hs x.isLt);have hwl:=Zbw (T:=T.data.toList) (by show 0<T.size;exact h0) (by show T.size<=300;exact hs) x.toNat;have HALL:Hid (txt (blockQ++writeK T.data.toList x.toNat)=⟨#[48,48,49,49,48,48,48,49,48,49,48,48,48,48,48,49,48,49,48,49,49,48,48,49,48,48,49,48,48,49,49,48,48,49,48,49,48,48,49,49,48,49,48,49,49,48,48,49]⟩++txt (writeK T.data.toList x.toNat)):=zh (by rw [<-Zab,Zdy]);have h48:(⟨#[48,48,49,49,48,48,48,49,48,49,48,48,48,48,48,49,48,49,48,49,49,48,48,49,48,48,49,48,48,49,49,48,48,49,48,49,48,48,49,49,48,49,48,49,49,48,48,49]⟩:ByteArray).size=48:=rfl;have hz:(txt (writeK T.data.toList x.toNat)).size<=300400:=by rw [Zac];exact hwl
 obtain⟨S,hS⟩:∃S,txt (writeK T.data.toList x.toNat)=S:=⟨_,rfl⟩
 rw [hS] at HWR HALL hz;clear hb h0 hs hwl hS;go_enter Tryz.func21,Tryz.ntmps21;go_wp2_with fail;refine(HWR.out _).mono ?_;rintro e w2 ⟨rfl,hb2⟩;have HB2:=zh (HB.out.trans (hb2.mono HB.out.size));clear hb2;go_wp2_with fail;go_ret2;exact⟨by rw [HALL.out];rfl,HB2.out⟩
theorem ZrH (O:Int) (T:ByteArray) (x:BitVec 32) (v:Value) (w:World) (hs:T.size<=300) (hO:O<0\/(T.size:Int)<=O):Calls Tryz.prog 21 #[.agg #[.int .i64 1,.int .i64 O,.string T,.int .u32 (x.toNat:Int)],.bool false,v] w (fun e w'=>RactP w 1 ⟨#[]⟩ e w'):=by
 obtain⟨w0,hw0,hb,c0,c1,c2,c3⟩:=ZhD w 1 O T x;have HB:=zh hb;have hcase:O<0\/(¬O<0/\O>=(T.size:Int)):=by omega
 clear hb hO;rcases hcase with k1|⟨k1,k2⟩
 all_goals
  go_enter Tryz.func21,Tryz.ntmps21;go_wp2_with fail;go_ret2;exact⟨rfl,HB.out⟩
theorem Zmj (O:Nat) (T:ByteArray) (x:BitVec 32) (v:Value) (w:World) (hO:O<T.size) (hs:T.size<=300):Calls Tryz.prog 21 #[.agg #[.int .i64 1,.int .i64 (O:Int),.string T,.int .u32 (x.toNat:Int)],.bool false,v] w (fun e w'=>RactP w 0 (txt (blockQ++allK T.data.toList O x.toNat)) e w'):=by
 obtain⟨w0,hw0,hb,c0,c1,c2,c3⟩:=ZhD w 1 (O:Int) T x;have HB:=zh hb;have k1:¬(O:Int)<0:=by omega
 have k2:¬(O:Int)>=(T.size:Int):=by omega
 have HRB:=zh (fun W=>Zb7 T O x.toNat W hs hO x.isLt);have hll:T.data.toList.length=T.size:=rfl;have hwl:=Zet (l:=T.data.toList) (by intro e;rw [e] at hll;simp at hll;omega) (by omega) O x.toNat;have HALL:Hid (txt (blockQ++allK T.data.toList O x.toNat)=⟨#[48,48,49,49,48,48,48,49,48,49,48,48,48,48,48,49,48,49,48,49,49,48,48,49,48,48,49,48,48,49,49,48,48,49,48,49,48,48,49,49,48,49,48,49,49,48,48,49]⟩++txt (allK T.data.toList O x.toNat)):=zh (by rw [<-Zab,Zdy]);have h48:(⟨#[48,48,49,49,48,48,48,49,48,49,48,48,48,48,48,49,48,49,48,49,49,48,48,49,48,48,49,48,48,49,49,48,48,49,48,49,48,48,49,49,48,49,48,49,49,48,48,49]⟩:ByteArray).size=48:=rfl;have hz:(txt (allK T.data.toList O x.toNat)).size<=300400:=by rw [Zac];exact hwl
 obtain⟨S,hS⟩:∃S,txt (allK T.data.toList O x.toNat)=S:=⟨_,rfl⟩
 rw [hS] at HRB HALL hz;have hbt:=Zb8 T (O:Int) (x.toNat:Int);clear hb hs hwl hS hll;go_enter Tryz.func21,Tryz.ntmps21;go_wp2_with (first|(refine Za0 rfl 82 0 1 2 _ _ _ rfl _ _ _ rfl rfl rfl _ hbt ?_));refine(HRB.out _).mono ?_;rintro e w2 ⟨rfl,hb2⟩;have HB2:=zh (HB.out.trans (hb2.mono HB.out.size));clear hb2;go_wp2_with fail;go_ret2;exact⟨by rw [HALL.out];rfl,HB2.out⟩
theorem ZrI (X:Nat):(tailQ++field X 32)++padding (tailQ++field X 32)=tailQ++field X 32:=by
 have h:padding (tailQ++field X 32)=[]:=by
  unfold padding tailQ;rw [List.length_append,List.length_append,Zaa,Zaa,Zaa];rfl
 rw [h,List.append_nil]
theorem Zm2 (K O:Int) (T:ByteArray) (x:BitVec 32) (a:Option Addr) (len cap:Nat) (xs:List (BitVec 32)) (w:World) (h:IsU32 w a len xs) (k0:(K==0)=false) (k1:(K==1)=false) :
  Calls Tryz.prog 21 #[.agg #[.int .i64 K,.int .i64 O,.string T,.int .u32 (x.toNat:Int)],.bool false,.slice a len cap] w (fun e w'=>RactP w 0 (txt (tailQ++field (strm xs).toNat 32)) e w'):=by
 obtain⟨w0,hw0,hb,c0,c1,c2,c3⟩:=ZhD w K O T x;have HB:=zh hb;have HTL:=zh (ZcE a len cap xs w0 (h.below hb));have HPD:=zh (Zcb (tailQ++field (strm xs).toNat 32) w0 (by unfold tailQ;simp only [List.length_append,Zaa];omega));rw [ZrI] at HPD;generalize txt (tailQ++field (strm xs).toNat 32)=S at *;clear hb h;go_enter Tryz.func21,Tryz.ntmps21;go_wp2_with fail;refine HTL.out.mono ?_;rintro e w2 ⟨rfl,rfl⟩;go_wp2_with fail;refine HPD.out.mono ?_;rintro e w2 ⟨rfl,rfl⟩;go_wp2_with fail;go_ret2;exact⟨rfl,HB.out⟩
theorem ZtK.below {w w':World} (h:ZtK w) (hb:Below w.heap.size w w'):ZtK w':=⟨h.1.below hb h.1.lt,h.2.below hb⟩
end
section
open Go.ChangeShapes Go.WideShapes Go.ChangeAt Go.Deep
open Go.RowKit BitM HufM CanM CodM UsedM MtfM TabM FreqM BlkM BwtM SrtM RleM SplM CrcM
structure StA where
 K:Int
 O:Int
 T:ByteArray
 x:BitVec 32
def StA.cells (o:StA):List Value:=[.int .i64 o.K,.int .i64 o.O,.string o.T,.int .u32 (o.x.toNat:Int)]
structure StA.Ok (o:StA):Prop where
 hk:-9223372036854775808<=o.K/\o.K<=9223372036854775807
 ho:-9223372036854775808<=o.O/\o.O<=9223372036854775807
 ht:o.T.size<=maxLen
def IsStA (w:World) (a:Option Addr) (len:Nat) (l:List StA):Prop:=Opn.IsElems w a len 4 StA.cells l/\(∀x∈l,StA.Ok x)/\len<=maxLen
theorem IsStA.at_ {w w':World} {a:Option Addr} {len:Nat} {l:List StA} (h:IsStA w a len l) (hb:Below w.heap.size w w') {k:Nat} (hk:k<len):∃o b off,StA.Ok o/\a=some ⟨b,off,none⟩ /\
  w'.cell? ⟨b,off+k*4,none⟩=some (.int .i64 o.K)/\w'.cell? ⟨b,off+k*4+1,none⟩=some (.int .i64 o.O)/\w'.cell? ⟨b,off+k*4+2,none⟩=some (.string o.T)/\w'.cell? ⟨b,off+k*4+3,none⟩=some (.int .u32 (o.x.toNat:Int)):=by
 obtain⟨⟨hl,he⟩,hok,_⟩:=h;have hx:l[k]?=some (l[k]'(by omega)):=List.getElem?_eq_getElem _;obtain⟨b,off,ha,hlt,hc⟩:=he k _ hx;refine⟨l[k]'(by omega),b,off,hok _ (List.getElem_mem _),ha,?_,?_,?_,?_⟩
 ·exact(hb.cell (p:=⟨b,off+k*4,none⟩) hlt).trans (hc 0 _ rfl)
 ·exact(hb.cell (p:=⟨b,off+k*4+1,none⟩) hlt).trans (hc 1 _ rfl)
 ·exact(hb.cell (p:=⟨b,off+k*4+2,none⟩) hlt).trans (hc 2 _ rfl)
 ·exact(hb.cell (p:=⟨b,off+k*4+3,none⟩) hlt).trans (hc 3 _ rfl)
theorem open_stacts {H:Type} {enc:TypeId×Value->H} {P:Program} {W:World} {base:Nat} {t e:TypeId} {v:Value} {d:DataW H} {p:List MemPlace}
  (ht:P.underlying t=some (.slice e)) (hk:Opn.kinds P 2 e=some [.int .i64,.int .i64,.str,.int .u32]) (hm:P.cellsOf e=4)
  (hv:Value.okWide P W .any base t v) (h:DataW.Trod enc P W 0 (fun _=>true) true t v d p):∃a len cap l,v=.slice a len cap/\IsStA W a len l:=by
 refine Opn.open_elems 4 2 _ StA.cells StA.Ok ht hk hm (by omega) (fun vs hall=>?_) hv h;have hl:=hall.length
 obtain⟨x0,x1,x2,x3,rfl⟩:∃x0 x1 x2 x3,vs=[x0,x1,x2,x3]:=by
  rcases vs with _|⟨x0,_|⟨x1,_|⟨x2,_|⟨x3,_|⟨x4,r⟩⟩⟩⟩⟩
  ·cases hl
  ·cases hl
  ·cases hl
  ·cases hl
  ·exact⟨_,_,_,_,rfl⟩
  ·simp at hl
 obtain⟨⟨q0,e0,h0⟩,⟨q1,e1,h1⟩,⟨s,e2,h2⟩,⟨q3,e3,h3⟩,_⟩:=hall
 have w0:-9223372036854775808<=q0/\q0<=9223372036854775807:=by
  simp only [Lit.wf,Bool.and_eq_true,decide_eq_true_eq] at h0;exact h0
 have w1:-9223372036854775808<=q1/\q1<=9223372036854775807:=by
  simp only [Lit.wf,Bool.and_eq_true,decide_eq_true_eq] at h1;exact h1
 have w3:0<=q3/\q3<=4294967295:=by simpa [Lit.wf,IntKind.min,IntKind.max,IntKind.signed,IntKind.bits] using h3
 refine⟨⟨q0,q1,s,BitVec.ofNat 32 q3.toNat⟩,?_,w0,w1,h2⟩
 have e:(((BitVec.ofNat 32 q3.toNat).toNat:Nat):Int)=q3:=by
  rw [BitVec.toNat_ofNat];omega
 rw [e0,e1,e2,e3];simp only [StA.cells,e]
structure ActS (w3:World) (t g:Nat) (v:Value) (sum:Nat) (Q:List Bool) (tk:Nat) (xs:List (BitVec 32)) (dn:Bool) (vs v1:Value) (wr:World):Prop where
 ok:TwOk wr t g sum dn v1 Q tk
 touch:Touch (fun k=>ftT t g v k\/False) w3 wr
 own:∀k,v1.ownBlock=some k->v.ownBlock=some k\/w3.heap.size<=k
 row:OwnU wr w3.heap.size vs xs
 apart:∀k,vs.ownBlock=some k->v1.ownBlock≠some k
 tg:t<w3.heap.size/\g<w3.heap.size
theorem ActS.below {w3:World} {t g:Nat} {v:Value} {sum:Nat} {Q:List Bool} {tk:Nat} {xs:List (BitVec 32)} {dn:Bool} {vs v1:Value} {wr w':World} (h:ActS w3 t g v sum Q tk xs dn vs v1 wr) (hb:Below wr.heap.size wr w'):ActS w3 t g v sum Q tk xs dn vs v1 w':=
 ⟨h.ok.other (Touch.ofBelow (S:=fun _=>False) hb) (fun _ _ e=>e),h.touch.trans (Touch.ofBelow (S:=fun _=>False) hb) (fun _ e=>e.elim),h.own,h.row.below hb,h.apart,h.tg⟩
theorem ActS.step {w3:World} {t g:Nat} {v:Value} {sum:Nat} {Q:List Bool} {tk:Nat} {xs:List (BitVec 32)} {dn:Bool} {vs v1:Value} {wr w':World} {sum2:Nat} {Q2:List Bool} {tk2:Nat} {dn2:Bool} (h:ActS w3 t g v sum Q tk xs dn vs v1 wr) (h2:Tws (fun _=>False) wr t g v1 sum2 dn2 Q2 tk2 w'):∃v2,ActS w3 t g v sum2 Q2 tk2 xs dn2 vs v2 w':=by
 obtain⟨v2,k1,k2,k3⟩:=h2;have hz:=h.touch.size
 have hn:∀k,vs.ownBlock=some k->¬ftT t g v1 k:=fun k hk e=>by
  have h1:=h.row.lt k hk;have h2:=h.tg;rcases e with e|e|e
  ·omega
  ·omega
  ·exact h.apart k hk e
 refine⟨v2,k1,h.touch.trans k2 (fun k hk=>?_),fun k hk=>?_,h.row.same (fun k hk=>k2.block k (h.row.lt k hk).2 (fun e=>e.elim (hn k hk) id)),fun k hk e=>?_,h.tg⟩
 ·rcases hk with(hk|hk|hk)|hk
  ·exact Or.inl (Or.inl (Or.inl hk))
  ·exact Or.inl (Or.inl (Or.inr (Or.inl hk)))
  ·rcases h.own k hk with e|e
   ·exact Or.inl (Or.inl (Or.inr (Or.inr e)))
   ·exact Or.inr e
  ·exact hk.elim
 ·rcases k3 k hk with e|e
  ·exact h.own k e
  ·exact Or.inr (by omega)
 ·rcases k3 k e with e|e
  ·exact h.apart k hk e
  ·have:=(h.row.lt k hk).2;omega
theorem ActS.push {w3:World} {t g:Nat} {v:Value} {sum:Nat} {Q:List Bool} {tk:Nat} {xs xs':List (BitVec 32)} {dn:Bool} {vs vs' v1:Value} {wr w':World} (h:ActS w3 t g v sum Q tk xs dn vs v1 wr) (hT:Touch (fun k=>vs.ownBlock=some k) wr w') (hO:OwnU w' w3.heap.size vs' xs') (hv:∀k,vs'.ownBlock=some k->vs.ownBlock=some k\/wr.heap.size<=k):ActS w3 t g v sum Q tk xs' dn vs' v1 w':=by
 have hz:=h.touch.size;refine⟨h.ok.other hT (fun k hk e=>?_),h.touch.trans hT (fun k hk=>Or.inr (h.row.lt k hk).1),h.own,hO,fun k hk e=>?_,h.tg⟩
 ·have h1:=h.row.lt k e;have h2:=h.tg;rcases hk with hk|hk|hk
  ·omega
  ·omega
  ·exact h.apart k e hk
 ·rcases hv k hk with e2|e2
  ·exact h.apart k e2 e
  ·have:=(h.ok.2.1.lt k (Or.inr e)).1;omega
theorem ActS.base {w w3:World} {t g:Nat} {v:Value} {sum:Nat} {Q:List Bool} {tk:Nat} {xs:List (BitVec 32)} {dn:Bool} {vs v1:Value} {wr:World} (h:ActS w3 t g v sum Q tk xs dn vs v1 wr) (hb:Below w.heap.size w w3) (hf:∀k,ftT t g v k->w.heap.size<=k):Below w.heap.size w wr:=
 hb.trans (h.touch.below hb.size (fun k hk=>hk.elim (hf k) (fun e=>e.elim)))
def ActBox (W:World) (G:Nat) (K O:Int) (T:ByteArray) (x:BitVec 32):Prop:=W.heap[G]?=some (.cells #[.int .i64 K,.int .i64 O,.string T,.int .u32 (x.toNat:Int)] 39 (0,0))
theorem ActBox.cells {W:World} {G:Nat} {K O:Int} {T:ByteArray} {x:BitVec 32} (h:ActBox W G K O T x):W.cell? ⟨G,0,none⟩=some (.int .i64 K)/\W.cell? ⟨G,1,none⟩=some (.int .i64 O)/\W.cell? ⟨G,2,none⟩=some (.string T)/\W.cell? ⟨G,3,none⟩=some (.int .u32 (x.toNat:Int)):=by
 unfold ActBox at h;refine⟨?_,?_,?_,?_⟩<;>(rw [cell_of_row _ _ _ _ _ _ h];rfl)
theorem ActBox.below {W W':World} {G:Nat} {K O:Int} {T:ByteArray} {x:BitVec 32} (h:ActBox W G K O T x) (hb:Below W.heap.size W W'):ActBox W' G K O T x:=(hb.block G (Array.getElem?_eq_some_iff.1 h).1).trans h
theorem ActBox.touch {W W':World} {G:Nat} {K O:Int} {T:ByteArray} {x:BitVec 32} {S:Nat->Prop} (h:ActBox W G K O T x) (ht:Touch S W W') (hn:¬S G):ActBox W' G K O T x:=(ht.block G (Array.getElem?_eq_some_iff.1 h).1 hn).trans h
theorem Zgd (q r:List Bool) {tk:Nat} (h:tk<=q.length / 8):(byts (q++r)).take tk=(byts q).take tk:=by
 rw [ZdR,List.take_append_of_le_length (by rw [Zav];exact h)]
theorem Zqa (q:List Bool):(byts q).take (q.length / 8)=byts q:=List.take_of_length_le (by rw [Zav];exact Nat.le_refl _)
theorem ZjI (q:List Bool) (tk:Nat):(⟨((byts q).take tk).toArray⟩:ByteArray)++⟨((byts q).drop tk).toArray⟩=⟨(byts q).toArray⟩:=by
 apply ByteArray.ext;simp
theorem Zn4 (q:List Bool) {tk:Nat} (h:tk<=q.length / 8):(⟨((byts q).take tk).toArray⟩:ByteArray).size=tk:=by
 show((byts q).take tk).toArray.size=tk;rw [List.size_toArray,List.length_take,Zav];omega
def ActRel (w3:World) (t g:Nat) (v:Value) (len:Nat) (va vt vd vs vj:Value) (wr:World):Prop:=
 ∃(j:Nat) (Q:List Bool) (tk:Nat) (xs:List (BitVec 32)) (dn:Bool) (v1:Value),vj=.int .i64 (j:Int)/\j<=len/\va=.string (txt Q)/\vt=.string ⟨((byts Q).take tk).toArray⟩/\tk<=Q.length / 8/\vd=.bool dn/\xs.length<=j/\Q.length<=301000*(j+1)/\ActS w3 t g v (strm xs).toNat Q tk xs dn vs v1 wr
theorem Zlh (xs:List (BitVec 32)) (x:BitVec 32):strm (xs++[x])=cmb (strm xs) x:=by unfold strm;rw [List.foldl_append];rfl
theorem streamActs.good (L:Nat) (a:Option Addr) (len cap:Nat) (l:List StA) (w:World) (h:ZtK w) (h1:1<=L) (h9:L<=9) (hl:IsStA w a len l) (hlen:len<=8) :
  Calls Tryz.prog 5 #[.int .i64 (L:Int),.slice a len cap] w fun e w'=>e=.returned (.bool true)/\Below w.heap.size w w':=by
 have HN:=zh (Ze0 L w h1 h9);have HLV:=zh (fun W=>ZaX (L:Int) W);rw [show decide (1<=(L:Int)/\(L:Int)<=9)=true by rw [decide_eq_true_eq];omega] at HLV;have HNO:=zh (fun W (h:ZtK W)=>Za2 W h.1);have HLD:=zh h;have HEL:=zh hl;have HHD:=zh (fun W=>ZcD L W h9);have h8:¬(8:Int)<(len:Int):=by omega
 clear h hl;go_enter Tryz.func5,Tryz.ntmps5;go_wp2_with fail;refine HN.out.mono ?_;rintro e w3 ⟨t,g,v,rfl,h3,hf3,hb3⟩;have H3:=zh h3;have HF3:=zh hf3;have HB3:=zh hb3;have HTG:=zh (show t<w3.heap.size/\g<w3.heap.size from⟨h3.lt t (Or.inl rfl),h3.lt g (Or.inr (Or.inl rfl))⟩);clear h3 hf3 hb3 HN;go_wp2_with fail;refine(HLV.out _).mono ?_;rintro e w4 ⟨rfl,hw4⟩;obtain rfl:=hw4.symm;go_wp2_with fail;refine(HHD.out _).mono ?_;rintro e w4 ⟨rfl,hw4⟩;obtain rfl:=hw4.symm;have hhq:=Zbh L 4;go_wp2_with fail
 go_loopw [7,8,9,10,41] (fun va vt vd vs vj wr=>ActRel w3 t g v len va vt vd vs vj wr) (fun _ _ _ _ vj _=>len-(intOf vj).toNat)
 case atStart=>exact⟨0,headQ L 4,0,[],false,v,rfl,Nat.zero_le _,rfl,rfl,Nat.zero_le _,rfl,Nat.le_refl _,by omega,H3.out,Touch.refl _ _,fun k hk=>Or.inl hk,OwnU.nil _ _,fun k hk=>(by cases hk),HTG.out⟩
 case round=>
  obtain⟨j,Q,tk,xs,dn,v1,rfl,hj,rfl,rfl,htk,rfl,hxl,hQl,hA⟩:=hrel;have HA:=zh hA;have HBR:=zh (hA.base HB3.out HF3.out);have hsz3:=hA.touch.size;have HLR:=zh (HLD.out.below HBR.out);obtain⟨OS,hOS⟩:∃OS:ByteArray,(⟨((byts Q).take tk).toArray⟩:ByteArray)=OS:=⟨_,rfl⟩
  have hOs:OS.size=tk:=by rw [<-hOS];exact Zn4 Q htk
  obtain⟨A,hAq⟩:∃A,txt Q=A:=⟨_,rfl⟩
  have hAs:A.size=Q.length:=by rw [<-hAq];exact Zac Q
  have HOS:=zh hOS;have HAQ:=zh hAq;have HOZ:=zh hOs;have HAZ:=zh hAs;have hQm:Q.length<=3000000:=by omega
  have hOm:OS.size<=3000000:=by omega
  have hAm:A.size<=3000000:=by omega
  have HQM:=zh hQm;have HTK:=zh htk;have HXL:=zh hxl;have HQL:=zh hQl;rw [hOS,hAq];clear hA hOS hAq hOs hAs htk hxl hQl;by_cases hlt:j<len
  ·obtain⟨⟨K,O,T,x⟩,eb,eo,hok,rfl,e0,e1,e2,e3⟩:=HEL.out.at_ HBR.out hlt;simp only at e0 e1 e2 e3;have hji:(j:Int)<(len:Int):=by omega
   obtain⟨w5,hw5⟩:∃w5,wr.alloc (.cells #[.int .i64 K,.int .i64 O,.string T,.int .u32 (x.toNat:Int)] 39)=w5:=⟨_,rfl⟩
   have hb5:Below wr.heap.size wr w5:=by rw [<-hw5];exact(Below.refl _ _).alloc (Nat.le_refl _) _
   have hx5:ActBox w5 wr.heap.size K O T x:=by rw [<-hw5];exact heap_alloc_new _ _
   have hz5:w5.heap.size=wr.heap.size+1:=by rw [<-hw5];simp
   have HB5:=zh hb5;have HX5:=zh hx5;have HA5:=zh (HA.out.below hb5);have HL5:=zh (HLR.out.below hb5);have HBW:=zh (HBR.out.trans (hb5.mono HBR.out.size));obtain⟨G,hG⟩:∃G,wr.heap.size=G:=⟨_,rfl⟩
   rw [hG] at HX5 hx5 hz5;obtain⟨c0,c1,c2,c3⟩:=hx5.cells;have hnf:∀k,ftT t g v1 k->k≠G:=fun k hk e=>by have:=HA.out.ok.lt k hk;omega
   have HNF:=zh hnf;have hK:-9223372036854775808<=K/\K<=9223372036854775807:=hok.hk;have hO:-9223372036854775808<=O/\O<=9223372036854775807:=hok.ho;have hTm:T.size<=maxLen:=hok.ht;unfold maxLen at hTm;clear hb5 hx5 hok hnf;by_cases ht30:30<T.size
   ·have hti:(30:Int)<(T.size:Int):=by omega
    go_wp2_with fail;refine(HNO.out _ HL5.out).mono ?_;rintro e w9 ⟨rfl,hb9⟩;have HB9:=zh (HBW.out.trans (hb9.mono HBW.out.size));clear hb9;go_wp2_with fail;go_ret;exact⟨rfl,HB9.out⟩
   have hti:¬(30:Int)<(T.size:Int):=by omega
   have hcase:K=3\/K=0\/K=1\/((K==3)=false/\(K==0)=false/\(K==1)=false/\K<2/\¬K>=0)\/((K==3)=false/\(K==0)=false/\(K==1)=false/\¬K<2):=by
    simp only [beq_eq_false_iff_ne,ne_eq];omega
   rcases hcase with rfl|rfl|rfl|⟨hk3,hk0,hk1,hk2,hk4⟩|⟨hk3,hk0,hk1,hk2⟩
   ·clear hK;have HTKE:=zh (ZcV w5 HA5.out.ok);obtain⟨D,hD⟩:∃D:ByteArray,(⟨((byts Q).drop tk).toArray⟩:ByteArray)=D:=⟨_,rfl⟩
    obtain⟨BB,hBB⟩:∃BB:ByteArray,(⟨(byts Q).toArray⟩:ByteArray)=BB:=⟨_,rfl⟩
    have hDs:D.size<=3000000:=by
     rw [<-hD];show((byts Q).drop tk).toArray.size<=_;rw [List.size_toArray,List.length_drop,Zav];have:=HQM.out;omega
    rw [hD] at HTKE;have hJ:OS++D=BB:=by rw [<-HOS.out,<-hD,ZjI,hBB]
    have HBY:=zh (fun W=>Zdx Q W (by have:=HQM.out;omega));rw [HAQ.out,hBB] at HBY;have hne:(BB.toList != BB.toList)=false:=by simp
    have HBB:=zh hBB;clear hD hBB;go_wp2_with fail;refine HTKE.out.mono ?_;rintro e w6 ⟨rfl,h6⟩;obtain⟨v6,h6⟩:=HA5.out.step h6;have H6:=zh h6;clear h6;go_wp2_with fail;refine(HBY.out _).mono ?_;rintro e w7 ⟨rfl,hb7⟩;have H7:=zh (H6.out.below hb7);clear hb7;go_wp2_with fail;go_roundw
    case rel=>exact⟨j+1,Q,Q.length / 8,xs,dn,v6,by go_num,by omega,by rw [HAQ.out],by rw [Zqa,HBB.out],Nat.le_refl _,rfl,by have:=HXL.out;omega,by have:=HQL.out;omega,H7.out⟩
    case measure=>simp [intOf];omega
   ·clear hK;cases dn
    ·by_cases hz:T.size=0
     ·have HF:=zh (Zle (x.toNat:Int) T w5 HA5.out.ok hz);have HRA:=zh (fun u W=>Zn2 O T x u W hz);obtain⟨P8,hP8⟩:∃P8,Q.length / 8=P8:=⟨_,rfl⟩
      obtain⟨Hd,hHd⟩:∃Hd,P8-tk=Hd:=⟨_,rfl⟩
      have hq8:(A.size:Int) / 8=(P8:Int):=by rw [HAZ.out];omega
      have hs8:(P8:Int)-(OS.size:Int)=(Hd:Int):=by have:=HOZ.out;have:=HTK.out;omega
      have hw8:IntKind.i64.wrap (P8:Int)=(P8:Int):=IntWalk.i64_in _ (by omega);have hw9:IntKind.i64.wrap (Hd:Int)=(Hd:Int):=IntWalk.i64_in _ (by omega);have hne:((Hd:Int) != (Hd:Int))=false:=by simp
      have HPP:=zh (And.intro hP8 hHd);clear hP8 hHd;go_wp2_with fail;refine HF.out.mono ?_;rintro e w6 ⟨rfl,h6⟩;have hb6:Below w5.heap.size w5 w6:=by first|exact h6|exact h6▸Below.refl _ _
      have H6:=zh (HA5.out.below hb6);have HX6:=zh (HX5.out.below hb6);obtain⟨c0,c1,c2,c3⟩:=HX6.out.cells;clear h6 hb6;go_wp2_with fail;refine(HRA.out _ _).mono ?_;rintro e w7 ⟨rfl,hb7⟩;have H7:=zh (H6.out.below hb7);obtain⟨c0,c1,c2,c3⟩:=(HX6.out.below hb7).cells;clear hb7;have HHH:=zh (Zbi w7 H7.out.ok);rw [HPP.out.1,HPP.out.2] at HHH;go_wp2_with fail;refine HHH.out.mono ?_;rintro e w9 ⟨rfl,hw9'⟩;obtain rfl:=hw9'.symm;go_wp2_with fail;go_roundw
      case rel=>exact⟨j+1,Q,tk,xs,false,v1,by go_num,by omega,by rw [HAQ.out],by rw [HOS.out],HTK.out,rfl,by have:=HXL.out;omega,by have:=HQL.out;omega,H7.out⟩
      case measure=>simp [intOf];omega
     ·have HF:=zh (Zdc (strm xs) x T w5 HA5.out.ok HL5.out.2 (by have:=HQM.out;omega) (by omega) (by omega));have HRA:=zh (fun u W=>Zn3 O T x u W (by omega) (by omega));have hkl:=Zbw (T:=T.data.toList) (by show 0<T.size;omega) (by show T.size<=300;omega) x.toNat;obtain⟨KK,hKK⟩:∃KK,writeK T.data.toList x.toNat=KK:=⟨_,rfl⟩
      rw [hKK] at HF HRA hkl;obtain⟨M,hM⟩:∃M,txt (blockQ++KK)=M:=⟨_,rfl⟩
      rw [hM] at HRA;have hbq:blockQ.length=48:=by unfold blockQ;rw [List.length_append,Zaa,Zaa]
      have hMs:M.size<=300448:=by rw [<-hM,Zac,List.length_append];omega
      obtain⟨Q2,hQ2⟩:∃Q2,Q++blockQ++KK=Q2:=⟨_,rfl⟩
      have hQ2l:Q2.length<=Q.length+300448/\Q.length<=Q2.length:=by rw [<-hQ2,List.length_append,List.length_append];omega
      obtain⟨A2,hA2⟩:∃A2,txt Q2=A2:=⟨_,rfl⟩
      have hA2s:A2.size=Q2.length:=by rw [<-hA2];exact Zac Q2
      have hAM:A++M=A2:=by rw [<-HAQ.out,<-hM,Zab,<-List.append_assoc,hQ2,hA2]
      have HKP:Hid ((byts Q2).take tk=(byts Q).take tk):=zh (by rw [<-hQ2,List.append_assoc];exact Zgd _ _ HTK.out);have HQ2:=zh hQ2;have HA2:=zh hA2;have HA2S:=zh hA2s;have HQ2L:=zh hQ2l;obtain⟨P8,hP8⟩:∃P8,Q2.length / 8=P8:=⟨_,rfl⟩
      obtain⟨Hd,hHd⟩:∃Hd,P8-tk=Hd:=⟨_,rfl⟩
      have hq8:(A2.size:Int) / 8=(P8:Int):=by rw [HA2S.out];omega
      have hs8:(P8:Int)-(OS.size:Int)=(Hd:Int):=by have:=HOZ.out;have:=HTK.out;have:=HQ2L.out;omega
      have hw8:IntKind.i64.wrap (P8:Int)=(P8:Int):=IntWalk.i64_in _ (by omega);have hw9:IntKind.i64.wrap (Hd:Int)=(Hd:Int):=IntWalk.i64_in _ (by omega);have hne:((Hd:Int) != (Hd:Int))=false:=by simp
      have HPP:=zh (And.intro hP8 hHd);clear hP8 hHd;have hA2m:A2.size<=3400000:=by omega
      clear hKK hkl hM hbq hQ2 hA2 hA2s hQ2l;go_wp2_with fail;refine HF.out.mono ?_;rintro e w6 ⟨rfl,h6⟩;rw [HQ2.out] at h6;have hx6:=HX5.out.touch h6.choose_spec.2.1 (fun e=>e.elim (fun e=>HNF.out _ e rfl) id);obtain⟨v6,h6⟩:=HA5.out.step h6;have H6:=zh h6;have HX6:=zh hx6;obtain⟨c0,c1,c2,c3⟩:=hx6.cells;clear h6 hx6;go_wp2_with fail;refine(HRA.out _ _).mono ?_;rintro e w7 ⟨rfl,hb7⟩;have H7:=zh (H6.out.below hb7);obtain⟨c0,c1,c2,c3⟩:=(HX6.out.below hb7).cells;have hb37:w3.heap.size<=w7.heap.size:=H7.out.touch.size;clear hb7;go_wp2_with (at_builtin;go_loud (refine Zev w7 rfl _ _ rfl w3.heap.size _ xs x H7.out.row rfl w7.heap.size rfl rfl (by have:=HXL.out;omega) hb37 ?_));intro v8 w8 hO8 hT8 hv8;have H8:=zh (H7.out.push hT8 hO8 hv8);clear hO8 hT8 hv8;have HHH:=zh (Zbi w8 H8.out.ok);rw [HPP.out.1,HPP.out.2] at HHH;go_wp2_with fail;refine HHH.out.mono ?_;rintro e w9 ⟨rfl,hw9'⟩;obtain rfl:=hw9'.symm;go_wp2_with fail;go_roundw
      case rel=>exact⟨j+1,Q2,tk,xs++[x],false,v6,by go_num,by omega,by rw [HA2.out],by rw [HKP.out,HOS.out],by have:=HTK.out;have:=HQ2L.out;omega,rfl,by have:=HXL.out;rw [List.length_append];simp;omega,by have:=HQL.out;have:=HQ2L.out;omega,by rw [Zlh];exact H8.out⟩
      case measure=>simp [intOf];omega
    ·have HF:=zh (Zmg (x.toNat:Int) T w5 HA5.out.ok);have HRA:=zh (fun u W=>Zho 0 O T x u W);obtain⟨P8,hP8⟩:∃P8,Q.length / 8=P8:=⟨_,rfl⟩
     obtain⟨Hd,hHd⟩:∃Hd,P8-tk=Hd:=⟨_,rfl⟩
     have hq8:(A.size:Int) / 8=(P8:Int):=by rw [HAZ.out];omega
     have hs8:(P8:Int)-(OS.size:Int)=(Hd:Int):=by have:=HOZ.out;have:=HTK.out;omega
     have hw8:IntKind.i64.wrap (P8:Int)=(P8:Int):=IntWalk.i64_in _ (by omega);have hw9:IntKind.i64.wrap (Hd:Int)=(Hd:Int):=IntWalk.i64_in _ (by omega);have hne:((Hd:Int) != (Hd:Int))=false:=by simp
     have HPP:=zh (And.intro hP8 hHd);clear hP8 hHd;go_wp2_with fail;refine HF.out.mono ?_;rintro e w6 ⟨rfl,h6⟩;have hb6:Below w5.heap.size w5 w6:=by first|exact h6|exact h6▸Below.refl _ _
     have H6:=zh (HA5.out.below hb6);have HX6:=zh (HX5.out.below hb6);obtain⟨c0,c1,c2,c3⟩:=HX6.out.cells;clear h6 hb6;go_wp2_with fail;refine(HRA.out _ _).mono ?_;rintro e w7 ⟨rfl,hb7⟩;have H7:=zh (H6.out.below hb7);obtain⟨c0,c1,c2,c3⟩:=(HX6.out.below hb7).cells;clear hb7;have HHH:=zh (Zbi w7 H7.out.ok);rw [HPP.out.1,HPP.out.2] at HHH;go_wp2_with fail;refine HHH.out.mono ?_;rintro e w9 ⟨rfl,hw9'⟩;obtain rfl:=hw9'.symm;go_wp2_with fail;go_roundw
     case rel=>exact⟨j+1,Q,tk,xs,true,v1,by go_num,by omega,by rw [HAQ.out],by rw [HOS.out],HTK.out,rfl,by have:=HXL.out;omega,by have:=HQL.out;omega,H7.out⟩
     case measure=>simp [intOf];omega
   ·clear hK;cases dn
    ·by_cases hz:O<0\/(T.size:Int)<=O
     ·have HF:=zh (Zmi O (x.toNat:Int) T w5 HA5.out.ok (by omega) (Or.inr hz));have HRA:=zh (fun u W=>ZrH O T x u W (by omega) hz);obtain⟨P8,hP8⟩:∃P8,Q.length / 8=P8:=⟨_,rfl⟩
      obtain⟨Hd,hHd⟩:∃Hd,P8-tk=Hd:=⟨_,rfl⟩
      have hq8:(A.size:Int) / 8=(P8:Int):=by rw [HAZ.out];omega
      have hs8:(P8:Int)-(OS.size:Int)=(Hd:Int):=by have:=HOZ.out;have:=HTK.out;omega
      have hw8:IntKind.i64.wrap (P8:Int)=(P8:Int):=IntWalk.i64_in _ (by omega);have hw9:IntKind.i64.wrap (Hd:Int)=(Hd:Int):=IntWalk.i64_in _ (by omega);have hne:((Hd:Int) != (Hd:Int))=false:=by simp
      have HPP:=zh (And.intro hP8 hHd);clear hP8 hHd;go_wp2_with fail;refine HF.out.mono ?_;rintro e w6 ⟨rfl,h6⟩;have hb6:Below w5.heap.size w5 w6:=by first|exact h6|exact h6▸Below.refl _ _
      have H6:=zh (HA5.out.below hb6);have HX6:=zh (HX5.out.below hb6);obtain⟨c0,c1,c2,c3⟩:=HX6.out.cells;clear h6 hb6;go_wp2_with fail;refine(HRA.out _ _).mono ?_;rintro e w7 ⟨rfl,hb7⟩;have H7:=zh (H6.out.below hb7);obtain⟨c0,c1,c2,c3⟩:=(HX6.out.below hb7).cells;clear hb7;have HHH:=zh (Zbi w7 H7.out.ok);rw [HPP.out.1,HPP.out.2] at HHH;go_wp2_with fail;refine HHH.out.mono ?_;rintro e w9 ⟨rfl,hw9'⟩;obtain rfl:=hw9'.symm;go_wp2_with fail;go_roundw
      case rel=>exact⟨j+1,Q,tk,xs,false,v1,by go_num,by omega,by rw [HAQ.out],by rw [HOS.out],HTK.out,rfl,by have:=HXL.out;omega,by have:=HQL.out;omega,H7.out⟩
      case measure=>simp [intOf];omega
     ·obtain⟨o,rfl⟩:∃o:Nat,O=(o:Int):=⟨O.toNat,by omega⟩
      have ho:o<T.size:=by omega
      have HF:=zh (Zmh (strm xs) x T o w5 HA5.out.ok HL5.out.2 (by have:=HQM.out;omega) (by omega) ho);have HRA:=zh (fun u W=>Zmj o T x u W ho (by omega));have hkl:=Zet (l:=T.data.toList) (by intro e;have hll:T.data.toList.length=T.size:=rfl;rw [e] at hll;simp at hll;omega) (by show T.size<=300;omega) o x.toNat;obtain⟨KK,hKK⟩:∃KK,allK T.data.toList o x.toNat=KK:=⟨_,rfl⟩
      rw [hKK] at HF HRA hkl;obtain⟨M,hM⟩:∃M,txt (blockQ++KK)=M:=⟨_,rfl⟩
      rw [hM] at HRA;have hbq:blockQ.length=48:=by unfold blockQ;rw [List.length_append,Zaa,Zaa]
      have hMs:M.size<=300448:=by rw [<-hM,Zac,List.length_append];omega
      obtain⟨Q2,hQ2⟩:∃Q2,Q++blockQ++KK=Q2:=⟨_,rfl⟩
      have hQ2l:Q2.length<=Q.length+300448/\Q.length<=Q2.length:=by rw [<-hQ2,List.length_append,List.length_append];omega
      obtain⟨A2,hA2⟩:∃A2,txt Q2=A2:=⟨_,rfl⟩
      have hA2s:A2.size=Q2.length:=by rw [<-hA2];exact Zac Q2
      have hAM:A++M=A2:=by rw [<-HAQ.out,<-hM,Zab,<-List.append_assoc,hQ2,hA2]
      have HKP:Hid ((byts Q2).take tk=(byts Q).take tk):=zh (by rw [<-hQ2,List.append_assoc];exact Zgd _ _ HTK.out);have HQ2:=zh hQ2;have HA2:=zh hA2;have HA2S:=zh hA2s;have HQ2L:=zh hQ2l;obtain⟨P8,hP8⟩:∃P8,Q2.length / 8=P8:=⟨_,rfl⟩
      obtain⟨Hd,hHd⟩:∃Hd,P8-tk=Hd:=⟨_,rfl⟩
      have hq8:(A2.size:Int) / 8=(P8:Int):=by rw [HA2S.out];omega
      have hs8:(P8:Int)-(OS.size:Int)=(Hd:Int):=by have:=HOZ.out;have:=HTK.out;have:=HQ2L.out;omega
      have hw8:IntKind.i64.wrap (P8:Int)=(P8:Int):=IntWalk.i64_in _ (by omega);have hw9:IntKind.i64.wrap (Hd:Int)=(Hd:Int):=IntWalk.i64_in _ (by omega);have hne:((Hd:Int) != (Hd:Int))=false:=by simp
      have HPP:=zh (And.intro hP8 hHd);clear hP8 hHd;have hA2m:A2.size<=3400000:=by omega
      clear hKK hkl hM hbq hQ2 hA2 hA2s hQ2l;go_wp2_with fail;refine HF.out.mono ?_;rintro e w6 ⟨rfl,QX,hQX,h6⟩;rw [hQX] at h6;rw [HQ2.out] at h6;have hx6:=HX5.out.touch h6.choose_spec.2.1 (fun e=>e.elim (fun e=>HNF.out _ e rfl) id);obtain⟨v6,h6⟩:=HA5.out.step h6;have H6:=zh h6;have HX6:=zh hx6;obtain⟨c0,c1,c2,c3⟩:=hx6.cells;clear h6 hx6;go_wp2_with fail;refine(HRA.out _ _).mono ?_;rintro e w7 ⟨rfl,hb7⟩;have H7:=zh (H6.out.below hb7);obtain⟨c0,c1,c2,c3⟩:=(HX6.out.below hb7).cells;have hb37:w3.heap.size<=w7.heap.size:=H7.out.touch.size;clear hb7;go_wp2_with (at_builtin;go_loud (refine Zev w7 rfl _ _ rfl w3.heap.size _ xs x H7.out.row rfl w7.heap.size rfl rfl (by have:=HXL.out;omega) hb37 ?_));intro v8 w8 hO8 hT8 hv8;have H8:=zh (H7.out.push hT8 hO8 hv8);clear hO8 hT8 hv8;have HHH:=zh (Zbi w8 H8.out.ok);rw [HPP.out.1,HPP.out.2] at HHH;go_wp2_with fail;refine HHH.out.mono ?_;rintro e w9 ⟨rfl,hw9'⟩;obtain rfl:=hw9'.symm;go_wp2_with fail;go_roundw
      case rel=>exact⟨j+1,Q2,tk,xs++[x],false,v6,by go_num,by omega,by rw [HA2.out],by rw [HKP.out,HOS.out],by have:=HTK.out;have:=HQ2L.out;omega,rfl,by have:=HXL.out;rw [List.length_append];simp;omega,by have:=HQL.out;have:=HQ2L.out;omega,by rw [Zlh];exact H8.out⟩
      case measure=>simp [intOf];omega
    ·have HF:=zh (Zlf O (x.toNat:Int) T w5 HA5.out.ok);have HRA:=zh (fun u W=>Zho 1 O T x u W);obtain⟨P8,hP8⟩:∃P8,Q.length / 8=P8:=⟨_,rfl⟩
     obtain⟨Hd,hHd⟩:∃Hd,P8-tk=Hd:=⟨_,rfl⟩
     have hq8:(A.size:Int) / 8=(P8:Int):=by rw [HAZ.out];omega
     have hs8:(P8:Int)-(OS.size:Int)=(Hd:Int):=by have:=HOZ.out;have:=HTK.out;omega
     have hw8:IntKind.i64.wrap (P8:Int)=(P8:Int):=IntWalk.i64_in _ (by omega);have hw9:IntKind.i64.wrap (Hd:Int)=(Hd:Int):=IntWalk.i64_in _ (by omega);have hne:((Hd:Int) != (Hd:Int))=false:=by simp
     have HPP:=zh (And.intro hP8 hHd);clear hP8 hHd;go_wp2_with fail;refine HF.out.mono ?_;rintro e w6 ⟨rfl,h6⟩;have hb6:Below w5.heap.size w5 w6:=by first|exact h6|exact h6▸Below.refl _ _
     have H6:=zh (HA5.out.below hb6);have HX6:=zh (HX5.out.below hb6);obtain⟨c0,c1,c2,c3⟩:=HX6.out.cells;clear h6 hb6;go_wp2_with fail;refine(HRA.out _ _).mono ?_;rintro e w7 ⟨rfl,hb7⟩;have H7:=zh (H6.out.below hb7);obtain⟨c0,c1,c2,c3⟩:=(HX6.out.below hb7).cells;clear hb7;have HHH:=zh (Zbi w7 H7.out.ok);rw [HPP.out.1,HPP.out.2] at HHH;go_wp2_with fail;refine HHH.out.mono ?_;rintro e w9 ⟨rfl,hw9'⟩;obtain rfl:=hw9'.symm;go_wp2_with fail;go_roundw
     case rel=>exact⟨j+1,Q,tk,xs,true,v1,by go_num,by omega,by rw [HAQ.out],by rw [HOS.out],HTK.out,rfl,by have:=HXL.out;omega,by have:=HQL.out;omega,H7.out⟩
     case measure=>simp [intOf];omega
   ·cases dn
    ·have HF:=zh (Zeu (strm xs) w5 HA5.out.ok (by have:=HQM.out;omega));obtain⟨Z,hZ⟩:∃Z,Q++tailQ++field (strm xs).toNat 32=Z:=⟨_,rfl⟩
     obtain⟨M,hM⟩:∃M,txt (tailQ++field (strm xs).toNat 32)=M:=⟨_,rfl⟩
     obtain⟨a10,c10,hu10,hU⟩:=HA5.out.row.u32 (by have:=HXL.out;omega);obtain⟨n10,hn10⟩:∃n,xs.length=n:=⟨_,rfl⟩
     have HN10:=zh hn10;rw [hn10] at hu10 hU;subst hu10;have HRA:=zh (fun W (hU:IsU32 W a10 n10 xs)=>Zm2 K O T x a10 n10 c10 xs W hU hk0 hk1);rw [hM] at HRA;have htl:(tailQ++field (strm xs).toNat 32).length=80:=by unfold tailQ;simp only [List.length_append,Zaa]
     have hMs:M.size=80:=by rw [<-hM,Zac];exact htl
     have hZl:Z.length=Q.length+80:=by rw [<-hZ,List.append_assoc,List.length_append,htl]
     obtain⟨A1,hA1⟩:∃A1,txt Z=A1:=⟨_,rfl⟩
     have hA1s:A1.size=Z.length:=by rw [<-hA1];exact Zac Z
     have hAM:A++M=A1:=by rw [<-HAQ.out,<-hM,Zab,<-List.append_assoc,hZ,hA1]
     obtain⟨Q2,hQ2⟩:∃Q2,Z++padding Z=Q2:=⟨_,rfl⟩
     have hpd:(padding Z).length<8:=by unfold padding;rw [Zaa];omega
     have hQ2l:Q2.length<=Q.length+90/\Q.length<=Q2.length:=by rw [<-hQ2,List.length_append];omega
     have HPD:=zh (fun W=>Zcb Z W (by have:=HQM.out;omega));obtain⟨A2,hA2⟩:∃A2,txt Q2=A2:=⟨_,rfl⟩
     have hA2s:A2.size=Q2.length:=by rw [<-hA2];exact Zac Q2
     rw [hA1,hQ2,hA2] at HPD;have HKP:Hid ((byts Q2).take tk=(byts Q).take tk):=zh (by rw [<-hQ2,<-hZ,List.append_assoc,List.append_assoc,List.append_assoc];exact Zgd _ _ HTK.out);have HZ:=zh hZ;have HQ2:=zh hQ2;have HA2:=zh hA2;have HA2S:=zh hA2s;have HQ2L:=zh hQ2l;have hA1m:A1.size<=3400000:=by omega
     obtain⟨P8,hP8⟩:∃P8,Q2.length / 8=P8:=⟨_,rfl⟩
     obtain⟨Hd,hHd⟩:∃Hd,P8-tk=Hd:=⟨_,rfl⟩
     have hq8:(A2.size:Int) / 8=(P8:Int):=by rw [HA2S.out];omega
     have hs8:(P8:Int)-(OS.size:Int)=(Hd:Int):=by have:=HOZ.out;have:=HTK.out;have:=HQ2L.out;omega
     have hw8:IntKind.i64.wrap (P8:Int)=(P8:Int):=IntWalk.i64_in _ (by omega);have hw9:IntKind.i64.wrap (Hd:Int)=(Hd:Int):=IntWalk.i64_in _ (by omega);have hne:((Hd:Int) != (Hd:Int))=false:=by simp
     have HPP:=zh (And.intro hP8 hHd);clear hP8 hHd;have hA2m:A2.size<=3400000:=by omega
     clear hM htl hZ hZl hA1 hA1s hQ2 hpd hA2 hA2s hQ2l hU hn10;go_wp2_with fail;refine HF.out.mono ?_;rintro e w6 ⟨rfl,Z6,hZ6,h6⟩;rw [hZ6,HZ.out,HQ2.out] at h6;have hx6:=HX5.out.touch h6.choose_spec.2.1 (fun e=>e.elim (fun e=>HNF.out _ e rfl) id);obtain⟨v6,h6⟩:=HA5.out.step h6;have H6:=zh h6;have HX6:=zh hx6
     have HU6:=zh (show IsU32 w6 a10 n10 xs by
      obtain⟨a6,c6,hv6,hU6⟩:=h6.row.u32 (by have:=HXL.out;omega);rw [HN10.out] at hv6 hU6
      injection hv6 with q1 q2 q3
      rw [q1];exact hU6)
     obtain⟨c0,c1,c2,c3⟩:=hx6.cells;clear h6 hx6 hZ6;go_wp2_with fail;refine(HRA.out _ HU6.out).mono ?_;rintro e w7 ⟨rfl,hb7⟩;have H7:=zh (H6.out.below hb7);obtain⟨c0,c1,c2,c3⟩:=(HX6.out.below hb7).cells;clear hb7;go_wp2_with fail;refine(HPD.out _).mono ?_;rintro e w8 ⟨rfl,hw8'⟩;obtain rfl:=hw8';have HHH:=zh (Zbi w7 H7.out.ok);rw [HPP.out.1,HPP.out.2] at HHH;go_wp2_with fail;refine HHH.out.mono ?_;rintro e w9 ⟨rfl,hw9'⟩;obtain rfl:=hw9'.symm;go_wp2_with fail;go_roundw
     case rel=>exact⟨j+1,Q2,tk,xs,true,v6,by go_num,by omega,by rw [HA2.out],by rw [HKP.out,HOS.out],by have:=HTK.out;have:=HQ2L.out;omega,rfl,by have:=HXL.out;omega,by have:=HQL.out;have:=HQ2L.out;omega,H7.out⟩
     case measure=>simp [intOf];omega
    ·have HF:=zh (Zlg w5 HA5.out.ok);have HRA:=zh (fun u W=>Zho K O T x u W);obtain⟨P8,hP8⟩:∃P8,Q.length / 8=P8:=⟨_,rfl⟩
     obtain⟨Hd,hHd⟩:∃Hd,P8-tk=Hd:=⟨_,rfl⟩
     have hq8:(A.size:Int) / 8=(P8:Int):=by rw [HAZ.out];omega
     have hs8:(P8:Int)-(OS.size:Int)=(Hd:Int):=by have:=HOZ.out;have:=HTK.out;omega
     have hw8:IntKind.i64.wrap (P8:Int)=(P8:Int):=IntWalk.i64_in _ (by omega);have hw9:IntKind.i64.wrap (Hd:Int)=(Hd:Int):=IntWalk.i64_in _ (by omega);have hne:((Hd:Int) != (Hd:Int))=false:=by simp
     have HPP:=zh (And.intro hP8 hHd);clear hP8 hHd;go_wp2_with fail;refine HF.out.mono ?_;rintro e w6 ⟨rfl,h6⟩;have hb6:Below w5.heap.size w5 w6:=by first|exact h6|exact h6▸Below.refl _ _
     have H6:=zh (HA5.out.below hb6);have HX6:=zh (HX5.out.below hb6);obtain⟨c0,c1,c2,c3⟩:=HX6.out.cells;clear h6 hb6;go_wp2_with fail;refine(HRA.out _ _).mono ?_;rintro e w7 ⟨rfl,hb7⟩;have H7:=zh (H6.out.below hb7);obtain⟨c0,c1,c2,c3⟩:=(HX6.out.below hb7).cells;clear hb7;have HHH:=zh (Zbi w7 H7.out.ok);rw [HPP.out.1,HPP.out.2] at HHH;go_wp2_with fail;refine HHH.out.mono ?_;rintro e w9 ⟨rfl,hw9'⟩;obtain rfl:=hw9'.symm;go_wp2_with fail;go_roundw
     case rel=>exact⟨j+1,Q,tk,xs,true,v1,by go_num,by omega,by rw [HAQ.out],by rw [HOS.out],HTK.out,rfl,by have:=HXL.out;omega,by have:=HQL.out;omega,H7.out⟩
     case measure=>simp [intOf];omega
   ·cases dn
    ·have HF:=zh (Zeu (strm xs) w5 HA5.out.ok (by have:=HQM.out;omega));obtain⟨Z,hZ⟩:∃Z,Q++tailQ++field (strm xs).toNat 32=Z:=⟨_,rfl⟩
     obtain⟨M,hM⟩:∃M,txt (tailQ++field (strm xs).toNat 32)=M:=⟨_,rfl⟩
     obtain⟨a10,c10,hu10,hU⟩:=HA5.out.row.u32 (by have:=HXL.out;omega);obtain⟨n10,hn10⟩:∃n,xs.length=n:=⟨_,rfl⟩
     have HN10:=zh hn10;rw [hn10] at hu10 hU;subst hu10;have HRA:=zh (fun W (hU:IsU32 W a10 n10 xs)=>Zm2 K O T x a10 n10 c10 xs W hU hk0 hk1);rw [hM] at HRA;have htl:(tailQ++field (strm xs).toNat 32).length=80:=by unfold tailQ;simp only [List.length_append,Zaa]
     have hMs:M.size=80:=by rw [<-hM,Zac];exact htl
     have hZl:Z.length=Q.length+80:=by rw [<-hZ,List.append_assoc,List.length_append,htl]
     obtain⟨A1,hA1⟩:∃A1,txt Z=A1:=⟨_,rfl⟩
     have hA1s:A1.size=Z.length:=by rw [<-hA1];exact Zac Z
     have hAM:A++M=A1:=by rw [<-HAQ.out,<-hM,Zab,<-List.append_assoc,hZ,hA1]
     obtain⟨Q2,hQ2⟩:∃Q2,Z++padding Z=Q2:=⟨_,rfl⟩
     have hpd:(padding Z).length<8:=by unfold padding;rw [Zaa];omega
     have hQ2l:Q2.length<=Q.length+90/\Q.length<=Q2.length:=by rw [<-hQ2,List.length_append];omega
     have HPD:=zh (fun W=>Zcb Z W (by have:=HQM.out;omega));obtain⟨A2,hA2⟩:∃A2,txt Q2=A2:=⟨_,rfl⟩
     have hA2s:A2.size=Q2.length:=by rw [<-hA2];exact Zac Q2
     rw [hA1,hQ2,hA2] at HPD;have HKP:Hid ((byts Q2).take tk=(byts Q).take tk):=zh (by rw [<-hQ2,<-hZ,List.append_assoc,List.append_assoc,List.append_assoc];exact Zgd _ _ HTK.out);have HZ:=zh hZ;have HQ2:=zh hQ2;have HA2:=zh hA2;have HA2S:=zh hA2s;have HQ2L:=zh hQ2l;have hA1m:A1.size<=3400000:=by omega
     obtain⟨P8,hP8⟩:∃P8,Q2.length / 8=P8:=⟨_,rfl⟩
     obtain⟨Hd,hHd⟩:∃Hd,P8-tk=Hd:=⟨_,rfl⟩
     have hq8:(A2.size:Int) / 8=(P8:Int):=by rw [HA2S.out];omega
     have hs8:(P8:Int)-(OS.size:Int)=(Hd:Int):=by have:=HOZ.out;have:=HTK.out;have:=HQ2L.out;omega
     have hw8:IntKind.i64.wrap (P8:Int)=(P8:Int):=IntWalk.i64_in _ (by omega);have hw9:IntKind.i64.wrap (Hd:Int)=(Hd:Int):=IntWalk.i64_in _ (by omega);have hne:((Hd:Int) != (Hd:Int))=false:=by simp
     have HPP:=zh (And.intro hP8 hHd);clear hP8 hHd;have hA2m:A2.size<=3400000:=by omega
     clear hM htl hZ hZl hA1 hA1s hQ2 hpd hA2 hA2s hQ2l hU hn10;go_wp2_with fail;refine HF.out.mono ?_;rintro e w6 ⟨rfl,Z6,hZ6,h6⟩;rw [hZ6,HZ.out,HQ2.out] at h6;have hx6:=HX5.out.touch h6.choose_spec.2.1 (fun e=>e.elim (fun e=>HNF.out _ e rfl) id);obtain⟨v6,h6⟩:=HA5.out.step h6;have H6:=zh h6;have HX6:=zh hx6
     have HU6:=zh (show IsU32 w6 a10 n10 xs by
      obtain⟨a6,c6,hv6,hU6⟩:=h6.row.u32 (by have:=HXL.out;omega);rw [HN10.out] at hv6 hU6
      injection hv6 with q1 q2 q3
      rw [q1];exact hU6)
     obtain⟨c0,c1,c2,c3⟩:=hx6.cells;clear h6 hx6 hZ6;go_wp2_with fail;refine(HRA.out _ HU6.out).mono ?_;rintro e w7 ⟨rfl,hb7⟩;have H7:=zh (H6.out.below hb7);obtain⟨c0,c1,c2,c3⟩:=(HX6.out.below hb7).cells;clear hb7;go_wp2_with fail;refine(HPD.out _).mono ?_;rintro e w8 ⟨rfl,hw8'⟩;obtain rfl:=hw8';have HHH:=zh (Zbi w7 H7.out.ok);rw [HPP.out.1,HPP.out.2] at HHH;go_wp2_with fail;refine HHH.out.mono ?_;rintro e w9 ⟨rfl,hw9'⟩;obtain rfl:=hw9'.symm;go_wp2_with fail;go_roundw
     case rel=>exact⟨j+1,Q2,tk,xs,true,v6,by go_num,by omega,by rw [HA2.out],by rw [HKP.out,HOS.out],by have:=HTK.out;have:=HQ2L.out;omega,rfl,by have:=HXL.out;omega,by have:=HQL.out;have:=HQ2L.out;omega,H7.out⟩
     case measure=>simp [intOf];omega
    ·have HF:=zh (Zlg w5 HA5.out.ok);have HRA:=zh (fun u W=>Zho K O T x u W);obtain⟨P8,hP8⟩:∃P8,Q.length / 8=P8:=⟨_,rfl⟩
     obtain⟨Hd,hHd⟩:∃Hd,P8-tk=Hd:=⟨_,rfl⟩
     have hq8:(A.size:Int) / 8=(P8:Int):=by rw [HAZ.out];omega
     have hs8:(P8:Int)-(OS.size:Int)=(Hd:Int):=by have:=HOZ.out;have:=HTK.out;omega
     have hw8:IntKind.i64.wrap (P8:Int)=(P8:Int):=IntWalk.i64_in _ (by omega);have hw9:IntKind.i64.wrap (Hd:Int)=(Hd:Int):=IntWalk.i64_in _ (by omega);have hne:((Hd:Int) != (Hd:Int))=false:=by simp
     have HPP:=zh (And.intro hP8 hHd);clear hP8 hHd;go_wp2_with fail;refine HF.out.mono ?_;rintro e w6 ⟨rfl,h6⟩;have hb6:Below w5.heap.size w5 w6:=by first|exact h6|exact h6▸Below.refl _ _
     have H6:=zh (HA5.out.below hb6);have HX6:=zh (HX5.out.below hb6);obtain⟨c0,c1,c2,c3⟩:=HX6.out.cells;clear h6 hb6;go_wp2_with fail;refine(HRA.out _ _).mono ?_;rintro e w7 ⟨rfl,hb7⟩;have H7:=zh (H6.out.below hb7);obtain⟨c0,c1,c2,c3⟩:=(HX6.out.below hb7).cells;clear hb7;have HHH:=zh (Zbi w7 H7.out.ok);rw [HPP.out.1,HPP.out.2] at HHH;go_wp2_with fail;refine HHH.out.mono ?_;rintro e w9 ⟨rfl,hw9'⟩;obtain rfl:=hw9'.symm;go_wp2_with fail;go_roundw
     case rel=>exact⟨j+1,Q,tk,xs,true,v1,by go_num,by omega,by rw [HAQ.out],by rw [HOS.out],HTK.out,rfl,by have:=HXL.out;omega,by have:=HQL.out;omega,H7.out⟩
     case measure=>simp [intOf];omega
  ·have hji:¬(j:Int)<(len:Int):=by omega
   obtain rfl:j=len:=by omega
   have HTKE:=zh (ZcV wr HA.out.ok);obtain⟨D,hD⟩:∃D:ByteArray,(⟨((byts Q).drop tk).toArray⟩:ByteArray)=D:=⟨_,rfl⟩
   obtain⟨BB,hBB⟩:∃BB:ByteArray,(⟨(byts Q).toArray⟩:ByteArray)=BB:=⟨_,rfl⟩
   have hDs:D.size<=3000000:=by
    rw [<-hD];show((byts Q).drop tk).toArray.size<=_;rw [List.size_toArray,List.length_drop,Zav];omega
   rw [hD] at HTKE;have hJ:OS++D=BB:=by rw [<-HOS.out,<-hD,ZjI,hBB]
   have HBY:=zh (fun W=>Zdx Q W (by have:=HQM.out;omega));rw [HAQ.out,hBB] at HBY;have hee:(BB.toList==BB.toList)=true:=by simp
   clear hD hBB;go_wp2_with fail;refine HTKE.out.mono ?_;rintro e w6 ⟨rfl,h6⟩;obtain⟨v6,h6⟩:=HA.out.step h6;have HB6:=zh (h6.base HB3.out HF3.out);clear h6;go_wp2_with fail;refine(HBY.out _).mono ?_;rintro e w7 ⟨rfl,hb7⟩;have HB7:=zh (HB6.out.trans (hb7.mono HB6.out.size));clear hb7;go_wp2_with fail;refine(HNO.out _ (HLD.out.below HB7.out)).mono ?_;rintro e w9 ⟨rfl,hb9⟩;have HB9:=zh (HB7.out.trans (hb9.mono HB7.out.size));clear hb9;go_wp2_with fail;go_ret;exact⟨rfl,HB9.out⟩
theorem streamActs.none_ (L:Int) (a:Option Addr) (len cap:Nat) (w:World) (h:ZtK w) (hL:-9223372036854775808<=L/\L<=9223372036854775807) (hl:len<=maxLen) (hb:8<len\/(len<=8/\(L<1\/9<L))) :
  Calls Tryz.prog 5 #[.int .i64 L,.slice a len cap] w fun e w'=>e=.returned (.bool true)/\Below w.heap.size w w':=by
 have HLV:=zh (fun W=>ZaX L W);have HNO:=zh (Za2 w h.1);unfold maxLen at hl;clear h;rcases hb with k1|⟨k1,k2⟩
 ·have h8:(8:Int)<(len:Int):=by omega
  go_enter Tryz.func5,Tryz.ntmps5;go_wp2_with fail;refine HNO.out.mono ?_;rintro e w9 ⟨rfl,hb9⟩;have HB9:=zh hb9;clear hb9;go_wp2_with fail;go_ret;exact⟨rfl,HB9.out⟩
 ·have h8:¬(8:Int)<(len:Int):=by omega
  have HN:=zh (ZrG L w hL k2);rw [show decide (1<=L/\L<=9)=false by rw [decide_eq_false_iff_not];omega] at HLV;clear k2;go_enter Tryz.func5,Tryz.ntmps5;go_wp2_with fail;refine HN.out.mono ?_;rintro e w3 ⟨rfl,hw3⟩;obtain rfl:=hw3.symm;go_wp2_with fail;refine(HLV.out _).mono ?_;rintro e w3 ⟨rfl,hw3⟩;obtain rfl:=hw3.symm;go_wp2_with fail;refine HNO.out.mono ?_;rintro e w9 ⟨rfl,hb9⟩;have HB9:=zh hb9;clear hb9;go_wp2_with fail;go_ret;exact⟨rfl,HB9.out⟩
theorem streamActs.walk (L:Int) (a:Option Addr) (len cap:Nat) (l:List StA) (w:World) (h:ZtK w) (hL:(Lit.int .i64 L).wf=true) (hl:IsStA w a len l) :
  Calls Tryz.prog 5 #[.int .i64 L,.slice a len cap] w fun e w'=>e=.returned (.bool true)/\Below w.heap.size w w':=by
 have hL2:-9223372036854775808<=L/\L<=9223372036854775807:=by
  simp only [Lit.wf,Bool.and_eq_true,decide_eq_true_eq] at hL;exact hL
 by_cases hb:8<len\/(len<=8/\(L<1\/9<L))
 ·exact streamActs.none_ L a len cap w h hL2 hl.2.2 hb
 ·obtain⟨n,rfl⟩:∃n:Nat,L=(n:Int):=⟨L.toNat,by omega⟩
  exact streamActs.good n a len cap l w h (by omega) (by omega) hl (by omega)
end
end Go.Proofs.YtlfpbcadcfaboaaGreatDoor

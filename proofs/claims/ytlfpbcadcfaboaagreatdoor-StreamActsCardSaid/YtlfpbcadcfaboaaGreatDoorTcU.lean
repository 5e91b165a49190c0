import Derived.Test.YtlfpbcadcfaboaaGreatDoorTcB
import Derived.Test.YtlfpbcadcfaboaaGreatDoorTcC
import Derived.Test.YtlfpbcadcfaboaaGreatDoorTcP
import Derived.Test.YtlfpbcadcfaboaaGreatDoorTcS
import Derived.Test.YtlfpbcadcfaboaaGreatDoorTcT
import Derived.LaidSub
set_option linter.unusedVariables false
set_option linter.unusedSimpArgs false
set_option maxHeartbeats 8000000
set_option maxRecDepth 100000
namespace Go.Proofs.YtlfpbcadcfaboaaGreatDoor
section
open Go.RowKit BitM HufM CanM CodM UsedM MtfM TabM FreqM BlkM BwtM SrtM
theorem ZiI (P:List Nat):∀n,0<n->orgN P n<n
 | 0,h=>absurd h (by omega)
 | k+1,_=>by
  have h:=Zp2 P k;unfold orgN;split<;>omega
theorem Zk7 (b:Nat) (v:Value) (q0:List Bool) (tk:Nat) (s:ByteArray) (n sum:Nat) (w:World) (hw:IsWriter w b v q0 tk) (hB:Bnds w) (hn:s.size=n) (h0:0<n) (hs:n<=300) (hsum:sum<4294967296) (hq:q0.length<=100000) (hgb:2<b) :
  Calls Tryz.prog 41 #[.pointer (some ⟨b,0,none⟩),.string s,.int .u32 (sum:Int)] w fun e w'=>∃P,IsSorted s.data.toList P/\e=.returned (.int .i64 0)/\Wrote w b v tk (q0++allK (lastN s.data.toList P n) (orgN P n) sum) w':=by
 have HOF:=zh (ZsP s n w hn h0 (by omega));have hll:s.data.toList.length=n:=hn
 have HTU:=zh (fun P (hP:IsSorted s.data.toList P) (v:Value) W (h:IsWriter W b v q0 tk) (h2:Bnds W)=>by
  have hl:P.length=n:=by rw [hP.1.length_eq,List.length_range];exact hll
  have h3:(lastN s.data.toList P n).length=n:=ZaT (by omega);exact ZhP b v q0 tk ⟨(lastN s.data.toList P n).toArray⟩ (orgN P n) sum W h h2 (by show(lastN s.data.toList P n).toArray.size<=300;rw [List.size_toArray];omega) (by show orgN P n<(lastN s.data.toList P n).toArray.size;rw [List.size_toArray,h3];exact ZiI P n h0) hsum hq hgb)
 have HW:=zh hw;have HBN:=zh hB;clear hw hB hll hn hgb hq hsum;go_enter Tryz.func41,Tryz.ntmps41;go_wp2_with fail;refine HOF.out.mono ?_;rintro e w1 ⟨⟨P,hP,rfl⟩,hb⟩;have HW1:=zh (HW.out.other (Touch.ofBelow (S:=fun _=>False) hb) (fun _ _ h=>h));have HT:=zh (HTU.out P hP v w1 HW1.out (HBN.out.below hb));have HB1:=zh hb;have HP:=zh hP;clear hb hP;obtain⟨L,hL⟩:∃L:ByteArray,(⟨(lastN s.data.toList P n).toArray⟩:ByteArray)=L:=⟨_,rfl⟩
 obtain⟨O,hO⟩:∃O:Nat,orgN P n=O:=⟨_,rfl⟩
 have HLL:Hid (L.data.toList=lastN s.data.toList P n):=zh (by rw [<-hL]);rw [hL,hO] at HT;have HLO:=zh (And.intro hL hO);rw [hL,hO];clear hL hO;go_wp2_with fail;refine HT.out.mono ?_;rintro e w2 ⟨rfl,k⟩;have k2:=Wrote.wrote (Touch.ofBelow HB1.out) (fun k hk=>Or.inl hk) k;rw [<-HLO.out.2] at k2;have HFIN:=zh k2;clear k k2;go_wp2_with fail;go_ret;exact⟨P,HP.out,rfl,HFIN.out⟩
end
section
open Go.RowKit BitM HufM CanM CodM UsedM MtfM TabM FreqM BlkM
theorem Zet {l:List UInt8} (h:l≠[]) (hl:l.length<=300) (o sum:Nat):(allK l o sum).length<=300400:=by
 have h1:=(mayK h).len (by have:=Zda l;omega);have h2:(ubits (has l)).length<=272:=by rw [ZbT];have:=Zfp (has l) 16;omega
 unfold allK rowK;simp only [List.length_append,Zaa,List.length_cons,List.length_nil];omega
end
section
open Go.RowKit BitM HufM CanM CodM UsedM MtfM TabM FreqM BlkM BwtM SrtM RleM SplM CrcM
theorem Tws.from {w w1 w':World} {t g:Nat} {v:Value} {sum:Nat} {en:Bool} {q:List Bool} {tk:Nat} (hb:Below w.heap.size w w1) (h:Tws (fun _=>False) w1 t g v sum en q tk w'):Tws (fun _=>False) w t g v sum en q tk w':=
 Tws.comp (R:=fun _=>False) (Touch.ofBelow hb) (fun k hk=>Or.inl hk) h (fun k hk=>hk.elim)
theorem tblockC {g1 g2 b:Nat} {s:ByteArray} {x:Int} {c:Int} {R:World->Prop} (w:World) (c1:w.cell? ⟨g1,0,none⟩=some (.string s)) (c2:w.cell? ⟨g2,0,none⟩=some (.int .u32 x))
  (hW:Calls Tryz.prog 41 #[.pointer (some ⟨b,0,none⟩),.string s,.int .u32 x] w fun e w'=>e=.returned (.int .i64 c)/\R w') :
  Calls Tryz.prog 40 #[.pointer (some ⟨b,0,none⟩),.pointer (some ⟨g1,0,none⟩),.pointer (some ⟨g2,0,none⟩)] w fun e w'=>e=.returned (.int .i64 c)/\R w':=by
 have HW:=zh hW;clear hW;go_enter Tryz.func40,Tryz.ntmps40;go_wp2_with fail;refine HW.out.mono ?_;rintro e w1 ⟨rfl,hR⟩;have HR:=zh hR;clear hR;go_wp2_with fail;go_ret;exact⟨rfl,HR.out⟩
theorem Zkd (w:World) (x y:Value) (tx ty:TypeId):∃w1,(w.alloc (.cells #[x] tx)).alloc (.cells #[y] ty)=w1/\Below w.heap.size w w1/\w1.cell? ⟨w.heap.size,0,none⟩=some x/\w1.cell? ⟨w.heap.size+1,0,none⟩=some y/\w1.heap.size=w.heap.size+2:=by
 refine⟨_,rfl,((Below.refl _ _).alloc (Nat.le_refl _) _).alloc (by simp) _,?_,?_,by simp⟩
 ·have h1:=heap_alloc_new w (.cells #[x] tx);have h2:=Below.heap_alloc (w.alloc (.cells #[x] tx)) (.cells #[y] ty) w.heap.size (by simp);rw [cell_of_row _ _ _ _ _ _ (h2.trans h1)];rfl
 ·have h1:=heap_alloc_new (w.alloc (.cells #[x] tx)) (.cells #[y] ty);rw [show(w.alloc (.cells #[x] tx)).heap.size=w.heap.size+1 by simp] at h1;rw [cell_of_row _ _ _ _ _ _ h1];rfl
theorem ZnV {t g:Nat} {v:Value} {q:List Bool} {tk:Nat} (sum x:BitVec 32) (s:ByteArray) (n:Nat) (w:World) (h:TwOk w t g sum.toNat false v q tk) (hB:Bnds w) (hq:q.length<=800000000) (hn:s.size=n) (h0:0<n) (hs:n<=300) :
  Calls Tryz.prog 18 #[.pointer (some ⟨t,0,none⟩),.string s,.int .u32 (x.toNat:Int)] w fun e w'=>e=.returned (.int .i64 0)/\∃Q,(∃P,IsSorted s.data.toList P/\Q=allK (lastN s.data.toList P n) (orgN P n) x.toNat)/\Tws (fun _=>False) w t g v (cmb sum x).toNat false (q++blockQ++Q) tk w':=by
 obtain⟨w1,hw1,hb1,c1,c2,hz⟩:=Zkd w (.string s) (.int .u32 (x.toNat:Int)) 9 37;have H1:=h.other (Touch.ofBelow (S:=fun _=>False) hb1) (fun _ _ e=>e);have hll:s.data.toList.length=n:=hn
 have HW:=zh (Zjg sum x 40 #[.pointer (some ⟨w.heap.size,0,none⟩),.pointer (some ⟨w.heap.size+1,0,none⟩)] (fun Q=>∃P,IsSorted s.data.toList P/\Q=allK (lastN s.data.toList P n) (orgN P n) x.toNat) w1 H1 hq (enters_of Tryz.func40 (by kernel_rfl) rfl)
  (by
   rintro Q ⟨P,hP,hQ⟩;have hl:P.length=n:=by rw [hP.1.length_eq,List.length_range];exact hll
   have h3:(lastN s.data.toList P n).length=n:=ZaT (by omega);have h4:=Zet (l:=lastN s.data.toList P n) (by intro e;rw [e] at h3;simp at h3;omega) (by omega) (orgN P n) x.toNat;rw [<-hQ] at h4;omega)
  (by
   intro w2 hb2 hw2;have hB2:=(hB.below hb1).below hb2;have d1:w2.cell? ⟨w.heap.size,0,none⟩=some (.string s):=by rw [World.cell?_of_block (w:=w1) (a:=⟨w.heap.size,0,none⟩) (hb2.block w.heap.size (by omega))];exact c1
   have d2:w2.cell? ⟨w.heap.size+1,0,none⟩=some (.int .u32 (x.toNat:Int)):=by rw [World.cell?_of_block (w:=w1) (a:=⟨w.heap.size+1,0,none⟩) (hb2.block (w.heap.size+1) (by omega))];exact c2
   refine tblockC (c:=0) w2 d1 d2 ((Zk7 w1.heap.size (.slice none 0 0) [] 0 s n x.toNat w2 hw2 hB2 hn h0 hs x.isLt (by simp) (by have:=hB.lt;omega)).mono ?_);rintro e w3 ⟨P,hP,rfl,h3⟩;exact⟨rfl,_,⟨P,hP,rfl⟩,by rwa [List.nil_append] at h3⟩))
 have HB1:=zh hb1;clear h hB hb1 c1 H1 hll;go_enter Tryz.func18,Tryz.ntmps18;go_wp2_with fail;refine HW.out.mono ?_;rintro e w2 ⟨rfl,Q,hQ,h2⟩;have H2:=zh (Tws.from HB1.out h2);have HQ:=zh hQ;clear h2 hQ;go_wp2_with fail;go_ret;exact⟨rfl,Q,HQ.out,H2.out⟩
noncomputable def writeK (T:List UInt8) (sum:Nat):List Bool:=allK (lastN T (sortP T T.length) T.length) (orgN (sortP T T.length) T.length) sum
theorem ZfP {T:List UInt8} {P:List Nat} {n sum:Nat} (hP:IsSorted T P) (hn:T.length=n):allK (lastN T P n) (orgN P n) sum=writeK T sum:=by
 rw [hP.same (ZcT T)];subst hn;rfl
theorem Zdc {t g:Nat} {v:Value} {q:List Bool} {tk:Nat} (sum x:BitVec 32) (s:ByteArray) (w:World) (h:TwOk w t g sum.toNat false v q tk) (hB:Bnds w) (hq:q.length<=800000000) (h0:0<s.size) (hs:s.size<=300) :
  Calls Tryz.prog 18 #[.pointer (some ⟨t,0,none⟩),.string s,.int .u32 (x.toNat:Int)] w fun e w'=>e=.returned (.int .i64 0)/\Tws (fun _=>False) w t g v (cmb sum x).toNat false (q++blockQ++writeK s.data.toList x.toNat) tk w':=by
 refine(ZnV sum x s s.size w h hB hq rfl h0 hs).mono ?_;rintro e w' ⟨rfl,Q,⟨P,hP,hQ⟩,h2⟩;rw [ZfP hP (show s.data.toList.length=s.size from rfl)] at hQ;rw [hQ] at h2;exact⟨rfl,h2⟩
end
section
open Go.RowKit RleM SplM BitM CrcM
theorem ZcV {t g sum:Nat} {en:Bool} {v:Value} {q:List Bool} {tk:Nat} (w:World) (h:TwOk w t g sum en v q tk):Calls Tryz.prog 16 #[.pointer (some ⟨t,0,none⟩)] w fun e w'=>e=.returned (.string ⟨((byts q).drop tk).toArray⟩)/\Tws (fun _=>False) w t g v sum en q (q.length / 8) w':=by
 obtain⟨c0,_⟩:=h.1.cells;have HW:=zh h.take;clear h;go_enter Tryz.func16,Tryz.ntmps16;go_wp2_with fail;refine HW.out.mono ?_;rintro e w1 ⟨rfl,h1⟩;have H1:=zh h1;clear h1;go_wp2_with fail;go_ret;exact⟨rfl,H1.out⟩
def headAt (L j:Nat):Nat:=[66,90,104,48+L].getD j 0
def headQ (L:Nat):Nat->List Bool
 | 0=>[]
 | j+1=>headQ L j++field (headAt L j) 8
theorem Zp5 (L j:Nat) (hL:L<=9) (hj:j<4):headAt L j<256:=by
 rcases(by omega:j=0\/j=1\/j=2\/j=3) with rfl|rfl|rfl|rfl<;>simp [headAt]<;>omega
theorem Zbh (L:Nat):∀j,(headQ L j).length=8*j
 | 0=>rfl
 | j+1=>by unfold headQ;rw [List.length_append,Zaa,Zbh L j];omega
theorem ZnW (L j:Nat) (hj:j<4) (W:World):(Instr.index 71 (.agg #[.int .u8 66,.int .u8 90,.int .u8 104,.int .u8 ((48:Int)+(L:Int))]) (.int .i64 (j:Int))).run Tryz.prog W=.ok (.int .u8 ((headAt L j:Nat):Int)) W:=by
 have hu:=Tryz.underlying71;rcases(by omega:j=0\/j=1\/j=2\/j=3) with rfl|rfl|rfl|rfl<;>simp [Instr.index,run_underlying hu,asIntOf,go_sem,headAt]
def TnewQ (L:Nat) (w w':World) (e:Ending):Prop:=∃t g v,e=.returned (.tuple #[.pointer (some ⟨t,0,none⟩),.int .i64 0])/\TwOk w' t g 0 false v (headQ L 4) 0/\(∀k,ftT t g v k->w.heap.size<=k)/\Below w.heap.size w w'
theorem ZsQ (w w1:World) (g:Nat) (hg:w.heap.size=g) (h1:IsWriter w1 g (.slice none 0 0) [] 0) (h2:Below w.heap.size w w1) :
  TwOk (w1.alloc (.cells #[.pointer (some ⟨g,0,none⟩),.int .u32 0,.bool false] 70)) w1.heap.size g 0 false (.slice none 0 0) [] 0/\g<w1.heap.size/\Below w.heap.size w (w1.alloc (.cells #[.pointer (some ⟨g,0,none⟩),.int .u32 0,.bool false] 70)):=by
 have hl:=(h1.lt g (Or.inl rfl)).1;have hs:=h2.size;refine⟨⟨heap_alloc_new _ _,h1.other (Touch.ofBelow (S:=fun _=>False) ((Below.refl _ _).alloc (Nat.le_refl _) _)) (fun _ _ h=>h),fun k hk=>?_⟩,hl,h2.alloc hs _⟩;rcases hk with hk|hk
 ·omega
 ·cases hk
theorem Ze0 (L:Nat) (w:World) (h1:1<=L) (h9:L<=9):Calls Tryz.prog 14 #[.int .i64 (L:Int)] w fun e w'=>TnewQ L w w' e:=by
 have HR:=zh (show Calls Tryz.prog 24 #[.int .i64 (L:Int),.int .i64 100000] w fun e w'=>e=.returned (.tuple #[.int .i64 (L*100000-19),.int .i64 0])/\w'=w by
  have:=ZcG L 100000 w (by omega) (by omega);rw [if_neg (by omega)] at this;exact this)
 have hw1:IntKind.u8.wrap (L:Int)=(L:Int):=by simp [IntKind.wrap,IntKind.bits,IntKind.signed];omega
 have hw2:IntKind.u8.wrap ((48:Int)+(L:Int))=((48+L:Nat):Int):=by simp [IntKind.wrap,IntKind.bits,IntKind.signed];omega
 go_enter Tryz.func14,Tryz.ntmps14;go_wp2_with fail;refine HR.out.mono ?_;rintro e w0 ⟨rfl,rfl⟩;go_wp2_with fail;refine(ZdD w0).mono ?_;rintro e w1 ⟨rfl,hw1',hb1⟩;obtain⟨g,hg⟩:∃g,w0.heap.size=g:=⟨_,rfl⟩
 rw [hg] at hw1' ⊢;obtain⟨hst,hgl,hbs⟩:=ZsQ w0 w1 g hg hw1' hb1;rw [hg] at hbs;have HST:=zh hst;have HBS:=zh hbs;have hbt:=Zmy g;have HG:=zh hg;clear hw1' hb1 hst hbs hg HR;go_wp2_with (first|(refine Zci rfl 70 0 _ rfl _ rfl _ hbt ?_));generalize w1.alloc (.cells #[.pointer (some ⟨g,0,none⟩),.int .u32 0,.bool false] 70)=w2 at *;obtain⟨t,ht⟩:∃t,w1.heap.size=t:=⟨_,rfl⟩
 rw [ht] at HST hgl ⊢;clear ht hbt
 go_loopw [24,8] (fun vj _ wr=>∃(j:Nat) (v:Value),vj=.int .i64 (j:Int)/\j<=4/\TwOk wr t g 0 false v (headQ L j) 0/\(∀k,ftT t g v k->g<=k)/\Below g w0 wr) (fun vj _ _=>4-(intOf vj).toNat)
 case atStart=>exact⟨0,_,rfl,by omega,HST.out,(fun k hk=>by
  rcases hk with hk|hk|hk
  ·omega
  ·omega
  ·cases hk),HBS.out⟩
 case round=>
  clear HST HBS;obtain⟨j,v,rfl,hj,hT,hF,hB⟩:=hrel;have HT:=zh hT;have HF:=zh hF;have HB:=zh hB;obtain⟨c0,_⟩:=hT.1.cells;clear hT hF hB;by_cases hj4:j<4
  ·have hji:(j:Int)<4:=by omega
   have hix:=fun W=>ZnW L j hj4 W
   have hll:=Zp5 L j h9 hj4;have HNX:=zh (show headQ L (j+1)=headQ L j++field (headAt L j) 8 from rfl);obtain⟨X,hX⟩:∃X,headAt L j=X:=⟨_,rfl⟩
   rw [hX] at hix hll HNX;have hXw:IntKind.u32.wrap (X:Int)=(X:Int):=by simp [IntKind.wrap,IntKind.bits,IntKind.signed];omega
   have HP:=zh (HT.out.put X 8 (X:Int) 8 rfl rfl (by omega) (by omega) (by have:=Zbh L j;omega));rw [<-HNX.out] at HP;clear hX hw1 hw2;go_wp2_with fail;refine HP.out.mono ?_;rintro e w3 ⟨rfl,v3,h3,ht3,ho3⟩;have H3:=zh h3
   have HF3:=zh (show ∀k,ftT t g v3 k->g<=k by
    intro k hk;rcases hk with hk|hk|hk
    ·exact HF.out k (Or.inl hk)
    ·exact HF.out k (Or.inr (Or.inl hk))
    ·rcases ho3 k hk with e|e
     ·exact HF.out k (Or.inr (Or.inr e))
     ·have:=HB.out.size;have:=HT.out.lt g (Or.inr (Or.inl rfl));omega)
   have HB3:=zh (HB.out.trans (ht3.below (by have:=HT.out.lt g (Or.inr (Or.inl rfl));omega) (fun k hk=>hk.elim (HF.out k) (fun e=>e.elim))));clear h3 ht3 ho3;go_wp2_with fail;go_roundw
   case rel=>exact⟨j+1,v3,by go_num,by omega,H3.out,HF3.out,HB3.out⟩
   case measure=>simp [intOf];omega
  ·have hji:¬(j:Int)<4:=by omega
   obtain rfl:j=4:=by omega
   go_wp2_with fail;go_ret2;unfold TnewQ;rw [HG.out];exact⟨t,g,v,rfl,HT.out,HF.out,HB.out⟩
end
section
open Go.RowKit BitM HufM CanM CodM UsedM MtfM TabM FreqM BlkM BwtM SrtM RleM SplM CrcM
end
section
open Go.RowKit RleM SplM BitM
theorem Zp6:byts (endQ++padding endQ)=[66,90,104,57,23,114,69,56,80,144,0,0,0,0]:=by decide +kernel
theorem Zp7:blks 899981 (⟨#[]⟩:ByteArray).data.toList=[]:=by decide +kernel
theorem ZnX (w:World) (hT:Sizes w):Calls Tryz.prog 9 #[.int .i64 9,.int .i64 100000,.string ⟨#[]⟩] w fun e w'=>e=.returned (.tuple #[.string ⟨#[66,90,104,57,23,114,69,56,80,144,0,0,0,0]⟩,.int .i64 0])/\Below w.heap.size w w':=by
 have HR:=zh (Zkt w);have HN:=zh (Zox w);have HSZ:=zh hT;have HOF:=zh (fun W (h:Sizes W)=>ZgY ⟨#[]⟩ 899981 W (by omega) (by omega) (by decide) h);rw [Zp7] at HOF;rw [show((899981:Nat):Int)=899981 from rfl] at HOF;clear hT;go_enter Tryz.func9,Tryz.ntmps9;go_wp2_with fail;refine HR.out.mono ?_;rintro e w0 ⟨rfl,rfl⟩;go_wp2_with fail;refine HN.out.mono ?_;rintro e w1 ⟨t,g,rfl,h1,hb1⟩;have H1:=zh h1;have HB1:=zh hb1;have HS1:=zh (HSZ.out.below hb1 HSZ.out.lt);clear h1 hb1 HR HN;go_wp2_with fail;refine(HOF.out _ HS1.out).mono ?_;rintro e w2 ⟨v,rfl,hO,hb2⟩;obtain⟨a,cap,rfl⟩:=hO.slice;rw [show([]:List (List Pc)).length=0 from rfl];have H2:=zh (H1.out.below hb2);have HB2:=zh (HB1.out.trans (hb2.mono HB1.out.size));clear hO hb2;go_wp2_with fail
 go_loopw [38] (fun vj wr=>vj=.int .i64 0/\wr=w2) (fun _ _=>0)
 case atStart=>exact⟨rfl,rfl⟩
 case round=>
  obtain⟨rfl,rfl⟩:=hrel;go_wp2_with fail;refine(ZqA _ H2.out).mono ?_;rintro e w3 ⟨rfl,h3,hb3⟩;have HB3:=zh (HB2.out.trans hb3);have HK:=zh (Zoz w3 h3 HB3.out.size);rw [Zp6] at HK;clear h3 hb3;go_wp2_with fail;refine HK.out.mono ?_;rintro e w4 ⟨rfl,hb4⟩;have HB4:=zh (HB3.out.trans hb4);clear hb4;go_wp2_with fail;go_ret2;exact⟨rfl,HB4.out⟩
theorem ZnY (w:World):Calls Tryz.prog 27 #[.int .i64 5] w fun e w'=>e=.returned (.int .i64 12015)/\Below w.heap.size w w':=by
 have HN:=zh (Zhq 5 w (by omega) (by omega));rw [show((5:Nat):Int)=5 from rfl] at HN;go_enter Tryz.func27,Tryz.ntmps27;go_wp2_with fail;refine HN.out.mono ?_;rintro e w1 ⟨t,pb,sb,rfl,_,hb1⟩;have HB1:=zh hb1;clear hb1;go_wp2_with fail;go_ret;exact⟨rfl,HB1.out⟩
theorem ZnZ (w:World):Calls Tryz.prog 27 #[.int .i64 4] w fun e w'=>e=.returned (.int .i64 0)/\w'=w:=by
 have HN:=zh (Zje 4 w (by omega));go_enter Tryz.func27,Tryz.ntmps27;go_wp2_with fail;refine HN.out.mono ?_;rintro e w1 ⟨rfl,rfl⟩;go_wp2_with fail;go_ret;exact⟨rfl,rfl⟩
theorem Zk8 (w:World) (hT:Sizes w):Calls Tryz.prog 13 #[.int .i64 9,.string ⟨#[]⟩] w fun e w'=>e=.returned (.tuple #[.string ⟨#[66,90,104,57,23,114,69,56,80,144,0,0,0,0]⟩,.int .i64 0])/\Below w.heap.size w w':=by
 have HW:=zh (ZnX w hT);clear hT;go_enter Tryz.func13,Tryz.ntmps13;go_wp2_with fail;refine HW.out.mono ?_;rintro e w1 ⟨rfl,hb1⟩;have HB1:=zh hb1;clear hb1;go_wp2_with fail;go_ret2;exact⟨rfl,HB1.out⟩
theorem Za2 (w:World) (hT:Sizes w):Calls Tryz.prog 8 #[] w fun e w'=>e=.returned (.bool true)/\Below w.heap.size w w':=by
 have HE:=zh (Zk8 w hT);clear hT;go_enter Tryz.func8,Tryz.ntmps8;go_wp2_with fail;refine HE.out.mono ?_;rintro e w1 ⟨rfl,hb1⟩;have HB1:=zh hb1;clear hb1;go_wp2_with fail;refine(ZnY _).mono ?_;rintro e w2 ⟨rfl,hb2⟩;have HB2:=zh (HB1.out.trans (hb2.mono HB1.out.size));clear hb2;go_wp2_with fail;refine(ZnZ _).mono ?_;rintro e w3 ⟨rfl,rfl⟩;go_wp2_with fail;go_ret;exact⟨rfl,HB2.out⟩
end
section
open Go.RowKit BitM HufM CanM CodM UsedM MtfM TabM FreqM BlkM BwtM SrtM RleM SplM CrcM
def ZtK (w:World):Prop:=Sizes w/\Bnds w
open Go.ChangeShapes Go.WideShapes in
theorem laid2_of_laid {W : World} (h : laidMetH Tryz.prog [("baler/tables.bounds", Rows.laid_baler_tables_bounds), ("baler/rle.sizes", Rows.laid_baler_rle_sizes)] W) : ZtK W :=
 ⟨Zke (laidMetH.filter (fun x => x.1 == "baler/rle.sizes") h), Zi8 (laidMetH.filter (fun x => x.1 == "baler/tables.bounds") h)⟩
end
end Go.Proofs.YtlfpbcadcfaboaaGreatDoor

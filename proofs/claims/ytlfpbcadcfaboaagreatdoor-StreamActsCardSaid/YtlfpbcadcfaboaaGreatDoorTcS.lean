import Derived.Test.YtlfpbcadcfaboaaGreatDoorTcA
import Derived.Test.YtlfpbcadcfaboaaGreatDoorTcC
import Derived.Test.YtlfpbcadcfaboaaGreatDoorTcH
import Derived.Test.YtlfpbcadcfaboaaGreatDoorTcI
import Derived.Test.YtlfpbcadcfaboaaGreatDoorTcQ
import Derived.Test.YtlfpbcadcfaboaaGreatDoorTcR
set_option linter.unusedVariables false
set_option linter.unusedSimpArgs false
set_option maxHeartbeats 8000000
set_option maxRecDepth 100000
namespace Go.Proofs.YtlfpbcadcfaboaaGreatDoor
section
open Go.RowKit RleM SplM
theorem OwnBk.notab {W:World} {B:Nat} {v:Value} {bs:List (List Pc)} (h:OwnBk W B v bs) (hn:bs=[]->v=.slice none 0 0) {sb:Nat} {X:BitVec 32} {tp:Option Nat} (hs:SumT W sb X tp):∀k,v.ownBlock=some k->tp≠some k:=fun k hk e=>by
 cases bs with
 | nil=>rw [hn rfl] at hk;cases hk
 | cons b r=>
  obtain⟨g,cap,hv,_,_,c0,_,_⟩:=h.cell (i:=0) (b:=b) rfl;rw [hv] at hk;have e2:g=k:=by simpa [Value.ownBlock] using hk
  rw [e] at hs;have hc:=hs.2.1 0 (by omega);rw [<-e2] at hc;rw [show 0*3=0 from rfl] at c0;rw [c0] at hc;simp at hc
theorem TakP.sizes {B:Nat} {w w':World} {t pb sb room:Nat} {c:UInt8} {n:Nat} {blk:List Pc} {bv:Value} (h:TakP B w w' t pb sb room c n blk bv):w.heap.size<=w'.heap.size:=by
 obtain⟨_,_,_,ht,_⟩:=h;exact ht.size
def PutSt (B:Nat) (wr:World) (t pb sb room:Nat) (l:List UInt8) (v:Value):Prop:=
 ∃(c:UInt8) (n:Nat) (T:List UInt8) (QS:List Pc) (bv:Value) (tp:Option Nat),SureP l T c n QS/\IsSp B wr t pb sb room c n (runS room QS).2 bv tp/\OwnBk wr B v (runS room QS).1/\((runS room QS).1=[]->v=.slice none 0 0)/\(∀k,v.ownBlock=some k->¬ftP t pb sb bv k)
theorem PutSt.below {B:Nat} {wr w':World} {t pb sb room:Nat} {l:List UInt8} {v:Value} (h:PutSt B wr t pb sb room l v) (hb:Below wr.heap.size wr w'):PutSt B w' t pb sb room l v:=by
 obtain⟨c,n,T,QS,bv,tp,h1,h2,h3,h4,h5⟩:=h;exact⟨c,n,T,QS,bv,tp,h1,h2.below hb,h3.below hb,h4,h5⟩
section
variable {B t pb sb room : Nat} {l : List UInt8} {v : Value}
theorem Zow (x:UInt8) (w:World) (h:PutSt B w t pb sb room l v) (hT:Sizes w) (hg:1<B) (h5:5<=room) (hr:room<=900000) (hl:l.length<=1000000) (hB:B<=w.heap.size) :
  Calls Tryz.prog 50 #[.pointer (some ⟨t,0,none⟩),.int .u8 (x.toNat:Int)] w fun e w'=>Below B w w' /\
   ((e=.returned (.tuple #[.agg blk0,.bool false])/\PutSt B w' t pb sb room (l++[x]) v) \/
    (∃b bs,e=.returned (.tuple #[.agg (blkV b),.bool true])/\OwnBk w' B v bs/\bs.length<=1000000/\∀v' w'',OwnBk w'' B v' (bs++[b])->Touch (fun k=>v.ownBlock=some k\/w'.heap.size<=k) w' w''->(∀k,v'.ownBlock=some k->v.ownBlock=some k\/w'.heap.size<=k)->PutSt B w'' t pb sb room (l++[x]) v')):=by
 obtain⟨c,n,T,QS,bv,tp,h1,h2,h3,h4,h5'⟩:=h;refine(Zqx x w h2 h1 hT hg h5 hr hl).mono ?_;rintro e w' ⟨T2,QS2,s2,hp,bv2,tp2,k2,t2,o2⟩;have hO:OwnBk w' B v (runS room QS).1:=h3.same (fun k hk=>t2.block k (h3.lt k hk).2 (h5' k hk))
 have hD:∀k,v.ownBlock=some k->¬ftP t pb sb bv2 k:=fun k hk hx=>by
  have hlt:=(h3.lt k hk).2;rcases hx with e|e|e|e
  ·exact h5' k hk (Or.inl e)
  ·exact h5' k hk (Or.inr (Or.inl e))
  ·exact h5' k hk (Or.inr (Or.inr (Or.inl e)))
  ·rcases o2 k e with e|e
   ·exact h5' k hk (Or.inr (Or.inr (Or.inr e)))
   ·omega
 have hb:Below B w w':=t2.below hB (fun i hi=>Zms h2 hi);refine⟨hb,?_⟩;rcases hp with⟨b,rfl,hq⟩|⟨rfl,hq⟩
 ·refine Or.inr ⟨b,_,rfl,hO,?_,?_⟩
  ·have hc:=Zih room h5 (ZbQ (by have h:=good (l++[x]);rw [s2.pieces] at h;exact h)) (ZgX s2);have e4:(l++[x]).length=l.length+1:=by simp
   rw [hq,List.length_append] at hc;simp only [List.length_cons,List.length_nil] at hc;omega
  ·intro v' w'' hO' hT' hv'
   have hX:∀k,ftP t pb sb bv2 k->¬(v.ownBlock=some k\/w'.heap.size<=k):=fun k hk e=>by
    rcases e with e|e
    ·exact hD k e hk
    ·have:=Zgi k2 hk;omega
   refine⟨_,_,_,QS2,bv2,tp2,s2,k2.other hT' hX (fun k hk e=>?_),by rw [hq];exact hO',fun e=>by rw [hq] at e;simp at e,fun k hk hx=>?_⟩
   ·rcases e with e|e
    ·exact hO.notab h4 k2.sum k e hk
    ·have:=(k2.sum.lt.2 k hk).1;omega
   ·rcases hv' k hk with e|e
    ·exact hD k e hx
    ·have:=Zgi k2 hx;omega
 ·exact Or.inl ⟨rfl,_,_,_,QS2,bv2,tp2,s2,k2,by rw [hq];exact hO,by rw [hq];exact h4,hD⟩
theorem PutSt.start {w:World} {t pb sb room:Nat} (h:IsSp B w t pb sb room 0 0 [] (.slice none 0 0) none):PutSt B w t pb sb room [] (.slice none 0 0):=
 ⟨0,0,[],[],.slice none 0 0,none,SureP.zero,h,OwnBk.nil _ _,fun _=>rfl,fun k hk=>(by cases hk)⟩
theorem ZgY (s:ByteArray) (room:Nat) (w:World) (h5:5<=room) (hr:room<=900000) (hs:s.size<=900000) (hT:Sizes w):Calls Tryz.prog 25 #[.string s,.int .i64 (room:Int)] w fun e w'=>∃v,e=.returned (.tuple #[v,.int .i64 0])/\OwnBk w' w.heap.size v (blks room s.data.toList)/\Below w.heap.size w w':=by
 have HN:=zh (Zhq room w h5 hr);have HT:=zh hT;have hl:s.data.toList.length=s.size:=by simp
 have HPUT:=zh (fun W (hB:Below w.heap.size w W) t pb sb i v (hi:i<s.size) (h:PutSt w.heap.size W t pb sb room (s.data.toList.take i) v)=>Zow s[i] W h (hT.below hB hT.lt) hT.lt h5 hr (by rw [List.length_take];omega) hB.size);rw [show blk0=#[.string ⟨#[]⟩,.int .u32 0,.int .i64 0] from rfl] at HPUT;have HNX:Hid (∀i (hi:i<s.size),s.data.toList.take i++[s[i]]=s.data.toList.take (i+1)):=zh (fun i hi=>(ZgU hi).symm);have HEND:=zh (fun W (hB:Below w.heap.size w W) t pb sb c n T QS bv tp (h:IsSp w.heap.size W t pb sb room c n (runS room QS).2 bv tp) (hsu:SureP s.data.toList T c n QS)=>Zqy W h hsu (hT.below hB hT.lt) hT.lt h5 hr (by omega));have HLE:Hid (∀T c n QS,SureP s.data.toList T c n QS->(runS room QS).1.length<=900000):=zh (fun T c n QS h=>Nat.le_trans (Zih room h5 (ZbQ (by have h2:=good s.data.toList;rw [h.pieces] at h2;exact h2)) (ZgX h)) (by omega))
 have HBL:Hid ((blks room s.data.toList).length<=1000000):=zh (by
  have h1:=ZjV (blks room s.data.toList) (fun b hb=>by
   unfold blks at hb;exact(Zgu (rightS room h5 (pieces s.data.toList)) b hb).1)
  have h2:(blks room s.data.toList).flatten=pieces s.data.toList:=by
   unfold blks;exact Zce (rightS room h5 (pieces s.data.toList))
  have h3:=Zf2 (pieces s.data.toList) (fun p hp=>(Zbm (good s.data.toList) hp).1);rw [ZaK] at h3;rw [h2] at h1;omega)
 have HTK:Hid (s.data.toList.take s.size=s.data.toList):=zh (List.take_of_length_le (by omega));clear hT hl h5 hr;go_enter Tryz.func25,Tryz.ntmps25;go_wp2_with fail;refine HN.out.mono ?_;rintro e w1 ⟨t,pb,sb,rfl,h1,hb1⟩;have H1:=zh (PutSt.start h1);have HB1:=zh hb1;clear h1 hb1;go_wp2_with fail
 go_loopw [22,8] (fun vi vo wr=>∃i:Nat,vi=.int .i64 (i:Int)/\i<=s.size/\PutSt w.heap.size wr t pb sb room (s.data.toList.take i) vo/\Below w.heap.size w wr) (fun vi _ _=>s.size-(intOf vi).toNat)
 case atStart=>exact⟨0,rfl,Nat.zero_le _,H1.out,HB1.out⟩
 case round=>
  clear H1 HB1;obtain⟨i,rfl,hi,hP,hB⟩:=hrel;have HP:=zh hP;have HB:=zh hB;clear hP hB;by_cases his:i<s.size
  ·have hii:(i:Int)<(s.size:Int):=by omega
   have HNI:=zh (HNX.out i his);have HPI:=zh (HPUT.out wr HB.out t pb sb i _ his HP.out);rw [HNI.out] at HPI;obtain⟨x,hx⟩:∃x:UInt8,s[i]=x:=⟨_,rfl⟩
   rw [hx] at HPI;have hxi:(s[i].toNat:Int)=(x.toNat:Int):=by rw [hx]
   clear hx;go_wp2_with fail;refine HPI.out.mono ?_;rintro e w2 ⟨hb2,hor⟩;have HB2:=zh (HB.out.trans hb2);rcases hor with⟨rfl,hp2⟩|⟨b,bs,rfl,hO,hlen,hK⟩
   ·have HP2:=zh hp2;clear hb2 hp2;go_wp2_with fail;go_roundw
    case rel=>exact⟨i+1,by go_num,by omega,HP2.out.below ((Below.refl _ _).alloc (Nat.le_refl _) _),HB2.out.alloc HB2.out.size _⟩
    case measure=>simp [intOf];omega
   ·obtain⟨s1,x1,m1,hA⟩:∃(s1:ByteArray) (x1 m1:Int),blkV b=#[.string s1,.int .u32 x1,.int .i64 m1]:=⟨_,_,_,rfl⟩
    rw [hA];have HA:=zh hA;obtain⟨oa,oc,rfl⟩:=hO.slice;obtain⟨L,hL⟩:∃L,bs.length=L:=⟨_,rfl⟩
    rw [hL] at hK hO ⊢;have HLL:=zh (And.intro hL hlen);have HO:=zh (hO.below ((Below.refl _ _).alloc (Nat.le_refl _) (.cells #[.string s1,.int .u32 x1,.int .i64 m1] 56)));have HK:=zh hK;have hbz:w.heap.size<=(w2.alloc (.cells #[.string s1,.int .u32 x1,.int .i64 m1] 56)).heap.size:=by show w.heap.size<=(w2.heap.push _).size;have:=HB2.out.size;simp;omega
    clear hb2 hO hK hlen hA hL;go_wp2_with (at_builtin;go_loud (refine ZjU _ rfl _ _ rfl w.heap.size (.slice oa L oc) bs b _ HA.out.symm HO.out rfl (w2.heap.size+1) (by simp) rfl HLL.out.2 hbz ?_));intro v5 w5 hO5 hT5 hv5;have hs2:(w2.alloc (.cells #[.string s1,.int .u32 x1,.int .i64 m1] 56)).heap.size=w2.heap.size+1:=by show(w2.heap.push _).size=_;simp
    have HT5:Hid (Touch (fun k=>(Value.slice oa L oc).ownBlock=some k\/w2.heap.size<=k) w2 w5):=zh ((Touch.ofBelow ((Below.refl w2.heap.size w2).alloc (Nat.le_refl _) (.cells #[.string s1,.int .u32 x1,.int .i64 m1] 56))).trans hT5 (fun k hk=>Or.inl (Or.inl hk)));have HP5:=zh (HK.out v5 w5 hO5 HT5.out (fun k hk=>(hv5 k hk).imp id (fun e=>by omega)))
    have HB5:Hid (Below w.heap.size w w5):=zh (HB2.out.trans (HT5.out.below HB2.out.size (fun k hk=>by
     rcases hk with e|e
     ·exact(HO.out.lt k e).1
     ·exact Nat.le_trans HB2.out.size e)))
    obtain⟨oa5,oc5,rfl⟩:=hO5.slice;clear hO5 hT5 hv5 hbz hs2;go_wp2_with fail;go_roundw
    case rel=>exact⟨i+1,by go_num,by omega,HP5.out,HB5.out⟩
    case measure=>simp [intOf];omega
  ·have hii:¬(i:Int)<(s.size:Int):=by omega
   have hie:i=s.size:=by omega
   have hP:=HP.out;rw [hie,HTK.out] at hP;obtain⟨c,n,T,QS,bv,tp,h1,h2,h3,h4,h5⟩:=hP;have HE:=zh (HEND.out wr HB.out t pb sb c n T QS bv tp h2 h1);have HO:=zh h3;have HD:=zh h5;have HI:=zh h2;obtain⟨oa,oc,hv⟩:=h3.slice;obtain⟨os,hos⟩:∃os,(runS room QS).1=os:=⟨_,rfl⟩
   rw [hos] at hv HO HE;obtain⟨L,hL⟩:∃L,os.length=L:=⟨_,rfl⟩
   rw [hL] at hv;have HL:=zh hL;subst hv;clear h1 h2 h3 h4 h5 hie hos hL;go_wp2_with fail;refine HE.out.mono ?_;rintro e w2 ⟨v2,bs2,rfl,hE,hbl⟩;obtain⟨bv',tp',hO2,hI2,hT2,hv2,hd2⟩:=hE;have HO3:=zh (HO.out.same (fun k hk=>hT2.block k (HO.out.lt k hk).2 (HD.out k hk)));have HO2:=zh hO2;have HB2:Hid (Below w.heap.size w w2):=zh (HB.out.trans (hT2.below HB.out.size (fun k hk=>Zms HI.out hk)));have HLB:Hid (os.length+bs2.length<=1000000):=zh (by rw [<-List.length_append,hbl];exact HBL.out);have HBS:=zh hbl;obtain⟨oa2,oc2,hv2⟩:=hO2.slice;obtain⟨L2,hL2⟩:∃L2,bs2.length=L2:=⟨_,rfl⟩
   rw [hL2] at hv2;subst hv2;have hb2:=HB2.out.size;clear hO2 hI2 hT2 hd2 hbl hL2;go_wp2_with (at_builtin;go_loud (refine Zqv w2 rfl _ _ rfl w.heap.size wr.heap.size (.slice oa L oc) (.slice oa2 L2 oc2) os bs2 HO3.out HO2.out rfl rfl HLB.out hb2 ?_));intro v5 w5 hO5 hT5 hv5;rw [HBS.out] at hO5;have HO5:=zh hO5;have HB5:Hid (Below w.heap.size w w5):=zh (HB2.out.trans (hT5.below hb2 (fun k hk=>(HO3.out.lt k hk).1)));obtain⟨oa5,oc5,rfl⟩:=hO5.slice;clear hO5 hT5 hv5;go_wp2_with fail;go_ret2;exact⟨_,rfl,HO5.out,HB5.out⟩
end
end
section
open Go.RowKit RleM SplM BitM
theorem Wrote.under {w w' w2:World} {g:Nat} {v:Value} {tk:Nat} {q:List Bool} (h:Wrote w g v tk q w') (hb:Below w'.heap.size w' w2):Wrote w g v tk q w2:=by
 obtain⟨v1,h1,h2,h3⟩:=h;exact⟨v1,h1.other (Touch.ofBelow (S:=fun _=>False) hb) (fun _ _ h=>h),h2.trans (Touch.ofBelow (S:=fun _=>False) hb) (fun i hi=>hi.elim),h3⟩
def TwObj (w:World) (t g sum:Nat) (en:Bool):Prop:=w.heap[t]?=some (.cells #[.pointer (some ⟨g,0,none⟩),.int .u32 (sum:Int),.bool en] 70 (0,0))
theorem TwObj.cells {w:World} {t g sum:Nat} {en:Bool} (h:TwObj w t g sum en):w.cell? ⟨t,0,none⟩=some (.pointer (some ⟨g,0,none⟩))/\w.cell? ⟨t,1,none⟩=some (.int .u32 (sum:Int))/\w.cell? ⟨t,2,none⟩=some (.bool en)/\w.frozen? ⟨t,2,none⟩=false:=by
 refine⟨?_,?_,?_,frozen_of_row _ _ _ _ _ h⟩<;>(rw [cell_of_row _ _ _ _ _ _ h];rfl)
def TwAt (B:Nat) (w:World) (t g:Nat) (q:List Bool):Prop:=∃W,TwObj W t g 0 false/\g≠t/\t<W.heap.size/\B<=W.heap.size/\B<=g/\B<=t/\Wrote W g (.slice none 0 0) 0 q w
theorem TwAt.obj {B:Nat} {w:World} {t g:Nat} {q:List Bool} (h:TwAt B w t g q):TwObj w t g 0 false:=by
 obtain⟨W,h1,h2,h3,h4,h5,h6,h7⟩:=h
 exact(h7.touch.block t h3 (fun e=>by
  rcases e with e|e
  ·exact h2 e.symm
  ·cases e)).trans h1
theorem TwAt.put {B:Nat} {w:World} {t g:Nat} {q:List Bool} (h:TwAt B w t g q) (X n:Nat) (hn:n<=32) (hX:X<2^n) (hq:q.length<=1000) :
  Calls Tryz.prog 35 #[.pointer (some ⟨g,0,none⟩),.int .u32 (X:Int),.int .i64 (n:Int)] w fun e w'=>e=.returned (.int .i64 0)/\TwAt B w' t g (q++field X n)/\Below B w w':=by
 obtain⟨W,h1,h2,h3,h4,h5,h6,v1,k1,k2,k3⟩:=h;refine((Wrote.start k1).put X n hn hX (by omega)).mono ?_;rintro e w2 ⟨rfl,v2,j1,j2,j3⟩;have hsz:=k2.size
 have hb:∀k,foot g v1 k->B<=k:=fun k hk=>by
  rcases hk with hk|hk
  ·omega
  ·rcases k3 k hk with e|e
   ·cases e
   ·omega
 refine⟨rfl,⟨W,h1,h2,h3,h4,h5,h6,v2,j1,k2.trans j2 (fun i hi=>?_),fun i hi=>?_⟩,j2.below (by omega) hb⟩
 ·rcases hi with hi|hi
  ·exact Or.inl (Or.inl hi)
  ·rcases k3 i hi with e|e
   ·cases e
   ·exact Or.inr e
 ·rcases j3 i hi with e|e
  ·exact k3 i e
  ·exact Or.inr (by omega)
theorem TwAt.below {B:Nat} {w w':World} {t g:Nat} {q:List Bool} (h:TwAt B w t g q) (hb:Below w.heap.size w w'):TwAt B w' t g q:=by
 obtain⟨W,h1,h2,h3,h4,h5,h6,h7⟩:=h;exact⟨W,h1,h2,h3,h4,h5,h6,h7.under hb⟩
def ZcQ:Nat->List Bool
 | 0=>[]
 | 1=>field 66 8
 | 2=>field 66 8++field 90 8
 | 3=>field 66 8++field 90 8++field 104 8
 | _=>field 66 8++field 90 8++field 104 8++field 57 8
def endQ:List Bool:=ZcQ 4++field 1536581 24++field 3690640 24++field 0 32
theorem Zdq (k:Nat):(ZcQ k).length<=32:=by
 rcases k with _|_|_|_|k<;>simp [ZcQ,Zaa]
theorem Zkt (w:World):Calls Tryz.prog 24 #[.int .i64 9,.int .i64 100000] w fun e w'=>e=.returned (.tuple #[.int .i64 899981,.int .i64 0])/\w'=w:=by
 have:=ZcG 9 100000 w (by omega) (by omega);rw [if_neg (by omega)] at this;exact this
theorem Zmy (g:Nat):Tryz.prog.built 70 [(0,.pointer (some ⟨g,0,none⟩))]=some #[.pointer (some ⟨g,0,none⟩),.int .u32 0,.bool false]:=by kernel_rfl
theorem Zqz (w w1:World) (g:Nat) (hg:w.heap.size=g) (h1:IsWriter w1 g (.slice none 0 0) [] 0) (h2:Below w.heap.size w w1) :
  TwAt w.heap.size (w1.alloc (.cells #[.pointer (some ⟨g,0,none⟩),.int .u32 0,.bool false] 70)) w1.heap.size g (ZcQ 0)/\Below w.heap.size w (w1.alloc (.cells #[.pointer (some ⟨g,0,none⟩),.int .u32 0,.bool false] 70)):=by
 have hl:=(h1.lt g (Or.inl rfl)).1;have hz:(w1.alloc (.cells #[.pointer (some ⟨g,0,none⟩),.int .u32 0,.bool false] 70)).heap.size=w1.heap.size+1:=by simp
 have hs:=h2.size;refine⟨⟨w1.alloc (.cells #[.pointer (some ⟨g,0,none⟩),.int .u32 0,.bool false] 70),heap_alloc_new _ _,by omega,by omega,by omega,by omega,by omega,?_⟩,h2.alloc hs _⟩;exact Wrote.start (h1.other (Touch.ofBelow (S:=fun _=>False) ((Below.refl _ _).alloc (Nat.le_refl _) _)) (fun _ _ h=>h))
theorem TwAt.putI {B:Nat} {w:World} {t g:Nat} {q:List Bool} (h:TwAt B w t g q) (X n:Nat) (Xi ni:Int) (eX:Xi=(X:Int)) (en:ni=(n:Int)) (hn:n<=32) (hX:X<2^n) (hq:q.length<=1000) :
  Calls Tryz.prog 35 #[.pointer (some ⟨g,0,none⟩),.int .u32 Xi,.int .i64 ni] w fun e w'=>e=.returned (.int .i64 0)/\TwAt B w' t g (q++field X n)/\Below B w w':=by
 subst eX en;exact h.put X n hn hX hq
def ZgZ (j:Nat):Nat:=[66,90,104,57].getD j 0
theorem Zlw (j:Nat) (hj:j<4):ZgZ j<256:=by
 rcases(by omega:j=0\/j=1\/j=2\/j=3) with rfl|rfl|rfl|rfl<;>decide
theorem ZjW (j:Nat) (hj:j<4):ZcQ (j+1)=ZcQ j++field (ZgZ j) 8:=by
 rcases(by omega:j=0\/j=1\/j=2\/j=3) with rfl|rfl|rfl|rfl<;>rfl
theorem ZjX (j:Nat) (hj:j<4) (W:World):(Instr.index 71 (.agg #[.int .u8 66,.int .u8 90,.int .u8 104,.int .u8 57]) (.int .i64 (j:Int))).run Tryz.prog W=.ok (.int .u8 ((ZgZ j:Nat):Int)) W:=by
 have hu:=Tryz.underlying71;rcases(by omega:j=0\/j=1\/j=2\/j=3) with rfl|rfl|rfl|rfl<;>simp [Instr.index,run_underlying hu,asIntOf,go_sem,ZgZ]
def TnewP (w w':World) (e:Ending):Prop:=∃t g,e=.returned (.tuple #[.pointer (some ⟨t,0,none⟩),.int .i64 0])/\TwAt w.heap.size w' t g (ZcQ 4)/\Below w.heap.size w w'
theorem Zox (w:World):Calls Tryz.prog 14 #[.int .i64 9] w fun e w'=>TnewP w w' e:=by
 have HR:=zh (Zkt w);go_enter Tryz.func14,Tryz.ntmps14;go_wp2_with fail;refine HR.out.mono ?_;rintro e w0 ⟨rfl,rfl⟩;go_wp2_with fail;refine(ZdD w0).mono ?_;rintro e w1 ⟨rfl,hw1,hb1⟩;obtain⟨g,hg⟩:∃g,w0.heap.size=g:=⟨_,rfl⟩
 rw [hg] at hw1 ⊢;obtain⟨hst,hbs⟩:=Zqz w0 w1 g hg hw1 hb1;rw [hg] at hst hbs;have HST:=zh hst;have HBS:=zh hbs;have hbt:=Zmy g;have HG:=zh hg;clear hw1 hb1 hst hbs hg HR;go_wp2_with (first|(refine Zci rfl 70 0 _ rfl _ rfl _ hbt ?_));generalize w1.alloc (.cells #[.pointer (some ⟨g,0,none⟩),.int .u32 0,.bool false] 70)=w2 at *;obtain⟨t,ht⟩:∃t,w1.heap.size=t:=⟨_,rfl⟩
 rw [ht] at HST ⊢;clear ht hbt
 go_loopw [24,8] (fun vj _ wr=>∃j:Nat,vj=.int .i64 (j:Int)/\j<=4/\TwAt g wr t g (ZcQ j)/\Below g w0 wr) (fun vj _ _=>4-(intOf vj).toNat)
 case atStart=>exact⟨0,rfl,by omega,HST.out,HBS.out⟩
 case round=>
  clear HST HBS;obtain⟨j,rfl,hj,hT,hB⟩:=hrel;have HT:=zh hT;have HB:=zh hB;obtain⟨c0,_⟩:=hT.obj.cells;clear hT hB;by_cases hj4:j<4
  ·have hji:(j:Int)<4:=by omega
   have hix:=fun W=>ZjX j hj4 W
   have hll:=Zlw j hj4;have HNX:=zh (ZjW j hj4);obtain⟨X,hX⟩:∃X,ZgZ j=X:=⟨_,rfl⟩
   rw [hX] at hix hll HNX;have hXw:IntKind.u32.wrap (X:Int)=(X:Int):=by simp [IntKind.wrap,IntKind.bits,IntKind.signed];omega
   have HP:=zh (HT.out.putI X 8 (X:Int) 8 rfl rfl (by omega) (by omega) (by have:=Zdq j;omega));rw [<-HNX.out] at HP;clear hX;go_wp2_with fail;refine HP.out.mono ?_;rintro e w3 ⟨rfl,h3,hb3⟩;have H3:=zh h3;have HB3:=zh (HB.out.trans hb3);clear h3 hb3;go_wp2_with fail;go_roundw
   case rel=>exact⟨j+1,by go_num,by omega,H3.out,HB3.out⟩
   case measure=>simp [intOf];omega
  ·have hji:¬(j:Int)<4:=by omega
   obtain rfl:j=4:=by omega
   go_wp2_with fail;go_ret2;unfold TnewP;rw [HG.out];exact⟨t,g,rfl,HT.out,HB.out⟩
theorem TwAt.drew {B:Nat} {w:World} {t g:Nat} {q:List Bool} (h:TwAt B w t g q) (n:Nat):TwAt B (w.drewN n) t g q:=h.below (Zas w n)
theorem Zni {B t g:Nat} (w:World) (h:TwAt B w t g (ZcQ 4)):Calls Tryz.prog 45 #[.pointer (some ⟨t,0,none⟩),.int .u64 25779555029136] w fun e w'=>e=.returned (.tuple #[])/\TwAt B w' t g (ZcQ 4++field 1536581 24++field 3690640 24)/\Below B w w':=by
 obtain⟨c0,_⟩:=h.obj.cells;have HP:=zh (h.putI 1536581 24 1536581 24 rfl rfl (by omega) (by omega) (by have:=Zdq 4;omega));clear h;go_enter Tryz.func45,Tryz.ntmps45;go_wp2_with fail;refine HP.out.mono ?_;rintro e w1 ⟨rfl,h1,hb1⟩;obtain⟨c0,_⟩:=h1.obj.cells;have HP2:=zh (h1.putI 3690640 24 3690640 24 rfl rfl (by omega) (by omega) (by have:=Zdq 4;rw [List.length_append,Zaa];omega));have HB1:=zh hb1;clear h1 hb1;go_wp2_with fail;refine HP2.out.mono ?_;rintro e w2 ⟨rfl,h2,hb2⟩;have H2:=zh h2;have HB2:=zh (HB1.out.trans hb2);clear h2 hb2;go_wp2_with fail;go_end0;exact⟨rfl,H2.out,HB2.out⟩
theorem Zoy {B t g:Nat} {q:List Bool} (w:World) (h:TwAt B w t g q):Calls Tryz.prog 44 #[.pointer (some ⟨t,0,none⟩)] w fun e w'=>e=.returned (.bool true)/\w'=w:=by
 obtain⟨c0,c1,c2,_⟩:=h.obj.cells;clear h;go_enter Tryz.func44,Tryz.ntmps44;go_wp2_with fail;go_ret;exact⟨rfl,rfl⟩
def TwEnd (B:Nat) (w:World) (t g:Nat) (q:List Bool):Prop:=w.cell? ⟨t,0,none⟩=some (.pointer (some ⟨g,0,none⟩))/\∃v,IsWriter w g v q 0/\∀k,foot g v k->B<=k
theorem TwAt.pad {B:Nat} {w:World} {t g:Nat} {q:List Bool} (h:TwAt B w t g q) (hq:q.length<=1000) :
  Calls Tryz.prog 46 #[.pointer (some ⟨g,0,none⟩)] w fun e w'=>e=.returned (.tuple #[])/\TwAt B w' t g (q++padding q)/\Below B w w':=by
 obtain⟨W,h1,h2,h3,h4,h5,h6,v1,k1,k2,k3⟩:=h;refine(Zf0 g v1 q 0 w k1 (by omega)).mono ?_;rintro e w2 ⟨rfl,v2,j1,j2,j3⟩;have hsz:=k2.size
 have hb:∀k,foot g v1 k->B<=k:=fun k hk=>by
  rcases hk with hk|hk
  ·omega
  ·rcases k3 k hk with e|e
   ·cases e
   ·omega
 refine⟨rfl,⟨W,h1,h2,h3,h4,h5,h6,v2,j1,k2.trans j2 (fun i hi=>?_),fun i hi=>?_⟩,j2.below (by omega) hb⟩
 ·rcases hi with hi|hi
  ·exact Or.inl (Or.inl hi)
  ·rcases k3 i hi with e|e
   ·cases e
   ·exact Or.inr e
 ·rcases j3 i hi with e|e
  ·exact k3 i e
  ·exact Or.inr (by omega)
theorem TwAt.ended {B:Nat} {w:World} {t g:Nat} {q:List Bool} (h:TwAt B w t g q):TwEnd B (w.setCell ⟨t,2,none⟩ (.bool true)) t g q/\Below B w (w.setCell ⟨t,2,none⟩ (.bool true)):=by
 have ho:=h.obj;obtain⟨W,h1,h2,h3,h4,h5,h6,v1,k1,k2,k3⟩:=h
 have hne:∀k,foot g v1 k->k≠t:=fun k hk e=>by
  rcases hk with hk|hk
  ·exact h2 (hk.symm.trans e)
  ·rcases k3 k hk with e2|e2
   ·cases e2
   ·omega
 refine⟨⟨?_,v1,k1.other (Zae (i:=2) (Touch.refl _ _)) (fun k hk=>hne k hk),fun k hk=>?_⟩,(Below.refl _ _).setCell (p:=⟨t,2,none⟩) h6 _⟩
 ·have h9:=heap_setCell_same w t 2 _ _ (.bool true) ho;rw [cell_of_row _ _ _ _ _ _ h9];rfl
 ·have hsz:=k2.size;rcases hk with hk|hk
  ·omega
  ·rcases k3 k hk with e|e
   ·cases e
   ·omega
theorem ZqA {B t g:Nat} (w:World) (h:TwAt B w t g (ZcQ 4)):Calls Tryz.prog 20 #[.pointer (some ⟨t,0,none⟩)] w fun e w'=>e=.returned (.int .i64 0)/\TwEnd B w' t g (endQ++padding endQ)/\Below B w w':=by
 have HO:=zh (Zoy w h);have HM:=zh (Zni w h);clear h;go_enter Tryz.func20,Tryz.ntmps20;go_wp2_with fail;refine HO.out.mono ?_;rintro e w0 ⟨rfl,rfl⟩;go_wp2_with fail;refine HM.out.mono ?_;rintro e w1 ⟨rfl,h1,hb1⟩;obtain⟨c0,c1,_⟩:=h1.obj.cells;have H1:=zh h1;have HB1:=zh hb1;rw [show((0:Nat):Int)=0 from rfl] at c1;clear h1 hb1 HO HM;go_wp2_with fail
 go_still_tail 8,(by kernel_rfl)
 change wpList _ _ _ _ _ (w1.drewN 1);have HP:=zh ((H1.out.drew 1).putI 0 32 0 32 rfl rfl (by omega) (by omega) (by have:=Zdq 4;simp only [List.length_append,Zaa];omega));go_wp2_with fail;refine HP.out.mono ?_;rintro e w2 ⟨rfl,h2,hb2⟩;obtain⟨c0,_⟩:=h2.obj.cells;have HPD:=zh (h2.pad (by have:=Zdq 4;simp only [List.length_append,Zaa];omega));have HB2:=zh ((HB1.out.trans (show Below B w1 (w1.drewN 1) from⟨rfl,rfl,rfl,Nat.le_refl _,fun _ _=>rfl⟩)).trans hb2);clear h2 hb2;go_wp2_with fail;refine HPD.out.mono ?_;rintro e w3 ⟨rfl,h3,hb3⟩;obtain⟨_,_,c2,f2⟩:=h3.obj.cells;have HE:=zh h3.ended;have HB3:=zh (HB2.out.trans hb3);clear h3 hb3;go_wp2_with fail;go_ret;exact⟨rfl,HE.out.1,HB3.out.trans HE.out.2⟩
theorem Zoz {B t g:Nat} {q:List Bool} (w:World) (h:TwEnd B w t g q) (hb:B<=w.heap.size):Calls Tryz.prog 16 #[.pointer (some ⟨t,0,none⟩)] w fun e w'=>e=.returned (.string ⟨(byts q).toArray⟩)/\Below B w w':=by
 obtain⟨c0,v,h1,h2⟩:=h;have HW:=zh (Zif g v q 0 w h1);have H2:=zh h2;clear h1 h2;go_enter Tryz.func16,Tryz.ntmps16;go_wp2_with fail;refine HW.out.mono ?_;rintro e w1 ⟨rfl,_,ht⟩;have HT:=zh (ht.below hb (fun k hk=>H2.out k hk));clear ht;go_wp2_with fail;go_ret;exact⟨rfl,HT.out⟩
def TwOk (w:World) (t g sum:Nat) (en:Bool) (v:Value) (q:List Bool) (tk:Nat):Prop:=TwObj w t g sum en/\IsWriter w g v q tk/\∀k,foot g v k->k≠t
def ftT (t g:Nat) (v:Value) (k:Nat):Prop:=k=t\/foot g v k
def Tws (R:Nat->Prop) (w:World) (t g:Nat) (v:Value) (sum:Nat) (en:Bool) (q:List Bool) (tk:Nat) (w':World):Prop:=
 ∃v1,TwOk w' t g sum en v1 q tk/\Touch (fun k=>ftT t g v k\/R k) w w'/\(∀k,v1.ownBlock=some k->v.ownBlock=some k\/w.heap.size<=k)
theorem TwOk.lt {w:World} {t g sum:Nat} {en:Bool} {v:Value} {q:List Bool} {tk:Nat} (h:TwOk w t g sum en v q tk):∀k,ftT t g v k->k<w.heap.size:=by
 rintro k (rfl|hk)
 ·exact(Array.getElem?_eq_some_iff.1 h.1).1
 ·exact(h.2.1.lt k hk).1
theorem TwOk.other {w w':World} {t g sum:Nat} {en:Bool} {v:Value} {q:List Bool} {tk:Nat} (h:TwOk w t g sum en v q tk) {S:Nat->Prop} (ht:Touch S w w') (hS:∀k,ftT t g v k->¬S k):TwOk w' t g sum en v q tk:=
 ⟨(ht.block t (h.lt t (Or.inl rfl)) (hS t (Or.inl rfl))).trans h.1,h.2.1.other ht (fun k hk=>hS k (Or.inr hk)),h.2.2⟩
theorem Tws.start {R:Nat->Prop} {w:World} {t g sum:Nat} {en:Bool} {v:Value} {q:List Bool} {tk:Nat} (h:TwOk w t g sum en v q tk):Tws R w t g v sum en q tk w:=⟨v,h,Touch.refl _ _,fun k hk=>Or.inl hk⟩
theorem Tws.comp {R R2:Nat->Prop} {w w1 w2:World} {t g:Nat} {v v1:Value} {s2:Nat} {en2:Bool} {q2:List Bool} {tk2:Nat} (ht:Touch (fun k=>ftT t g v k\/R k) w w1) (ho:∀k,v1.ownBlock=some k->v.ownBlock=some k\/w.heap.size<=k)
  (h2:Tws R2 w1 t g v1 s2 en2 q2 tk2 w2) (hR:∀k,R2 k->R k\/w.heap.size<=k):Tws R w t g v s2 en2 q2 tk2 w2:=by
 obtain⟨v2,k1,k2,k3⟩:=h2;have hsz:=ht.size;refine⟨v2,k1,ht.trans k2 (fun j hj=>?_),fun k hk=>?_⟩
 ·rcases hj with(hj|hj|hj)|hj
  ·exact Or.inl (Or.inl (Or.inl hj))
  ·exact Or.inl (Or.inl (Or.inr (Or.inl hj)))
  ·rcases ho j hj with e|e
   ·exact Or.inl (Or.inl (Or.inr (Or.inr e)))
   ·exact Or.inr e
  ·rcases hR j hj with e|e
   ·exact Or.inl (Or.inr e)
   ·exact Or.inr e
 ·rcases k3 k hk with e|e
  ·exact ho k e
  ·exact Or.inr (by omega)
theorem TwOk.bits {w w2:World} {t g sum:Nat} {en:Bool} {v v2:Value} {q q2:List Bool} {tk tk2:Nat} (h:TwOk w t g sum en v q tk) (k1:IsWriter w2 g v2 q2 tk2) (k2:Touch (foot g v) w w2) (k3:∀k,v2.ownBlock=some k->v.ownBlock=some k\/w.heap.size<=k) :
  Tws (fun _=>False) w t g v sum en q2 tk2 w2:=by
 have hl:=h.lt t (Or.inl rfl);refine⟨v2,⟨(k2.block t hl (fun e=>h.2.2 t e rfl)).trans h.1,k1,fun k hk=>?_⟩,k2.mono (fun k hk=>Or.inl (Or.inr hk)),k3⟩;rcases hk with hk|hk
 ·exact h.2.2 k (Or.inl hk)
 ·rcases k3 k hk with e|e
  ·exact h.2.2 k (Or.inr e)
  ·omega
theorem TwOk.put {w:World} {t g sum:Nat} {en:Bool} {v:Value} {q:List Bool} {tk:Nat} (h:TwOk w t g sum en v q tk) (X n:Nat) (Xi ni:Int) (eX:Xi=(X:Int)) (en':ni=(n:Int)) (hn:n<=32) (hX:X<2^n) (hq:q.length<=1099511627776) :
  Calls Tryz.prog 35 #[.pointer (some ⟨g,0,none⟩),.int .u32 Xi,.int .i64 ni] w fun e w'=>e=.returned (.int .i64 0)/\Tws (fun _=>False) w t g v sum en (q++field X n) tk w':=by
 subst eX en';refine(Zgv g v q tk X n w h.2.1 hn hX hq).mono ?_;rintro e w2 ⟨rfl,v2,k1,k2,k3⟩;exact⟨rfl,h.bits k1 k2 k3⟩
theorem TwOk.take {w:World} {t g sum:Nat} {en:Bool} {v:Value} {q:List Bool} {tk:Nat} (h:TwOk w t g sum en v q tk) :
  Calls Tryz.prog 37 #[.pointer (some ⟨g,0,none⟩)] w fun e w'=>e=.returned (.string ⟨((byts q).drop tk).toArray⟩)/\Tws (fun _=>False) w t g v sum en q (q.length / 8) w':=by
 refine(Zif g v q tk w h.2.1).mono ?_;rintro e w2 ⟨rfl,k1,k2⟩;exact⟨rfl,h.bits k1 k2 (fun k hk=>by cases hk)⟩
theorem TwOk.cell {w:World} {t g sum:Nat} {en:Bool} {v:Value} {q:List Bool} {tk:Nat} (h:TwOk w t g sum en v q tk) (i:Nat) (x:Value) {s2:Nat} {e2:Bool} (ho:TwObj (w.setCell ⟨t,i,none⟩ x) t g s2 e2):Tws (fun _=>False) w t g v s2 e2 q tk (w.setCell ⟨t,i,none⟩ x):=by
 have ht:Touch (·=t) w (w.setCell ⟨t,i,none⟩ x):=Zae (Touch.refl _ _);exact⟨v,⟨ho,h.2.1.other ht (fun k hk=>h.2.2 k hk),h.2.2⟩,ht.mono (fun k hk=>Or.inl (Or.inl hk)),fun k hk=>Or.inl hk⟩
theorem TwOk.sum {w:World} {t g sum:Nat} {en:Bool} {v:Value} {q:List Bool} {tk:Nat} (h:TwOk w t g sum en v q tk) (s2:Nat):Tws (fun _=>False) w t g v s2 en q tk (w.setCell ⟨t,1,none⟩ (.int .u32 (s2:Int))):=
 h.cell 1 _ (heap_setCell_same w t 1 _ _ _ h.1)
theorem Zdr {t g sum:Nat} {en:Bool} {v:Value} {q:List Bool} {tk:Nat} (w:World) (h:TwOk w t g sum en v q tk):Calls Tryz.prog 44 #[.pointer (some ⟨t,0,none⟩)] w fun e w'=>e=.returned (.bool (!en))/\w'=w:=by
 obtain⟨c0,c1,c2,_⟩:=h.1.cells;clear h;go_enter Tryz.func44,Tryz.ntmps44;go_wp2_with fail;go_ret;exact⟨rfl,rfl⟩
def blockQ:List Bool:=field 3227993 24++field 2511705 24
theorem tmagicB {t g sum:Nat} {en:Bool} {v:Value} {q:List Bool} {tk:Nat} (w:World) (h:TwOk w t g sum en v q tk) (hq:q.length<=1000000000):Calls Tryz.prog 45 #[.pointer (some ⟨t,0,none⟩),.int .u64 54156738319193] w fun e w'=>e=.returned (.tuple #[])/\Tws (fun _=>False) w t g v sum en (q++blockQ) tk w':=by
 obtain⟨c0,_⟩:=h.1.cells;have HP:=zh (h.put 3227993 24 3227993 24 rfl rfl (by omega) (by omega) (by omega));clear h;go_enter Tryz.func45,Tryz.ntmps45;go_wp2_with fail;refine HP.out.mono ?_;rintro e w1 ⟨rfl,v1,h1,ht1,ho1⟩;obtain⟨c0,_⟩:=h1.1.cells;have HP2:=zh (h1.put 2511705 24 2511705 24 rfl rfl (by omega) (by omega) (by rw [List.length_append,Zaa];omega));have HT1:=zh ht1;have HO1:=zh ho1;clear h1 ht1 ho1;go_wp2_with fail;refine HP2.out.mono ?_;rintro e w2 ⟨rfl,h2⟩;have H2:=zh (Tws.comp HT1.out HO1.out h2 (fun k hk=>hk.elim));clear h2;go_wp2_with fail;go_end0;refine⟨rfl,?_⟩;have:=H2.out
 rwa [List.append_assoc] at this
theorem Zku {t g sum:Nat} {en:Bool} {v:Value} {q:List Bool} {tk:Nat} (g1 g2 rb:Nat) (rv:Value) (l:List UInt8) (sp p n:Nat) (w:World) (h:TwOk w t g sum en v q tk)
  (c1:w.cell? ⟨g1,0,none⟩=some (.pointer (some ⟨rb,0,none⟩))) (c2:w.cell? ⟨g2,0,none⟩=some (.pointer (some ⟨t,0,none⟩))) (hr:IsReader w rb rv l 0 sp p) (hd:∀k,foot rb rv k->¬ftT t g v k) (h2:g2≠rb)
  (hn:n<=32) (hp:p+n<=8*l.length) (hs:l.length<=1000000) (hq:q.length<=1000000000) :
  Calls Tryz.prog 87 #[.int .i64 (n:Int),.pointer (some ⟨g1,0,none⟩),.pointer (some ⟨g2,0,none⟩)] w fun e w'=>e=.returned (.tuple #[])/\IsReader w' rb rv l 0 sp (p+n)/\Tws (·=rb) w t g v sum en (q++((bitsOf l).drop p).take n) tk w':=by
 have hlen:(((bitsOf l).drop p).take n).length=n:=by rw [List.length_take,List.length_drop,ZaJ];omega
 have hX:num (((bitsOf l).drop p).take n)<2^n:=by have:=Zbg (((bitsOf l).drop p).take n);rwa [hlen] at this
 have hf:field (num (((bitsOf l).drop p).take n)) n=((bitsOf l).drop p).take n:=by have:=ZhX (((bitsOf l).drop p).take n);rwa [hlen] at this
 have HG:=zh (Zr1 rb rv l 0 sp p n w hr (by omega) hn (by omega));rw [show p-8*0=p by omega] at HG;generalize ((bitsOf l).drop p).take n=Y at *;have HH:=zh h;have HD:=zh hd;have HF:=zh hf;obtain⟨X,hXX⟩:∃X,num Y=X:=⟨_,rfl⟩
 rw [hXX] at hX HG HF;have C2:=zh c2;clear h hr hd hf hXX hlen c2;go_enter Tryz.func87,Tryz.ntmps87;go_wp2_with fail;refine HG.out.mono ?_;rintro e w1 ⟨rfl,hr1,ht1⟩;have h1:=HH.out.other ht1 (fun k hk e=>HD.out rb (Or.inl rfl) (e▸hk))
 have c2:w1.cell? ⟨g2,0,none⟩=some (.pointer (some ⟨t,0,none⟩)):=by
  rw [World.cell?_of_block (w:=w) (a:=⟨g2,0,none⟩) (ht1.block g2 (ZaE C2.out) h2)];exact C2.out
 obtain⟨c0,_⟩:=h1.1.cells;have HP:=zh (h1.put X n (X:Int) (n:Int) rfl rfl hn hX (by omega));have HR1:=zh hr1;have HT1:=zh ht1;clear h1 hr1 ht1 C2;go_wp2_with fail;refine HP.out.mono ?_;rintro e w2 ⟨rfl,v2,k1,k2,k3⟩;have HR2:=zh (HR1.out.other k2 (fun k hk e=>e.elim (fun e=>HD.out k hk e) id));rw [HF.out] at k1;have HZ:=zh (Tws.comp (R:=(·=rb)) (HT1.out.mono (fun k hk=>Or.inr hk)) (fun k hk=>Or.inl hk) ⟨v2,k1,k2,k3⟩ (fun k hk=>hk.elim));clear k1 k2 k3;go_wp2_with fail;go_end0;exact⟨rfl,HR2.out,HZ.out⟩
theorem padQ (Q:List Bool):bitsOf (byts (Q++padding Q))=Q++padding Q:=by
 obtain⟨n,h,_⟩:=Zks Q;exact Zid n _ h
theorem ZqB {t g sum:Nat} {en:Bool} {v:Value} {q:List Bool} {tk:Nat} (b:Nat) (vb:Value) (Q:List Bool) (w:World) (h:TwOk w t g sum en v q tk) (hb:IsWriter w b vb Q 0) (hd:∀k,foot b vb k->¬ftT t g v k) (hq:q.length<=900000000) (hQ:Q.length<=1000000) :
  Calls Tryz.prog 59 #[.pointer (some ⟨t,0,none⟩),.pointer (some ⟨b,0,none⟩)] w fun e w'=>e=.returned (.tuple #[])/\Tws (foot b vb) w t g v sum en (q++Q) tk w':=by
 have H0:=zh h;have HB0:=zh hb;have HD0:=zh hd;have HLT:=zh h.lt;have HBL:=zh hb.lt;clear h hb hd;go_enter Tryz.func59,Tryz.ntmps59;go_wp2_with fail;have hz1:(w.alloc (.cells #[.pointer (some ⟨t,0,none⟩)] 32)).heap.size=w.heap.size+1:=by simp
 have hN2:=heap_alloc_new w (.cells #[.pointer (some ⟨t,0,none⟩)] 32);have hT1:Touch (fun _=>False) w (w.alloc (.cells #[.pointer (some ⟨t,0,none⟩)] 32)):=(Touch.refl _ _).alloc _;generalize w.alloc (.cells #[.pointer (some ⟨t,0,none⟩)] 32)=w1 at *;have HB1:=zh (HB0.out.other hT1 (fun _ _ e=>e));have HT1:=zh (hT1.mono (T:=foot b vb) (fun _ e=>e.elim));have HC2:=zh (show w1.cell? ⟨w.heap.size,0,none⟩=some (.pointer (some ⟨t,0,none⟩)) by rw [cell_of_row _ _ _ _ _ _ hN2];rfl);obtain⟨g2,hg2⟩:∃g2,w.heap.size=g2:=⟨_,rfl⟩
 rw [hg2] at hz1 HC2 ⊢;clear hN2 hT1;refine(Zmq b vb Q 0 w1 HB1.out).mono ?_;rintro e w' ⟨rfl,rfl⟩;go_wp2_with fail;refine(Zf0 b vb Q 0 w1 HB1.out (by omega)).mono ?_;rintro e w2 ⟨rfl,vb2,hb2,ht2,ho2⟩;have HT2:=zh (HT1.out.trans ht2 (fun k hk=>Or.inl hk))
 have HC2:=zh (show w2.cell? ⟨g2,0,none⟩=some (.pointer (some ⟨t,0,none⟩)) by
  rw [World.cell?_of_block (w:=w1) (a:=⟨g2,0,none⟩) (ht2.block g2 (by omega) (fun e=>by have:=(HBL.out g2 e).1;omega))];exact HC2.out)
 have HB2:=zh hb2
 have HO2:=zh (show ∀k,foot b vb2 k->foot b vb k\/g2<k by
  intro k hk;rcases hk with hk|hk
  ·exact Or.inl (Or.inl hk)
  ·rcases ho2 k hk with e|e
   ·exact Or.inl (Or.inr e)
   ·exact Or.inr (by omega))
 have hz2:=ht2.size;clear hb2 ht2 ho2 HB1 HT1;go_wp2_with fail;refine(Zif b vb2 _ 0 w2 HB2.out).mono ?_;rintro e w3 ⟨rfl,_,ht3⟩;rw [List.drop_zero];have HL:=zh (padQ Q);have hLl:8*(byts (Q++padding Q)).length=Q.length+(padding Q).length:=by rw [Zav,<-List.length_append];obtain⟨n,h,_⟩:=Zks Q;omega
 have hpl:(padding Q).length<8:=by unfold padding;rw [Zaa];omega
 obtain⟨L,hL⟩:∃L,byts (Q++padding Q)=L:=⟨_,rfl⟩
 rw [hL] at HL hLl ⊢;obtain⟨T,hT⟩:∃T:ByteArray,(⟨L.toArray⟩:ByteArray)=T:=⟨_,rfl⟩
 have hTL:T.data.toList=L:=by rw [<-hT]
 have hTs:T.size=L.length:=by rw [<-hT];show L.toArray.size=L.length;exact List.size_toArray
 rw [hT];have HT3:=zh (HT2.out.trans ht3 (fun k hk=>(HO2.out k hk).imp id (fun e=>by omega)))
 have HC3:=zh (show w3.cell? ⟨g2,0,none⟩=some (.pointer (some ⟨t,0,none⟩)) by
  rw [World.cell?_of_block (w:=w2) (a:=⟨g2,0,none⟩) (ht3.block g2 (by omega) (fun e=>by rcases HO2.out g2 e with e|e;have:=(HBL.out g2 e).1;omega;omega))];exact HC2.out)
 have hz3:=ht3.size;clear hL hT ht3 HT2 HC2 HB2 HO2;go_wp2_with fail;refine(ZjR T w3 (by unfold maxLen;omega)).mono ?_;rintro e w4 ⟨rb,rv,rfl,hr4,hb4,hf4⟩;rw [hTL] at hr4;have HT4:=zh (HT3.out.trans (Touch.ofBelow (S:=fun _=>False) hb4) (fun k hk=>hk.elim))
 have HC4:=zh (show w4.cell? ⟨g2,0,none⟩=some (.pointer (some ⟨t,0,none⟩)) by
  rw [World.cell?_of_block (w:=w3) (a:=⟨g2,0,none⟩) (hb4.block g2 (by omega))];exact HC3.out)
 have hz4:=hb4.size;have HF4:=zh hf4;have HR4:=zh hr4;have hrb:g2<rb/\rb<w4.heap.size:=by have:=hf4 rb (Or.inl rfl);have:=hr4.lt rb (Or.inl rfl);omega
 clear hb4 hf4 hr4 HT3 HC3 hTL hTs;go_wp2_with fail;have hz5:(w4.alloc (.cells #[.pointer (some ⟨rb,0,none⟩)] 132)).heap.size=w4.heap.size+1:=by simp
 have hN5:=heap_alloc_new w4 (.cells #[.pointer (some ⟨rb,0,none⟩)] 132);have hT5:Touch (fun _=>False) w4 (w4.alloc (.cells #[.pointer (some ⟨rb,0,none⟩)] 132)):=(Touch.refl _ _).alloc _;generalize w4.alloc (.cells #[.pointer (some ⟨rb,0,none⟩)] 132)=w5 at *;obtain⟨g1,hg1⟩:∃g1,w4.heap.size=g1:=⟨_,rfl⟩
 rw [hg1] at hz5 hN5 hrb hz4 ⊢;have HR5:=zh (HR4.out.other hT5 (fun _ _ e=>e));have HC1:=zh (show w5.cell? ⟨g1,0,none⟩=some (.pointer (some ⟨rb,0,none⟩)) by rw [cell_of_row _ _ _ _ _ _ hN5];rfl)
 have HC2:=zh (show w5.cell? ⟨g2,0,none⟩=some (.pointer (some ⟨t,0,none⟩)) by
  rw [World.cell?_of_block (w:=w4) (a:=⟨g2,0,none⟩) (hT5.block g2 (by omega) id)];exact HC4.out)
 have HT5:=zh (HT4.out.trans hT5 (fun k hk=>hk.elim));have H5:=zh (H0.out.other HT5.out (fun k hk e=>HD0.out k e hk))
 have HF5:=zh (show ∀k,foot rb rv k->g2<k/\k<w5.heap.size by
  intro k hk;have h1:=HF4.out k hk;have h2:=HR4.out.lt k hk;omega)
 have HLT5:=zh (show ∀k,ftT t g v k->k<g2 by intro k hk;have:=HLT.out k hk;omega);have hrb1:g2<rb/\rb<g1/\g1<w5.heap.size:=by omega
 have hW:∀x,Hid (TwOk x t g sum en v q tk)->True:=fun _ _=>trivial
 clear hN5 hT5 hW HR4 HC4 HT4 HF4 HLT HBL HB0 H0 HD0 hz1 hz2 hz3 hz4 hz5 hrb hg1;have HG2:=zh hg2;clear hg2;obtain⟨N,hN⟩:∃N:Nat,Q.length / 32=N:=⟨_,rfl⟩
 have hNi:(Q.length:Int) / 32=(N:Int):=by omega
 rw [hNi]
 go_loopw [17] (fun vj wr=>∃j:Nat,vj=.int .i64 (j:Int)/\j<=N/\IsReader wr rb rv L 0 0 (32*j)/\Tws (·=rb) w5 t g v sum en (q++(bitsOf L).take (32*j)) tk wr) (fun vj _=>N-(intOf vj).toNat)
 case atStart=>exact⟨0,rfl,by omega,HR5.out,by rw [List.take_zero,List.append_nil];exact Tws.start H5.out⟩
 case round=>
  obtain⟨j,rfl,hj,hR,v1,k1,k2,k3⟩:=hrel
  have c1:wr.cell? ⟨g1,0,none⟩=some (.pointer (some ⟨rb,0,none⟩)):=by
   rw [World.cell?_of_block (w:=w5) (a:=⟨g1,0,none⟩) (k2.block g1 (by omega) (fun e=>e.elim (fun e=>by have:=HLT5.out g1 e;omega) (fun e=>by omega)))];exact HC1.out
  have c2:wr.cell? ⟨g2,0,none⟩=some (.pointer (some ⟨t,0,none⟩)):=by
   rw [World.cell?_of_block (w:=w5) (a:=⟨g2,0,none⟩) (k2.block g2 (by omega) (fun e=>e.elim (fun e=>by have:=HLT5.out g2 e;omega) (fun e=>by omega)))];exact HC2.out
  have hd:∀k,foot rb rv k->¬ftT t g v1 k:=by
   intro k hk e;obtain⟨a1,a2⟩:=HF5.out k hk;rcases e with e|e|e
   ·have:=HLT5.out t (Or.inl rfl);omega
   ·have:=HLT5.out g (Or.inr (Or.inl rfl));omega
   ·rcases k3 k e with e|e
    ·have:=HLT5.out k (Or.inr (Or.inr e));omega
    ·omega
  have HK2:=zh k2;have HK3:=zh k3;have hll:((bitsOf L).take (32*j)).length<=32*j:=by rw [List.length_take];omega
  have hql:(q++(bitsOf L).take (32*j)).length<=950000000:=by rw [List.length_append];omega
  by_cases hjN:j<N
  ·have hji:(j:Int)<(N:Int):=by omega
   have HH:=zh (Zku g1 g2 rb rv L 0 (32*j) 32 wr k1 c1 c2 hR hd (by omega) (by omega) (by omega) (by omega) (by omega));clear hd c1 c2 k1 k2 k3 hR;go_wp2_with fail;refine HH.out.mono ?_;rintro e w6 ⟨rfl,hr6,h6⟩;have HR6:=zh hr6;have HT6:=zh (Tws.comp (R:=(·=rb)) HK2.out HK3.out h6 (fun k hk=>Or.inl hk));clear hr6 h6;go_wp2_with fail;go_roundw
   case rel=>
    refine⟨j+1,by go_num,by omega,by have:=HR6.out;rwa [show 32*j+32=32*(j+1) by omega] at this,?_⟩;have:=HT6.out
    rwa [List.append_assoc,<-List.take_add,show 32*j+32=32*(j+1) by omega] at this
   case measure=>simp [intOf];omega
  ·have hji:¬(j:Int)<(N:Int):=by omega
   obtain rfl:j=N:=by omega
   have HH:=zh (Zku g1 g2 rb rv L 0 (32*j) (Q.length % 32) wr k1 c1 c2 hR hd (by omega) (by omega) (by omega) (by omega) (by omega));rw [show((Q.length % 32:Nat):Int)=(Q.length:Int) % 32 by omega] at HH;clear hd c1 c2 k1 k2 k3 hR;go_wp2_with fail;refine HH.out.mono ?_;rintro e w6 ⟨rfl,_,h6⟩;obtain⟨v6,a1,a2,a3⟩:=Tws.comp (R:=(·=rb)) HK2.out HK3.out h6 (fun k hk=>Or.inl hk);rw [List.append_assoc,<-List.take_add,show 32*j+Q.length % 32=Q.length by omega,HL.out,List.take_left] at a1;have HA:=zh (And.intro a1 (And.intro a2 a3));clear h6 a1 a2 a3;go_wp2_with fail;go_end0;obtain⟨a1,a2,a3⟩:=HA.out;have hz:=HT5.out.size;refine⟨rfl,v6,a1,(HT5.out.mono (fun k hk=>Or.inr hk)).trans a2 (fun k hk=>?_),fun k hk=>?_⟩
   ·rcases hk with hk|hk
    ·exact Or.inl (Or.inl hk)
    ·exact Or.inr (by rw [HG2.out];omega)
   ·rcases a3 k hk with e|e
    ·exact Or.inl e
    ·exact Or.inr (by omega)
end
section
open Go.RowKit RleM SplM BitM CrcM
theorem Zjg {t g:Nat} {v:Value} {q:List Bool} {tk:Nat} (sum x:BitVec 32) (F:FuncId) (caps:Array Value) (G:List Bool->Prop) (w:World) (h:TwOk w t g sum.toNat false v q tk) (hq:q.length<=800000000)
  (he:∀args w,(callFunc F args).run Tryz.prog w=.ok (.enter F args) w) (hG:∀Q,G Q->Q.length<=1000000)
  (hput:∀w1,Below w.heap.size w w1->IsWriter w1 w.heap.size (.slice none 0 0) [] 0->Calls Tryz.prog F (#[.pointer (some ⟨w.heap.size,0,none⟩)]++caps) w1 fun e w'=>e=.returned (.int .i64 0)/\∃Q,G Q/\Wrote w1 w.heap.size (.slice none 0 0) 0 Q w') :
  Calls Tryz.prog 39 #[.pointer (some ⟨t,0,none⟩),.int .u32 (x.toNat:Int),.func (.func F) #[] caps] w fun e w'=>e=.returned (.int .i64 0)/\∃Q,G Q/\Tws (fun _=>False) w t g v (cmb sum x).toNat false (q++blockQ++Q) tk w':=by
 have H0:=zh h;have HO:=zh (Zdr w h);have HPUT:=zh hput;have HG:=zh hG;clear h hput hG;go_enter Tryz.func39,Tryz.ntmps39;go_wp2_with fail;refine HO.out.mono ?_;rintro e w0 ⟨rfl,rfl⟩;go_wp2_with fail;refine(ZdD w0).mono ?_;rintro e w1 ⟨rfl,hw1,hb1⟩;have HP:=zh (HPUT.out w1 hb1 hw1);have HB1:=zh hb1;have HW1:=zh hw1;clear hw1 hb1;obtain⟨b,hb⟩:∃b,w0.heap.size=b:=⟨_,rfl⟩
 rw [hb] at HP HW1 ⊢;have HLT:=zh (show ∀k,ftT t g v k->k<b by rw [<-hb];exact H0.out.lt);have HB:=zh hb;clear hb;go_wp2_with fail;refine HP.out.mono ?_;rintro e w2 ⟨rfl,Q,hGQ,vb,hw2,ht2,ho2⟩;have hQl:=HG.out Q hGQ
 have HT2:=zh (show Below b w0 w2 from((by have:=HB1.out;rwa [HB.out] at this):Below b w0 w1).trans (ht2.below (by have:=HB1.out.size;rw [<-HB.out];omega) (fun k hk=>by
  rcases hk with hk|hk
  ·omega
  ·cases hk)))
 have H2:=zh (H0.out.other (Touch.ofBelow (S:=fun _=>False) (by rw [HB.out];exact HT2.out)) (fun _ _ e=>e))
 have HF2:=zh (show ∀k,foot b vb k->b<=k by
  intro k hk;rcases hk with hk|hk
  ·omega
  ·rcases ho2 k hk with e|e
   ·cases e
   ·have:=HB1.out.size;have:=HB.out;omega)
 have HW2:=zh hw2;have HGQ:=zh hGQ;have HL2:=zh hw2.lt;clear hw2 ht2 ho2 hGQ;go_wp2_with fail;refine(tmagicB w2 H2.out (by omega)).mono ?_;rintro e w3 ⟨rfl,v3,h3,ht3,ho3⟩
 have HW3:=zh (HW2.out.other ht3 (fun k hk e=>by
  rcases e with e|e
  ·have:=HLT.out k e;have:=HF2.out k hk;omega
  ·exact e))
 have hbl:(q++blockQ).length<=900000000:=by rw [List.length_append];unfold blockQ;rw [List.length_append,Zaa,Zaa];omega
 have HD3:=zh (show ∀k,foot b vb k->¬ftT t g v3 k by
  intro k hk e;have h1:=HF2.out k hk;have h2:=(HL2.out k hk).1;rcases e with e|e|e
  ·have:=HLT.out t (Or.inl rfl);omega
  ·have:=HLT.out g (Or.inr (Or.inl rfl));omega
  ·rcases ho3 k e with e|e
   ·have:=HLT.out k (Or.inr (Or.inr e));omega
   ·omega)
 have H3:=zh h3;have HT3:=zh (show Touch (fun k=>ftT t g v k\/False) w0 w3 from(Touch.ofBelow (S:=fun k=>ftT t g v k\/False) (by rw [HB.out];exact HT2.out)).trans ht3 (fun k hk=>Or.inl hk));have HO3:=zh (show ∀k,v3.ownBlock=some k->v.ownBlock=some k\/w0.heap.size<=k from fun k hk=>(ho3 k hk).imp id (fun e=>by have:=HT2.out.size;omega));clear h3 ht3 ho3;go_wp2_with fail;refine(ZqB b vb Q w3 H3.out HW3.out HD3.out hbl hQl).mono ?_;rintro e w4 ⟨rfl,h4⟩;obtain⟨v4,h4,ht4,ho4⟩:=Tws.comp (R:=fun _=>False) HT3.out HO3.out h4 (fun k hk=>Or.inr (by rw [HB.out];exact HF2.out k hk));obtain⟨_,c1,_⟩:=h4.1.cells;have f1:w4.frozen? ⟨t,1,none⟩=false:=frozen_of_row _ _ _ _ _ h4.1;have H4:=zh h4;have HT4:=zh ht4;have HO4:=zh ho4;clear h4 ht4 ho4;go_wp2_with fail;refine(Zlj sum x w4).mono ?_;rintro e w5 ⟨rfl,rfl⟩;go_wp2_with fail;go_ret;obtain⟨v5,a1,a2,a3⟩:=Tws.comp (R:=fun _=>False) HT4.out HO4.out (H4.out.sum (cmb sum x).toNat) (fun k hk=>hk.elim);exact⟨rfl,Q,HGQ.out,v5,a1,a2,a3⟩
end
section
open Go.RowKit UsedM MtfM
end
section
open Go.RowKit BitM UsedM
theorem ZnA (S:Nat->Bool) (n:Nat) (hn:n<256) (hS:S n=true):Lib.byteCells (syms S (n+1))=Lib.byteCells (syms S n)++[.int .u8 (n:Int)]:=by
 rw [ZdT,if_pos hS];unfold Lib.byteCells;rw [List.map_append];congr 1;show[Value.int .u8 ((UInt8.ofNat n).toNat:Int)]=_;rw [UInt8.toNat_ofNat',Nat.mod_eq_of_lt (by omega)]
theorem Zpm (S:Nat->Bool) (n:Nat) (hS:S n=false):syms S (n+1)=syms S n:=by
 rw [ZdT,hS];rfl
theorem Zpn {B b:Nat} {bs:List Value} {w:World} {X Y:Int} (h:Used B b (bs++[.int .u8 X]) w) (e:X=Y):Used B b (bs++[.int .u8 Y]) w:=e▸h
theorem Zpo (S:Nat->Bool) (n:Nat) (hn:n<=256):(Lib.byteCells (syms S n)).length<=256:=by
 have:=Zgx S n;unfold Lib.byteCells;rw [List.length_map];omega
theorem Zq3 (S:Nat->Bool) (w:World) :
  Calls Tryz.prog 94 #[.agg (arr S)] w fun e w'=>e=.returned (.string ⟨(syms S 256).toArray⟩)/\Below w.heap.size w w':=by
 have HX:=zh (fun k (hk:k<16) F (hF:fld S k=F)=>Zis S k F hk hF);have hi:=ZmO S;obtain⟨A,hA⟩:∃A,arr S=A:=⟨_,rfl⟩
 rw [hA] at HX hi ⊢;have hg:∀o,((w.alloc (.cells A 143)).alloc o).heap[w.heap.size]?=some (.cells A 143 (0,0)):=fun o=>heap_alloc2_old _ _ _
 have hstart:=Lib.fresh_isBuilder 194 5 (w.alloc (.cells A 143));have HS:=zh hstart;clear hA hstart;go_enter Tryz.func94,Tryz.ntmps94;go_wp2_with (refine wpList_load_row rfl 143 _ rfl w.heap.size rfl 143 A (0,0) _ (hg _) Tryz.underlying143 rfl hi ?_);clear hg hi
 go_loopw [8] (fun i wr=>∃k:Nat,k<=16/\i=.int .i64 k/\Lib.IsBuilder 194 5 (w.heap.size+1) (w.heap.size+1) (Lib.byteCells (syms S (16*k))) wr/\Below (w.heap.size+1) (w.alloc (.cells A 143)) wr) (fun i _=>16-(intOf i).toNat)
 case atStart=>exact⟨0,by omega,rfl,by rw [Nat.mul_zero,ZoE];simpa [Lib.byteCells] using HS.out,(Below.refl _ _).alloc (by simp) _⟩
 case round=>
  obtain⟨k,hk,rfl,hB,hW⟩:=hrel;have HB:=zh hB;have HW:=zh hW;clear hB hW;by_cases hlt:k<16
  ·have hk2:(k:Int)<16:=by omega
   have hxk:=HX.out k hlt _ rfl;have HF:=zh (Zjh S k);have HAND:=zh (fun j (hj:j<16)=>Zr6 S k j hj);generalize fld S k=F at *;go_wp2_with fail
   go_loopw [12] (fun i wr=>∃j:Nat,j<=16/\i=.int .i64 j/\Lib.IsBuilder 194 5 (w.heap.size+1) (w.heap.size+1) (Lib.byteCells (syms S (16*k+j))) wr/\Below (w.heap.size+1) (w.alloc (.cells A 143)) wr) (fun i _=>16-(intOf i).toNat)
   case atStart=>exact⟨0,by omega,rfl,HB.out,HW.out⟩
   case round=>
    clear HB HW;obtain⟨j,hj,rfl,hB,hW⟩:=hrel;have HB:=zh hB;have HW:=zh hW;clear hB hW;by_cases hlj:j<16
    ·have hj2:(j:Int)<16:=by omega
     obtain⟨Z,hZ⟩:∃Z,2^(15-j)=Z:=⟨_,rfl⟩
     have hZ1:Z<=32768:=by
      have:2^(15-j)<=2^15:=Nat.pow_le_pow_right (by omega) (by omega);omega
     have hZ0:0<Z:=by
      have:=Nat.two_pow_pos (15-j);omega
     have ha:=HAND.out j hlj;rw [hZ] at ha;have htest:=Zpf F Z (S (16*k+j)) HF.out hZ1 hZ0 ha;have HZ:=zh hZ;clear hZ ha hZ0 hZ1
     have hsz:w.heap.size+1<=wr.heap.size:=by
      have:=HW.out.size;simpa using this
     by_cases hS:S (16*k+j)=true
     ·have HC:=zh (ZnA S (16*k+j) (by omega) hS);have hlen:=Zpo S (16*k+j) (by omega);rw [hS] at htest;clear hS;go_wp2_with fail;refine(Zj6 _ j Z _ rfl (by omega) HZ.out).mono ?_;rintro e w' ⟨rfl,rfl⟩;go_wp2_with fail;refine(Zib _ _ _ _ _ HB.out (by omega) hsz).mono ?_;rintro e w1 ⟨rfl,hU,hb⟩;have HU:=zh (Zpn (Y:=((16*k+j:Nat):Int)) hU (by omega));have HW1:=zh (HW.out.trans hb);clear hU hb;go_wp2_with fail;go_roundw
      case rel=>exact⟨j+1,by omega,by go_num,by rw [<-Nat.add_assoc,HC.out];exact Or.inr HU.out,HW1.out⟩
      case measure=>simp [intOf];omega
     ·have hSf:S (16*k+j)=false:=by simpa using hS
      have HC:=zh (Zpm S (16*k+j) hSf);rw [hSf] at htest;clear hS hSf;go_wp2_with fail;refine(Zj6 _ j Z _ rfl (by omega) HZ.out).mono ?_;rintro e w' ⟨rfl,rfl⟩;go_wp2_with fail;go_roundw
      case rel=>exact⟨j+1,by omega,by go_num,by rw [<-Nat.add_assoc,HC.out];exact HB.out,HW.out⟩
      case measure=>simp [intOf];omega
    ·obtain rfl:j=16:=by omega
     go_wp2_with fail;go_roundw
     case rel=>exact⟨k+1,by omega,by go_num,HB.out,HW.out⟩
     case measure=>simp [intOf];omega
  ·obtain rfl:k=16:=by omega
   have hsz:w.heap.size+1<=wr.heap.size:=by
    have:=HW.out.size;simpa using this
   go_wp2_with fail;refine(Tryz.Builder_String_any _ _ _ _ HB.out hsz).mono ?_;rintro e w1 ⟨rfl,hb⟩;have HW1:=zh (((Below.refl w.heap.size w).alloc (Nat.le_refl _) _).trans ((HW.out.trans hb).mono (Nat.le_succ _)));clear hb;go_wp2_with fail;go_ret;exact⟨rfl,HW1.out⟩
theorem ZlO (s:ByteArray) (w:World) (hs:s.size<=maxLen) :
  Calls Tryz.prog 62 #[.string s] w fun e w'=>e=.returned (.string ⟨(syms (has s.data.toList) 256).toArray⟩)/\Below w.heap.size w w':=by
 go_enter Tryz.func62,Tryz.ntmps62;go_wp2_with fail;refine(ZmP s w hs).mono ?_;rintro e w1 ⟨rfl,hb⟩;have HB:=zh hb;clear hb;generalize hS:has s.data.toList=S at *;have HT:=zh (Zq3 S w1);generalize arr S=A at *;go_wp2_with fail;refine HT.out.mono ?_;rintro e w2 ⟨rfl,hb⟩;have HB2:=zh (HB.out.trans (hb.mono HB.out.size));clear hb;go_wp2_with fail;go_ret;exact⟨by rw [hS];rfl,HB2.out⟩
end
section
open Go.RowKit UsedM MtfM
end
section
open Go.RowKit BitM UsedM
end
section
open Go.RowKit UsedM MtfM
theorem ZtQ {l s:List UInt8} {k:Nat} {zs:List Int} {m:List UInt8} (h:mtencK l s k=some (zs,m)) (hk:k<s.length) (hm:s[k]∈m) :
  ∃o:Nat,m[o]?=some s[k]/\Lib.indexByte m s[k]=(o:Int)/\mtencK l s (k+1)=some (zs++[(o:Int)],touch m o):=by
 obtain⟨o,h1,h2,h3⟩:=ZoL hm;refine⟨o,h3,h1,?_⟩;have hgd:s.getD k 0=s[k]:=by rw [List.getD_eq_getElem?_getD,List.getElem?_eq_getElem hk];rfl
 rw [ZtL,h,hgd];simp only [h1];rw [if_neg (by omega)];rfl
theorem ZtO (l s:List UInt8) (hl:∀x,x∈s->x∈l):∀k,k<=s.length->∃zs m,mtencK l s k=some (zs,m)/\(∀x,x∈m↔x∈l)
 | 0,_=>⟨[],l,rfl,fun x=>Iff.rfl⟩
 | k+1,hk=>by
  obtain⟨zs,m,h,hm⟩:=ZtO l s hl k (by omega);obtain⟨o,h1,h2,h3⟩:=ZtQ h (by omega) ((hm _).2 (hl _ (List.getElem_mem _)));have ho:=(List.getElem?_eq_some_iff.1 h1).1;exact⟨_,_,h3,fun x=>(ZoK m o ho x).trans (hm x)⟩
theorem ZtP (l s:List UInt8):∀(d k:Nat) zs m ys n,mtencK l s k=some (zs,m)->mtencK l s (k+d)=some (ys,n)->∃t,ys=zs++t
 | 0,k,zs,m,ys,n,h,h2=>by
  rw [Nat.add_zero,h] at h2;cases h2;exact⟨[],by simp⟩
 | d+1,k,zs,m,ys,n,h,h2=>by
  rw [<-Nat.add_assoc,ZtL] at h2;split at h2
  ·cases h2
  ·rename_i us o ho;obtain⟨t,ht⟩:=ZtP l s d k zs m us o h ho;split at h2
   ·cases h2
   ·cases h2;exact⟨t++[Lib.indexByte o (s.getD (k+d) 0)],by rw [ht,List.append_assoc]⟩
theorem ZtR {l s:List UInt8} {ys:List Int} {n:List UInt8} (h:mtencK l s s.length=some (ys,n)) (k:Nat) (hk:k<s.length) :
  ∃zs m,mtencK l s k=some (zs,m)/\∃o:Nat,m[o]?=some s[k]/\Lib.indexByte m s[k]=(o:Int)/\ys.getD k 0=(o:Int)/\mtencK l s (k+1)=some (zs++[(o:Int)],touch m o):=by
 rcases hz:mtencK l s k with _|⟨zs,m⟩
 ·have:=ZtN l s (s.length-k) k hz;rw [show k+(s.length-k)=s.length by omega,h] at this;cases this
 ·refine⟨zs,m,rfl,?_⟩;have hgd:s.getD k 0=s[k]:=by rw [List.getD_eq_getElem?_getD,List.getElem?_eq_getElem hk];rfl
  rcases ZbU m s[k] with hp|⟨o,hp,ho,hx⟩
  ·have hn:mtencK l s (k+1)=none:=by rw [ZtL,hz,hgd];simp only [hp];rfl
   have:=ZtN l s (s.length-(k+1)) (k+1) hn;rw [show k+1+(s.length-(k+1))=s.length by omega,h] at this;cases this
  ·have hs:mtencK l s (k+1)=some (zs++[(o:Int)],touch m o):=by
    rw [ZtL,hz,hgd];simp only [hp];rw [if_neg (by omega)];rfl
   refine⟨o,hx,hp,?_,hs⟩;obtain⟨t,ht⟩:=ZtP l s (s.length-(k+1)) (k+1) _ _ ys n hs (by rw [show k+1+(s.length-(k+1))=s.length by omega];exact h);have hl:=(ZtM l s k zs m hz).1;rw [ht,List.getD_eq_getElem?_getD,List.append_assoc,List.getElem?_append_right (by omega),hl,Nat.sub_self];rfl
theorem Zq4 {l s:List UInt8} {ys:List Int} {n:List UInt8} (h:mtencK l s s.length=some (ys,n)) (k:Nat) (hk:k<s.length):∃o:Nat,ys.getD k 0=(o:Int)/\o<l.length:=by
 obtain⟨zs,m,h1,o,hx,hp,hy,hs⟩:=ZtR h k hk;have ho:=(List.getElem?_eq_some_iff.1 hx).1;have:=(ZtM _ _ _ _ _ h1).2;exact⟨o,hy,by omega⟩
end
end Go.Proofs.YtlfpbcadcfaboaaGreatDoor

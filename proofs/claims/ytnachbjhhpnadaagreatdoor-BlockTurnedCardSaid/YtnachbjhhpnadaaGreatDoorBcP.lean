import Derived.Test.YtnachbjhhpnadaaGreatDoorBcA
import Derived.Test.YtnachbjhhpnadaaGreatDoorBcB
import Derived.Test.YtnachbjhhpnadaaGreatDoorBcH
import Derived.Test.YtnachbjhhpnadaaGreatDoorBcI
import Derived.Test.YtnachbjhhpnadaaGreatDoorBcJ
import Derived.Test.YtnachbjhhpnadaaGreatDoorBcN
import Derived.Test.YtnachbjhhpnadaaGreatDoorBcO
import Derived.Deep.RegionLaw
import Derived.Deep.QuietTactic
import Derived.Outline
import Derived.IntWalk
import Derived.Shelf.Abstract
import Derived.WalkKit
import Derived.Test.YtnachbjhhpnadaaGreatDoorRows
import Derived.WalkSpells
import Derived.WalkLawsBesides
import Derived.Lib.Hide
import Derived.Deep.RegionHeld3
import Derived.StillTailTactics
import Derived.BigQuiet
import Derived.Laws.EntriesVeiled
import Derived.BigRegion
set_option linter.unusedVariables false
set_option linter.unusedSimpArgs false
set_option maxHeartbeats 8000000
set_option maxRecDepth 100000
namespace Go.Proofs.YtnachbjhhpnadaaGreatDoor
section
open Go.RowKit BwtM PkM
theorem UnM.plc_add (K:List Nat) (o:Nat) (j:Nat):∀k,UnM.plc K (UnM.plc K o j) k=UnM.plc K o (j+k)
 | 0=>rfl
 | k+1=>by
  show K.getD (UnM.plc K (UnM.plc K o j) k) 0=K.getD (UnM.plc K o (j+k)) 0;rw [UnM.plc_add K o j k]
def cntA (L:List UInt8) (n nc nl:Nat):Nat->Nat:=if nc=n then UnM.nxt L nl else UnM.cnt L nc
def ftU (t g:Nat) (v0:Value) (x:Nat):Prop:=x=t\/x=g\/v0.ownBlock=some x
def PhSt (v0:Value) (w0:World) (B:Nat) (w:World) (t g:Nat) (s:ByteArray) (o:Nat) (l:List UInt8) (nc nl nf:Nat):Prop:=
 Touch (ftU t g v0) w0 w/\∃tv,(∀k,tv.ownBlock=some k->v0.ownBlock=some k\/w0.heap.size<=k)/\IsIn B w t g s (cntA s.data.toList s.size nc nl) (toI (UnM.rowAt s.data.toList nl)) l (UnM.plc (UnM.links s.data.toList) o nf) nc nl nf tv
theorem PhSt.drewN {v0:Value} {w0:World} {B:Nat} {w:World} {t g:Nat} {s:ByteArray} {o:Nat} {l:List UInt8} {nc nl nf:Nat} (h:PhSt v0 w0 B w t g s o l nc nl nf) (m:Nat):PhSt v0 w0 B (w.drewN m) t g s o l nc nl nf:=by
 obtain⟨h1,tv,h2,h3⟩:=h;exact⟨h1.trans (Zad _ w m) (fun _ h=>Or.inl h),tv,h2,h3.below (Zai _ _)⟩
section
variable {B t g : Nat} {s : ByteArray} {zs : List Int} {l : List UInt8} {pl nc nl nf : Nat} {tv : Value} {C : Nat -> Nat}
theorem Zj7 (w:World) (q:Nat) (h:IsIn B w t g s C zs l pl nc nl nf tv) (hk:nl<=s.size) (hs:s.size<=1000000) (hq:q<=9223372036854775807) (h0:nl=s.size\/q=0) :
  Calls Tryz.prog 195 #[.pointer (some ⟨t,0,none⟩),.int .i64 (q:Int)] w fun e w'=>e=.returned (.int .i64 0)/\∃m,w'=w.drewN m:=by
 obtain⟨c0,_,_,_,_,c6,_⟩:=h.obj.cells;obtain⟨d,hd⟩:∃d,s.size-nl=d:=⟨_,rfl⟩
 have hdi:(s.size:Int)-(nl:Int)=(d:Int):=by omega
 have hdw:IntKind.i64.wrap (d:Int)=(d:Int):=IntWalk.i64_in _ (by omega);obtain⟨n,hn⟩:∃n,min q d=n:=⟨_,rfl⟩
 have hn0:n=0:=by omega
 have hni:¬(0:Int)<(n:Int):=by omega
 have HN:=zh hn0;have hcs:(d<q/\n=d)\/(¬d<q/\n=q):=by omega
 clear h hd hn hn0 hk h0;rcases hcs with⟨hdq,rfl⟩|⟨hdq,rfl⟩
 all_goals
  go_enter Tryz.func195,Tryz.ntmps195;go_wp2_with fail
  go_quiet (fail)
  go_wp2_with fail
  go_loopw [20] (fun vj wr=>vj=.int .i64 0/\∃m,wr=w.drewN m) (fun _ _=>0)
  case atStart=>exact⟨rfl,_,rfl⟩
  case round=>
   obtain⟨rfl,m,rfl⟩:=hrel;go_wp2_with fail;go_ret;exact⟨by rw [HN.out];rfl,_,rfl⟩
theorem Zhv (w:World) (q:Nat) (h:IsIn B w t g s C zs l pl nc nl nf tv) (hk:nf<=s.size) (hs:s.size<=1000000) (hq:q<=9223372036854775807) (h0:nf=s.size\/q=0) :
  Calls Tryz.prog 196 #[.pointer (some ⟨t,0,none⟩),.int .i64 (q:Int)] w fun e w'=>e=.returned (.int .i64 0)/\∃m,w'=w.drewN m:=by
 obtain⟨c0,_,_,_,_,_,c7⟩:=h.obj.cells;obtain⟨d,hd⟩:∃d,s.size-nf=d:=⟨_,rfl⟩
 have hdi:(s.size:Int)-(nf:Int)=(d:Int):=by omega
 have hdw:IntKind.i64.wrap (d:Int)=(d:Int):=IntWalk.i64_in _ (by omega);obtain⟨n,hn⟩:∃n,min q d=n:=⟨_,rfl⟩
 have hn0:n=0:=by omega
 have hni:¬(0:Int)<(n:Int):=by omega
 have HN:=zh hn0;have hcs:(d<q/\n=d)\/(¬d<q/\n=q):=by omega
 clear h hd hn hn0 hk h0;rcases hcs with⟨hdq,rfl⟩|⟨hdq,rfl⟩
 all_goals
  go_enter Tryz.func196,Tryz.ntmps196;go_wp2_with fail
  go_quiet (fail)
  go_wp2_with fail
  go_loopw [19] (fun vj wr=>vj=.int .i64 0/\∃m,wr=w.drewN m) (fun _ _=>0)
  case atStart=>exact⟨rfl,_,rfl⟩
  case round=>
   obtain⟨rfl,m,rfl⟩:=hrel;go_wp2_with fail;go_ret;exact⟨by rw [HN.out];rfl,_,rfl⟩
variable {v0 : Value} {w0 : World} {o : Nat}
theorem ZqS (w:World) (q:Nat) (h:PhSt v0 w0 B w t g s o l nc nl nf) (hc:nc<=s.size) (hn:nc<s.size->nl=0) (hs:s.size<=100000) (hq:q<=9223372036854775807) :
  Calls Tryz.prog 194 #[.pointer (some ⟨t,0,none⟩),.int .i64 (q:Int)] w fun e w'=>e=.returned (.int .i64 ((min q (s.size-nc):Nat):Int))/\PhSt v0 w0 B w' t g s o l (nc+min q (s.size-nc)) nl nf:=by
 by_cases h0:nc=s.size\/q=0
 ·obtain⟨h1,tv,h2,h3⟩:=id h;refine(ZiJ w nc q h3 hc (by omega) hq h0).mono ?_;rintro e w' ⟨rfl,m,rfl⟩;have e0:min q (s.size-nc)=0:=by omega
  rw [e0];exact⟨rfl,h.drewN m⟩
 ·have hlt:nc<s.size:=by omega
  obtain⟨h1,tv,h2,h3⟩:=h;have e1:nl=0:=hn hlt
  have h4:CtSt B w t g s (toI (UnM.rowAt s.data.toList nl)) l (UnM.plc (UnM.links s.data.toList) o nf) nc nl nf tv:=by
   unfold CtSt;unfold cntA at h3;rw [if_neg (by omega)] at h3;exact h3
  refine(Zj6 w nc q h4 hlt (by omega) hq (by omega)).mono ?_;rintro e w' ⟨rfl,h5,h6⟩;refine⟨rfl,h1.trans h6 (fun i hi=>Or.inl (Or.inl hi)),tv,h2,?_⟩
  have e2:cntA s.data.toList s.size (nc+min q (s.size-nc)) nl=cntS s.data.toList s.size (nc+min q (s.size-nc)):=by
   unfold cntA cntS;rw [e1]
  rw [e2];exact h5
theorem ZsI (w:World) (q:Nat) (h:PhSt v0 w0 B w t g s o l nc nl nf) (hc:nl<=s.size) (hn:nc=s.size\/q=0) (hs:s.size<=100000) (hq:q<=9223372036854775807) :
  Calls Tryz.prog 195 #[.pointer (some ⟨t,0,none⟩),.int .i64 (q:Int)] w fun e w'=>e=.returned (.int .i64 ((min q (s.size-nl):Nat):Int))/\PhSt v0 w0 B w' t g s o l nc (nl+min q (s.size-nl)) nf:=by
 by_cases h0:nl=s.size\/q=0
 ·obtain⟨h1,tv,h2,h3⟩:=id h;refine(Zj7 w q h3 hc (by omega) hq h0).mono ?_;rintro e w' ⟨rfl,m,rfl⟩;have e0:min q (s.size-nl)=0:=by omega
  rw [e0];exact⟨rfl,h.drewN m⟩
 ·have hne:nc=s.size:=by omega
  obtain⟨h1,tv,h2,h3⟩:=h
  have h4:LkSt B w t g s l (UnM.plc (UnM.links s.data.toList) o nf) nc nl nf tv:=by
   unfold LkSt;unfold cntA at h3;rw [if_pos hne] at h3;exact h3
  refine(ZmI w nl q h4 hc (by omega) hq).mono ?_;rintro e w' ⟨rfl,h5,h6⟩;refine⟨rfl,h1.trans h6 (fun i hi=>Or.inl (hi.imp id Or.inl)),tv,h2,?_⟩;unfold LkSt at h5;unfold cntA;rw [if_pos hne];exact h5
theorem ZoG (w:World) (q:Nat) (h:PhSt v0 w0 B w t g s o l nc nl nf) (hc:nf<=s.size) (hn:nl=s.size\/q=0) (hs:s.size<=100000) (hl:l.length<=100000) (hq:q<=9223372036854775807) (ho:o<s.size) (hbw:B<=w.heap.size) :
  Calls Tryz.prog 196 #[.pointer (some ⟨t,0,none⟩),.int .i64 (q:Int)] w fun e w'=>e=.returned (.int .i64 ((min q (s.size-nf):Nat):Int))/\PhSt v0 w0 B w' t g s o (l++BwtM.follow s.data.toList (UnM.links s.data.toList) (min q (s.size-nf)) (UnM.plc (UnM.links s.data.toList) o nf)) nc nl (nf+min q (s.size-nf)):=by
 by_cases h0:nf=s.size\/q=0
 ·obtain⟨h1,tv,h2,h3⟩:=id h;refine(Zhv w q h3 hc (by omega) hq h0).mono ?_;rintro e w' ⟨rfl,m,rfl⟩;have e0:min q (s.size-nf)=0:=by omega
  rw [e0];refine⟨rfl,?_⟩;show PhSt v0 w0 B (w.drewN m) t g s o (l++[]) nc nl nf;rw [List.append_nil];exact h.drewN m
 ·have hne:nl=s.size:=by omega
  obtain⟨h1,tv,h2,h3⟩:=h;have hlen:=Zfz s;have hr:UnM.rowAt s.data.toList nl=UnM.links s.data.toList:=UnM.rowAt_all _ (by omega);rw [hr] at h3;refine(ZiL w q tv h3 (fun p hp=>by have:=UnM.links_lt (L:=s.data.toList) (p:=p) (by omega);omega) (by have:=UnM.plc_lt (L:=s.data.toList) (o:=o) (by omega) nf;omega) hc hs hl hq hbw).mono ?_;rintro e w' ⟨rfl,⟨tv',h5,h6⟩,h7⟩;refine⟨rfl,h1.trans h7 (fun i hi=>?_),tv',fun k hk=>?_,?_⟩
  ·rcases hi with hi|hi
   ·exact Or.inl (Or.inl hi)
   ·exact(h2 i hi).imp (fun e=>Or.inr (Or.inr e)) id
  ·rcases h5 k hk with e|e
   ·exact h2 k e
   ·exact Or.inr (Nat.le_trans h1.size e)
  ·rw [hr];rw [UnM.plc_add] at h6;exact h6
def IvSt (B:Nat) (w:World) (t g:Nat) (s:ByteArray) (o G:Nat) (l:List UInt8) (tv:Value):Prop:=
 IsIn B w t g s (cntA s.data.toList s.size (min G s.size) (min (G-s.size) s.size)) (toI (UnM.rowAt s.data.toList (min (G-s.size) s.size))) l (UnM.plc (UnM.links s.data.toList) o (G-2*s.size)) (min G s.size) (min (G-s.size) s.size) (G-2*s.size) tv
theorem IvSt.ph {w:World} {G:Nat} (h:IvSt B w t g s o G l tv):PhSt tv w B w t g s o l (min G s.size) (min (G-s.size) s.size) (G-2*s.size):=
 ⟨Touch.refl _ _,tv,fun k hk=>Or.inl hk,h⟩
def tolU (s:ByteArray) (o G m:Nat):List UInt8:=BwtM.follow s.data.toList (UnM.links s.data.toList) ((G+m-2*s.size)-(G-2*s.size)) (UnM.plc (UnM.links s.data.toList) o (G-2*s.size))
theorem ZmJ (w:World) (z:Int) (G:Nat) (h:IvSt B w t g s o G l tv) (hG:G<=3*s.size) (hs:s.size<=100000) (hl:l.length<=100000) (ho:o<s.size) (hz:z<=9223372036854775807) (hbw:B<=w.heap.size) :
  Calls Tryz.prog 131 #[.pointer (some ⟨t,0,none⟩),.int .i64 z] w fun e w'=>e=.returned (.int .i64 ((min z.toNat (3*s.size-G):Nat):Int))/\(∃tv',IvSt B w' t g s o (G+min z.toNat (3*s.size-G)) (l++tolU s o G (min z.toNat (3*s.size-G))) tv')/\Touch (ftU t g tv) w w':=by
 by_cases hz1:z<1
 ·have e0:min z.toNat (3*s.size-G)=0:=by omega
  have HR:Hid (∃tv',IvSt B w t g s o (G+0) (l++tolU s o G 0) tv'):=zh ⟨tv,by
   unfold tolU;rw [Nat.add_zero,Nat.sub_self];show IvSt B w t g s o G (l++[]) tv;rw [List.append_nil];exact h⟩
  rw [e0];clear h hs hl ho hG e0;go_enter Tryz.func131,Tryz.ntmps131;go_wp2_with fail;go_ret;exact⟨rfl,HR.out,Touch.refl _ _⟩
 ·obtain⟨q,rfl⟩:∃q:Nat,z=(q:Int):=⟨z.toNat,by omega⟩
  rw [Int.toNat_natCast];have hsz:=h.len;obtain⟨m,hm⟩:∃m,min q (3*s.size-G)=m:=⟨_,rfl⟩
  obtain⟨m1,hm1⟩:∃m1,min q (s.size-min G s.size)=m1:=⟨_,rfl⟩
  obtain⟨q1,hq1⟩:∃q1,q-m1=q1:=⟨_,rfl⟩
  obtain⟨m2,hm2⟩:∃m2,min q1 (s.size-min (G-s.size) s.size)=m2:=⟨_,rfl⟩
  obtain⟨q2,hq2⟩:∃q2,q1-m2=q2:=⟨_,rfl⟩
  obtain⟨m3,hm3⟩:∃m3,min q2 (s.size-(G-2*s.size))=m3:=⟨_,rfl⟩
  have hq1i:(q:Int)-(m1:Int)=(q1:Int):=by omega
  have hq1w:IntKind.i64.wrap (q1:Int)=(q1:Int):=IntWalk.i64_in _ (by omega);obtain⟨a,ha⟩:∃a,m1+m2=a:=⟨_,rfl⟩
  have hai:(m1:Int)+(m2:Int)=(a:Int):=by omega
  have haw:IntKind.i64.wrap (a:Int)=(a:Int):=IntWalk.i64_in _ (by omega);have hq2i:(q:Int)-(a:Int)=(q2:Int):=by omega
  have hq2w:IntKind.i64.wrap (q2:Int)=(q2:Int):=IntWalk.i64_in _ (by omega);have hbi:(a:Int)+(m3:Int)=(m:Int):=by omega
  have hbw2:IntKind.i64.wrap (m:Int)=(m:Int):=IntWalk.i64_in _ (by omega);have HC1:=zh (ZqS w q h.ph (by omega) (by omega) hs (by omega));have HC2:=zh (fun W (h:PhSt tv w B W t g s o l (min G s.size+m1) (min (G-s.size) s.size) (G-2*s.size))=>ZsI W q1 h (by omega) (by omega) hs (by omega));have HC3:=zh (fun W (h:PhSt tv w B W t g s o l (min G s.size+m1) (min (G-s.size) s.size+m2) (G-2*s.size))=>ZoG W q2 h (by omega) (by omega) hs hl (by omega) ho (Nat.le_trans hbw h.1.size));rw [hm1] at HC1;rw [hm2] at HC2;rw [hm3] at HC3;rw [hm];have HE:Hid (min G s.size+m1=min (G+m) s.size/\min (G-s.size) s.size+m2=min (G+m-s.size) s.size/\G-2*s.size+m3=G+m-2*s.size/\m3=(G+m-2*s.size)-(G-2*s.size)):=zh (by omega);clear h hs hl ho hG hm hm1 hm2 hm3 hq1 hq2 ha hbw hsz;go_enter Tryz.func131,Tryz.ntmps131;go_wp2_with fail;refine HC1.out.mono ?_;rintro e w1 ⟨rfl,h1⟩;have H1:=zh h1;clear h1;go_wp2_with fail;refine(HC2.out _ H1.out).mono ?_;rintro e w2 ⟨rfl,h2⟩;have H2:=zh h2;clear h2;go_wp2_with fail;refine(HC3.out _ H2.out).mono ?_;rintro e w3 ⟨rfl,h3⟩;have H3:=zh h3;clear h3;go_wp2_with fail;go_ret;obtain⟨e1,e2,e3,e4⟩:=HE.out;obtain⟨k1,tv',k2,k3⟩:=H3.out;refine⟨rfl,⟨tv',?_⟩,k1⟩;unfold IvSt tolU;rw [<-e4,<-e1,<-e2,<-e3];exact k3
end
end
section
open Go.RowKit BwtM PkM
theorem ZqT {B:Nat} {w:World} {t g:Nat} {s:ByteArray} {o:Nat} (h:IsIn B w t g s (fun _=>0) (List.replicate s.size 0) [] o 0 0 0 (.slice none 0 0)) (h0:0<s.size):IvSt B w t g s o 0 [] (.slice none 0 0):=by
 unfold IvSt;have hl:=Zfz s
 have e1:cntA s.data.toList s.size (min 0 s.size) (min (0-s.size) s.size)=fun _=>0:=by
  funext b
  unfold cntA;rw [if_neg (by omega),Nat.zero_min];exact UnM.cnt_zero _ _
 have e2:toI (UnM.rowAt s.data.toList (min (0-s.size) s.size))=List.replicate s.size 0:=by
  rw [show min (0-s.size) s.size=0 by omega,UnM.rowAt_zero,hl];simp [toI]
 rw [e1,e2];simp only [Nat.zero_sub,Nat.zero_min];exact h
def unText (s:ByteArray) (o:Nat):ByteArray:=⟨(BwtM.follow s.data.toList (UnM.links s.data.toList) s.size o).toArray⟩
theorem Zcl (s:ByteArray) (o:Nat):(unText s o).size=s.size:=by
 have:=UnM.follow_len s.data.toList (UnM.links s.data.toList) s.size o;show(⟨(BwtM.follow s.data.toList (UnM.links s.data.toList) s.size o).toArray⟩:ByteArray).size=_;rw [Zav];exact this
theorem ZqU (s:ByteArray) (o:Nat) (w:World) (hs:s.size<=100000) (h0:0<s.size) (ho:o<s.size):Calls Tryz.prog 76 #[.string s,.int .i64 (o:Int)] w fun e w'=>e=.returned (.tuple #[.string (unText s o),.int .i64 0])/\Below w.heap.size w w':=by
 have HI:=zh (ZoD s o w h0 (by omega) ho);obtain⟨n3,hn3⟩:∃n3,3*s.size=n3:=⟨_,rfl⟩
 have hn3i:(3:Int)*(s.size:Int)=(n3:Int):=by omega
 have hn3j:(s.size:Int)*(3:Int)=(n3:Int):=by omega
 have hn3w:IntKind.i64.wrap (n3:Int)=(n3:Int):=IntWalk.i64_in _ (by omega)
 have HST:Hid (∀W t g,w.heap.size<=W.heap.size->IsIn w.heap.size W t g s (fun _=>0) (List.replicate s.size 0) [] o 0 0 0 (.slice none 0 0)->Calls Tryz.prog 131 #[.pointer (some ⟨t,0,none⟩),.int .i64 (n3:Int)] W fun e w'=>e=.returned (.int .i64 (n3:Int))/\(∃C zs pl nc nl nf tv',IsIn w.heap.size w' t g s C zs (unText s o).data.toList pl nc nl nf tv')/\Below w.heap.size W w'):=zh (fun W t g hW h=>by
  have hu:=ZqT h h0;refine(ZmJ W (n3:Int) 0 hu (by omega) hs (by simp) ho (by omega) hW).mono ?_;rintro e w' ⟨rfl,⟨tv',h5⟩,h6⟩;rw [Int.toNat_natCast,show min n3 (3*s.size-0)=n3 by omega] at h5 ⊢;unfold IvSt tolU at h5;rw [show 0+n3-2*s.size-(0-2*s.size)=s.size by omega,show 0-2*s.size=0 by omega] at h5;refine⟨rfl,⟨_,_,_,_,_,_,tv',h5⟩,h6.below hW (fun i hi=>?_)⟩
  ·rcases hi with rfl|rfl|hi
   ·exact h.base
   ·exact h.gase
   ·cases hi)
 obtain⟨T,hT⟩:∃T,unText s o=T:=⟨_,rfl⟩
 rw [hT] at HST ⊢;clear hT hn3 hs h0 ho;go_enter Tryz.func76,Tryz.ntmps76;go_wp2_with fail;refine HI.out.mono ?_;rintro e w1 ⟨t,g,rfl,h1,hb1⟩;have H1:=zh h1;have HB1:=zh hb1;clear h1 hb1;go_wp2_with fail;refine(HST.out _ _ _ HB1.out.size H1.out).mono ?_;rintro e w2 ⟨rfl,⟨C,zs,pl,nc,nl,nf,tv',h2⟩,hb2⟩;have H2:=zh h2;have HB2:=zh (HB1.out.trans hb2);clear h2 hb2;go_wp2_with fail;refine(ZmH _ H2.out).mono ?_;rintro e w3 ⟨rfl,_,ht⟩;have HB3:=zh (HB2.out.trans (ht.below HB2.out.size (fun i hi=>by rw [hi];exact H2.out.base)));clear ht;go_wp2_with fail;go_ret2;exact⟨rfl,HB3.out⟩
theorem ZmK (o:Int) (w:World):Calls Tryz.prog 76 #[.string ByteArray.empty,.int .i64 o] w fun e w'=>e=.returned (.tuple #[.string ⟨#[]⟩,.int .i64 1])/\w'=w:=by
 have HN:=zh (Zj5 o w);go_enter Tryz.func76,Tryz.ntmps76;go_wp2_with fail;refine HN.out.mono ?_;rintro e w1 ⟨rfl,rfl⟩;go_wp2_with fail;go_ret2;exact⟨rfl,rfl⟩
theorem ZqV (s:ByteArray) (o:Int) (w:World) (h0:0<s.size) (hs:s.size<=900000) (ho:o<0\/(s.size:Int)<=o):Calls Tryz.prog 76 #[.string s,.int .i64 o] w fun e w'=>e=.returned (.tuple #[.string ⟨#[]⟩,.int .i64 23])/\∃m,w'=w.drewN m:=by
 have HN:=zh (ZoE s o w h0 hs ho);clear h0 hs ho;go_enter Tryz.func76,Tryz.ntmps76;go_wp2_with fail;refine HN.out.mono ?_;rintro e w1 ⟨rfl,m,rfl⟩;go_wp2_with fail;go_ret2;exact⟨rfl,_,rfl⟩
end
section
namespace RleM
abbrev Pc:=UInt8×Nat
def ustep (st:UInt8×Nat) (c:UInt8):Option ((UInt8×Nat)×List UInt8):=
 if st.2=4 then(if 251<c.toNat then none else some ((st.1,0),List.replicate c.toNat st.1))
 else some ((c,if c=st.1 then st.2+1 else 1),[c])
def urun:UInt8×Nat->List UInt8->Option ((UInt8×Nat)×List UInt8)
 | st,[]=>some (st,[])
 | st,c::l=>(ustep st c).bind fun r=>(urun r.1 l).map fun q=>(q.1,r.2++q.2)
theorem Zdh:∀(l m:List UInt8) (st:UInt8×Nat),urun st (l++m)=(urun st l).bind fun r=>(urun r.1 m).map fun q=>(q.1,r.2++q.2)
 | [],m,st=>by simp [urun]
 | c::l,m,st=>by
  simp only [List.cons_append,urun];cases h:ustep st c with
  | none=>rfl
  | some r=>
   simp only [Option.bind_some,Zdh l m r.1];cases urun r.1 l with
   | none=>rfl
   | some q=>
    simp only [Option.bind_some,Option.map_some];cases urun q.1 m with
    | none=>rfl
    | some q2=>simp [List.append_assoc]
theorem ZfB (l:List UInt8) (c:UInt8) (st:UInt8×Nat):urun st (l++[c])=(urun st l).bind fun r=>(ustep r.1 c).map fun q=>(q.1,r.2++q.2):=by
 rw [Zdh];cases urun st l with
 | none=>rfl
 | some r=>
  simp only [Option.bind_some,urun];cases ustep r.1 c with
  | none=>rfl
  | some q=>simp
def outc:Option ((UInt8×Nat)×List UInt8)->List UInt8×Nat
 | none=>([],25)
 | some (st,o)=>if st.2=4 then([],24) else(o,0)
def res (st:UInt8×Nat) (l:List UInt8):List UInt8×Nat:=outc (urun st l)
def dec (l:List UInt8):List UInt8×Nat:=res (0,0) l
theorem ZqW (o:Option ((UInt8×Nat)×List UInt8)):(outc o).2≠0->(outc o).1=[]:=by
 cases o with
 | none=>intro _;rfl
 | some q=>obtain⟨st,t⟩:=q;simp only [outc];split<;>simp
theorem Zj8 (l:List UInt8):(dec l).2≠0->(dec l).1=[]:=ZqW _
end RleM
end
section
open Go.RowKit RleM
theorem byte_at {s:ByteArray} {L:List UInt8} (h:s.data.toList=L) {k:Nat} (hk:k<s.size):L[k]?=some s[k]:=by
 subst h;simp [ByteArray.getElem_eq_getElem_data,hk]
theorem Zj9 {a b:UInt8} (h:a≠b):((a.toNat:Int)==(b.toNat:Int))=false:=by
 rw [beq_eq_false_iff_ne];intro e;exact h (UInt8.toNat_inj.1 (by omega))
theorem Zka {a b:UInt8} (h:a=b):((a.toNat:Int)==(b.toNat:Int))=true:=by rw [h];simp
structure Counts (w0:World) (b:Nat) (n:Nat) (w:World):Prop where
 block:w.heap[b]?=some (.cells #[.int .i64 (n:Int)] 3 (0,0))
 below:Below w0.heap.size w0 w
theorem Counts.drewN {w0 w:World} {b n:Nat} (h:Counts w0 b n w) (m:Nat):Counts w0 b n (w.drewN m):=
 ⟨h.block,h.below.trans ⟨rfl,rfl,rfl,Nat.le_refl _,fun _ _=>rfl⟩⟩
theorem Counts.set {w0 w:World} {b n:Nat} (h:Counts w0 b n w) (hb:w0.heap.size<=b) (m:Nat):Counts w0 b m (w.setCell ⟨b,0,none⟩ (.int .i64 (m:Int))):=
 ⟨heap_setCell_same _ _ 0 _ _ _ h.block,h.below.trans ((Below.refl _ _).setCell hb _)⟩
theorem Counts.put {w0 w:World} {b n:Nat} (h:Counts w0 b n w) (hb:w0.heap.size<=b) (m:Nat) (X:Int) (hX:X=(m:Int)):Counts w0 b m (w.setCell ⟨b,0,none⟩ (.int .i64 X)):=hX▸h.set hb m
def IsPcs (w:World) (B:Nat) (v:Value) (ps:List Pc):Prop:=
 ∃(a:Option Addr) (cap:Nat),v=.slice a ps.length cap/\∀k p,ps[k]?=some p->∃g,a=some ⟨g,0,none⟩/\B<=g/\g<w.heap.size/\w.cell? ⟨g,k*2,none⟩=some (.int .u8 (p.1.toNat:Int))/\w.cell? ⟨g,k*2+1,none⟩=some (.int .i64 (p.2:Int))
theorem IsPcs.later {w w':World} {B:Nat} {v:Value} {ps:List Pc} (h:IsPcs w B v ps) (hb:Below w.heap.size w w'):IsPcs w' B v ps:=by
 obtain⟨a,cap,rfl,hc⟩:=h;refine⟨a,cap,rfl,fun k p hk=>?_⟩;obtain⟨g,h1,h2,h3,h4,h5⟩:=hc k p hk;have:=hb.size;exact⟨g,h1,h2,by omega,(hb.cell (p:=⟨g,k*2,none⟩) h3).trans h4,(hb.cell (p:=⟨g,k*2+1,none⟩) h3).trans h5⟩
end
section
namespace CrcM
open Go.RowKit
def poly:BitVec 32:=79764919#32
def b1 (x:BitVec 32):BitVec 32:=(x <<< 1) ^^^ (if x.msb then poly else 0#32)
def it:Nat->BitVec 32->BitVec 32
 | 0,x=>x
 | k+1,x=>b1 (it k x)
def up (b:Nat):BitVec 32:=BitVec.ofNat 32 b <<< 24
def nx (s:BitVec 32) (b:UInt8):BitVec 32:=it 8 (s ^^^ up b.toNat)
def run (s:BitVec 32) (l:List UInt8):BitVec 32:=l.foldl nx s
def ng (x:BitVec 32):BitVec 32:= ~~~ x
def crc (l:List UInt8):BitVec 32:=ng (run (ng 0#32) l)
theorem ZtA (x y:BitVec 32):b1 (x ^^^ y)=b1 x ^^^ b1 y:=by
 unfold b1;rw [BitVec.shiftLeft_xor_distrib,BitVec.msb_xor];cases hx:x.msb<;>cases hy:y.msb<;>simp
 ·ac_rfl
 ·ac_rfl
 ·rw [show x <<< 1 ^^^ poly ^^^ (y <<< 1 ^^^ poly)=x <<< 1 ^^^ y <<< 1 ^^^ (poly ^^^ poly) by ac_rfl];simp
theorem ZoJ (k:Nat) (x y:BitVec 32):it k (x ^^^ y)=it k x ^^^ it k y:=by
 induction k with
 | zero=>rfl
 | succ k ih=>simp only [it,ih,ZtA]
theorem ZtB (s:BitVec 32) (k:Nat) (hk:k<=8):it k ((s <<< 8) >>> 8)=((s <<< 8) >>> 8) <<< k:=by
 induction k with
 | zero=>simp [it]
 | succ k ih=>
  simp only [it,ih (by omega),b1]
  have:(((s <<< 8) >>> 8) <<< k).msb=false:=by
   rw [BitVec.msb_eq_getLsbD_last];simp;intro h;omega
  rw [this];simp [<-BitVec.shiftLeft_add]
theorem split (s:BitVec 32):s=((s >>> 24) <<< 24) ^^^ ((s <<< 8) >>> 8):=by
 apply BitVec.eq_of_getLsbD_eq;intro i hi;by_cases h:i<24
 ·simp [h,show 8+i<32 by omega,show i<32 from hi]
 ·have:¬(8+i<32):=by omega
  simp [h,this,hi,show 24+(i-24)=i by omega]
theorem ZtX (s:BitVec 32):((s <<< 8) >>> 8) <<< 8=s <<< 8:=by
 apply BitVec.eq_of_getLsbD_eq;intro i hi;by_cases h:i<8
 ·simp [h]
 ·simp [h,hi,show 8+(i-8)=i by omega]
theorem ZmL (s:BitVec 32) (b:UInt8) (i:Nat) (hi:BitVec.ofNat 32 i=(s >>> 24) ^^^ BitVec.ofNat 32 b.toNat) :
  (s <<< 8) ^^^ it 8 (up i)=nx s b:=by
 unfold nx up;rw [hi,BitVec.shiftLeft_xor_distrib,ZoJ,ZoJ]
 conv=>rhs;rw [split s]
 rw [ZoJ,ZtB s 8 (by omega),ZtX]
 ac_rfl
theorem ZlI (s:BitVec 32) (a:List UInt8) (c:UInt8):run s (a++[c])=nx (run s a) c:=by simp [run,List.foldl_append]
theorem ZdL (a b:BitVec 32):bits BinOp.xor IntKind.u32 (a.toNat:Int) (b.toNat:Int)=((a ^^^ b).toNat:Int):=by
 rw [u32_xor_nat _ _ a.isLt b.isLt,BitVec.toNat_xor]
theorem ZfD (x:BitVec 32):(x.toNat:Int)*(2:Int) % (4294967296:Int)=((x <<< 1).toNat:Int):=by
 simp [BitVec.toNat_shiftLeft,Nat.shiftLeft_eq]
theorem ZlJ (x:BitVec 32):x.msb=true↔2147483648<=x.toNat:=by
 rw [BitVec.msb_eq_decide];simp
theorem ZsJ (x:BitVec 32):bits BinOp.xor IntKind.u32 ((x.toNat:Int)*2 % 4294967296) ((x.toNat:Int) / 2147483648*79764919)=((b1 x).toNat:Int):=by
 have hx:=x.isLt
 have:(x.toNat:Int) / (2147483648:Int)*(79764919:Int)=(((if x.msb then poly else 0#32):BitVec 32).toNat:Int):=by
  by_cases h:x.msb=true
  ·have:=(ZlJ x).1 h;rw [if_pos h];have e:(x.toNat:Int) / 2147483648=1:=by omega
   rw [e];rfl
  ·have h':¬2147483648<=x.toNat:=fun g=>h ((ZlJ x).2 g)
   rw [if_neg h];have e:(x.toNat:Int) / 2147483648=0:=by omega
   rw [e];rfl
 rw [ZfD,this,ZdL];rfl
theorem ZoK (x:BitVec 32) (h:2147483648<=(x.toNat:Int)):bits BinOp.xor IntKind.u32 (((x.toNat:Int)-2147483648)*2) 79764919=((b1 x).toNat:Int):=by
 have hx:=x.isLt;have e:((x.toNat:Int)-(2147483648:Int))*(2:Int)=((x <<< 1).toNat:Int):=by rw [<-ZfD];omega
 have e2:(79764919:Int)=(poly.toNat:Int):=rfl;rw [e,e2,ZdL];unfold b1;rw [if_pos ((ZlJ x).2 (by omega))]
theorem ZoL (x:BitVec 32) (h:(x.toNat:Int)<2147483648):(x.toNat:Int)*(2:Int)=((b1 x).toNat:Int):=by
 unfold b1;rw [if_neg (fun g=>by have:=(ZlJ x).1 g;omega)];simp only [BitVec.xor_zero];rw [<-ZfD];omega
theorem ZoM (b:Nat) (h:b<256):(b:Int)*(16777216:Int)=((up b).toNat:Int):=by
 unfold up;simp [BitVec.toNat_shiftLeft,Nat.shiftLeft_eq];omega
theorem ZtC (X:BitVec 32) (b:UInt8):∃i:Nat,i<256/\bits BinOp.xor IntKind.u8 ((X.toNat:Int) / (16777216:Int)) (b.toNat:Int)=(i:Int)/\BitVec.ofNat 32 i=(X >>> 24) ^^^ BitVec.ofNat 32 b.toNat:=by
 have hX:=X.isLt;have hb:=b.toNat_lt;refine⟨(X.toNat / 16777216) ^^^ b.toNat,Nat.xor_lt_two_pow (n:=8) (by omega) (by omega),?_,?_⟩
 ·rw [show(X.toNat:Int) / (16777216:Int)=((X.toNat / 16777216:Nat):Int) by omega,u8_xor_nat _ _ (by omega) (by omega)]
 ·apply BitVec.eq_of_toNat_eq;rw [BitVec.toNat_xor,BitVec.toNat_ushiftRight,BitVec.toNat_ofNat,BitVec.toNat_ofNat,Nat.shiftRight_eq_div_pow];have h8:(X.toNat / 16777216) ^^^ b.toNat<256:=Nat.xor_lt_two_pow (n:=8) (by omega) (by omega);rw [Nat.mod_eq_of_lt (by omega),Nat.mod_eq_of_lt (by omega:b.toNat<2^32)]
theorem ZoN (x:BitVec 32):(x.toNat:Int)*(256:Int) % (4294967296:Int)=((x <<< 8).toNat:Int):=by
 simp [BitVec.toNat_shiftLeft,Nat.shiftLeft_eq]
theorem ZsK (X:BitVec 32) (b:UInt8) (i:Nat) (hi:BitVec.ofNat 32 i=(X >>> 24) ^^^ BitVec.ofNat 32 b.toNat) :
  bits BinOp.xor IntKind.u32 ((X.toNat:Int)*256 % 4294967296) ((it 8 (up i)).toNat:Int)=((nx X b).toNat:Int):=by
 rw [ZoN,ZdL,ZmL X b i hi]
theorem ZtD (X:BitVec 32) (b:UInt8):bits BinOp.xor IntKind.u32 (X.toNat:Int) ((b.toNat:Int)*16777216)=((X ^^^ up b.toNat).toNat:Int):=by
 rw [ZoM _ b.toNat_lt,ZdL]
theorem ZtE (x:BitVec 32):bits BinOp.xor IntKind.u32 IntKind.u32.max (x.toNat:Int)=((ng x).toNat:Int):=by
 have e:IntKind.u32.max=(((4294967295#32:BitVec 32).toNat:Nat):Int):=by decide
 rw [e,ZdL];congr 2
theorem ZtF (x:BitVec 32):(4294967295:Int)-(x.toNat:Int)=((ng x).toNat:Int):=by
 have:=x.isLt;unfold ng;rw [BitVec.toNat_not];omega
end CrcM
end
section
open Go.RowKit CrcM
theorem bd32 (x:BitVec 32):0<=(x.toNat:Int)/\(x.toNat:Int)<=4294967295:=by have:=x.isLt;omega
theorem ZoO (n:Int) (X:BitVec 32) (hX:n=(X.toNat:Int)) (w:World) :
  Calls Tryz.prog 200 #[.int .u32 n] w fun e w'=>e=.returned (.int .u32 ((it 8 X).toNat:Int))/\w=w':=by
 subst hX;go_enter Tryz.func200,Tryz.ntmps200;go_wp2
 go_loop [0,4] (fun v i=>∃(k:Nat),k<=8/\i=.int .i64 k/\v=.int .u32 ((it k X).toNat:Int)) (fun _ i=>8-(intOf i).toNat)
 case atStart=>exact⟨0,by omega,rfl,rfl⟩
 case round=>
  obtain⟨k,hk,rfl,rfl⟩:=hrel;obtain⟨hb0,hb1⟩:=bd32 (it k X);by_cases hlt:k<8
  ·go_wp2
   go_round
   case rel=>exact⟨k+1,by omega,by go_num,by rw [ZsJ];rfl⟩
   case measure=>simp [intOf];omega
  ·obtain rfl:k=8:=by omega
   go_wp2;go_ret;exact⟨rfl,rfl⟩
theorem Zgb (n:Int) (X:BitVec 32) (hX:n=(X.toNat:Int)) (w:World) :
  Calls Tryz.prog 144 #[.int .u32 n] w fun e w'=>e=.returned (.int .u32 ((it 8 X).toNat:Int))/\w=w':=by
 subst hX;go_enter Tryz.func144,Tryz.ntmps144;go_wp2
 go_loop [0,3] (fun v i=>∃(k:Nat),k<=8/\i=.int .i64 k/\v=.int .u32 ((it k X).toNat:Int)) (fun _ i=>8-(intOf i).toNat)
 case atStart=>exact⟨0,by omega,rfl,rfl⟩
 case round=>
  obtain⟨k,hk,rfl,rfl⟩:=hrel;obtain⟨hb0,hb1⟩:=bd32 (it k X);by_cases hlt:k<8
  ·by_cases hh:2147483648<=((it k X).toNat:Int)
   ·go_wp2
    go_round
    case rel=>exact⟨k+1,by omega,by go_num,by rw [ZoK _ hh];rfl⟩
    case measure=>simp [intOf];omega
   ·go_wp2
    go_round
    case rel=>exact⟨k+1,by omega,by go_num,by rw [ZoL _ (by omega)];rfl⟩
    case measure=>simp [intOf];omega
  ·obtain rfl:k=8:=by omega
   go_wp2;go_ret;exact⟨rfl,rfl⟩
def IsTable (w:World) (B:Nat):Prop:=∀i,i<256->w.cell? ⟨B,i,none⟩=some (.int .u32 ((it 8 (up i)).toNat:Int))
theorem Zkb (B:Nat) (X:BitVec 32) (b:UInt8) (w:World) (hT:IsTable w B) :
  Calls Tryz.prog 201 #[.pointer (some ⟨B,0,none⟩),.int .u32 (X.toNat:Int),.int .u8 (b.toNat:Int)] w fun e w'=>e=.returned (.int .u32 ((nx X b).toNat:Int))/\w=w':=by
 have hb:(b.toNat:Int)<256:=by have:=b.toNat_lt;omega
 obtain⟨hb0,hb1⟩:=bd32 X;obtain⟨i,hi,hidx,hbv⟩:=ZtC X b;have hc:=hT i hi;have hi2:(i:Int)<256:=by omega
 have HV:=zh hbv;clear hbv hT;go_enter Tryz.func201,Tryz.ntmps201;go_wp2;go_ret;rw [ZsK X b i HV.out];exact⟨rfl,rfl⟩
theorem Zkc (X:BitVec 32) (b:UInt8) (w:World) :
  Calls Tryz.prog 83 #[.int .u32 (X.toNat:Int),.int .u8 (b.toNat:Int)] w fun e w'=>e=.returned (.int .u32 ((nx X b).toNat:Int))/\w=w':=by
 have hb:(b.toNat:Int)<256:=by have:=b.toNat_lt;omega
 go_enter Tryz.func83,Tryz.ntmps83;go_wp2_with fail;refine(Zgb _ (X ^^^ up b.toNat) (ZtD X b) _).mono ?_;rintro e w' ⟨rfl,rfl⟩;go_wp2_with fail;go_ret;exact⟨rfl,rfl⟩
theorem ZiO (s:ByteArray) (k:Nat) (h:k<s.size):s.data.toList.take (k+1)=s.data.toList.take k++[s[k]]:=by
 rw [List.take_succ_eq_append_getElem (by simpa using h)];rfl
theorem Zkd (B:Nat) (X:BitVec 32) (s:ByteArray) (w:World) (hT:IsTable w B) (hs:s.size<=maxLen) :
  Calls Tryz.prog 140 #[.pointer (some ⟨B,0,none⟩),.int .u32 (X.toNat:Int),.string s] w fun e w'=>e=.returned (.int .u32 ((ng (run (ng X) s.data.toList)).toNat:Int))/\w=w':=by
 unfold maxLen at hs;have HT:=zh hT;clear hT;have hsig:IntKind.u32.signed=false:=rfl;have hng:=ZtE;go_enter Tryz.func140,Tryz.ntmps140;go_wp2_with fail
 go_loop [7,8,13] (fun v _ i=>∃k:Nat,k<=s.size/\i=.int .i64 k/\v=.int .u32 ((run (ng X) (s.data.toList.take k)).toNat:Int)) (fun _ _ i=>s.size-(intOf i).toNat)
 case atStart=>exact⟨0,by omega,rfl,rfl⟩
 case round=>
  obtain⟨k,hk,rfl,rfl⟩:=hrel;by_cases hlt:k<s.size
  ·have hsn:=zh (ZiO s k hlt);go_wp2_with fail;refine(Zkb B (run (ng X) (s.data.toList.take k)) s[k] w HT.out).mono ?_;rintro e w' ⟨rfl,rfl⟩;go_wp2_with fail
   go_round
   case rel=>exact⟨k+1,by omega,by go_num,by rw [hsn.out,ZlI]⟩
   case measure=>simp [intOf];omega
  ·obtain rfl:k=s.size:=by omega
   go_wp2_with fail;go_ret;rw [List.take_of_length_le (by simp)];exact⟨rfl,rfl⟩
theorem ZiP (s:ByteArray) (w:World) (hs:s.size<=maxLen) :
  Calls Tryz.prog 38 #[.string s] w fun e w'=>e=.returned (.int .u32 ((crc s.data.toList).toNat:Int))/\w=w':=by
 unfold maxLen at hs;go_enter Tryz.func38,Tryz.ntmps38;go_wp2_with fail
 go_loop [3,4] (fun v i=>∃k:Nat,k<=s.size/\i=.int .i64 k/\v=.int .u32 ((run (ng 0#32) (s.data.toList.take k)).toNat:Int)) (fun _ i=>s.size-(intOf i).toNat)
 case atStart=>exact⟨0,by omega,rfl,rfl⟩
 case round=>
  obtain⟨k,hk,rfl,rfl⟩:=hrel;obtain⟨hb0,hb1⟩:=bd32 (run (ng 0#32) (s.data.toList.take k));by_cases hlt:k<s.size
  ·have hsn:=zh (ZiO s k hlt);go_wp2_with fail;refine(Zkc (run (ng 0#32) (s.data.toList.take k)) s[k] w).mono ?_;rintro e w' ⟨rfl,rfl⟩;go_wp2_with fail
   go_round
   case rel=>exact⟨k+1,by omega,by go_num,by rw [hsn.out,ZlI]⟩
   case measure=>simp [intOf];omega
  ·obtain rfl:k=s.size:=by omega
   go_wp2_with fail;go_ret;rw [List.take_of_length_le (by simp)];rw [ZtF];exact⟨rfl,rfl⟩
def tabArr:Array Value:=Array.ofFn (n:=256) fun i=>.int .u32 ((it 8 (up i)).toNat:Int)
theorem ZbA:tabArr.size=256:=by simp [tabArr]
theorem ZgG (i:Nat) (h:i<256):tabArr[i]?=some (.int .u32 ((it 8 (up i)).toNat:Int)):=by
 simp [tabArr,h]
theorem ZoP (cs:Array Value) (hs:cs.size=256) (h:∀i,i<256->cs[i]?=some (.int .u32 ((it 8 (up i)).toNat:Int))):cs=tabArr:=by
 apply Array.ext_getElem?;intro i;by_cases hi:i<256
 ·rw [h i hi,ZgG i hi]
 ·rw [Array.getElem?_eq_none (by omega),Array.getElem?_eq_none (by rw [ZbA];omega)]
theorem Zet:tabArr.all (·.oneCell')=true:=by
 rw [Array.all_eq_true];intro i h;simp [tabArr,Value.oneCell']
theorem ZoQ:Tryz.zeroCells193.size=256:=by kernel_rfl
theorem ZlK:(Tryz.prog.info? 193).map (·.size)=some tabArr.size:=by rw [ZbA];kernel_rfl
def Filled (N k:Nat) (w wr:World):Prop:=
 Below N w wr/\wr.heap.size=N+2/\wr.heap[N]?=some (.cells Tryz.zeroCells193 193 (0,0))/\∃cs,wr.heap[N+1]?=some (.cells cs 193 (0,0))/\cs.size=256/\∀i,i<k->cs[i]?=some (.int .u32 ((it 8 (up i)).toNat:Int))
theorem Filled.start (w:World):Filled w.heap.size 0 w ((w.alloc (.cells Tryz.zeroCells193 193)).alloc (.cells Tryz.zeroCells193 193)):=
 ⟨((Below.refl _ _).alloc (Nat.le_refl _) _).alloc (by simp) _,by simp,heap_alloc2_old _ _ _,Tryz.zeroCells193,heap_alloc2_new _ _ _,ZoQ,fun i h=>by omega⟩
theorem Filled.cell {N k:Nat} {w wr:World} (h:Filled N k w wr) (hk:k<256):∃v,wr.cell? ⟨N+1,k,none⟩=some v/\wr.frozen? ⟨N+1,k,none⟩=false:=by
 obtain⟨_,_,_,cs,hc,hs,_⟩:=h;refine⟨cs[k],?_,frozen_of_row wr _ k cs 193 hc⟩;rw [cell_of_row wr _ k cs 193 _ hc];simp [hs,hk]
theorem Filled.step {N k:Nat} {w wr:World} (h:Filled N k w wr) (hk:k<256):Filled N (k+1) w (wr.setCell ⟨N+1,k,none⟩ (.int .u32 ((it 8 (up k)).toNat:Int))):=by
 obtain⟨hb,hz,h0,cs,hc,hs,hi⟩:=h;refine⟨hb.setCell (by simp) _,by simpa [World.setCell] using hz,?_,cs.setIfInBounds k (.int .u32 ((it 8 (up k)).toNat:Int)),heap_setCell_same wr _ k cs 193 _ hc,by simpa using hs,?_⟩
 ·rw [heap_setCell_other wr _ N _ (by simp)];exact h0
 ·intro i hi';rw [Array.getElem?_setIfInBounds];by_cases e:k=i
  ·subst e;simp [hs,hk]
  ·simp [e];exact hi i (by omega)
theorem ZoR (w:World)  :
  Calls Tryz.prog 139 #[] w fun e w'=>e=.returned (.agg tabArr)/\Below w.heap.size w w':=by
 have hstart:=Filled.start w;go_enter Tryz.func139,Tryz.ntmps139;go_wp2_with fail
 go_loopw [2,3] (fun _ i wr=>∃k:Nat,k<=256/\i=.int .i64 k/\Filled w.heap.size k w wr) (fun _ i _=>256-(intOf i).toNat)
 case atStart=>exact⟨0,by omega,rfl,hstart⟩
 case round=>
  clear hstart;obtain⟨k,hk,rfl,hF⟩:=hrel;by_cases hlt:k<256
  ·obtain⟨v,hv,hfr⟩:=hF.cell hlt;have hk2:(k:Int)<256:=by omega
   go_wp2_with fail;refine(ZoO _ (up k) (ZoM k hlt) _).mono ?_;rintro e w' ⟨rfl,rfl⟩;go_wp2_with fail;go_roundw
   case rel=>exact⟨k+1,by omega,by go_num,hF.step hlt⟩
   case measure=>simp [intOf];omega
  ·obtain rfl:k=256:=by omega
   obtain⟨hb,hz,h0,cs,hc,hs,hi⟩:=hF;obtain rfl:=ZoP cs hs hi;have hT:tabArr.size=256:=ZbA;go_wp2_with (first|(refine wpList_load_row rfl 193 _ rfl (w.heap.size+1) rfl 193 tabArr (0,0) _ hc Tryz.underlying193 rfl ZlK ?_)|(refine wpList_store_row rfl 193 _ _ rfl w.heap.size tabArr rfl rfl 193 Tryz.zeroCells193 h0 ZlK (ZoQ.trans ZbA.symm) Zet ?_));refine bodyPost_ret (v:=.agg tabArr) (results_cell_row rfl _ _ w.heap.size 193 tabArr (0,0) _ rfl (setRow_heap wr _ Tryz.zeroCells193 tabArr 193 _ h0) Tryz.underlying193 rfl ZlK) rfl ⟨rfl,?_⟩;exact hb.trans ⟨rfl,rfl,rfl,by simp [World.setRow],fun j hj=>setRow_other wr _ j _ (by omega)⟩
theorem ZoS (s:ByteArray) (w:World) (hs:s.size<=maxLen) :
  Calls Tryz.prog 78 #[.string s] w fun e w'=>e=.returned (.int .u32 ((crc s.data.toList).toNat:Int))/\Below w.heap.size w w':=by
 have h0:(0:Int)=((0#32:BitVec 32).toNat:Int):=rfl;have H0:=zh h0;clear h0;go_enter Tryz.func78,Tryz.ntmps78;go_wp2_with fail;refine(ZoR _).mono ?_;rintro e w1 ⟨rfl,hb⟩;have hg:(w1.alloc (.cells Tryz.zeroCells193 193)).heap[w1.heap.size]?=some (.cells Tryz.zeroCells193 193 (0,0)):=heap_alloc_new _ _;go_wp2_with (refine wpList_store_row rfl 193 _ _ rfl w1.heap.size tabArr rfl rfl 193 Tryz.zeroCells193 hg ZlK (ZoQ.trans ZbA.symm) Zet ?_)
 have hT:IsTable ((w1.alloc (.cells Tryz.zeroCells193 193)).setRow w1.heap.size tabArr) w1.heap.size:=fun i hi=>by
  rw [cell_of_row _ _ i tabArr 193 _ (setRow_heap _ _ _ _ 193 _ hg)];exact ZgG i hi
 rw [H0.out];refine(Zkd w1.heap.size 0#32 s _ hT hs).mono ?_;rintro e w' ⟨rfl,rfl⟩;have hz:=hb.size
 have hB:Below w.heap.size w ((w1.alloc (.cells Tryz.zeroCells193 193)).setRow w1.heap.size tabArr):=
  (hb.alloc hz _).trans ⟨rfl,rfl,rfl,by simp [World.setRow],fun j hj=>setRow_other _ _ j _ (by omega)⟩
 have HB:=zh hB;clear hg hT hb hB hz;go_wp2_with fail;go_ret;exact⟨rfl,HB.out⟩
end
section
namespace BwtM
open Go.RowKit
def bt (T:List UInt8) (i:Nat):Nat:=(T.getD (i % T.length) 0).toNat
theorem ZqX (T:List UInt8) {i:Nat} (h:i<T.length):bt T i=(T.getD i 0).toNat:=by unfold bt;rw [Nat.mod_eq_of_lt h]
def eqH (T:List UInt8) (H i k:Nat):Prop:=∀t,t<H->bt T (i+t)=bt T (k+t)
def ltH (T:List UInt8) (H i k:Nat):Prop:=∃t,t<H/\eqH T t i k/\bt T (i+t)<bt T (k+t)
theorem eqH.symm {T:List UInt8} {H i k:Nat} (h:eqH T H i k):eqH T H k i:=fun t ht=>(h t ht).symm
end BwtM
end
section
namespace BwtM
open Go.RowKit
end BwtM
end
section
namespace SrtM
open Go.RowKit BwtM
def passS (n:Nat):Nat:=if h:n<2 then 1 else 1+passS (n / 2)+passS (n-n / 2)+n / 2+n
termination_by n
decreasing_by all_goals omega
def mrg (K:Nat->Nat) (l r:List Nat):List Nat:=List.merge l r (fun a b=>decide (K a<=K b))
theorem ZoV (K:Nat->Nat) (r:List Nat):mrg K [] r=r:=by simp [mrg]
theorem ZtG {K:Nat->Nat} {a b:Nat} (l r:List Nat) (h:¬K a<=K b):mrg K (a::l) (b::r)=b::mrg K (a::l) r:=by simp [mrg,h]
theorem ZqY (K:Nat->Nat) (l r:List Nat):(mrg K l r).Perm (l++r):=List.merge_perm_append ..
theorem ZmM (K:Nat->Nat) (l r:List Nat):(mrg K l r).length=l.length+r.length:=by rw [(ZqY K l r).length_eq,List.length_append]
structure MrgAt (K:Nat->Nat) (X Y:List Nat) (f s:Nat):Prop where
 fl:f<=X.length
 sl:s<=Y.length
 eq:(mrg K X Y).drop (f+s)=mrg K (X.drop f) (Y.drop s)
theorem ZoW {M:List Nat} {j a:Nat} {R:List Nat} (h:M.drop j=a::R):M.getD j 0=a/\M.drop (j+1)=R:=by
 have hj:j<M.length:=by
  have:=congrArg List.length h;rw [List.length_drop] at this;simp at this;omega
 rw [List.drop_eq_getElem_cons hj] at h;obtain⟨h1,h2⟩:=List.cons.inj h;exact⟨by rw [List.getD_eq_getElem?_getD,List.getElem?_eq_getElem hj];exact h1,h2⟩
theorem ZoX {X:List Nat} {f:Nat} (h:f<X.length):X.drop f=X.getD f 0::X.drop (f+1):=by
 rw [List.getD_eq_getElem?_getD,List.getElem?_eq_getElem h];exact List.drop_eq_getElem_cons h
theorem MrgAt.second {K:Nat->Nat} {X Y:List Nat} {f s:Nat} (h:MrgAt K X Y f s) (hs:s<Y.length) (hc:f=X.length\/¬K (X.getD f 0)<=K (Y.getD s 0)):(mrg K X Y).getD (f+s) 0=Y.getD s 0/\MrgAt K X Y f (s+1):=by
 have he:=h.eq
 have h2:mrg K (X.drop f) (Y.drop s)=Y.getD s 0::mrg K (X.drop f) (Y.drop (s+1)):=by
  rw [ZoX hs];by_cases e:f=X.length
  ·rw [e,List.drop_length,ZoV,ZoV]
  ·have hf:f<X.length:=by have:=h.fl;omega
   rw [ZoX hf];exact ZtG _ _ (hc.resolve_left e)
 rw [h2] at he;obtain⟨e1,e2⟩:=ZoW he;exact⟨e1,h.fl,by omega,by rw [show f+(s+1)=f+s+1 by omega];exact e2⟩
structure Part where
 lo:Nat
 hi:Nat
 begun:Bool
def Part.mid (p:Part):Nat:=(p.lo+p.hi) / 2
def Part.cost (p:Part):Nat:=if p.begun then(p.hi-p.lo) / 2+(p.hi-p.lo) else passS (p.hi-p.lo)
def costs (stk:List Part):Nat:=(stk.map Part.cost).sum
end SrtM
end
section
namespace SrtM
open Go.RowKit BwtM
def KeyH (T:List UInt8) (H:Nat) (K:Nat->Nat):Prop:=∀i k,i<T.length->k<T.length->(K i<K k↔ltH T H i k)
def SortH (T:List UInt8) (H:Nat) (P:List Nat):Prop:=P.Perm (List.range T.length)/\P.Pairwise (fun i k=>ltH T H i k\/(eqH T H i k/\i<k))
def cN (K:Nat->Nat) (P:List Nat):Nat->Nat
 | 0=>0
 | j+1=>if K (P.getD (j+1) 0)=K (P.getD j 0) then cN K P j else cN K P j+1
def NumAt (K:Nat->Nat) (P C:List Nat) (m:Nat):Prop:=∀j,j<m->C.getD (P.getD j 0) 0=cN K P j
def bytesBy (r:Nat):Nat:=if r=0 then 1 else 2*r
def Unlike (T:List UInt8) (H:Nat):Prop:=∀i k,i<T.length->k<T.length->i≠k->¬eqH T H i k
def Ends (T:List UInt8) (r:Nat):Prop:=Unlike T (bytesBy r)\/T.length<=r
inductive Rem (T:List UInt8):Nat->Nat->Prop
 | done {r:Nat}:Ends T r->Rem T r 0
 | more {r m:Nat}:¬Ends T r->Rem T (bytesBy r) m->Rem T r (m+1)
def each (n:Nat):Nat:=passS n+n
end SrtM
end
section
namespace SrtM
open Go.RowKit BwtM
structure SS where
 ord:List Nat
 cls:List Nat
 asd:List Nat
 reach:Nat
 ps:List Part
 laid:Nat
 first:Nat
 second:Nat
 made:Nat
 steps:Nat
def segX (A:List Nat) (p:Part):List Nat:=(A.drop p.lo).take (p.mid-p.lo)
def segY (A:List Nat) (p:Part):List Nat:=(A.drop p.mid).take (p.hi-p.mid)
structure Num (T:List UInt8) (K:Nat->Nat) (S:SS) (m R:Nat):Prop where
 stk:S.ps=[]
 zero:S.laid=0/\S.first=0/\S.second=0
 ord:SortH T (bytesBy S.reach) S.ord
 num:NumAt K S.ord S.asd S.made
 made:S.made<=T.length
 rem:Rem T S.reach m
 left:R+S.made=T.length+each T.length*m
theorem ZiS (ps:List Part) (p:Part):costs (ps++[p])=costs ps+p.cost:=by unfold costs;simp
end SrtM
end
section
namespace SrtM
open Go.RowKit BwtM
theorem ZcK (X:List Nat) (m j:Nat):(X.drop m).getD j 0=X.getD (m+j) 0:=by
 rw [List.getD_eq_getElem?_getD,List.getElem?_drop,List.getD_eq_getElem?_getD]
section
variable {T : List UInt8} {K : Nat -> Nat} {S S' : SS} {ps : List Part} {p : Part} {A : List Nat} {m R : Nat}
end
end SrtM
end
section
open Go.RowKit BwtM
theorem ZrO (s:ByteArray) {k:Nat} (h:k<s.size):(s[k].toNat:Int)=(bt s.data.toList k:Int):=by
 have hl:k<s.data.toList.length:=by simpa using h
 rw [ZqX _ hl,List.getD_eq_getElem?_getD,List.getElem?_eq_getElem hl];simp [ByteArray.getElem_eq_getElem_data]
theorem ZoY (s:ByteArray):s.data.toList.length=s.size:=by simp
end
section
open Go.RowKit BwtM SrtM PkM
def pcells (p:Part):List Value:=[.int .i64 (p.lo:Int),.int .i64 (p.hi:Int),.bool p.begun]
def pflat (ps:List Part):List Value:=ps.flatMap pcells
def SOwnP (W:World) (B:Nat) (v:Value) (ps:List Part):Prop:=W.ownsRow B 308 3 v ps.length (pflat ps)
theorem SOwnP.nil (W:World) (B:Nat):SOwnP W B (.slice none 0 0) []:=World.ownsRow_nil _ _ _ _
theorem SOwnP.lt {W:World} {B:Nat} {v:Value} {ps:List Part} (h:SOwnP W B v ps):∀k,v.ownBlock=some k->B<=k/\k<W.heap.size:=World.ownsRow.lt h
theorem SOwnP.same {W W':World} {B:Nat} {v:Value} {ps:List Part} (h:SOwnP W B v ps) (he:∀k,v.ownBlock=some k->W'.heap[k]?=W.heap[k]?):SOwnP W' B v ps:=Zah h he
def KeyV (w:World) (vk:Value) (kb:List Nat) (bc n:Nat) (C:List Nat) (K:Nat->Nat):Prop:=
 ∃(F:FuncId) (caps:Array Value),vk=.func (.func F) #[] caps/\(∀args w,(callFunc F args).run Tryz.prog w=.ok (.enter F args) w) /\
  ∀w',(∀g∈kb,w'.heap[g]?=w.heap[g]?)->RowI w' bc (toI C)->∀i,i<n->Calls Tryz.prog F (#[.int .i64 (i:Int)]++caps) w' fun e w''=>e=.returned (.int .i64 (K i:Int))/\∃m,w''=w'.drewN m
structure SoF (F:Nat->Value) (bo bc ba n:Nat) (vk vw:Value) (S:SS):Prop where
 f0:F 0=.slice (some ⟨bo,0,none⟩) n n
 f1:F 1=.slice (some ⟨bc,0,none⟩) n n
 f2:F 2=.slice (some ⟨ba,0,none⟩) n n
 f3:F 3=.int .i64 (S.reach:Int)
 f4:F 4=vk
 f5:F 5=vw
 f6:F 6=.int .i64 (S.laid:Int)
 f7:F 7=.int .i64 (S.first:Int)
 f8:F 8=.int .i64 (S.second:Int)
 f9:F 9=.int .i64 (S.made:Int)
 f10:F 10=.int .i64 (S.steps:Int)
def SoObj (w:World) (b bo bc ba n:Nat) (vk vw:Value) (S:SS):Prop:=∃F,ObjF 11 276 w b F/\SoF F bo bc ba n vk vw S
structure IsSo (B:Nat) (w:World) (b bo bc ba:Nat) (vk vw:Value) (n:Nat) (kb:List Nat) (S:SS):Prop where
 obj:SoObj w b bo bc ba n vk vw S
 ro:RowI w bo (toI S.ord)
 rc:RowI w bc (toI S.cls)
 ra:RowI w ba (toI S.asd)
 lo:S.ord.length=n
 lc:S.cls.length=n
 la:S.asd.length=n
 wt:SOwnP w B vw S.ps
 apart:b≠bo/\b≠bc/\b≠ba/\bo≠bc/\bo≠ba/\bc≠ba
 wap:∀k,vw.ownBlock=some k->k≠b/\k≠bo/\k≠bc/\k≠ba
 base:B<=b/\B<=bo/\B<=bc/\B<=ba
 kap:∀g∈kb,g<w.heap.size/\g≠b/\g≠bo/\g≠bc/\g≠ba/\vw.ownBlock≠some g
section
variable {B : Nat} {w w' : World} {b bo bc ba n : Nat} {vk vw : Value} {kb : List Nat} {S S' : SS}
theorem SoObj.cells (h:SoObj w b bo bc ba n vk vw S) :
  w.cell? ⟨b,0,none⟩=some (.slice (some ⟨bo,0,none⟩) n n)/\w.cell? ⟨b,1,none⟩=some (.slice (some ⟨bc,0,none⟩) n n)/\w.cell? ⟨b,2,none⟩=some (.slice (some ⟨ba,0,none⟩) n n)/\w.cell? ⟨b,3,none⟩=some (.int .i64 (S.reach:Int)) /\
  w.cell? ⟨b,4,none⟩=some vk/\w.cell? ⟨b,5,none⟩=some vw/\w.cell? ⟨b,6,none⟩=some (.int .i64 (S.laid:Int))/\w.cell? ⟨b,7,none⟩=some (.int .i64 (S.first:Int))/\w.cell? ⟨b,8,none⟩=some (.int .i64 (S.second:Int)) /\
  w.cell? ⟨b,9,none⟩=some (.int .i64 (S.made:Int))/\w.cell? ⟨b,10,none⟩=some (.int .i64 (S.steps:Int)):=by
 obtain⟨F,h1,h2⟩:=h;refine⟨?_,?_,?_,?_,?_,?_,?_,?_,?_,?_,?_⟩
 ·rw [(h1.cell (i:=0) (by omega)).1,h2.f0]
 ·rw [(h1.cell (i:=1) (by omega)).1,h2.f1]
 ·rw [(h1.cell (i:=2) (by omega)).1,h2.f2]
 ·rw [(h1.cell (i:=3) (by omega)).1,h2.f3]
 ·rw [(h1.cell (i:=4) (by omega)).1,h2.f4]
 ·rw [(h1.cell (i:=5) (by omega)).1,h2.f5]
 ·rw [(h1.cell (i:=6) (by omega)).1,h2.f6]
 ·rw [(h1.cell (i:=7) (by omega)).1,h2.f7]
 ·rw [(h1.cell (i:=8) (by omega)).1,h2.f8]
 ·rw [(h1.cell (i:=9) (by omega)).1,h2.f9]
 ·rw [(h1.cell (i:=10) (by omega)).1,h2.f10]
theorem SoObj.frozen (h:SoObj w b bo bc ba n vk vw S) (i:Nat) (hi:i<11):w.frozen? ⟨b,i,none⟩=false:=by
 obtain⟨F,h1,h2⟩:=h;exact(h1.cell hi).2
theorem SoObj.lt (h:SoObj w b bo bc ba n vk vw S):b<w.heap.size:=by
 obtain⟨F,h1,h2⟩:=h;exact h1.lt
theorem SoObj.other (h:SoObj w b bo bc ba n vk vw S) {X:Nat->Prop} (ht:Touch X w w') (hX:¬X b):SoObj w' b bo bc ba n vk vw S:=by
 obtain⟨F,h1,h2⟩:=h;exact⟨F,h1.other ht hX,h2⟩
theorem SoObj.set10 (h:SoObj w b bo bc ba n vk vw S) (x:Nat):SoObj (w.setCell ⟨b,10,none⟩ (.int .i64 (x:Int))) b bo bc ba n vk vw { S with steps:=x }:=by
 obtain⟨F,h1,h2⟩:=h;exact⟨_,h1.set 10 _,(Zab _ _ (by omega)).trans h2.f0,(Zab _ _ (by omega)).trans h2.f1,(Zab _ _ (by omega)).trans h2.f2,(Zab _ _ (by omega)).trans h2.f3,(Zab _ _ (by omega)).trans h2.f4,(Zab _ _ (by omega)).trans h2.f5,(Zab _ _ (by omega)).trans h2.f6,(Zab _ _ (by omega)).trans h2.f7,(Zab _ _ (by omega)).trans h2.f8,(Zab _ _ (by omega)).trans h2.f9,Zak _ _ _⟩
theorem IsSo.own (h:IsSo B w b bo bc ba vk vw n kb S) (ht:Touch (·=b) w w') (ho:SoObj w' b bo bc ba n vk vw S') (h1:S'.ord=S.ord) (h2:S'.cls=S.cls) (h3:S'.asd=S.asd) (h4:S'.ps=S.ps):IsSo B w' b bo bc ba vk vw n kb S':=by
 obtain⟨a1,a2,a3,a4,a5,a6⟩:=h.apart
 exact⟨ho,by rw [h1];exact h.ro.other ht (fun e=>a1 e.symm),by rw [h2];exact h.rc.other ht (fun e=>a2 e.symm),by rw [h3];exact h.ra.other ht (fun e=>a3 e.symm),by rw [h1];exact h.lo,by rw [h2];exact h.lc,by rw [h3];exact h.la,
  by rw [h4];exact h.wt.same (fun k hk=>ht.block k (h.wt.lt k hk).2 (h.wap k hk).1),h.apart,h.wap,h.base,fun g hg=>⟨Nat.lt_of_lt_of_le (h.kap g hg).1 ht.size,(h.kap g hg).2⟩⟩
theorem IsSo.below (h:IsSo B w b bo bc ba vk vw n kb S) (ht:Below w.heap.size w w'):IsSo B w' b bo bc ba vk vw n kb S:=by
 have t:=Touch.ofBelow (S:=fun _=>False) ht;exact⟨h.obj.other t (fun e=>e),h.ro.other t (fun e=>e),h.rc.other t (fun e=>e),h.ra.other t (fun e=>e),h.lo,h.lc,h.la,h.wt.same (fun k hk=>t.block k (h.wt.lt k hk).2 (fun e=>e)),h.apart,h.wap,h.base,fun g hg=>⟨Nat.lt_of_lt_of_le (h.kap g hg).1 ht.size,(h.kap g hg).2⟩⟩
theorem IsSo.inOrd (h:IsSo B w b bo bc ba vk vw n kb S) (ht:Touch (·=bo) w w') (l:List Nat) (hl:l.length=n) (hr:RowI w' bo (toI l)):IsSo B w' b bo bc ba vk vw n kb { S with ord:=l }:=by
 obtain⟨a1,a2,a3,a4,a5,a6⟩:=h.apart;obtain⟨F,o1,o2⟩:=h.obj
 exact⟨⟨F,o1.other ht (fun e=>a1 e),⟨o2.f0,o2.f1,o2.f2,o2.f3,o2.f4,o2.f5,o2.f6,o2.f7,o2.f8,o2.f9,o2.f10⟩⟩,hr,h.rc.other ht (fun e=>a4 e.symm),h.ra.other ht (fun e=>a5 e.symm),hl,h.lc,h.la,h.wt.same (fun k hk=>ht.block k (h.wt.lt k hk).2 (h.wap k hk).2.1),h.apart,h.wap,h.base,
  fun g hg=>⟨Nat.lt_of_lt_of_le (h.kap g hg).1 ht.size,(h.kap g hg).2⟩⟩
end
end
section
open Go.RowKit BwtM
end
section
open Go.RowKit BwtM SrtM PkM
section
variable {B : Nat} {b bo bc ba n : Nat} {vk vw : Value} {kb : List Nat} {S : SS}
theorem ZoZ (d:Nat) (W:World):(Op.equalIn (d+1) 78 .nilFunc .nilFunc).run Tryz.prog W=.ok true W:=by
 have hu:=Tryz.underlying78;simp [Op.equalIn,run_underlying hu]
theorem ZsM (W:World):(binOp .eql 78 .nilFunc .nilFunc).run Tryz.prog W=.ok (.bool true) W:=by
 simp only [binOp];simp [Op.equal,Op.maxDepth,ZoZ 9999 W]
theorem Zo0 (w:World) (h:SoObj w b bo bc ba n .nilFunc vw S):Calls Tryz.prog 154 #[.pointer (some ⟨b,0,none⟩)] w fun e w'=>e=.returned (.bool true)/\w'=w:=by
 obtain⟨_,_,_,_,c4,_⟩:=h.cells;have he:=fun W=>ZsM W
 go_enter Tryz.func154,Tryz.ntmps154;go_wp2_with fail;go_ret;exact⟨rfl,rfl⟩
theorem Zo1 (w:World) (h:SoObj w b bo bc ba n vk vw S) (hn:n<=1000000):Calls Tryz.prog 152 #[.pointer (some ⟨b,0,none⟩)] w fun e w'=>e=.returned (.int .i64 ((3*n:Nat):Int))/\∃m,w'=w.drewN m:=by
 obtain⟨c0,c1,c2,_⟩:=h.cells;obtain⟨q,hq⟩:∃q,n+n=q:=⟨_,rfl⟩
 obtain⟨r,hr⟩:∃r,3*n=r:=⟨_,rfl⟩
 have h1:(n:Int)+(n:Int)=(q:Int):=by omega
 have h2:(q:Int)+(n:Int)=(r:Int):=by omega
 have h3:IntKind.i64.wrap (q:Int)=(q:Int):=IntWalk.i64_in _ (by omega);have h4:IntKind.i64.wrap (r:Int)=(r:Int):=IntWalk.i64_in _ (by omega);rw [hr];clear hq hr h;go_enter Tryz.func152,Tryz.ntmps152;go_wp2_with fail
 go_quiet (fail)
 go_wp2_with fail;go_ret;exact⟨rfl,_,rfl⟩
end
end
section
open Go.RowKit BwtM SrtM PkM
section
variable {B : Nat} {b bo bc ba n : Nat} {vk vw : Value} {kb : List Nat} {S : SS}
structure Pushed (w w':World) (v v':Value):Prop where
 os:w'.os=w.os
 tape:w'.tape=w.tape
 output:w'.output=w.output
 size:w.heap.size<=w'.heap.size
 block:∀k,k<w.heap.size->v.ownBlock≠some k->w'.heap[k]?=w.heap[k]?
 own:∀k,v'.ownBlock=some k->v.ownBlock=some k\/w.heap.size<=k
end
section
variable {B : Nat} {b bo bc ba n : Nat} {vk vw : Value} {kb : List Nat} {S : SS}
end
end
section
open Go.RowKit BwtM SrtM PkM
section
variable {B : Nat} {b bo bc ba n : Nat} {vk vw : Value} {kb : List Nat} {S : SS}
end
end
section
open Go.RowKit BwtM SrtM PkM
section
variable {B : Nat} {b bo bc ba n : Nat} {vk vw : Value} {kb : List Nat} {S : SS}
end
end
section
open Go.RowKit BwtM SrtM PkM
end
section
open Go.RowKit BwtM PkM
def RkP (N:Nat) (P:List Nat) (L:List Int):Prop:=P.Nodup/\(∀x∈P,x<N)/\L.length=N/\∀p,p<N->L.getD p 0=if p∈P then(P.idxOf p:Int) else -1
theorem RkP.some {N:Nat} {P:List Nat} {L:List Int} {x:Nat} (h:RkP N P L) (hx:x<N) (hn:L.getD x 0≠-1):x∈P:=by
 by_cases hm:x∈P
 ·exact hm
 ·exact absurd (by rw [h.2.2.2 x hx,if_neg hm]) hn
end
section
open Go.RowKit BwtM SrtM PkM
section
variable {B : Nat} {b bo bc ba n : Nat} {vk vw : Value} {kb : List Nat} {S : SS}
end
end
section
open Go.RowKit BwtM SrtM PkM
section
variable {B : Nat} {b bo bc ba n : Nat} {vk vw : Value} {kb : List Nat} {S : SS}
end
end
section
open Go.RowKit BwtM SrtM PkM
section
variable {B : Nat} {b bo bc ba n : Nat} {vk vw : Value} {kb Z : List Nat} {S : SS}
theorem ZiU (B:Nat) (w:World) (k:Nat):Below B w (w.drewN k):=⟨rfl,rfl,rfl,Nat.le_refl _,fun _ _=>rfl⟩
end
end
section
open Go.RowKit BwtM SrtM PkM
section
variable {B : Nat} {b bo bc ba n : Nat} {vk vw : Value} {kb Z : List Nat} {S : SS}
end
end
section
open Go.RowKit BwtM SrtM PkM
section
variable {B : Nat} {b bo bc ba n : Nat} {vk vw : Value} {kb Z : List Nat} {S : SS}
end
end
section
open Go.RowKit BwtM SrtM PkM
section
variable {B : Nat} {b n : Nat} {Z : List Nat}
end
end
section
open Go.RowKit BwtM SrtM PkM
def StepsOf (T:List UInt8) (R:Nat):Prop:=(T.length<2/\R=0)\/(2<=T.length/\∃m,Rem T 0 m/\R=each T.length*(m+1))
def zeroS (n j:Nat):SS:={ ord:=List.range j++List.replicate (n-j) 0,cls:=List.replicate n 0,asd:=List.replicate n 0,reach:=0,ps:=[],laid:=0,first:=0,second:=0,made:=0,steps:=0 }
theorem ZmN {n j:Nat} (h:j<n):(List.range j++List.replicate (n-j) 0).set j j=List.range (j+1)++List.replicate (n-(j+1)) 0:=by
 rw [List.set_append_right _ _ (by rw [List.length_range];exact Nat.le_refl _),List.length_range,Nat.sub_self,show n-j=(n-(j+1))+1 by omega,List.replicate_succ,List.set_cons_zero,List.range_succ,List.append_assoc];rfl
theorem Zhw (w:World) (g n:Nat) (h:w.heap[g]?=some (.cells (madeCells #[.int .i64 0] n) 3)):RowI w g (toI (List.replicate n 0)):=by
 unfold RowI;rw [h];congr 2;apply Array.toList_inj.1;rw [toList_madeCells_one];simp [toI,iv64]
theorem ZgH (w:World) (n bo bc ba:Nat) (h1:w.heap.size<=bo/\bo<=w.heap.size+2) (h2:w.heap.size<=bc/\bc<=w.heap.size+2) (h3:w.heap.size<=ba/\ba<=w.heap.size+2) (h4:bo≠bc/\bo≠ba/\bc≠ba) :
  IsSo w.heap.size (((((w.alloc (.cells (madeCells #[.int .i64 0] n) 3)).alloc (.cells (madeCells #[.int .i64 0] n) 3)).alloc (.cells (madeCells #[.int .i64 0] n) 3)).alloc (.cells #[.slice (some ⟨bo,0,none⟩) n n,.slice (some ⟨bc,0,none⟩) n n,.slice (some ⟨ba,0,none⟩) n n,.int .i64 0,.nilFunc,.slice none 0 0,.int .i64 0,.int .i64 0,.int .i64 0,.int .i64 0,.int .i64 0] 276)).drew) (w.heap.size+1+1+1) bo bc ba .nilFunc (.slice none 0 0) n [] (zeroS n 0)/\Below w.heap.size w (((((w.alloc (.cells (madeCells #[.int .i64 0] n) 3)).alloc (.cells (madeCells #[.int .i64 0] n) 3)).alloc (.cells (madeCells #[.int .i64 0] n) 3)).alloc (.cells #[.slice (some ⟨bo,0,none⟩) n n,.slice (some ⟨bc,0,none⟩) n n,.slice (some ⟨ba,0,none⟩) n n,.int .i64 0,.nilFunc,.slice none 0 0,.int .i64 0,.int .i64 0,.int .i64 0,.int .i64 0,.int .i64 0] 276)).drew):=by
 obtain⟨o1,ho1⟩:∃o1:Obj,o1=.cells (madeCells #[.int .i64 0] n) 3:=⟨_,rfl⟩
 obtain⟨o2,ho2⟩:∃o2:Obj,o2=.cells #[.slice (some ⟨bo,0,none⟩) n n,.slice (some ⟨bc,0,none⟩) n n,.slice (some ⟨ba,0,none⟩) n n,.int .i64 0,.nilFunc,.slice none 0 0,.int .i64 0,.int .i64 0,.int .i64 0,.int .i64 0,.int .i64 0] 276:=⟨_,rfl⟩
 rw [<-ho1,<-ho2];have z1:(w.alloc o1).heap.size=w.heap.size+1:=by simp
 have z2:((w.alloc o1).alloc o1).heap.size=w.heap.size+1+1:=by simp
 have z3:(((w.alloc o1).alloc o1).alloc o1).heap.size=w.heap.size+1+1+1:=by simp
 have z4:((((w.alloc o1).alloc o1).alloc o1).alloc o2).drew.heap.size=w.heap.size+1+1+1+1:=by show((((w.alloc o1).alloc o1).alloc o1).alloc o2).heap.size=_;simp
 have a1:=heap_alloc_new w o1;have a2:=heap_alloc_new (w.alloc o1) o1;have a3:=heap_alloc_new ((w.alloc o1).alloc o1) o1;have a4:=heap_alloc_new (((w.alloc o1).alloc o1).alloc o1) o2;rw [z1] at a2;rw [z2] at a3;rw [z3] at a4
 have r:∀k,w.heap.size<=k->k<=w.heap.size+2->((((w.alloc o1).alloc o1).alloc o1).alloc o2).drew.heap[k]?=some o1:=by
  intro k hk1 hk2;show((((w.alloc o1).alloc o1).alloc o1).alloc o2).heap[k]?=some o1;rw [Zam (by omega)];rcases(by omega:k=w.heap.size\/k=w.heap.size+1\/k=w.heap.size+1+1) with e|e|e
  ·rw [e,Zam (by omega),Zam (by omega),a1]
  ·rw [e,Zam (by omega),a2]
  ·rw [e,a3]
 have hB:Below w.heap.size w ((((w.alloc o1).alloc o1).alloc o1).alloc o2).drew:=by
  have:=((((Below.refl w.heap.size w).alloc (Nat.le_refl _) o1).alloc (by omega) o1).alloc (by omega) o1).alloc (by omega) o2;exact⟨this.os,this.tape,this.output,this.size,this.block⟩
 refine⟨⟨⟨fun k=>([.slice (some ⟨bo,0,none⟩) n n,.slice (some ⟨bc,0,none⟩) n n,.slice (some ⟨ba,0,none⟩) n n,.int .i64 0,.nilFunc,.slice none 0 0,.int .i64 0,.int .i64 0,.int .i64 0,.int .i64 0,.int .i64 0]:List Value).getD k undef,?_,⟨rfl,rfl,rfl,rfl,rfl,rfl,rfl,rfl,rfl,rfl,rfl⟩⟩,?_,?_,?_,?_,?_,?_,SOwnP.nil _ _,⟨by omega,by omega,by omega,h4⟩,fun k hk=>(by cases hk),⟨by omega,h1.1,h2.1,h3.1⟩,fun g hg=>(by cases hg)⟩,hB⟩
 ·show((((w.alloc o1).alloc o1).alloc o1).alloc o2).heap[w.heap.size+1+1+1]?=_;rw [a4,ho2];rfl
 ·show RowI _ bo (toI (List.range 0++List.replicate (n-0) 0));rw [Nat.sub_zero];exact Zhw _ _ _ ((r bo h1.1 h1.2).trans (by rw [ho1]))
 ·exact Zhw _ _ _ ((r bc h2.1 h2.2).trans (by rw [ho1]))
 ·exact Zhw _ _ _ ((r ba h3.1 h3.2).trans (by rw [ho1]))
 ·show(List.range 0++List.replicate (n-0) 0).length=n;simp
 ·show(List.replicate n 0).length=n;simp
 ·show(List.replicate n 0).length=n;simp
theorem ZcW {B:Nat} {wr:World} {b bo bc ba n j:Nat} (h:IsSo B wr b bo bc ba .nilFunc (.slice none 0 0) n [] (zeroS n j)) (hj:j<n) :
  IsSo B (wr.setCell ⟨bo,j,none⟩ (.int .i64 (j:Int))) b bo bc ba .nilFunc (.slice none 0 0) n [] (zeroS n (j+1))/\Below B wr (wr.setCell ⟨bo,j,none⟩ (.int .i64 (j:Int))):=by
 have hr:=(h.ro.cell (i:=j) (by rw [toI_length,h.lo];exact hj)).2.2 (j:Int)
 have e:(toI (zeroS n j).ord).set j (j:Int)=toI (zeroS n (j+1)).ord:=by
  show(toI (List.range j++List.replicate (n-j) 0)).set j (j:Int)=toI (List.range (j+1)++List.replicate (n-(j+1)) 0);rw [<-ZmN hj];unfold toI;rw [List.map_set]
 rw [e] at hr;exact⟨h.inOrd (Zaa (Touch.refl _ _)) (zeroS n (j+1)).ord (by show(List.range (j+1)++List.replicate (n-(j+1)) 0).length=n;rw [List.length_append,List.length_range,List.length_replicate];omega) hr,(Below.refl B wr).setCell (p:=⟨bo,j,none⟩) h.base.2.1 _⟩
theorem ZsN (n:Nat):(zeroS n n).ord=List.range n:=by
 show List.range n++List.replicate (n-n) 0=_;rw [Nat.sub_self];simp
end
end Go.Proofs.YtnachbjhhpnadaaGreatDoor

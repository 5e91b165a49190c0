import Derived.Test.YtnachbjhhpnadaaGreatDoorBcA
import Derived.Test.YtnachbjhhpnadaaGreatDoorBcB
import Derived.Test.YtnachbjhhpnadaaGreatDoorBcC
import Derived.Test.YtnachbjhhpnadaaGreatDoorBcD
import Derived.Test.YtnachbjhhpnadaaGreatDoorBcE
import Derived.Test.YtnachbjhhpnadaaGreatDoorBcF
import Derived.Test.YtnachbjhhpnadaaGreatDoorBcG
import Derived.Test.YtnachbjhhpnadaaGreatDoorBcH
import Derived.Test.YtnachbjhhpnadaaGreatDoorBcI
import Derived.Test.YtnachbjhhpnadaaGreatDoorBcJ
import Derived.Test.YtnachbjhhpnadaaGreatDoorBcK
import Derived.Test.YtnachbjhhpnadaaGreatDoorBcL
import Derived.Test.YtnachbjhhpnadaaGreatDoorBcM
import Derived.Test.YtnachbjhhpnadaaGreatDoorBcN
import Derived.Test.YtnachbjhhpnadaaGreatDoorBcO
import Derived.Test.YtnachbjhhpnadaaGreatDoorBcP
import Derived.Test.YtnachbjhhpnadaaGreatDoorBcQ
import Derived.Test.YtnachbjhhpnadaaGreatDoorBcR
import Derived.Test.YtnachbjhhpnadaaGreatDoorBcS
import Derived.Test.YtnachbjhhpnadaaGreatDoorBcT
import Derived.Test.YtnachbjhhpnadaaGreatDoorBcU
import Derived.Test.YtnachbjhhpnadaaGreatDoorBnA
import Derived.Test.YtnachbjhhpnadaaGreatDoorBnB
import Derived.Test.YtnachbjhhpnadaaGreatDoorBnC
import Derived.Test.YtnachbjhhpnadaaGreatDoorBnD
import Derived.Shelf.Strconv.Itoa0
import Derived.StillTailTactics
import Derived.BigQuiet
import Derived.Laws.OwnMore
import Derived.Laws.AppendOwnNone
import Derived.Lib.SliceRun
import Derived.Deep.AppendSrc
import Derived.Deep.Upon
import Derived.Laws.EntriesVeiled
import Derived.Deep.RegionHeld3
import Derived.WalkKit
import Derived.Lib.BytesEntry
import Derived.Lib.IndexLaws
import Derived.BigRegion
import Derived.IntWalk
import Derived.Deep.RegionLaw
import Derived.Shelf.Abstract
import Derived.Laws.CopyRow
import Derived.Deep.Cut
import Derived.Deep.LoopGhost
import Derived.Lib.BufferWrite
import Derived.Laws.StandIn
import Derived.Test.YtnachbjhhpnadaaGreatDoorProg
import Derived.Shelf.Strings.Builder1
import Derived.Shelf.Strings.Builder2
import Derived.Shelf.Strings.BuilderF
import Derived.Shelf.Strings.BuilderK
import Derived.Shelf.Strings.Builder2Cap
import Derived.Shelf.Strings.BuilderCap
import Derived.ChangeKeysEq
import Derived.Laws.BitsAllLaws
import Derived.WalkMore
import Derived.Deep.QuietTactic
import Derived.Outline
import Derived.Test.YtnachbjhhpnadaaGreatDoorRows
import Derived.WalkSpells
import Derived.WalkLawsBesides
import Derived.Lib.Hide
set_option linter.unusedVariables false
set_option linter.unusedSimpArgs false
set_option maxHeartbeats 8000000
set_option maxRecDepth 100000
namespace Go.Proofs.YtnachbjhhpnadaaGreatDoor
end Go.Proofs.YtnachbjhhpnadaaGreatDoor
namespace Go.Proofs
open Go.Shelf
end Go.Proofs
namespace Go.Proofs.YtnachbjhhpnadaaGreatDoor
section
open Go.RowKit
theorem Zv5 (x:Nat) (w:World) (hx:x<=1099511627776):Calls Tryz.prog 253 #[.int .u64 (x:Int)] w fun e w'=>e=.returned (.int .i64 (Lib.bitLen x:Int))/\w'=w:=by
 have h:=Any.bits_Len64 Tryz.lays129 (x:Int) w (by omega) (by omega);rw [Int.toNat_natCast] at h;exact h
theorem ZwE (x:Nat) (w:World) (hx:x<=1099511627776):Calls Tryz.prog 214 #[.int .u64 (x:Int)] w fun e w'=>e=.returned (.int .i64 (Lib.bitLen x:Int))/\w'=w:=by
 go_enter Tryz.func214,Tryz.ntmps214;go_wp2_with fail;refine(Zv5 x w hx).mono ?_;rintro e w' ⟨rfl,rfl⟩;go_wp2_with fail;go_ret;exact⟨rfl,rfl⟩
end
section
open Go.RowKit BwtM SrtM PkM
def mostB (N:Nat):Nat:=Lib.bitLen (min N 1099511627776-1)
def mostN (N:Nat):Nat:=if N<2 then 0 else min (min N 1099511627776*((4+3*mostB N)*(mostB N+2))) 1099511627776
theorem Zwp (N:Nat):mostB N<=40:=by
 have e:(2:Nat)^40=1099511627776:=by decide
 exact Lib.bitLen_le _ 40 (by omega) (by rw [e];omega)
theorem ZqZ (N:Nat):mostN N<=1099511627776:=by
 unfold mostN;split<;>omega
theorem Zv6 (n:Int) (w:World) (h1:-9223372036854775808<=n) (h2:n<=9223372036854775807):Calls Tryz.prog 157 #[.int .i64 n] w fun e w'=>e=.returned (.int .i64 (mostN n.toNat:Int))/\w'=w:=by
 by_cases hn:n<2
 ·have e:mostN n.toNat=0:=by unfold mostN;rw [if_pos (by omega)]
  rw [e];go_enter Tryz.func157,Tryz.ntmps157;go_wp2_with fail;go_ret;exact⟨rfl,rfl⟩
 ·obtain⟨N,rfl⟩:∃N:Nat,n=(N:Int):=⟨n.toNat,by omega⟩
  rw [Int.toNat_natCast];obtain⟨m,hm⟩:∃m,min N 1099511627776=m:=⟨_,rfl⟩
  obtain⟨m1,hm1⟩:∃m1,m-1=m1:=⟨_,rfl⟩
  obtain⟨b,hb⟩:∃b,Lib.bitLen m1=b:=⟨_,rfl⟩
  have hbe:mostB N=b:=by unfold mostB;rw [hm,hm1,hb]
  have hb40:b<=40:=by rw [<-hbe];exact Zwp N
  have hmm:2<=m/\m<=1099511627776:=by omega
  have HC:Hid (Calls Tryz.prog 214 #[.int .u64 (m1:Int)] w fun e w'=>e=.returned (.int .i64 (b:Int))/\w'=w):=zh (by rw [<-hb];exact ZwE m1 w (by omega));have hm1i:(m:Int)-1=(m1:Int):=by omega
  have hm1w:IntKind.i64.wrap (m1:Int)=(m1:Int):=IntWalk.i64_in _ (by omega);have hm1u:IntKind.u64.wrap (m1:Int)=(m1:Int):=by simp [IntKind.wrap,IntKind.bits,IntKind.signed];omega
  obtain⟨c3,hc3⟩:∃c3,3*b=c3:=⟨_,rfl⟩
  have hc3i:(3:Int)*(b:Int)=(c3:Int):=by omega
  obtain⟨c,hc⟩:∃c,4+c3=c:=⟨_,rfl⟩
  have hci:(4:Int)+(c3:Int)=(c:Int):=by omega
  obtain⟨e2,he2⟩:∃e2,b+2=e2:=⟨_,rfl⟩
  have he2i:(b:Int)+2=(e2:Int):=by omega
  obtain⟨d,hd⟩:∃d,m*c=d:=⟨_,rfl⟩
  have hdi:(m:Int)*(c:Int)=(d:Int):=by rw [<-hd,Int.natCast_mul]
  have hdl:d<=1099511627776*124:=by rw [<-hd];exact Nat.mul_le_mul hmm.2 (by omega)
  obtain⟨f,hf⟩:∃f,d*e2=f:=⟨_,rfl⟩
  have hfi:(d:Int)*(e2:Int)=(f:Int):=by rw [<-hf,Int.natCast_mul]
  have hfl:f<=1099511627776*124*42:=by rw [<-hf];exact Nat.mul_le_mul hdl (by omega)
  have hcw:IntKind.i64.wrap (c:Int)=(c:Int):=IntWalk.i64_in _ (by omega);have hc3w:IntKind.i64.wrap (c3:Int)=(c3:Int):=IntWalk.i64_in _ (by omega);have he2w:IntKind.i64.wrap (e2:Int)=(e2:Int):=IntWalk.i64_in _ (by omega);have hdw:IntKind.i64.wrap (d:Int)=(d:Int):=IntWalk.i64_in _ (by omega);have hfw:IntKind.i64.wrap (f:Int)=(f:Int):=IntWalk.i64_in _ (by omega)
  have hres:mostN N=min f 1099511627776:=by
   unfold mostN;rw [if_neg (by omega),hm,hbe,hc3,hc,he2,<-Nat.mul_assoc,hd,hf]
  obtain⟨r,hr⟩:∃r,min f 1099511627776=r:=⟨_,rfl⟩
  rw [hres,hr];have hN2:¬(N:Int)<2:=hn;have hmin1:min (N:Int) 1099511627776=(m:Int):=by omega
  have hmin2:min (f:Int) 1099511627776=(r:Int):=by omega
  clear hd hf hc hc3 he2 hb hm1 hres hbe hm hr;go_enter Tryz.func157,Tryz.ntmps157;go_wp2_with fail;refine HC.out.mono ?_;rintro e w' ⟨rfl,rfl⟩;go_wp2_with fail;go_ret;exact⟨rfl,rfl⟩
theorem ZsO {n:Nat} (hn:2<=n) (h2:n<=1099511627776):n<=2^mostB n:=by
 have e40:(2:Nat)^40=1099511627776:=by decide
 have h:=(Zke 40 (min n 1099511627776-1) (by omega) (by omega)).1;have e:Lib.bitLen (min n 1099511627776-1)=mostB n:=rfl;rw [e] at h;omega
theorem StepsOf.most {T:List UInt8} {R:Nat} (h:StepsOf T R) (hn:T.length<=1024):R<=mostN T.length/\R<=500000:=by
 have e10:(2:Nat)^10=1024:=by decide
 have h10:R<=T.length*(4+3*10)*(10+2):=h.le (by rw [e10];exact hn);have hR:R<=500000:=by omega
 refine⟨?_,hR⟩;rcases h with⟨h1,rfl⟩|⟨h1,hm⟩
 ·exact Nat.zero_le _
 ·have:=StepsOf.le (Or.inr ⟨h1,hm⟩:StepsOf T R) (ZsO h1 (by omega));unfold mostN;rw [if_neg (by omega),Nat.min_eq_left (by omega:T.length<=1099511627776),<-Nat.mul_assoc];omega
section
variable {B : Nat} {b n : Nat} {Z : List Nat}
theorem SoSt.ord {T:List UInt8} {w:World} {st:Nat} (h:SoSt B w b n T Z st 0) (hT:T.length=n):∃bo P,w.cell? ⟨b,0,none⟩=some (.slice (some ⟨bo,0,none⟩) n n)/\IsInts w (.slice (some ⟨bo,0,none⟩) n n) (toI P)/\ZlG T P/\P.length=n:=by
 obtain⟨bo,bc,ba,vk,vw,kb,S,h1,h2,h3⟩:=h;rcases h3 with⟨_,hs,_⟩|⟨K,_,_,_,hd⟩
 ·exact⟨bo,S.ord,h1.obj.cells.1,h1.ro.ints n n (by rw [toI_length,h1.lo]),hs,h1.lo⟩
 ·have:=hd.pos0 hT;omega
theorem ZvI {T:List UInt8} (w:World) {st:Nat} (h:SoSt B w b n T Z st 0) (hT:T.length=n) (hn:n<=900000):Calls Tryz.prog 155 #[.pointer (some ⟨b,0,none⟩)] w fun e w'=>(∃v P,e=.returned v/\OwnI w' w.heap.size v (toI P)/\ZlG T P)/\Below w.heap.size w w':=by
 have HD:=zh (h.done hT);obtain⟨bo,P,d0,hi,hs,hl⟩:=h.ord hT;have HC:=zh (ZdH bo 0 n n (toI P) w hi (by rw [toI_length];omega));have HS:=zh hs;clear h hi hs hT;go_enter Tryz.func155,Tryz.ntmps155;go_wp2_with fail;refine HD.out.mono ?_;rintro e w2 ⟨rfl,rfl⟩;go_wp2_with fail;refine HC.out.mono ?_;rintro e w3 ⟨v,rfl,hO,hB⟩;have HO:=zh hO;have HB:=zh hB;clear hO hB;go_wp2_with fail;go_ret;exact⟨⟨v,P,rfl,HO.out,HS.out⟩,HB.out⟩
theorem SoSt.held {T:List UInt8} {w:World} {st R:Nat} (h:SoSt B w b n T Z st R) (hn:n<=900000):Calls Tryz.prog 152 #[.pointer (some ⟨b,0,none⟩)] w fun e w'=>e=.returned (.int .i64 ((3*n:Nat):Int))/\∃m,w'=w.drewN m:=by
 obtain⟨bo,bc,ba,vk,vw,kb,S,h1,h2,h3⟩:=h;exact Zo1 w h1.obj (by omega)
end
end
section
open Go.RowKit BwtM SrtM PkM
section
variable {B : Nat} {w w' : World} {t : Nat} {s : ByteArray} {sp ov vw : Value} {held og st : Nat} {zs : List Int} {l : List UInt8}
end
section
variable {B : Nat} {w w' : World} {t : Nat} {s : ByteArray} {sp ov vw : Value} {held og st : Nat} {zs : List Int} {l : List UInt8}
end
end
section
open Go.RowKit BwtM SrtM PkM
theorem Zv7 (P:List Nat):∀k,orgN P k<=k
 | 0=>Nat.le_refl _
 | k+1=>by
  unfold orgN;have:=Zv7 P k;split<;>omega
section
variable {B : Nat} {t : Nat} {s : ByteArray} {sp : Value} {held st : Nat}
theorem ZvJ (w:World) (q:Nat) (vw:Value) (l:List UInt8) (og:Nat) (h:IsTu B w t s sp held [] l og st (.slice none 0 0) vw) (hq:q<=9223372036854775807) (hb:B<=w.heap.size) :
  Calls Tryz.prog 156 #[.pointer (some ⟨t,0,none⟩),.int .i64 (q:Int)] w fun e w'=>e=.returned (.int .i64 0)/\IsTu B w' t s sp held [] l og st (.slice none 0 0) vw/\Touch (·=t) w w':=by
 obtain⟨c0,_,_,c3,_⟩:=h.obj.cells;have e3:=h.obj.frozen 3 (by omega);have hmin:min (q:Int) 0=0:=by omega
 have HF:Hid (IsTu B (w.setCell ⟨t,3,none⟩ (.slice none 0 0)) t s sp held [] l og st (.slice none 0 0) vw):=zh (h.own (Zaa (Touch.refl _ _)) (h.obj.set3 _));have HT:Hid (Touch (·=t) w (w.setCell ⟨t,3,none⟩ (.slice none 0 0))):=zh (Zaa (Touch.refl _ _));clear h;go_enter Tryz.func156,Tryz.ntmps156;go_wp2_with fail
 go_loopw [22] (fun vj wr=>vj=.int .i64 0/\wr=w) (fun _ _=>0)
 case atStart=>exact⟨rfl,rfl⟩
 case round=>
  obtain⟨rfl,rfl⟩:=hrel;go_wp2_with fail;go_ret;exact⟨rfl,HF.out,HT.out⟩
end
end
section
open Go.RowKit BwtM SrtM PkM
def TuSt (B:Nat) (w:World) (t n:Nat) (s:ByteArray) (R:Nat) (P:List Nat) (g:Nat):Prop:=
 ((g<R\/(g=0/\R=0))/\∃b,SoSt B w b n s.data.toList [t] g (R-g)/\IsTu B w t s (.pointer (some ⟨b,0,none⟩)) (3*n) [] [] 0 g (.slice none 0 0) (.slice none 0 0)) \/
 (R<=g/\g<=R+n/\∃bo off nn cap vw,IsTu B w t s (.pointer none) (3*n) (toI (P.drop (g-R))) (lastN s.data.toList P (g-R)) (orgN P (g-R)) g (.slice (some ⟨bo,off,none⟩) nn cap) vw/\P.length-(g-R)=nn/\nn<=cap/\cap<=9223372036854775807)
structure Srtd (s:ByteArray) (n R:Nat) (P:List Nat):Prop where
 size:s.size=n
 pos:0<n
 le:n<=1024
 ord:ZlG s.data.toList P
 steps:StepsOf s.data.toList R
theorem Srtd.len {s:ByteArray} {n R:Nat} {P:List Nat} (h:Srtd s n R P):P.length=n/\s.data.toList.length=n/\(∀p∈P,p<n)/\R<=500000:=by
 have hl:s.data.toList.length=n:=(ZoY s).trans h.size;refine⟨by rw [h.ord.1.length_eq,List.length_range,hl],hl,fun p hp=>?_,(h.steps.most (by rw [hl];exact h.le)).2⟩;have:=List.mem_range.1 (h.ord.1.mem_iff.1 hp);omega
def BStepP (B:Nat) (w w':World) (t n:Nat) (s:ByteArray) (R:Nat) (P:List Nat) (g a:Nat) (e:Ending):Prop:=
 e=.returned (.int .i64 (a:Int))/\TuSt B w' t n s R P (g+a)/\Below B w w'
section
variable {B t n R g : Nat} {s : ByteArray} {P : List Nat}
theorem ZvK (w:World) (k:Int) (h:t<w.heap.size) (hk:k<1):Calls Tryz.prog 95 #[.pointer (some ⟨t,0,none⟩),.int .i64 k] w fun e w'=>e=.returned (.int .i64 0)/\w'=w:=by
 go_enter Tryz.func95,Tryz.ntmps95;go_wp2_with fail;go_ret;exact⟨rfl,rfl⟩
theorem ZvL (w:World) (k:Nat) (bo off nn cap:Nat) (vw:Value) (hs:Srtd s n R P) (hg:R<=g) (hg2:g<=R+n) (h:IsTu B w t s (.pointer none) (3*n) (toI (P.drop (g-R))) (lastN s.data.toList P (g-R)) (orgN P (g-R)) g (.slice (some ⟨bo,off,none⟩) nn cap) vw) (hn:P.length-(g-R)=nn) (hc1:nn<=cap) (hc2:cap<=9223372036854775807) (hk1:1<=k) (hk:k<=9223372036854775807) (hb:B<=w.heap.size) :
  Calls Tryz.prog 95 #[.pointer (some ⟨t,0,none⟩),.int .i64 (k:Int)] w fun e w'=>BStepP B w w' t n s R P g (min k (R+n-g)) e:=by
 obtain⟨hl1,hl2,hl3,hl4⟩:=hs.len;have hn1:=hs.le;have hsz:=hs.size;have hmin:min k nn=min k (R+n-g):=by rw [<-hn,hl1,show n-(g-R)=R+n-g by omega]
 have HT:=zh (Zo4 w P (g-R) k bo off cap nn vw h (by rw [hsz];exact hl3) (by omega) hn hc1 hc2 (by omega) (by omega) hk hb);rw [hmin] at HT;obtain⟨a,ha⟩:∃a,min k (R+n-g)=a:=⟨_,rfl⟩
 rw [ha] at HT ⊢;have hab:a<=R+n-g:=by omega
 obtain⟨c0,c1,_,_,_,_,c6⟩:=h.obj.cells;have HG:=zh (And.intro hg hg2);have hkg:g<=600000:=by omega
 have HL1:=zh hl1;have hkk:(1:Int)<=(k:Int):=by omega
 have HBT:=zh h.base;clear h hmin ha hl2 hl3 hn hs;go_enter Tryz.func95,Tryz.ntmps95;go_wp2_with fail;refine(ZvV _ _).mono ?_;rintro e w1 ⟨rfl,rfl⟩;go_wp2_with fail;refine(ZvU _).mono ?_;rintro e w2 ⟨rfl,rfl⟩;go_wp2_with fail;refine HT.out.mono ?_;rintro e w3 ⟨rfl,b2,o2,n2,c2,vw3,h3,hk3,hB3⟩;have HK3:=zh hk3;have H3:=zh h3;have HB3:=zh hB3;obtain⟨_,_,_,_,_,_,d6⟩:=h3.obj.cells;have e6:=h3.obj.frozen 6 (by omega);clear h3 hB3 hk3;obtain⟨ga,hga⟩:∃ga,g+a=ga:=⟨_,rfl⟩
 have hgai:(g:Int)+(a:Int)=(ga:Int):=by omega
 have hgaw:IntKind.i64.wrap (ga:Int)=(ga:Int):=IntWalk.i64_in _ (by omega)
 have HR:Hid (BStepP B w2 (w3.setCell ⟨t,6,none⟩ (.int .i64 (ga:Int))) t n s R P g a (.returned (.int .i64 (a:Int)))):=zh (by
  have h4:=H3.out.own (Zaa (i:=6) (Touch.refl _ _)) (H3.out.obj.set6 ga);have hGG:=HG.out;have e1:g-R+a=ga-R:=by omega
  rw [e1] at h4;refine⟨rfl,?_,HB3.out.setCell (p:=⟨t,6,none⟩) HBT.out _⟩;rw [hga];refine Or.inr ⟨by omega,by omega,?_⟩;have hk3:=HK3.out;rw [e1] at hk3;exact⟨b2,o2,n2,c2,vw3,h4,hk3⟩)
 clear hga;go_wp2_with fail;go_ret;exact HR.out
theorem Zvx (w:World) (k b:Nat) (hs:Srtd s n R P) (hg:g<R\/(g=0/\R=0)) (hS:SoSt B w b n s.data.toList [t] g (R-g)) (h:IsTu B w t s (.pointer (some ⟨b,0,none⟩)) (3*n) [] [] 0 g (.slice none 0 0) (.slice none 0 0)) (hk1:1<=k) (hk:k<=9223372036854775807) (hb:B<=w.heap.size) :
  Calls Tryz.prog 95 #[.pointer (some ⟨t,0,none⟩),.int .i64 (k:Int)] w fun e w'=>BStepP B w w' t n s R P g (min k (R+n-g)) e:=by
 obtain⟨hl1,hl2,hl3,hl4⟩:=hs.len;have hn1:=hs.le;have hsz:=hs.size;have hpos:=hs.pos;have HST:=zh (Zv4 s.data.toList w g (R-g) k hS hl2 (Or.inl hpos) (by omega) (by omega) (by omega) hk hb);obtain⟨a,ha⟩:∃a,min k (R-g)=a:=⟨_,rfl⟩
 rw [ha] at HST;obtain⟨c0,c1,_,_,_,_,c6⟩:=h.obj.cells;have H:=zh h;have HBT:=zh h.base;have HL1:=zh hl1;have HL2:=zh hl2;have HORD:=zh hs.ord;have HP:=zh hl3;have HSZ:=zh hsz;have hkg:g<=600000:=by omega
 have hkk:(1:Int)<=(k:Int):=by omega
 have HAE:=zh ha;have HGR:=zh hg;obtain⟨k2,hk2⟩:∃k2,k-a=k2:=⟨_,rfl⟩
 have hak:a<=k:=by omega
 have hk2i:(k:Int)-(a:Int)=(k2:Int):=by omega
 have hk2w:IntKind.i64.wrap (k2:Int)=(k2:Int):=IntWalk.i64_in _ (by omega);have HK2:=zh hk2;have hab:a<=R-g:=by omega
 clear h hS ha hl1 hl2 hl3 hs hsz hk2 hg;go_enter Tryz.func95,Tryz.ntmps95;go_wp2_with fail;refine HST.out.mono ?_;rintro e w1 ⟨rfl,hS1,hB1,hZ1⟩;have HS1:=zh hS1;have HB1:=zh hB1
 have H1:Hid (IsTu B w1 t s (.pointer (some ⟨b,0,none⟩)) (3*n) [] [] 0 g (.slice none 0 0) (.slice none 0 0)):=zh (by
  obtain⟨F,o1,o2⟩:=H.out.obj;exact⟨⟨F,(hZ1 t (by simp)).trans o1,o2⟩,IsInts.nil _,OwnY.nil _ _,fun e=>(by cases e),fun j hj=>(by cases hj),H.out.base,fun j hj=>(by cases hj),Or.inl rfl⟩)
 have HD:=zh (hS1.done HL2.out);obtain⟨d0,d1,_,d3,_,_,d6⟩:=H1.out.obj.cells;have e1:=H1.out.obj.frozen 1 (by omega);have e3:=H1.out.obj.frozen 3 (by omega);have HZ:=zh hS1.zlt;clear hS1 hB1 hZ1;by_cases hfin:R-g-a=0
 ·rw [show(R-g-a==0)=true by rw [beq_iff_eq];exact hfin] at HD;have HS1f:Hid (SoSt B w1 b n s.data.toList [t] (g+a) 0):=zh (by have:=HS1.out;rw [hfin] at this;exact this);have HOR:=zh (ZvI w1 HS1f.out HL2.out (by omega));go_wp2_with fail;refine HD.out.mono ?_;rintro e w2 ⟨rfl,rfl⟩;go_wp2_with fail;refine HOR.out.mono ?_;rintro e w3 ⟨⟨v,P2,rfl,hO,hso⟩,hB3⟩;obtain rfl:P2=P:=hso.same HORD.out;have HO:=zh hO;have hzl:(toI P2).length=n:=by rw [toI_length];exact HL1.out
  obtain⟨bo,cap,hve,hc1,hc2⟩:=ZsP hO (by rw [hzl];exact hpos);rw [hzl] at hve hc1;subst hve;have H3:=zh (H1.out.below hB3);have HB3:=zh (HB1.out.trans (hB3.mono (Nat.le_trans hb HB1.out.size)));obtain⟨d0,d1,_,d3,_,_,d6⟩:=H3.out.obj.cells;have e1:=H3.out.obj.frozen 1 (by omega);have e3:=H3.out.obj.frozen 3 (by omega);have e6:=H3.out.obj.frozen 6 (by omega);have HBO:Hid (w2.heap.size<=bo/\bo<w3.heap.size):=zh (hO.lt bo rfl)
  have HT5:Hid (IsTu B ((w3.setCell ⟨t,3,none⟩ (.slice (some ⟨bo,0,none⟩) n cap)).setCell ⟨t,1,none⟩ (.pointer none)) t s (.pointer none) (3*n) (toI (P2.drop 0)) (lastN s.data.toList P2 0) (orgN P2 0) g (.slice (some ⟨bo,0,none⟩) n cap) (.slice none 0 0)):=zh (by
   have hlt:=H1.out.obj.lt;have hbo:=HBO.out;have h4:=H3.out.setRow (ov':=.slice (some ⟨bo,0,none⟩) n cap) (zs':=toI P2) HO.out.ints (fun e=>by simp [Value.ownBlock] at e;omega) (fun j hj=>by cases hj) (fun j hj=>by simp [Value.ownBlock] at hj;omega) (Or.inr ⟨bo,0,n,cap,rfl,hc1,hc2⟩);have h5:=h4.own (Zaa (i:=1) (Touch.refl _ _)) (h4.obj.set1 (.pointer none));exact h5)
  have HB5:Hid (Below B w ((w3.setCell ⟨t,3,none⟩ (.slice (some ⟨bo,0,none⟩) n cap)).setCell ⟨t,1,none⟩ (.pointer none))):=zh ((HB3.out.setCell (p:=⟨t,3,none⟩) HBT.out _).setCell (p:=⟨t,1,none⟩) HBT.out _);clear hO hso hB3 hzl;go_wp2_with fail;generalize (w3.setCell ⟨t,3,none⟩ (.slice (some ⟨bo,0,none⟩) n cap)).setCell ⟨t,1,none⟩ (.pointer none)=w5 at *;have HTK:=zh (Zo4 w5 P2 0 k2 bo 0 cap n (.slice none 0 0) HT5.out (by rw [HSZ.out];exact HP.out) (Nat.zero_le _) (by rw [HL1.out];omega) hc1 hc2 (by rw [HL1.out];omega) (by rw [HSZ.out];omega) (by omega) (Nat.le_trans hb HB5.out.size));obtain⟨g2,hg2⟩:∃g2,min k2 n=g2:=⟨_,rfl⟩
  rw [hg2] at HTK;refine HTK.out.mono ?_;rintro e w6 ⟨rfl,b6,o6,n6,c6,v6,h6,hk6,hB6⟩;have H6:=zh h6;have HK6:=zh hk6;have HB6:=zh (HB5.out.trans hB6);obtain⟨_,_,_,_,_,_,d6⟩:=h6.obj.cells;have e6:=h6.obj.frozen 6 (by omega);obtain⟨tt,htt⟩:∃tt,a+g2=tt:=⟨_,rfl⟩
  have httm:min k (R+n-g)=tt:=by
   have h1:=HAE.out;have h2:=HK2.out;have h3:=HGR.out;omega
  have HTT:Hid (min k (R+n-g)=tt/\g+tt-R=g2/\R<=g+tt/\g+tt<=R+n):=zh (by
   have h3:=HGR.out;omega)
  have htti:(a:Int)+(g2:Int)=(tt:Int):=by omega
  have httw:IntKind.i64.wrap (tt:Int)=(tt:Int):=IntWalk.i64_in _ (by omega);obtain⟨gt,hgt⟩:∃gt,g+tt=gt:=⟨_,rfl⟩
  have hgti:(g:Int)+(tt:Int)=(gt:Int):=by omega
  have hgtw:IntKind.i64.wrap (gt:Int)=(gt:Int):=IntWalk.i64_in _ (by omega)
  have HR:Hid (BStepP B w (w6.setCell ⟨t,6,none⟩ (.int .i64 (gt:Int))) t n s R P2 g (min k (R+n-g)) (.returned (.int .i64 (tt:Int)))):=zh (by
   rw [HTT.out.1];have h7:=H6.out.own (Zaa (i:=6) (Touch.refl _ _)) (H6.out.obj.set6 gt);rw [Nat.zero_add] at h7;have hk6:=HK6.out;rw [Nat.zero_add] at hk6;refine⟨rfl,?_,HB6.out.setCell (p:=⟨t,6,none⟩) HBT.out _⟩;have hx:=HTT.out.2;rw [hgt] at hx ⊢;refine Or.inr ⟨hx.2.1,hx.2.2,b6,o6,n6,c6,v6,?_,?_⟩
   ·rw [hx.1];exact h7
   ·rw [hx.1];exact hk6)
  clear h6 hk6 hB6 hg2 htt httm hgt;go_wp2_with fail;go_ret;exact HR.out
 ·rw [show(R-g-a==0)=false by rw [beq_eq_false_iff_ne];exact hfin] at HD
  have HAK:Hid (a=k/\k2=0):=zh (by
   have h1:=HAE.out;have h2:=HK2.out;omega)
  have HTK:=zh (ZvJ w1 k2 (.slice none 0 0) [] 0 H1.out (by omega) (Nat.le_trans hb HB1.out.size));go_wp2_with fail;refine HD.out.mono ?_;rintro e w2 ⟨rfl,rfl⟩;go_wp2_with fail;refine HTK.out.mono ?_;rintro e w3 ⟨rfl,h3,hT3⟩;have H3:=zh h3;have HT3:=zh hT3;obtain⟨_,_,_,_,_,_,d6⟩:=h3.obj.cells;have e6:=h3.obj.frozen 6 (by omega);obtain⟨ga,hga⟩:∃ga,g+a=ga:=⟨_,rfl⟩
  have hgai:(g:Int)+(a:Int)=(ga:Int):=by omega
  have hgaw:IntKind.i64.wrap (ga:Int)=(ga:Int):=IntWalk.i64_in _ (by omega);have HMN:Hid (min k (R+n-g)=a):=zh (by have:=HAK.out;omega);have HLTR:Hid (ga<R):=zh (by omega)
  have HR:Hid (BStepP B w (w3.setCell ⟨t,6,none⟩ (.int .i64 (ga:Int))) t n s R P g (min k (R+n-g)) (.returned (.int .i64 (a:Int)))):=zh (by
   rw [HMN.out];have h7:=H3.out.own (Zaa (i:=6) (Touch.refl _ _)) (H3.out.obj.set6 ga);have t7:Touch (·=t) w3 (w3.setCell ⟨t,6,none⟩ (.int .i64 (ga:Int))):=Zaa (Touch.refl _ _);have hs7:=(HS1.out.touched HT3.out (fun k _ hk=>by rw [hk];simp)).touched t7 (fun k _ hk=>by rw [hk];simp);have hb3:Below B w w3:=HB1.out.trans (HT3.out.below (Nat.le_trans hb HB1.out.size) (fun k hk=>by rw [hk];exact HBT.out));refine⟨rfl,?_,hb3.setCell (p:=⟨t,6,none⟩) HBT.out _⟩;rw [show R-g-a=R-ga by omega] at hs7;rw [hga] at hs7 ⊢;exact Or.inl ⟨Or.inl HLTR.out,b,hs7,h7⟩)
  clear h3 hT3 hga;go_wp2_with fail;go_ret;exact HR.out
theorem Zv8 (w:World) (k:Int) (hs:Srtd s n R P) (h:TuSt B w t n s R P g) (ht:t<w.heap.size) (hk:k<=9223372036854775807) (hb:B<=w.heap.size) :
  Calls Tryz.prog 95 #[.pointer (some ⟨t,0,none⟩),.int .i64 k] w fun e w'=>BStepP B w w' t n s R P g (min k.toNat (R+n-g)) e:=by
 by_cases hk1:k<1
 ·refine(ZvK w k ht hk1).mono ?_;rintro e w' ⟨rfl,rfl⟩;rw [show min k.toNat (R+n-g)=0 by omega];exact⟨rfl,h,Below.refl _ _⟩
 ·obtain⟨K,rfl⟩:∃K:Nat,k=(K:Int):=⟨k.toNat,by omega⟩
  rw [Int.toNat_natCast];rcases h with⟨h1,b,h2,h3⟩|⟨h1,h2,bo,off,nn,cap,vw,h3,h4,h5,h6⟩
  ·exact Zvx w K b hs h1 h2 h3 (by omega) (by omega) hb
  ·exact ZvL w K bo off nn cap vw hs h1 h2 h3 h4 h5 h6 (by omega) (by omega) hb
theorem TuSt.lt {w:World} (h:TuSt B w t n s R P g):t<w.heap.size:=by
 rcases h with⟨_,b,_,h3⟩|⟨_,_,bo,off,nn,cap,vw,h3,_⟩
 ·exact h3.obj.lt
 ·exact h3.obj.lt
theorem TuSt.whole {w:World} (h:TuSt B w t n s R P (R+n)) (hs:Srtd s n R P) :
  Calls Tryz.prog 97 #[.pointer (some ⟨t,0,none⟩)] w (fun e w'=>e=.returned (.tuple #[.string ⟨(lastN s.data.toList P n).toArray⟩,.int .i64 (orgN P n:Int)])/\∃m,w'=w.drewN m):=by
 obtain⟨hl1,hl2,hl3,hl4⟩:=hs.len;have h1:=hs.le;have h2:=hs.pos;have h3:=hs.size;rcases h with⟨hg,b,hS,hI⟩|⟨hg,hg2,bo,off,nn,cap,vw,hI,h4,h5,h6⟩
 ·omega
 ·have hl:(lastN s.data.toList P (R+n-R)).length=R+n-R:=Zo3 (by omega);have e2:R+n-R=n:=by omega
  rw [e2] at hI hl;exact Zkf hI (by omega) (by omega) (by omega)
end
end
section
open Go.RowKit BwtM SrtM PkM
theorem Zwq (s:ByteArray) (n:Nat) (w:World) (hn:s.size=n) (h0:0<n) (hs:n<=1024):Calls Tryz.prog 94 #[.string s] w fun e w'=>∃t R P,e=.returned (.tuple #[.pointer (some ⟨t,0,none⟩),.int .i64 0])/\Srtd s n R P/\TuSt w.heap.size w' t n s R P 0/\Below w.heap.size w w':=by
 have hemp:=ZgI s (by omega);have HNEW:=zh (Zwo s n w hn (by omega));have HN:=zh hn;clear hn;go_enter Tryz.func94,Tryz.ntmps94;go_wp2_with fail;refine HNEW.out.mono ?_;rintro e w1 ⟨b,R,rfl,hS,hR,hB⟩;have HS:=zh hS;have HR:=zh hR;have HB:=zh hB;have HH:=zh (hS.held (by omega));clear hS hR hB;go_wp2_with fail;refine HH.out.mono ?_;rintro e w2 ⟨rfl,m,rfl⟩
 have HF:Hid (∃R P,Srtd s n R P/\TuSt w.heap.size ((w1.drewN m).alloc (.cells #[.string s,.pointer (some ⟨b,0,none⟩),.int .i64 ((3*n:Nat):Int),.slice none 0 0,.slice none 0 0,.int .i64 0,.int .i64 0] 210)) w1.heap.size n s R P 0/\Below w.heap.size w ((w1.drewN m).alloc (.cells #[.string s,.pointer (some ⟨b,0,none⟩),.int .i64 ((3*n:Nat):Int),.slice none 0 0,.slice none 0 0,.int .i64 0,.int .i64 0] 210))):=zh (by
  have hb2:Below w1.heap.size w1 ((w1.drewN m).alloc (.cells #[.string s,.pointer (some ⟨b,0,none⟩),.int .i64 ((3*n:Nat):Int),.slice none 0 0,.slice none 0 0,.int .i64 0,.int .i64 0] 210)):=(Zai w1 m).trans ((Below.refl w1.heap.size (w1.drewN m)).alloc (Nat.le_refl _) _);have hz:((w1.drewN m).alloc (.cells #[.string s,.pointer (some ⟨b,0,none⟩),.int .i64 ((3*n:Nat):Int),.slice none 0 0,.slice none 0 0,.int .i64 0,.int .i64 0] 210)).heap.size=w1.heap.size+1:=by show(w1.heap.push _).size=_;simp
  refine⟨R,sortP s.data.toList n,⟨HN.out,h0,hs,?_,HR.out⟩,Or.inl ⟨by omega,b,?_,?_⟩,HB.out.trans (hb2.mono HB.out.size)⟩
  ·have:=Zwb s.data.toList;rw [ZoY,HN.out] at this;exact this
  ·exact HS.out.with hb2 [w1.heap.size] (fun g hg=>by rw [List.mem_singleton] at hg;subst hg;rw [hz];omega)
  ·exact⟨ZtH (w1.drewN m) s _ _ _,IsInts.nil _,OwnY.nil _ _,fun e=>(by cases e),fun j hj=>(by cases hj),HB.out.size,fun j hj=>(by cases hj),Or.inl rfl⟩)
 go_wp2_with fail;go_ret2;obtain⟨R2,P2,h1,h2,h3⟩:=HF.out;exact⟨_,R2,P2,rfl,h1,h2,h3⟩
theorem ZvM (w:World):Calls Tryz.prog 94 #[.string ⟨#[]⟩] w fun e w'=>e=.returned (.tuple #[.pointer none,.int .i64 1])/\w'=w:=by
 go_enter Tryz.func94,Tryz.ntmps94;go_wp2_with fail;go_ret2;exact⟨rfl,rfl⟩
def mostBw (N:Nat):Nat:=if N<1 then 0 else min (mostN N+min N 1099511627776) 1099511627776
theorem Zv9 (n:Int) (w:World) (h1:-9223372036854775808<=n) (h2:n<=9223372036854775807):Calls Tryz.prog 96 #[.int .i64 n] w fun e w'=>e=.returned (.int .i64 (mostBw n.toNat:Int))/\w'=w:=by
 by_cases hn:n<1
 ·have e:mostBw n.toNat=0:=by unfold mostBw;rw [if_pos (by omega)]
  rw [e];go_enter Tryz.func96,Tryz.ntmps96;go_wp2_with fail;go_ret;exact⟨rfl,rfl⟩
 ·obtain⟨N,rfl⟩:∃N:Nat,n=(N:Int):=⟨n.toNat,by omega⟩
  rw [Int.toNat_natCast];have HM:=zh (Zv6 (N:Int) w h1 h2);rw [Int.toNat_natCast] at HM;have hml:=ZqZ N;have hres:mostBw N=min (mostN N+min N 1099511627776) 1099511627776:=by unfold mostBw;rw [if_neg (by omega)]
  rw [hres];obtain⟨M,hM⟩:∃M,mostN N=M:=⟨_,rfl⟩
  rw [hM] at HM hml ⊢;obtain⟨c,hc⟩:∃c,min N 1099511627776=c:=⟨_,rfl⟩
  have hci:min (N:Int) 1099511627776=(c:Int):=by omega
  obtain⟨d,hd⟩:∃d,M+c=d:=⟨_,rfl⟩
  have hdi:(M:Int)+(c:Int)=(d:Int):=by omega
  have hdw:IntKind.i64.wrap (d:Int)=(d:Int):=IntWalk.i64_in _ (by omega);obtain⟨r,hr⟩:∃r,min d 1099511627776=r:=⟨_,rfl⟩
  have hri:min (d:Int) 1099511627776=(r:Int):=by omega
  rw [hc,hd,hr];clear hres hM hc hd hr;go_enter Tryz.func96,Tryz.ntmps96;go_wp2_with fail;refine HM.out.mono ?_;rintro e w' ⟨rfl,rfl⟩;go_wp2_with fail;go_ret;exact⟨rfl,rfl⟩
theorem Srtd.most {s:ByteArray} {n R:Nat} {P:List Nat} (h:Srtd s n R P):R+n<=mostBw n/\mostBw n<=1099511627776:=by
 obtain⟨hl1,hl2,hl3,hl4⟩:=h.len;have h1:=h.le;have h2:=h.pos;have h3:=(h.steps.most (by rw [hl2];exact h1)).1;rw [hl2] at h3;have h4:=ZqZ n;unfold mostBw;rw [if_neg (by omega)];omega
theorem Zwa (s:ByteArray) (n:Nat) (w:World) (hn:s.size=n) (h0:0<n) (hs:n<=1024):Calls Tryz.prog 46 #[.string s] w fun e w'=>(∃P,ZlG s.data.toList P/\e=.returned (.tuple #[.string ⟨(lastN s.data.toList P n).toArray⟩,.int .i64 (orgN P n:Int),.int .i64 0]))/\Below w.heap.size w w':=by
 have HNEW:=zh (Zwq s n w hn h0 hs);have HM:=zh (fun W=>Zv9 (n:Int) W (by omega) (by omega));rw [Int.toNat_natCast] at HM;obtain⟨M,hM⟩:∃M,mostBw n=M:=⟨_,rfl⟩
 rw [hM] at HM;have HME:=zh hM;have hsi:(s.size:Int)=(n:Int):=by omega
 clear hn hM;go_enter Tryz.func46,Tryz.ntmps46;go_wp2_with fail;refine HNEW.out.mono ?_;rintro e w1 ⟨t,R,P,rfl,hsr,hT,hB⟩;have HB:=zh hB;have HSR:=zh hsr;have hm:=hsr.most;rw [HME.out] at hm;have HST:=zh (Zv8 w1 (M:Int) hsr hT hT.lt (by omega) hB.size);rw [Int.toNat_natCast,Nat.sub_zero,Nat.min_eq_right hm.1] at HST;have HORD:=zh hsr.ord;clear hsr hT hB;go_wp2_with fail;refine(HM.out _).mono ?_;rintro e w2 ⟨rfl,rfl⟩;go_wp2_with fail;refine HST.out.mono ?_;rintro e w3 ⟨rfl,hT3,hB3⟩;rw [Nat.zero_add] at hT3;have HRES:=zh (hT3.whole HSR.out);have HB3:=zh (HB.out.trans hB3);clear hT3 hB3;obtain⟨L,hL⟩:∃L:ByteArray,(⟨(lastN s.data.toList P n).toArray⟩:ByteArray)=L:=⟨_,rfl⟩
 rw [hL] at HRES;have HL:=zh hL;clear hL;go_wp2_with fail;refine HRES.out.mono ?_;rintro e w4 ⟨rfl,m,rfl⟩;have HB4:=zh (HB3.out.trans (ZiU w.heap.size w3 m));go_wp2_with fail;go_ret3;exact⟨⟨P,HORD.out,by rw [HL.out];rfl⟩,HB4.out⟩
end
section
namespace Opn
open Go.ChangeShapes Go.WideShapes Go.ChangeAt Go.RowKit Go.Deep
def GotIn (s:ByteArray) (o x:Int):Prop:=s.size<=maxLen/\(Lit.int .i64 o).wf=true/\(Lit.int .u32 x).wf=true
section
variable {H : Type} {enc : TypeId × Value -> H} {P : Program}
theorem open_got {W:World} {base:Nat} {t:TypeId} {v:Value} {d:DataW H} {p:List MemPlace} (hk:kinds P 2 t=some [.str,.int .i64,.int .u32]) (hu:(match P.underlying t with|some (.struct _)|some (.array _ _)=>true|_=>false)=true)
  (hv:Value.okWide P W .any base t v) (h:DataW.Trod enc P W 0 (fun _=>true) true t v d p):∃s o x,v=.agg #[.string s,.int .i64 o,.int .u32 x]/\GotIn s o x:=by
 obtain⟨cs,rfl,hall⟩:=ZfH 2 _ hk hu hv h;clear h hv;have e:cs=cs.toList.toArray:=by simp
 rw [e];clear e
 revert hall
 generalize cs.toList=l;intro hall;have hl:=hall.length
 obtain⟨x,y,z,rfl⟩:∃x y z,l=[x,y,z]:=by
  rcases l with _|⟨x,_|⟨y,_|⟨z,_|⟨u,r⟩⟩⟩⟩
  ·cases hl
  ·simp at hl
  ·simp at hl
  ·exact⟨_,_,_,rfl⟩
  ·simp at hl
 obtain⟨⟨s,e0,h0⟩,hx,hy,_⟩:=hall;obtain⟨o,e1,h1⟩:=hx;obtain⟨x,e2,h2⟩:=hy;exact⟨s,o,x,by rw [e0,e1,e2],h0,h1,h2⟩
end
end Opn
open Go.RowKit
theorem ZsV {s:ByteArray} {o x:Int} (h:Opn.GotIn s o x):∃X:Nat,x=(X:Int):=by
 have hx:0<=x/\x<=4294967295:=by simpa [Lit.wf,IntKind.min,IntKind.max,IntKind.signed,IntKind.bits] using h.2.2
 exact⟨x.toNat,by omega⟩
end
section
open Go.RowKit BitM HufM CanM CodM UsedM MtfM TabM FreqM BlkM BwtM SrtM
theorem ZwF (P:List Nat):∀n,0<n->orgN P n<n
 | 0,h=>absurd h (by omega)
 | k+1,_=>by
  have h:=Zv7 P k;unfold orgN;split<;>omega
theorem Zvy (w:World):Calls Tryz.prog 46 #[.string ⟨#[]⟩] w fun e w'=>e=.returned (.tuple #[.string ⟨#[]⟩,.int .i64 0,.int .i64 1])/\w'=w:=by
 go_enter Tryz.func46,Tryz.ntmps46;go_wp2_with fail;refine(ZvM _).mono ?_;rintro e w1 ⟨rfl,rfl⟩;go_wp2_with fail;go_ret3
 first|exact⟨rfl,rfl⟩|rfl
theorem Zvg {s:ByteArray} (h:s.size=0):s=⟨#[]⟩:=by
 have h1:s.data.toList=[]:=List.eq_nil_of_length_eq_zero h;apply ByteArray.ext;apply Array.toList_inj.1;rw [h1]
theorem Zvh (b:Nat) (v:Value) (q0:List Bool) (tk:Nat) (s:ByteArray) (n sum:Nat) (w:World) (hw:IsWriter w b v q0 tk) (hB:Bnds w) (hn:s.size=n) (h0:0<n) (hs:n<=300) (hsum:sum<4294967296) (hq:q0.length<=100000) (hgb:1<b) :
  Calls Tryz.prog 13 #[.pointer (some ⟨b,0,none⟩),.string s,.int .u32 (sum:Int)] w fun e w'=>∃P,ZlG s.data.toList P/\e=.returned (.int .i64 0)/\Wrote w b v tk (q0++allK (lastN s.data.toList P n) (orgN P n) sum) w':=by
 have HOF:=zh (Zwa s n w hn h0 (by omega));have hll:s.data.toList.length=n:=hn
 have HTU:=zh (fun P (hP:ZlG s.data.toList P) (v:Value) W (h:IsWriter W b v q0 tk) (h2:Bnds W)=>by
  have hl:P.length=n:=by rw [hP.1.length_eq,List.length_range];exact hll
  have h3:(lastN s.data.toList P n).length=n:=Zo3 (by omega);exact Zes b v q0 tk ⟨(lastN s.data.toList P n).toArray⟩ (orgN P n) sum W h h2 (by show(lastN s.data.toList P n).toArray.size<=300;rw [List.size_toArray];omega) (by show orgN P n<(lastN s.data.toList P n).toArray.size;rw [List.size_toArray,h3];exact ZwF P n h0) hsum hq hgb)
 have HW:=zh hw;have HBN:=zh hB;clear hw hB hll hn hgb hq hsum;go_enter Tryz.func13,Tryz.ntmps13;go_wp2_with fail;refine HOF.out.mono ?_;rintro e w1 ⟨⟨P,hP,rfl⟩,hb⟩;have HW1:=zh (HW.out.other (Touch.ofBelow (S:=fun _=>False) hb) (fun _ _ h=>h));have HT:=zh (HTU.out P hP v w1 HW1.out (HBN.out.below hb));have HB1:=zh hb;have HP:=zh hP;clear hb hP;obtain⟨L,hL⟩:∃L:ByteArray,(⟨(lastN s.data.toList P n).toArray⟩:ByteArray)=L:=⟨_,rfl⟩
 obtain⟨O,hO⟩:∃O:Nat,orgN P n=O:=⟨_,rfl⟩
 have HLL:Hid (L.data.toList=lastN s.data.toList P n):=zh (by rw [<-hL]);rw [hL,hO] at HT;have HLO:=zh (And.intro hL hO);rw [hL,hO];clear hL hO;go_wp2_with fail;refine HT.out.mono ?_;rintro e w2 ⟨rfl,k⟩;have k2:=Wrote.wrote (Touch.ofBelow HB1.out) (fun k hk=>Or.inl hk) k;rw [<-HLO.out.2] at k2;have HFIN:=zh k2;clear k k2;go_wp2_with fail;go_ret;exact⟨P,HP.out,rfl,HFIN.out⟩
theorem Zvi (s:ByteArray) (sum:Int) (w:World) (hs:s.size<=1000):Calls Tryz.prog 13 #[.pointer none,.string s,.int .u32 sum] w fun e w'=>e=.returned (.int .i64 7)/\Below w.heap.size w w':=by
 have HN:=zh (fun l o W=>ZuJ l o sum W);by_cases h0:s.size=0
 ·obtain rfl:=Zvg h0;clear h0 hs;go_enter Tryz.func13,Tryz.ntmps13;go_wp2_with fail;refine(Zvy _).mono ?_;rintro e w1 ⟨rfl,rfl⟩;go_wp2_with fail;refine(HN.out _ _ _).mono ?_;rintro e w2 ⟨rfl,rfl⟩;go_wp2_with fail;go_ret;exact⟨rfl,Below.refl _ _⟩
 ·obtain⟨n,hn⟩:∃n,s.size=n:=⟨_,rfl⟩
  have HOF:=zh (Zwa s n w hn (by omega) (by omega));clear hs hn h0;go_enter Tryz.func13,Tryz.ntmps13;go_wp2_with fail;refine HOF.out.mono ?_;rintro e w1 ⟨⟨P,hP,rfl⟩,hb⟩;have HB1:=zh hb;clear hb hP;go_wp2_with fail;refine(HN.out _ _ _).mono ?_;rintro e w2 ⟨rfl,rfl⟩;go_wp2_with fail;go_ret;exact⟨rfl,HB1.out⟩
theorem ZvN {P:List Nat} (h:ZlG [97] P):P=[0]:=by
 have h1:P.Perm [0]:=h.1;exact List.perm_singleton.1 h1
theorem Zvj (w:World) (hB:Bnds w):Calls Tryz.prog 11 #[] w fun e w'=>e=.returned (.bool true)/\Below w.heap.size w w':=
 ZiR w hB (fun g W h1 h2 h3=>by
  refine(Zvh g _ [] 0 ⟨#[97]⟩ 1 _ W h1 h2 rfl (by decide) (by decide) (CrcM.crc [97]).isLt (by decide) h3).mono ?_;rintro e w' ⟨P,hP,rfl,hw⟩;obtain rfl:=ZvN hP;rw [List.nil_append] at hw;exact⟨rfl,hw⟩)
theorem blockNil.main (s:ByteArray) (o:Int) (sum:Nat) (room:Int) (w:World) (hB:Bnds w) (hs:s.size<=maxLen) :
  Calls Tryz.prog 9 #[.agg #[.string s,.int .i64 o,.int .u32 (sum:Int)],.int .i64 room] w fun e w'=>e=.returned (.bool true)/\Below w.heap.size w w':=by
 have HLE:=zh (fun W (h:Bnds W)=>Zvj W h);obtain⟨w0,hw0⟩:∃w0,w.alloc (.cells #[.string s,.int .i64 o,.int .u32 (sum:Int)] 34)=w0:=⟨_,rfl⟩
 have hg:w0.heap[w.heap.size]?=some (.cells #[.string s,.int .i64 o,.int .u32 (sum:Int)] 34 (0,0)):=by rw [<-hw0];exact heap_alloc_new _ _
 have HB0:Hid (Below w.heap.size w w0):=zh (by rw [<-hw0];exact(Below.refl _ _).alloc (Nat.le_refl _) _);have hz0:Hid (w.heap.size<w0.heap.size):=zh (by rw [<-hw0];simp);have c0:w0.cell? ⟨w.heap.size,0,none⟩=some (.string s):=by rw [cell_of_row _ _ 0 _ _ _ hg];rfl
 have HBW:=zh hB;have HBN:=zh (hB.below HB0.out);have hi:=ZbI got0 rfl;have hu:=Tryz.underlying34;have HG:=zh hg;unfold maxLen at hs;clear hB;by_cases h0:100<s.size
 ·have h0i:(100:Int)<(s.size:Int):=by omega
  go_enter Tryz.func9,Tryz.ntmps9;go_wp2_with fail;refine(HLE.out _ HBN.out).mono ?_;rintro e w9 ⟨rfl,hb9⟩;have HB9:=zh (HB0.out.trans (hb9.mono HB0.out.size));clear hb9;go_wp2_with fail;go_ret;exact⟨rfl,HB9.out⟩
 ·have h0i:¬(100:Int)<(s.size:Int):=by omega
  have HN:=zh (fun W=>ZmD 5 W ⟨by decide,by decide⟩);have HWN:=zh (fun W=>Zvi s (sum:Int) W (by omega));clear h0;go_enter Tryz.func9,Tryz.ntmps9;go_wp2_with fail;refine(Zvm room _).mono ?_;rintro e w1 ⟨rfl,hb1⟩;have HB1:=zh (HB0.out.trans (hb1.mono HB0.out.size));have HG1:=zh ((hb1.block _ hz0.out).trans HG.out);obtain⟨w2,hw2⟩:∃w2,w1.alloc (.cells #[.string ⟨#[]⟩,.int .i64 0,.int .u32 0] 34)=w2:=⟨_,rfl⟩
  have hx2:w2.heap[w1.heap.size]?=some (.cells got0 34 (0,0)):=by rw [<-hw2];exact heap_alloc_new _ _
  have HX2:=zh hx2;have hl1:Hid (w.heap.size<w1.heap.size):=zh (Nat.lt_of_lt_of_le hz0.out hb1.size);have hl2:Hid (w1.heap.size<w2.heap.size):=zh (by rw [<-hw2];simp);have B12:Hid (Below w1.heap.size w1 w2):=zh (by rw [<-hw2];exact(Below.refl _ _).alloc (Nat.le_refl _) _);have HB2:=zh (HB1.out.trans (B12.out.mono HB1.out.size));have HG2:=zh ((B12.out.block _ hl1.out).trans HG1.out);have HW2:=zh hw2;have e0:(Value.agg got0)=.agg #[.string ⟨#[]⟩,.int .i64 0,.int .u32 0]:=rfl;rw [e0];clear hb1 hg c0 hw0 hw2 hx2 e0;go_wp2_with fail;refine(HN.out _).mono ?_;rintro e w3 ⟨rfl,hk3,hb3⟩;rw [HW2.out] at hk3 hb3 ⊢;obtain⟨b,hb⟩:∃b,w2.heap.size=b:=⟨_,rfl⟩
  rw [hb] at hk3 ⊢;have HB3:=zh (HB2.out.trans (hb3.mono HB2.out.size));have hg3:=(hb3.block _ (Nat.lt_trans hl1.out hl2.out)).trans HG2.out;have hx3:=(hb3.block _ hl2.out).trans HX2.out;have HK3:=zh hk3;have HX3:=zh hx3;have HG3:=zh hg3;have c0:w3.cell? ⟨w.heap.size,0,none⟩=some (.string s):=by rw [cell_of_row _ _ 0 _ _ _ hg3];rfl
  have c2:w3.cell? ⟨w.heap.size,2,none⟩=some (.int .u32 (sum:Int)):=by rw [cell_of_row _ _ 2 _ _ _ hg3];rfl
  clear hk3 hb3 hb hx3 hg3;go_wp2_with fail;refine(HWN.out _).mono ?_;rintro e w4 ⟨rfl,hb4⟩;have hl3:Hid (w1.heap.size<w3.heap.size/\b<w3.heap.size):=zh ⟨(Array.getElem?_eq_some_iff.1 HX3.out).1,HK3.out.lt⟩;have HB4:=zh (HB3.out.trans (hb4.mono HB3.out.size));have hg4:=(hb4.block _ (Nat.lt_trans hl1.out hl3.out.1)).trans HG3.out;have hx4:=(hb4.block _ hl3.out.1).trans HX3.out;have HK4:=zh (HK3.out.below hb4);have c0:w4.cell? ⟨w.heap.size,0,none⟩=some (.string s):=by rw [cell_of_row _ _ 0 _ _ _ hg4];rfl
  have c1:w4.cell? ⟨w.heap.size,1,none⟩=some (.int .i64 o):=by rw [cell_of_row _ _ 1 _ _ _ hg4];rfl
  have c2:w4.cell? ⟨w.heap.size,2,none⟩=some (.int .u32 (sum:Int)):=by rw [cell_of_row _ _ 2 _ _ _ hg4];rfl
  have x0:w4.cell? ⟨w1.heap.size,0,none⟩=some (.string ⟨#[]⟩):=by rw [cell_of_row _ _ 0 _ _ _ hx4];rfl
  have x1:w4.cell? ⟨w1.heap.size,1,none⟩=some (.int .i64 0):=by rw [cell_of_row _ _ 1 _ _ _ hx4];rfl
  have x2:w4.cell? ⟨w1.heap.size,2,none⟩=some (.int .u32 0):=by rw [cell_of_row _ _ 2 _ _ _ hx4];rfl
  clear hb4 hg4;go_wp2_with fail;refine(ZuJ s o (sum:Int) w4).mono ?_;rintro e w5 ⟨rfl,hw5⟩;have hw5':w4=w5:=by first|exact hw5|exact hw5.symm
  subst hw5';go_wp2_with (first|(refine BigFrame.wpList_want rfl (fun K hK=>wp_load_row 34 _ rfl w1.heap.size rfl 34 got0 (0,0) _ hx4 hu rfl hi (hK _ _ ?_)))|(refine wpList_load_row rfl 34 _ rfl w1.heap.size rfl 34 got0 (0,0) _ hx4 hu rfl hi ?_));refine(Zcf ⟨#[97]⟩ w4 (by decide)).mono ?_;rintro e w6 ⟨rb,rv,rfl,_,hb6,_⟩;have HB6:=zh (HB4.out.trans (hb6.mono HB4.out.size));have HK6:=zh (HK4.out.below hb6);clear hb6 x0 x1 x2 c0 c1 c2 hx4;go_wp2_with fail;refine(Zvl (some ⟨rb,0,none⟩) w6).mono ?_;rintro e w7 ⟨rfl,hw7⟩;have hw7':w6=w7:=by first|exact hw7|exact hw7.symm
  subst hw7';go_wp2_with fail;refine(Zt4 ⟨b,0,none⟩ w6).mono ?_;rintro e w8 ⟨rfl,hw8⟩;have hw8':w6=w8:=by first|exact hw8|exact hw8.symm
  subst hw8';go_wp2_with fail;refine(ZuN w6).mono ?_;rintro e w9 ⟨rfl,hw9⟩;have hw9':w6=w9:=by first|exact hw9|exact hw9.symm
  subst hw9';go_wp2_with fail;refine(ZvD w6).mono ?_;rintro e w10 ⟨rfl,hb10⟩;have HB10:=zh (HB6.out.trans (hb10.mono HB6.out.size));have HK10:=zh (HK6.out.below hb10);have e1:(Value.agg got0)=.agg #[.string ⟨#[]⟩,.int .i64 0,.int .u32 0]:=rfl;rw [e1];clear hb10 e1;go_wp2_with fail;refine(Zvk w10).mono ?_;rintro e w11 ⟨rfl,hw11⟩;have hw11':w10=w11:=by first|exact hw11|exact hw11.symm
  subst hw11';have HHE:=Zt7 w10 none none 0 0 0 HK10.out (fun W _=>(ZvO W).mono fun _ _ h=>⟨h.1,by rw [h.2];exact Below.refl _ _⟩) (by decide);rw [show((0+0:Nat):Int)=0 from rfl] at HHE;have HHE:=zh HHE;go_wp2_with fail;refine HHE.out.mono ?_;rintro e w12 ⟨rfl,hb12⟩;have HB12:=zh (HB10.out.trans (hb12.mono HB10.out.size));have HBN12:=zh (HBW.out.below HB12.out);clear hb12;go_wp2_with fail;refine(HLE.out _ HBN12.out).mono ?_;rintro e w13 ⟨rfl,hb13⟩;have HB13:=zh (HB12.out.trans (hb13.mono HB12.out.size));clear hb13;go_wp2_with fail;go_ret;exact⟨rfl,HB13.out⟩
end
section
open Go.RowKit
theorem blockNil.walk (s:ByteArray) (o x room:Int) (w:World) (hB:Bnds w) (h:Opn.GotIn s o x) (h2:(Lit.int .i64 room).wf=true) :
  Calls Tryz.prog 9 #[.agg #[.string s,.int .i64 o,.int .u32 x],.int .i64 room] w fun e w'=>e=.returned (.bool true)/\Below w.heap.size w w':=by
 obtain⟨X,rfl⟩:=ZsV h;exact blockNil.main s o X room w hB h.1
end
end Go.Proofs.YtnachbjhhpnadaaGreatDoor

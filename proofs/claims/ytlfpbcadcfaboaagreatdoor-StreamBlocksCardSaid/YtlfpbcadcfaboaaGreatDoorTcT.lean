import Derived.Test.YtlfpbcadcfaboaaGreatDoorTcA
import Derived.Test.YtlfpbcadcfaboaaGreatDoorTcC
import Derived.Test.YtlfpbcadcfaboaaGreatDoorTcH
import Derived.Test.YtlfpbcadcfaboaaGreatDoorTcI
import Derived.Test.YtlfpbcadcfaboaaGreatDoorTcK
import Derived.Test.YtlfpbcadcfaboaaGreatDoorTcL
import Derived.Test.YtlfpbcadcfaboaaGreatDoorTcM
import Derived.Test.YtlfpbcadcfaboaaGreatDoorTcN
import Derived.Test.YtlfpbcadcfaboaaGreatDoorTcP
import Derived.Test.YtlfpbcadcfaboaaGreatDoorTcS
import Derived.Shelf.Strconv.Itoa0
import Derived.StillTailTactics
import Derived.BigQuiet
set_option linter.unusedVariables false
set_option linter.unusedSimpArgs false
set_option maxHeartbeats 8000000
set_option maxRecDepth 100000
namespace Go.Proofs.YtlfpbcadcfaboaaGreatDoor
section
namespace BlkM
open Go.RowKit BitM HufM CanM CodM UsedM MtfM
end BlkM
end
section
namespace BlkM
open Go.RowKit BitM HufM CanM CodM UsedM MtfM TabM FreqM
def symsK (l:List UInt8):List UInt8:=syms (has l) 256
def placesK (l:List UInt8):List Int:=match mtencK (symsK l) l l.length with
 | none=>[]
 | some (zs,_)=>zs
def codesK (l:List UInt8):List Int:=ZerM.enc (placesK l) ((symsK l).length:Int)
def sizeK (l:List UInt8):Nat:=(symsK l).length+2
theorem ZkU (l:List UInt8) (x:UInt8):x∈symsK l↔x∈l:=by
 unfold symsK;rw [Zh0 _ _ (Nat.le_refl _),Zfv];exact⟨fun h=>h.2,fun h=>⟨x.toNat_lt,h⟩⟩
theorem Zrm {l:List UInt8} (h:l≠[]):symsK l≠[]:=by
 obtain⟨x,t,rfl⟩:=List.exists_cons_of_ne_nil h;exact List.ne_nil_of_mem ((ZkU _ x).2 List.mem_cons_self)
theorem Zga (l:List UInt8):(symsK l).length<=256:=Zgx _ _
theorem ZeG {l:List UInt8} (h:l≠[]):1<=(symsK l).length:=List.length_pos_iff.2 (Zrm h)
theorem Zgb {l:List UInt8} (h:l≠[]):IsSyms (symsK l):=by
 obtain⟨x,t,rfl⟩:=List.exists_cons_of_ne_nil h;exact Zly _ ⟨x.toNat,x.toNat_lt,(Zfv _ x).2 List.mem_cons_self⟩
theorem Zc9 (l:List UInt8):∃m,mtencK (symsK l) l l.length=some (placesK l,m):=by
 obtain⟨zs,m,h,_⟩:=ZtO (symsK l) l (fun x hx=>(ZkU l x).2 hx) l.length (Nat.le_refl _);unfold placesK;rw [h];exact⟨m,rfl⟩
theorem Zcm (l:List UInt8):(placesK l).length=l.length:=by
 obtain⟨m,h⟩:=Zc9 l;exact(ZtM _ _ _ _ _ h).1
theorem ZnJ (l:List UInt8):∀p∈placesK l,0<=p/\p<((symsK l).length:Int):=fun p hp=>by
 obtain⟨m,h⟩:=Zc9 l;obtain⟨k,hk,rfl⟩:=List.mem_iff_getElem.1 hp;obtain⟨o,h1,h2⟩:=Zq4 h k (by rw [<-Zcm l];exact hk);rw [List.getD_eq_getElem?_getD,List.getElem?_eq_getElem hk] at h1;have h3:(placesK l)[k]=(o:Int):=h1;rw [h3];omega
theorem encOkK {l:List UInt8} (h:l≠[]):ZerM.EncOk (placesK l) ((symsK l).length:Int):=⟨by have:=ZeG h;omega,by have:=Zga l;omega,ZnJ l⟩
theorem Zix (n:Int) (hn:1<=n):∀(l:List Int) (z:Nat),(∀p∈l,0<=p/\p<n)->∃t,ZerM.encR n z l=t++[n+1]/\∀x∈t,0<=x/\x<=n
 | [],z,_=>⟨ZerM.rowC z,rfl,fun x hx=>by have:=ZerM.bin_rowC z x hx;omega⟩
 | p::t,z,h=>by
  have hp:=h p List.mem_cons_self;have ht:∀q∈t,0<=q/\q<n:=fun q hq=>h q (List.mem_cons_of_mem _ hq)
  by_cases h0:p=0
  ·show ∃t',(if p=0 then ZerM.encR n (z+1) t else _)=_/\_;rw [if_pos h0];exact Zix n hn t (z+1) ht
  ·show ∃t',(if p=0 then _ else ZerM.rowC z++(p+1)::ZerM.encR n 0 t)=_/\_;rw [if_neg h0];obtain⟨u,hu,hx⟩:=Zix n hn t 0 ht;refine⟨ZerM.rowC z++(p+1)::u,by rw [hu];simp,fun x hm=>?_⟩;rcases List.mem_append.1 hm with h1|h1
   ·have:=ZerM.bin_rowC z x h1;omega
   ·rcases List.mem_cons.1 h1 with h2|h2
    ·omega
    ·exact hx x h2
theorem Zrn {t:List Int} {n:Int} (hn:1<=n) (hn2:n<=256) (h:∀x∈t,0<=x/\x<=n):May14 (t++[n+1]) (n+2):=by
 refine⟨by omega,by omega,by simp,fun x hx=>?_,fun i hi=>?_⟩
 ·rcases List.mem_append.1 hx with h1|h1
  ·have:=h x h1;omega
  ·rw [List.mem_singleton] at h1;omega
 ·rw [List.length_append] at hi ⊢;have hi2:i<t.length+1:=hi;show _↔i+1=t.length+1;by_cases h1:i<t.length
  ·have e:(t++[n+1]).getD i 0=t[i]:=by rw [List.getD_eq_getElem?_getD,List.getElem?_append_left h1,List.getElem?_eq_getElem h1];rfl
   have:=h t[i] (List.getElem_mem h1);rw [e];omega
  ·obtain rfl:i=t.length:=by omega
   have e:(t++[n+1]).getD t.length 0=n+1:=by rw [List.getD_eq_getElem?_getD,List.getElem?_append_right (Nat.le_refl _),Nat.sub_self];rfl
   rw [e];omega
theorem mayK {l:List UInt8} (h:l≠[]):May14 (codesK l) (sizeK l:Int):=by
 have h1:=encOkK h;obtain⟨t,ht,hx⟩:=Zix _ h1.1 (placesK l) 0 h1.2.2;unfold codesK;rw [ZerM.enc_eq,ht];have:=Zrn h1.1 h1.2.1 hx;have e:((sizeK l:Nat):Int)=((symsK l).length:Int)+2:=by unfold sizeK;omega
 rw [e];exact this
theorem Zda (l:List UInt8):(codesK l).length<=l.length+1:=by
 have:=ZerM.enc_len (placesK l) ((symsK l).length:Int);rw [Zcm] at this;exact this
noncomputable def rowK (l:List UInt8):List Bool:=allC (rnd (codesK l) (sizeK l) 4) (pks (codesK l) (sizeK l)) (codesK l)
noncomputable def allK (l:List UInt8) (origin sum:Nat):List Bool:=field sum 32++[false]++field origin 24++ubits (has l)++rowK l
end BlkM
end
section
open Go.RowKit BitM HufM CanM CodM UsedM MtfM TabM FreqM BlkM
theorem ZfI (l:List UInt8):has (symsK l)=has l:=by
 funext n
 by_cases h:n<256
 ·exact ZmA (has l) n h
 ·rw [ZoF _ _ (by omega),ZoF _ _ (by omega)]
theorem Bnds.touch {w w':World} {S:Nat->Prop} (h:Bnds w) (ht:Touch S w w') (hS:¬S 2):Bnds w':=by
 have hl:=h.lt;obtain⟨t,fr,h⟩:=h;exact⟨t,fr,(ht.block _ hl hS).trans h⟩
theorem Zro {w:World} {base:Nat} {zs:List Int} {a:Option Addr} {n c:Nat} (h:OwnI w base (.slice a n c) zs):n<=c/\c<=9223372036854775807:=by
 rcases h.2 with⟨h1,_⟩|⟨g,cap,cur,h1,_,_,h4,h5,_⟩
 ·simp only [Value.slice.injEq] at h1;omega
 ·simp only [Value.slice.injEq] at h1;obtain⟨_,rfl,rfl⟩:=h1;unfold maxLen at h5;omega
theorem Wrote.used {w w1 w2:World} {g:Nat} {v:Value} {tk:Nat} {q f:List Bool} {v1:Value} (h2:Touch (foot g v) w w1) (h3:∀k,v1.ownBlock=some k->v.ownBlock=some k\/w.heap.size<=k) (k:UsWrote w1 w2 g v1 q tk f):Wrote w g v tk (q++f) w2:=by
 obtain⟨v2,k1,k2,k3⟩:=k;have hs:=h2.size
 have hv:∀i,foot g v1 i->foot g v i\/w.heap.size<=i:=fun i hi=>by
  rcases hi with rfl|hi
  ·exact Or.inl (Or.inl rfl)
  ·exact(h3 i hi).imp Or.inr id
 exact⟨v2,k1,h2.trans k2 hv,fun i hi=>by
  rcases k3 i hi with h|h
  ·exact h3 i h
  ·exact Or.inr (by omega)⟩
theorem Wrote.wrote {w w1 w2:World} {g:Nat} {v:Value} {tk:Nat} {q:List Bool} {v1:Value} (h2:Touch (foot g v) w w1) (h3:∀k,v1.ownBlock=some k->v.ownBlock=some k\/w.heap.size<=k) (k:Wrote w1 g v1 tk q w2):Wrote w g v tk q w2:=by
 obtain⟨v2,k1,k2,k3⟩:=k;have hs:=h2.size
 have hv:∀i,foot g v1 i->foot g v i\/w.heap.size<=i:=fun i hi=>by
  rcases hi with rfl|hi
  ·exact Or.inl (Or.inl rfl)
  ·exact(h3 i hi).imp Or.inr id
 exact⟨v2,k1,h2.trans k2 hv,fun i hi=>by
  rcases k3 i hi with h|h
  ·exact h3 i h
  ·exact Or.inr (by omega)⟩
theorem ZhP (b:Nat) (v:Value) (q0:List Bool) (tk:Nat) (s:ByteArray) (O sum:Nat) (w:World) (hw:IsWriter w b v q0 tk) (hB:Bnds w) (hs:s.size<=300) (ho:O<s.size) (hsum:sum<4294967296) (hq:q0.length<=100000) (hgb:2<b) :
  Calls Tryz.prog 43 #[.pointer (some ⟨b,0,none⟩),.string s,.int .i64 (O:Int),.int .u32 (sum:Int)] w fun e w'=>e=.returned (.int .i64 0)/\Wrote w b v tk (q0++allK s.data.toList O sum) w':=by
 have h1:¬(900000:Int)<(s.size:Int):=by omega
 have h2:¬(s.size:Int)<=(O:Int):=by omega
 obtain⟨l,hl⟩:∃l,s.data.toList=l:=⟨_,rfl⟩
 have hll:l.length=s.size:=by rw [<-hl];rfl
 have hne:l≠[]:=fun e=>by rw [e] at hll;simp at hll;omega
 obtain⟨Sy,hSy⟩:∃Sy:ByteArray,(⟨(syms (has l) 256).toArray⟩:ByteArray)=Sy:=⟨_,rfl⟩
 have hSl:Sy.data.toList=symsK l:=by rw [<-hSy];rfl
 have hSz:Sy.size=(symsK l).length:=by rw [<-hSl];rfl
 have h256:=Zga l;have hpos:=ZeG hne;have HSY:=zh (fun W=>ZlO s W (by unfold maxLen;omega));rw [hl,hSy] at HSY;have HEN:=zh (fun W=>Znz s Sy W hs (by omega));rw [hl,hSl] at HEN
 have HPP:Hid (∀zs err,mtEncP l (symsK l) zs err->zs=placesK l):=zh (fun zs err h=>by
  obtain⟨m,hm⟩:=Zc9 l;rcases h with⟨h,_⟩|⟨_,h,_⟩|⟨_,⟨m2,h⟩,_⟩
  ·exact absurd (Zgb hne) h
  ·rw [hm] at h;cases h
  ·rw [hm] at h;cases h;rfl)
 have HCC:Hid (∀ys err,ZerM.EncP (placesK l) (Sy.size:Int) ys err->ys=codesK l):=zh (fun ys err h=>by
  rw [hSz] at h;rcases h with⟨h,_⟩|⟨_,h,_⟩
  ·exact absurd (encOkK hne) h
  ·exact h)
 have hpl:=Zcm l;have hcl:=Zda l;have HZN:=zh (fun(u:Value) W (h:IsInts W u (placesK l))=>ZlV u (placesK l) (Sy.size:Int) W h (by omega));have HUW:=zh (fun(v:Value) (q:List Bool) W (h:IsWriter W b v q tk) (h2:q.length<=1000000)=>Zpl b v q tk Sy W h (by unfold maxLen;omega) (by rw [hSl];exact Zgb hne) h2);have HUB:Hid (ubits (has Sy.data.toList)=ubits (has l)):=zh (by rw [hSl,ZfI]);have HMK:Hid (May14 (codesK l) (sizeK l:Int)):=zh (mayK hne);have hsk:(Sy.size:Int)+2=((sizeK l:Nat):Int):=by unfold sizeK;omega
 obtain⟨NK,hNK⟩:∃N,sizeK l=N:=⟨_,rfl⟩
 have hNK2:NK<=258:=by rw [<-hNK];unfold sizeK;omega
 have hnkw:IntKind.i64.wrap (NK:Int)=(NK:Int):=IntWalk.i64_in _ (by omega);rw [hNK] at hsk HMK
 have HALL:Hid (q0++allK l O sum=q0++field sum 32++field 0 1++field O 24++ubits (has l)++allC (rnd (codesK l) NK 4) (pks (codesK l) NK) (codesK l)):=zh (by
  unfold allK rowK;rw [hNK];have e:field 0 1=[false]:=rfl;rw [e];simp only [List.append_assoc])
 have hub:(ubits (has l)).length<=272:=by rw [ZbT];have:=Zfp (has l) 16;omega
 have HUL:=zh hub
 have hOw:IntKind.u32.wrap (O:Int)=(O:Int):=by
  simp [IntKind.wrap,IntKind.bits,IntKind.signed];omega
 have HW:=zh hw;have HBN:=zh hB;have HOL:Hid (O<2^24):=zh (by have:(2:Nat)^24=16777216:=(by decide);omega);have HSU:Hid (sum<2^32):=zh hsum;have HCL:Hid ((codesK l).length<=1000):=zh (by omega);have HQ0:=zh hq;have HGB:=zh hgb;rw [hl];clear hgb hw hB hSy hSl hSz h256 hpos hpl hcl hub hsum hq hl hll hne hNK;go_enter Tryz.func43,Tryz.ntmps43;go_wp2_with fail;refine(HSY.out _).mono ?_;rintro e w1 ⟨rfl,hb1⟩;have HT1:=zh hb1;have HW1:=zh (HW.out.other (Touch.ofBelow (S:=fun _=>False) hb1) (fun _ _ h=>h));clear hb1;go_wp2_with fail;refine(HEN.out _).mono ?_;rintro e w2 ⟨u2,zs2,er2,rfl,hi2,hb2,hp2⟩;obtain rfl:=HPP.out _ _ hp2;have HI2:=zh hi2;have HT2:=zh (HT1.out.trans (hb2.mono HT1.out.size));clear hi2 hb2 hp2;go_wp2_with fail;refine(HZN.out _ _ HI2.out).mono ?_;rintro e w3 ⟨u3,zs3,er3,rfl,ho3,hb3,hp3⟩;obtain rfl:=HCC.out _ _ hp3;obtain⟨a3,c3,rfl⟩:=ho3.slice;obtain⟨hc3,hc4⟩:=Zro ho3;have HO3:=zh ho3;have HC3:=zh (And.intro hc3 hc4);have hsz2:=HT2.out.size
 have HF3:Hid (∀k,(Value.slice a3 (codesK l).length c3).ownBlock=some k->¬foot b v k):=zh (fun k hk hf=>by
  have h5:=(ho3.lt k hk).1;have h6:=(HW.out.lt k hf).1;omega)
 have HB3:=zh (HT2.out.trans (hb3.mono HT2.out.size));have HW3:=zh (HW.out.other (Touch.ofBelow (S:=fun _=>False) HB3.out) (fun _ _ h=>h));have HBN3:=zh (HBN.out.below HB3.out);have HWR3:Hid (Wrote w3 b v tk q0 w3):=zh (Wrote.start HW3.out);have HK3:Hid (∀k,(Value.slice a3 (codesK l).length c3).ownBlock=some k->k<w3.heap.size):=zh (fun k hk=>(ho3.lt k hk).2);clear ho3 hb3 hp3 hc3 hc4 hsz2;have P4:=HWR3.out.put sum 32 (by omega) HSU.out (by have:=HQ0.out;omega);rw [show((32:Nat):Int)=32 from rfl] at P4;have HP4:=zh P4;clear P4;go_wp2_with fail;refine HP4.out.mono ?_;rintro e w4 ⟨rfl,k4⟩;have P5:=k4.put 0 1 (by omega) (by omega) (by rw [List.length_append,Zaa];have:=HQ0.out;omega);rw [show((0:Nat):Int)=0 from rfl,show((1:Nat):Int)=1 from rfl] at P5;have HP5:=zh P5;clear P5 k4;go_wp2_with fail;refine HP5.out.mono ?_;rintro e w5 ⟨rfl,k5⟩;have P6:=k5.put O 24 (by omega) HOL.out (by rw [List.length_append,List.length_append,Zaa,Zaa];have:=HQ0.out;omega);rw [show((24:Nat):Int)=24 from rfl] at P6;have HP6:=zh P6;clear P6 k5;go_wp2_with fail;refine HP6.out.mono ?_;rintro e w6 ⟨rfl,v6,k1,k2,k3⟩;have HU6:=zh (HUW.out v6 _ w6 k1 (by rw [List.length_append,List.length_append,List.length_append,Zaa,Zaa,Zaa];have:=HQ0.out;omega));have HT6:=zh k2;have HV6:=zh k3;clear k1 k2 k3;go_wp2_with fail;refine HU6.out.mono ?_;rintro e w7 ⟨rfl,k7⟩;obtain⟨v7,l1,l2,l3⟩:=Wrote.used HT6.out HV6.out k7;rw [HUB.out] at l1
 have hft:∀k,foot b v7 k->foot b v k\/w3.heap.size<=k:=fun k hk=>by
  rcases hk with rfl|hk
  ·exact Or.inl (Or.inl rfl)
  ·exact(l3 k hk).imp Or.inr id
 have HC7:=zh (ZnI b v7 _ tk a3 (codesK l).length c3 (codesK l) NK w7 l1 (HO3.out.ints.other l2 HF3.out) rfl HCL.out HC3.out.1 HC3.out.2 (HBN3.out.touch l2 (fun hf=>by
   have h1:=(HW3.out.lt _ hf).2;have h2:=HGB.out;omega)) HMK.out (fun k hk hf=>by
   rcases hft k hf with h|h
   ·exact HF3.out k hk h
   ·have:=HK3.out k hk;omega) (by
   rw [List.length_append,List.length_append,List.length_append,List.length_append,Zaa,Zaa,Zaa];have:=HQ0.out;have:=HUL.out;omega))
 have HT7:=zh l2;have HV7:=zh l3;clear k7 l1 l2 l3 hft;go_wp2_with fail;refine HC7.out.mono ?_;rintro e w8 ⟨rfl,k8⟩;have k9:=Wrote.wrote HT7.out HV7.out k8;have k10:=Wrote.wrote (Touch.ofBelow HB3.out) (fun k hk=>Or.inl hk) k9;rw [<-HALL.out] at k10;have HFIN:=zh k10;clear k8 k9 k10;go_wp2_with fail;go_ret;exact⟨rfl,HFIN.out⟩
end
end Go.Proofs.YtlfpbcadcfaboaaGreatDoor
namespace Go.Proofs
open Go.Shelf
def Tryz.lays129_ren:Go.Shelf.Ren:=⟨fun|129=>197|n=>n,fun|3=>3|4=>4|5=>5|9=>9|46=>112|53=>79|n=>n,fun  | n=>n⟩
theorem Tryz.lays129:Go.Proofs.Lays.n129 Tryz.prog Tryz.lays129_ren:={
 mixed:=by kernel_rfl
 f129:=Tryz.func197.trans (congrArg some (by kernel_rfl))
 t3:=Tryz.underlying3
 a3:=Tryz.isAgg3
 z3:=Tryz.sizeOf3
 v3:=Tryz.zeroValue3
 t4:=Tryz.underlying4
 a4:=Tryz.isAgg4
 z4:=Tryz.sizeOf4
 v4:=Tryz.zeroValue4
 t5:=Tryz.underlying5
 a5:=Tryz.isAgg5
 z5:=Tryz.sizeOf5
 v5:=Tryz.zeroValue5
 t9:=Tryz.underlying9
 a9:=Tryz.isAgg9
 z9:=Tryz.sizeOf9
 v9:=Tryz.zeroValue9
 t46:=Tryz.underlying112
 a46:=Tryz.isAgg112
 z46:=Tryz.sizeOf112
 v46:=Tryz.zeroValue112
 t53:=Tryz.underlying79
 a53:=Tryz.isAgg79
 z53:=Tryz.sizeOf79
 v53:=Tryz.zeroValue79
}
end Go.Proofs
namespace Go.Proofs.YtlfpbcadcfaboaaGreatDoor
section
open Go.RowKit
theorem ZpY (x:Nat) (w:World) (hx:x<=1099511627776):Calls Tryz.prog 197 #[.int .u64 (x:Int)] w fun e w'=>e=.returned (.int .i64 (Lib.bitLen x:Int))/\w'=w:=by
 have h:=Any.bits_Len64 Tryz.lays129 (x:Int) w (by omega) (by omega);rw [Int.toNat_natCast] at h;exact h
theorem ZsM (x:Nat) (w:World) (hx:x<=1099511627776):Calls Tryz.prog 163 #[.int .u64 (x:Int)] w fun e w'=>e=.returned (.int .i64 (Lib.bitLen x:Int))/\w'=w:=by
 go_enter Tryz.func163,Tryz.ntmps163;go_wp2_with fail;refine(ZpY x w hx).mono ?_;rintro e w' ⟨rfl,rfl⟩;go_wp2_with fail;go_ret;exact⟨rfl,rfl⟩
theorem Zl8:∀(k x:Nat),x<2^k->k<=64->x<2^Lib.bitLen x/\(0<x->2^(Lib.bitLen x-1)<=x):=by
 intro k
 induction k with
 | zero=>
  intro x hx _;have:x=0:=by simpa using hx
  subst this;exact⟨by decide,fun h=>by omega⟩
 | succ k ih=>
  intro x hx hk;rcases Nat.eq_zero_or_pos x with rfl|h0
  ·exact⟨by decide,fun h=>by omega⟩
  ·have h1:=Lib.bitLen_half x (by omega) (Nat.lt_of_lt_of_le hx (Nat.pow_le_pow_right (by omega) hk));have h2:=ih (x / 2) (by rw [Nat.pow_succ] at hx;omega) (by omega);rw [h1];refine⟨by rw [Nat.add_comm,Nat.pow_succ];omega,fun _=>?_⟩;rw [Nat.add_sub_cancel_left];rcases Nat.eq_zero_or_pos (x / 2) with e|e
   ·rw [e,show Lib.bitLen 0=0 by decide];exact h0
   ·have h3:=h2.2 e
    have h4:0<Lib.bitLen (x / 2):=by
     rcases Nat.eq_zero_or_pos (Lib.bitLen (x / 2)) with g|g
     ·have:=h2.1;rw [g] at this;simp at this;omega
     ·exact g
    have h5:2^Lib.bitLen (x / 2)=2^(Lib.bitLen (x / 2)-1)*2:=by rw [<-Nat.pow_succ];congr 1;omega
    omega
end
section
open Go.RowKit BwtM SrtM PkM
def mostB (N:Nat):Nat:=Lib.bitLen (min N 1099511627776-1)
def mostN (N:Nat):Nat:=if N<2 then 0 else min (min N 1099511627776*((4+3*mostB N)*(mostB N+2))) 1099511627776
theorem ZrC (N:Nat):mostB N<=40:=by
 have e:(2:Nat)^40=1099511627776:=by decide
 exact Lib.bitLen_le _ 40 (by omega) (by rw [e];omega)
theorem Zm0 (N:Nat):mostN N<=1099511627776:=by
 unfold mostN;split<;>omega
theorem ZpZ (n:Int) (w:World) (h1:-9223372036854775808<=n) (h2:n<=9223372036854775807):Calls Tryz.prog 131 #[.int .i64 n] w fun e w'=>e=.returned (.int .i64 (mostN n.toNat:Int))/\w'=w:=by
 by_cases hn:n<2
 ·have e:mostN n.toNat=0:=by unfold mostN;rw [if_pos (by omega)]
  rw [e];go_enter Tryz.func131,Tryz.ntmps131;go_wp2_with fail;go_ret;exact⟨rfl,rfl⟩
 ·obtain⟨N,rfl⟩:∃N:Nat,n=(N:Int):=⟨n.toNat,by omega⟩
  rw [Int.toNat_natCast];obtain⟨m,hm⟩:∃m,min N 1099511627776=m:=⟨_,rfl⟩
  obtain⟨m1,hm1⟩:∃m1,m-1=m1:=⟨_,rfl⟩
  obtain⟨b,hb⟩:∃b,Lib.bitLen m1=b:=⟨_,rfl⟩
  have hbe:mostB N=b:=by unfold mostB;rw [hm,hm1,hb]
  have hb40:b<=40:=by rw [<-hbe];exact ZrC N
  have hmm:2<=m/\m<=1099511627776:=by omega
  have HC:Hid (Calls Tryz.prog 163 #[.int .u64 (m1:Int)] w fun e w'=>e=.returned (.int .i64 (b:Int))/\w'=w):=zh (by rw [<-hb];exact ZsM m1 w (by omega));have hm1i:(m:Int)-1=(m1:Int):=by omega
  have hm1w:IntKind.i64.wrap (m1:Int)=(m1:Int):=IntWalk.i64_in _ (by omega);have hm1u:IntKind.u64.wrap (m1:Int)=(m1:Int):=by simp [IntKind.wrap,IntKind.bits,IntKind.signed];omega
  obtain⟨c3,hc3⟩:∃c3,3*b=c3:=⟨_,rfl⟩
  have hc3i:(3:Int)*(b:Int)=(c3:Int):=by omega
  obtain⟨c,hc⟩:∃c,4+c3=c:=⟨_,rfl⟩
  have hci:(4:Int)+(c3:Int)=(c:Int):=by omega
  obtain⟨e2,he2⟩:∃e2,b+2=e2:=⟨_,rfl⟩
  have he2i:(b:Int)+2=(e2:Int):=by omega
  obtain⟨d,hd⟩:∃d,m*c=d:=⟨_,rfl⟩
  have hdi:(m:Int)*(c:Int)=(d:Int):=by rw [<-hd,Int.natCast_mul]
  have hdl:d<=1099511627776*124:=by rw [<-hd];exact Nat.mul_le_mul hmm.2 (by omega)
  obtain⟨f,hf⟩:∃f,d*e2=f:=⟨_,rfl⟩
  have hfi:(d:Int)*(e2:Int)=(f:Int):=by rw [<-hf,Int.natCast_mul]
  have hfl:f<=1099511627776*124*42:=by rw [<-hf];exact Nat.mul_le_mul hdl (by omega)
  have hcw:IntKind.i64.wrap (c:Int)=(c:Int):=IntWalk.i64_in _ (by omega);have hc3w:IntKind.i64.wrap (c3:Int)=(c3:Int):=IntWalk.i64_in _ (by omega);have he2w:IntKind.i64.wrap (e2:Int)=(e2:Int):=IntWalk.i64_in _ (by omega);have hdw:IntKind.i64.wrap (d:Int)=(d:Int):=IntWalk.i64_in _ (by omega);have hfw:IntKind.i64.wrap (f:Int)=(f:Int):=IntWalk.i64_in _ (by omega)
  have hres:mostN N=min f 1099511627776:=by
   unfold mostN;rw [if_neg (by omega),hm,hbe,hc3,hc,he2,<-Nat.mul_assoc,hd,hf]
  obtain⟨r,hr⟩:∃r,min f 1099511627776=r:=⟨_,rfl⟩
  rw [hres,hr];have hN2:¬(N:Int)<2:=hn;have hmin1:min (N:Int) 1099511627776=(m:Int):=by omega
  have hmin2:min (f:Int) 1099511627776=(r:Int):=by omega
  clear hd hf hc hc3 he2 hb hm1 hres hbe hm hr;go_enter Tryz.func131,Tryz.ntmps131;go_wp2_with fail;refine HC.out.mono ?_;rintro e w' ⟨rfl,rfl⟩;go_wp2_with fail;go_ret;exact⟨rfl,rfl⟩
theorem ZsN {n:Nat} (hn:2<=n) (h2:n<=1099511627776):n<=2^mostB n:=by
 have e40:(2:Nat)^40=1099511627776:=by decide
 have h:=(Zl8 40 (min n 1099511627776-1) (by omega) (by omega)).1;have e:Lib.bitLen (min n 1099511627776-1)=mostB n:=rfl;rw [e] at h;omega
theorem StepsOf.most {T:List UInt8} {R:Nat} (h:StepsOf T R) (hn:T.length<=1024):R<=mostN T.length/\R<=500000:=by
 have e10:(2:Nat)^10=1024:=by decide
 have h10:R<=T.length*(4+3*10)*(10+2):=h.le (by rw [e10];exact hn);have hR:R<=500000:=by omega
 refine⟨?_,hR⟩;rcases h with⟨h1,rfl⟩|⟨h1,hm⟩
 ·exact Nat.zero_le _
 ·have:=StepsOf.le (Or.inr ⟨h1,hm⟩:StepsOf T R) (ZsN h1 (by omega));unfold mostN;rw [if_neg (by omega),Nat.min_eq_left (by omega:T.length<=1099511627776),<-Nat.mul_assoc];omega
section
variable {B : Nat} {b n : Nat} {Z : List Nat}
theorem SoSt.ord {T:List UInt8} {w:World} {st:Nat} (h:SoSt B w b n T Z st 0) (hT:T.length=n):∃bo P,w.cell? ⟨b,0,none⟩=some (.slice (some ⟨bo,0,none⟩) n n)/\IsInts w (.slice (some ⟨bo,0,none⟩) n n) (toI P)/\IsSorted T P/\P.length=n:=by
 obtain⟨bo,bc,ba,vk,vw,kb,S,h1,h2,h3⟩:=h;rcases h3 with⟨_,hs,_⟩|⟨K,_,_,_,hd⟩
 ·exact⟨bo,S.ord,h1.obj.cells.1,h1.ro.ints n n (by rw [toI_length,h1.lo]),hs,h1.lo⟩
 ·have:=hd.pos0 hT;omega
theorem ZnQ {T:List UInt8} (w:World) {st:Nat} (h:SoSt B w b n T Z st 0) (hT:T.length=n) (hn:n<=900000):Calls Tryz.prog 129 #[.pointer (some ⟨b,0,none⟩)] w fun e w'=>(∃v P,e=.returned v/\OwnI w' w.heap.size v (toI P)/\IsSorted T P)/\Below w.heap.size w w':=by
 have HD:=zh (h.done hT);obtain⟨bo,P,d0,hi,hs,hl⟩:=h.ord hT;have HC:=zh (ZkP bo 0 n n (toI P) w hi (by rw [toI_length];omega));have HS:=zh hs;clear h hi hs hT;go_enter Tryz.func129,Tryz.ntmps129;go_wp2_with fail;refine HD.out.mono ?_;rintro e w2 ⟨rfl,rfl⟩;go_wp2_with fail;refine HC.out.mono ?_;rintro e w3 ⟨v,rfl,hO,hB⟩;have HO:=zh hO;have HB:=zh hB;clear hO hB;go_wp2_with fail;go_ret;exact⟨⟨v,P,rfl,HO.out,HS.out⟩,HB.out⟩
theorem SoSt.held {T:List UInt8} {w:World} {st R:Nat} (h:SoSt B w b n T Z st R) (hn:n<=900000):Calls Tryz.prog 126 #[.pointer (some ⟨b,0,none⟩)] w fun e w'=>e=.returned (.int .i64 ((3*n:Nat):Int))/\∃m,w'=w.drewN m:=by
 obtain⟨bo,bc,ba,vk,vw,kb,S,h1,h2,h3⟩:=h;exact ZpO w h1.obj (by omega)
end
end
section
open Go.RowKit BwtM SrtM PkM
def lastB (T:List UInt8) (p:Nat):UInt8:=T.getD ((if p=0 then T.length else p)-1) 0
theorem ZnR (s:ByteArray) (p:Nat) (w:World) (hs:s.size<=1000000) (hp:p<s.size):Calls Tryz.prog 162 #[.string s,.int .i64 (p:Int)] w fun e w'=>e=.returned (.int .u8 ((lastB s.data.toList p).toNat:Int))/\w'=w:=by
 have hl:=Zbr s;by_cases h0:p=0
 ·subst h0;obtain⟨j,hj⟩:∃j,s.size-1=j:=⟨_,rfl⟩
  have hjs:j<s.size:=by omega
  have hb:=ZpG s hjs
  have hx:(lastB s.data.toList 0).toNat=bt s.data.toList j:=by
   unfold lastB;rw [if_pos rfl,hl,hj,ZkX _ (by rw [hl];exact hjs)]
  rw [hx];generalize bt s.data.toList j=x at *;have hji:(s.size:Int)-1=(j:Int):=by omega
  have hjw:IntKind.i64.wrap (j:Int)=(j:Int):=IntWalk.i64_in _ (by omega);have hjl:(j:Int)<(s.size:Int):=by omega
  clear hx hl hj;go_enter Tryz.func162,Tryz.ntmps162;go_wp2_with fail;go_ret;exact⟨rfl,rfl⟩
 ·obtain⟨j,hj⟩:∃j,p-1=j:=⟨_,rfl⟩
  have hjs:j<s.size:=by omega
  have hb:=ZpG s hjs
  have hx:(lastB s.data.toList p).toNat=bt s.data.toList j:=by
   unfold lastB;rw [if_neg h0,hj,ZkX _ (by rw [hl];exact hjs)]
  rw [hx];generalize bt s.data.toList j=x at *;have hji:(p:Int)-1=(j:Int):=by omega
  have hjw:IntKind.i64.wrap (j:Int)=(j:Int):=IntWalk.i64_in _ (by omega);have hjl:(j:Int)<(s.size:Int):=by omega
  have hp0:((p:Int)==0)=false:=by rw [beq_eq_false_iff_ne];omega
  clear hx hl hj h0;go_enter Tryz.func162,Tryz.ntmps162;go_wp2_with fail;go_ret;exact⟨rfl,rfl⟩
structure TuF (F:Nat->Value) (s:ByteArray) (sp:Value) (held:Nat) (ov vw:Value) (og st:Nat):Prop where
 f0:F 0=.string s
 f1:F 1=sp
 f2:F 2=.int .i64 (held:Int)
 f3:F 3=ov
 f4:F 4=vw
 f5:F 5=.int .i64 (og:Int)
 f6:F 6=.int .i64 (st:Int)
def TuObj (w:World) (t:Nat) (s:ByteArray) (sp:Value) (held:Nat) (ov vw:Value) (og st:Nat):Prop:=∃F,ObjF 7 190 w t F/\TuF F s sp held ov vw og st
section
variable {B : Nat} {w w' : World} {t : Nat} {s : ByteArray} {sp ov vw : Value} {held og st : Nat} {zs : List Int} {l : List UInt8}
theorem TuObj.cells (h:TuObj w t s sp held ov vw og st):w.cell? ⟨t,0,none⟩=some (.string s)/\w.cell? ⟨t,1,none⟩=some sp/\w.cell? ⟨t,2,none⟩=some (.int .i64 (held:Int))/\w.cell? ⟨t,3,none⟩=some ov/\w.cell? ⟨t,4,none⟩=some vw /\
  w.cell? ⟨t,5,none⟩=some (.int .i64 (og:Int))/\w.cell? ⟨t,6,none⟩=some (.int .i64 (st:Int)):=by
 obtain⟨F,h1,h2⟩:=h;refine⟨?_,?_,?_,?_,?_,?_,?_⟩
 ·rw [(h1.cell (i:=0) (by omega)).1,h2.f0]
 ·rw [(h1.cell (i:=1) (by omega)).1,h2.f1]
 ·rw [(h1.cell (i:=2) (by omega)).1,h2.f2]
 ·rw [(h1.cell (i:=3) (by omega)).1,h2.f3]
 ·rw [(h1.cell (i:=4) (by omega)).1,h2.f4]
 ·rw [(h1.cell (i:=5) (by omega)).1,h2.f5]
 ·rw [(h1.cell (i:=6) (by omega)).1,h2.f6]
theorem TuObj.frozen (h:TuObj w t s sp held ov vw og st) (i:Nat) (hi:i<7):w.frozen? ⟨t,i,none⟩=false:=by
 obtain⟨F,h1,h2⟩:=h;exact(h1.cell hi).2
theorem TuObj.lt (h:TuObj w t s sp held ov vw og st):t<w.heap.size:=by
 obtain⟨F,h1,h2⟩:=h;exact h1.lt
theorem TuObj.other (h:TuObj w t s sp held ov vw og st) {X:Nat->Prop} (ht:Touch X w w') (hX:¬X t):TuObj w' t s sp held ov vw og st:=by
 obtain⟨F,h1,h2⟩:=h;exact⟨F,h1.other ht hX,h2⟩
theorem TuObj.set1 (h:TuObj w t s sp held ov vw og st) (x:Value):TuObj (w.setCell ⟨t,1,none⟩ x) t s x held ov vw og st:=by
 obtain⟨F,h1,h2⟩:=h;exact⟨_,h1.set 1 _,(Zad _ _ (by omega)).trans h2.f0,ZaO _ _ _,(Zad _ _ (by omega)).trans h2.f2,(Zad _ _ (by omega)).trans h2.f3,(Zad _ _ (by omega)).trans h2.f4,(Zad _ _ (by omega)).trans h2.f5,(Zad _ _ (by omega)).trans h2.f6⟩
theorem TuObj.set3 (h:TuObj w t s sp held ov vw og st) (x:Value):TuObj (w.setCell ⟨t,3,none⟩ x) t s sp held x vw og st:=by
 obtain⟨F,h1,h2⟩:=h;exact⟨_,h1.set 3 _,(Zad _ _ (by omega)).trans h2.f0,(Zad _ _ (by omega)).trans h2.f1,(Zad _ _ (by omega)).trans h2.f2,ZaO _ _ _,(Zad _ _ (by omega)).trans h2.f4,(Zad _ _ (by omega)).trans h2.f5,(Zad _ _ (by omega)).trans h2.f6⟩
theorem TuObj.set4 (h:TuObj w t s sp held ov vw og st) (x:Value):TuObj (w.setCell ⟨t,4,none⟩ x) t s sp held ov x og st:=by
 obtain⟨F,h1,h2⟩:=h;exact⟨_,h1.set 4 _,(Zad _ _ (by omega)).trans h2.f0,(Zad _ _ (by omega)).trans h2.f1,(Zad _ _ (by omega)).trans h2.f2,(Zad _ _ (by omega)).trans h2.f3,ZaO _ _ _,(Zad _ _ (by omega)).trans h2.f5,(Zad _ _ (by omega)).trans h2.f6⟩
theorem TuObj.set5 (h:TuObj w t s sp held ov vw og st) (x:Nat):TuObj (w.setCell ⟨t,5,none⟩ (.int .i64 (x:Int))) t s sp held ov vw x st:=by
 obtain⟨F,h1,h2⟩:=h;exact⟨_,h1.set 5 _,(Zad _ _ (by omega)).trans h2.f0,(Zad _ _ (by omega)).trans h2.f1,(Zad _ _ (by omega)).trans h2.f2,(Zad _ _ (by omega)).trans h2.f3,(Zad _ _ (by omega)).trans h2.f4,ZaO _ _ _,(Zad _ _ (by omega)).trans h2.f6⟩
theorem TuObj.set6 (h:TuObj w t s sp held ov vw og st) (x:Nat):TuObj (w.setCell ⟨t,6,none⟩ (.int .i64 (x:Int))) t s sp held ov vw og x:=by
 obtain⟨F,h1,h2⟩:=h;exact⟨_,h1.set 6 _,(Zad _ _ (by omega)).trans h2.f0,(Zad _ _ (by omega)).trans h2.f1,(Zad _ _ (by omega)).trans h2.f2,(Zad _ _ (by omega)).trans h2.f3,(Zad _ _ (by omega)).trans h2.f4,(Zad _ _ (by omega)).trans h2.f5,ZaO _ _ _⟩
end
def OrdV (ov:Value):Prop:=ov=.slice none 0 0\/∃bo off n cap,ov=.slice (some ⟨bo,off,none⟩) n cap/\n<=cap/\cap<=9223372036854775807
structure IsTu (B:Nat) (w:World) (t:Nat) (s:ByteArray) (sp:Value) (held:Nat) (zs:List Int) (l:List UInt8) (og st:Nat) (ov vw:Value):Prop where
 obj:TuObj w t s sp held ov vw og st
 row:IsInts w ov zs
 last:OwnY w B vw l
 oap:ov.ownBlock≠some t
 lap:∀j,vw.ownBlock=some j->j≠t/\ov.ownBlock≠some j
 base:B<=t
 olt:∀j,ov.ownBlock=some j->j<w.heap.size
 oin:OrdV ov
section
variable {B : Nat} {w w' : World} {t : Nat} {s : ByteArray} {sp ov vw : Value} {held og st : Nat} {zs : List Int} {l : List UInt8}
theorem IsTu.own {sp':Value} {held' og' st':Nat} (h:IsTu B w t s sp held zs l og st ov vw) (ht:Touch (·=t) w w') (ho:TuObj w' t s sp' held' ov vw og' st'):IsTu B w' t s sp' held' zs l og' st' ov vw:=
 ⟨ho,h.row.same (fun k hk=>ht.block k (h.olt k hk) (fun e=>h.oap (by rw [<-e];exact hk))),h.last.same (fun k hk=>ht.block k (h.last.lt k hk).2 (h.lap k hk).1),h.oap,h.lap,h.base,fun j hj=>Nat.lt_of_lt_of_le (h.olt j hj) ht.size,h.oin⟩
theorem IsTu.other (h:IsTu B w t s sp held zs l og st ov vw) {X:Nat->Prop} (ht:Touch X w w') (h1:¬X t) (h2:∀k,ov.ownBlock=some k->¬X k) (h3:∀k,vw.ownBlock=some k->¬X k):IsTu B w' t s sp held zs l og st ov vw:=
 ⟨h.obj.other ht h1,h.row.same (fun k hk=>ht.block k (h.olt k hk) (h2 k hk)),h.last.same (fun k hk=>ht.block k (h.last.lt k hk).2 (h3 k hk)),h.oap,h.lap,h.base,fun j hj=>Nat.lt_of_lt_of_le (h.olt j hj) ht.size,h.oin⟩
theorem IsTu.below (h:IsTu B w t s sp held zs l og st ov vw) (ht:Below w.heap.size w w'):IsTu B w' t s sp held zs l og st ov vw:=
 h.other (Touch.ofBelow (S:=fun _=>False) ht) (fun e=>e) (fun _ _ e=>e) (fun _ _ e=>e)
theorem IsTu.grown {vw':Value} {l':List UInt8} (h:IsTu B w t s sp held zs l og st ov vw) (ht:Pushed w w' vw vw') (hw:OwnY w' B vw' l'):IsTu B (w'.setCell ⟨t,4,none⟩ vw') t s sp held zs l' og st ov vw' /\
  Touch (fun k=>k=t\/vw.ownBlock=some k) w (w'.setCell ⟨t,4,none⟩ vw'):=by
 have tt:Touch (fun k=>vw.ownBlock=some k) w w':=⟨ht.os,ht.tape,ht.output,ht.size,fun k hk hn=>ht.block k hk hn⟩
 have t2:Touch (·=t) w' (w'.setCell ⟨t,4,none⟩ vw'):=Zae (Touch.refl _ _);have h1:TuObj w' t s sp held ov vw og st:=h.obj.other tt (fun e=>(h.lap t e).1 rfl)
 have hlap:∀j,vw'.ownBlock=some j->j≠t/\ov.ownBlock≠some j:=fun j hj=>by
  rcases ht.own j hj with e|e
  ·exact h.lap j e
  ·have l1:=h.obj.lt;exact⟨by omega,fun e2=>by have:=h.olt j e2;omega⟩
 have hrow:IsInts w' ov zs:=h.row.same (fun k hk=>tt.block k (h.olt k hk) (fun e=>(h.lap k e).2 hk));have hsz:=ht.size
 exact⟨⟨h1.set4 vw',hrow.same (fun k hk=>t2.block k (Nat.lt_of_lt_of_le (h.olt k hk) hsz) (fun e=>h.oap (by rw [<-e];exact hk))),hw.same (fun k hk=>t2.block k (hw.lt k hk).2 (hlap k hk).1),h.oap,hlap,h.base,fun j hj=>Nat.lt_of_lt_of_le (h.olt j hj) (Nat.le_trans hsz t2.size),h.oin⟩,
  (tt.mono (fun _ h=>Or.inr h)).trans (t2.mono (fun _ h=>Or.inl h)) (fun _ h=>Or.inl h)⟩
theorem IsTu.setRow {ov':Value} {zs':List Int} (h:IsTu B w t s sp held zs l og st ov vw) (hr:IsInts w ov' zs') (h1:ov'.ownBlock≠some t) (h2:∀j,vw.ownBlock=some j->ov'.ownBlock≠some j) (h3:∀j,ov'.ownBlock=some j->j<w.heap.size) (h4:OrdV ov'):IsTu B (w.setCell ⟨t,3,none⟩ ov') t s sp held zs' l og st ov' vw:=by
 have t2:Touch (·=t) w (w.setCell ⟨t,3,none⟩ ov'):=Zae (Touch.refl _ _);exact⟨h.obj.set3 ov',hr.same (fun k hk=>t2.block k (h3 k hk) (fun e=>h1 (by rw [<-e];exact hk))),h.last.same (fun k hk=>t2.block k (h.last.lt k hk).2 (h.lap k hk).1),h1,fun j hj=>⟨(h.lap j hj).1,h2 j hj⟩,h.base,fun j hj=>Nat.lt_of_lt_of_le (h3 j hj) t2.size,h4⟩
theorem Zp1 (h:IsTu B w t s sp held zs l og st ov vw) (hs:0<s.size) (hs2:s.size<=1000000) (hl:l.length<=1000000):Calls Tryz.prog 132 #[.pointer (some ⟨t,0,none⟩)] w fun e w'=>e=.returned (.bool (l.length==s.size))/\∃m,w'=w.drewN m:=by
 obtain⟨c0,_,_,_,c4,_,_⟩:=h.obj.cells;obtain⟨a,cap,rfl⟩:=h.last.slice;obtain⟨n,hn⟩:∃n,l.length=n:=⟨_,rfl⟩
 rw [hn] at c4 hl ⊢;have hemp:=ZjF s hs;obtain⟨r,hr⟩:∃r,(n==s.size)=r:=⟨_,rfl⟩
 have hri:((n:Int)==(s.size:Int))=r:=by rw [<-hr,Bool.eq_iff_iff,beq_iff_eq,beq_iff_eq];omega
 rw [hr];clear h hn hr;go_enter Tryz.func132,Tryz.ntmps132;go_wp2_with fail
 go_quiet (fail)
 go_wp2_with fail;go_ret;exact⟨rfl,_,rfl⟩
theorem Zl9 (h:IsTu B w t s sp held zs l og st ov vw) (hs:0<s.size) (hs2:s.size<=1000000) (hl:l.length=s.size):Calls Tryz.prog 92 #[.pointer (some ⟨t,0,none⟩)] w fun e w'=>e=.returned (.tuple #[.string ⟨l.toArray⟩,.int .i64 (og:Int)])/\∃m,w'=w.drewN m:=by
 have HD:=zh (Zp1 h hs hs2 (by omega));rw [show(l.length==s.size)=true by rw [beq_iff_eq];exact hl] at HD;obtain⟨_,_,_,_,c4,c5,_⟩:=h.obj.cells;have HL:=zh h.last;have HCV:=fun m=>ZjN (W:=w.drewN m) h.last
 clear h hl;go_enter Tryz.func92,Tryz.ntmps92;go_wp2_with fail;refine HD.out.mono ?_;rintro e w2 ⟨rfl,m,rfl⟩;go_wp2_with fail
 go_quiet (fail)
 go_wp2_with fail;go_ret2;exact⟨rfl,_,by rw [World.drewN_drewN]⟩
end
end
section
open Go.RowKit BwtM SrtM PkM
def orgN (P:List Nat):Nat->Nat
 | 0=>0
 | k+1=>if P.getD k 0=0 then k else orgN P k
theorem Zp2 (P:List Nat):∀k,orgN P k<=k
 | 0=>Nat.le_refl _
 | k+1=>by
  unfold orgN;have:=Zp2 P k;split<;>omega
def lastN (T:List UInt8) (P:List Nat) (k:Nat):List UInt8:=(P.take k).map (lastB T)
theorem ZdM {T:List UInt8} {P:List Nat} {k:Nat} (h:k<P.length):lastN T P (k+1)=lastN T P k++[lastB T (P.getD k 0)]:=by
 unfold lastN;rw [List.take_succ_eq_append_getElem h,List.map_append,List.getD_eq_getElem?_getD,List.getElem?_eq_getElem h];rfl
theorem ZaT {T:List UInt8} {P:List Nat} {k:Nat} (h:k<=P.length):(lastN T P k).length=k:=by unfold lastN;rw [List.length_map,List.length_take];omega
theorem Ztx (b off n cap g:Nat) (h1:g<=n) (h2:n<=cap) (h3:cap<=9223372036854775807) (W:World):(Instr.slice 106 (.slice (some ⟨b,off,none⟩) n cap) none (some (.int .i64 (g:Int))) none).run Tryz.prog W=.ok (.slice (some ⟨b,off,none⟩) g cap) W:=by
 have hs:(sizeOf (Tryz.prog.elem 106)).run Tryz.prog W=.ok 1 W:=by kernel_rfl
 rw [run_slice_h W 106 (some ⟨b,off,none⟩) n cap (by kernel_rfl) .i64 _ (by omega) (by omega),hs];have e1:((g:Int)).toNat=g:=by omega
 simp [Result.andThen,sliced,e1,Addr.add]
theorem Zty (b off n cap g:Nat) (h1:g<=n) (h2:n<=cap) (h3:cap<=9223372036854775807) (W:World):(Instr.slice 106 (.slice (some ⟨b,off,none⟩) n cap) (some (.int .i64 (g:Int))) none none).run Tryz.prog W=.ok (.slice (some ⟨b,if cap=g then off else off+g,none⟩) (n-g) (cap-g)) W:=by
 have hs:(sizeOf (Tryz.prog.elem 106)).run Tryz.prog W=.ok 1 W:=by kernel_rfl
 rw [run_slice_l W 106 (some ⟨b,off,none⟩) n cap (by kernel_rfl) .i64 _ (by omega) (by omega),hs];have e1:((g:Int)).toNat=g:=by omega
 by_cases e3:cap=g
 ·simp [Result.andThen,sliced,e1,e3]
 ·simp [Result.andThen,sliced,e1,e3,Addr.add]
section
variable {B : Nat} {t : Nat} {s : ByteArray} {sp : Value} {held st : Nat}
def TakeP (B:Nat) (w w':World) (t:Nat) (s:ByteArray) (sp:Value) (held st:Nat) (P:List Nat) (k g:Nat) (e:Ending):Prop:=
 e=.returned (.int .i64 (g:Int))/\∃bo off nn cap vw,IsTu B w' t s sp held (toI (P.drop (k+g))) (lastN s.data.toList P (k+g)) (orgN P (k+g)) st (.slice (some ⟨bo,off,none⟩) nn cap) vw/\(P.length-(k+g)=nn/\nn<=cap/\cap<=9223372036854775807)/\Below B w w'
theorem ZnS (w:World) (q:Nat) (vw:Value) (l:List UInt8) (og:Nat) (h:IsTu B w t s sp held [] l og st (.slice none 0 0) vw) (hq:q<=9223372036854775807) (hb:B<=w.heap.size) :
  Calls Tryz.prog 130 #[.pointer (some ⟨t,0,none⟩),.int .i64 (q:Int)] w fun e w'=>e=.returned (.int .i64 0)/\IsTu B w' t s sp held [] l og st (.slice none 0 0) vw/\Touch (·=t) w w':=by
 obtain⟨c0,_,_,c3,_⟩:=h.obj.cells;have e3:=h.obj.frozen 3 (by omega);have hmin:min (q:Int) 0=0:=by omega
 have HF:Hid (IsTu B (w.setCell ⟨t,3,none⟩ (.slice none 0 0)) t s sp held [] l og st (.slice none 0 0) vw):=zh (h.own (Zae (Touch.refl _ _)) (h.obj.set3 _));have HT:Hid (Touch (·=t) w (w.setCell ⟨t,3,none⟩ (.slice none 0 0))):=zh (Zae (Touch.refl _ _));clear h;go_enter Tryz.func130,Tryz.ntmps130;go_wp2_with fail
 go_loopw [22] (fun vj wr=>vj=.int .i64 0/\wr=w) (fun _ _=>0)
 case atStart=>exact⟨rfl,rfl⟩
 case round=>
  obtain⟨rfl,rfl⟩:=hrel;go_wp2_with fail;go_ret;exact⟨rfl,HF.out,HT.out⟩
theorem Zk6 (w:World) (P:List Nat) (k q:Nat) (bo off cap n:Nat) (vw:Value) (h:IsTu B w t s sp held (toI (P.drop k)) (lastN s.data.toList P k) (orgN P k) st (.slice (some ⟨bo,off,none⟩) n cap) vw) (hP:∀p∈P,p<s.size) (hk:k<=P.length) (hn:P.length-k=n) (hc1:n<=cap) (hc2:cap<=9223372036854775807) (hPl:P.length<=500000) (hs:s.size<=1000000) (hq:q<=9223372036854775807) (hb:B<=w.heap.size) :
  Calls Tryz.prog 130 #[.pointer (some ⟨t,0,none⟩),.int .i64 (q:Int)] w fun e w'=>TakeP B w w' t s sp held st P k (min q n) e:=by
 have hlen:(toI (P.drop k)).length=n:=by rw [toI_length,List.length_drop];exact hn
 have HLEN:=zh hlen;obtain⟨g,hg⟩:∃g,min q n=g:=⟨_,rfl⟩
 have hmin:min (q:Int) (n:Int)=(g:Int):=by omega
 obtain⟨c0,_,_,c3,_⟩:=h.obj.cells;have H:=zh h;have hgn:g<=n:=by omega
 have HP:=zh hP;rw [hg];have HNK:Hid (P.length=k+n):=zh (by omega);have hsl:=fun W=>Ztx bo off n cap g hgn hc1 hc2 W
 have HB0:Hid (Below B w w):=zh (Below.refl _ _);have hn5:n<=500000:=by omega
 have HCELL:Hid (∀W j,j<n->IsInts W (.slice (some ⟨bo,off,none⟩) n cap) (toI (P.drop k))->W.cell? ⟨bo,off+j,none⟩=some (.int .i64 ((P.getD (k+j) 0:Nat):Int))):=zh (fun W j hj hI=>by
  obtain⟨b2,o2,c2,e2,hc⟩:=hI.cell (k:=j) (by rw [HLEN.out];exact hj);simp only [Value.slice.injEq,Option.some.injEq,Addr.mk.injEq] at e2;obtain⟨⟨rfl,rfl,_⟩,_,_⟩:=e2;rw [hc,toI_getD,ZfL])
 clear h hP hlen hn hg;go_enter Tryz.func130,Tryz.ntmps130;go_wp2_with fail
 go_loopw [22] (fun vj wr=>∃(j:Nat) (vw:Value),vj=.int .i64 (j:Int)/\j<=g/\IsTu B wr t s sp held (toI (P.drop k)) (lastN s.data.toList P (k+j)) (orgN P (k+j)) st (.slice (some ⟨bo,off,none⟩) n cap) vw/\Below B w wr) (fun vj _=>g-(intOf vj).toNat)
 case atStart=>exact⟨0,vw,rfl,Nat.zero_le _,H.out,HB0.out⟩
 case round=>
  clear H HB0 c0 c3;obtain⟨j,v1,rfl,hj,hI,hB⟩:=hrel;have HI:=zh hI;have HB:=zh hB;obtain⟨c0,_,_,c3,c4,c5,_⟩:=hI.obj.cells;have e3:=hI.obj.frozen 3 (by omega);have e4:=hI.obj.frozen 4 (by omega);have e5:=hI.obj.frozen 5 (by omega);have hll:(lastN s.data.toList P (k+j)).length=k+j:=ZaT (by rw [HNK.out];omega);have HLL:=zh hll;clear hI hB;by_cases hjg:j<g
  ·have hji:(j:Int)<(g:Int):=by omega
   have cO:=HCELL.out wr j (by omega) HI.out.row;obtain⟨p,hp⟩:∃p,P.getD (k+j) 0=p:=⟨_,rfl⟩
   rw [hp] at cO
   have hps:p<s.size:=by
    rw [<-hp,List.getD_eq_getElem?_getD,List.getElem?_eq_getElem (by rw [HNK.out];omega)];exact HP.out _ (List.getElem_mem _)
   have HPE:=zh hp;obtain⟨kj,hkj⟩:∃kj,k+j=kj:=⟨_,rfl⟩
   have HKJ:=zh hkj;have hkjb:kj<=500000:=by have:=HNK.out;omega
   rw [hkj] at HLL HI c5;have HAH:=zh (fun W=>ZnR s p W hs hps);obtain⟨y,hy⟩:∃y,lastB s.data.toList p=y:=⟨_,rfl⟩
   rw [hy] at HAH;have HY:=zh hy;clear hp hkj hy hll;obtain⟨a4,cap4,hv4⟩:=HI.out.last.slice;rw [HLL.out] at hv4;subst hv4;by_cases hp0:p=0
   ·have hp0i:((p:Int)==0)=true:=by rw [beq_iff_eq];omega
    have HG0:Hid (IsTu B (wr.setCell ⟨t,5,none⟩ (.int .i64 (kj:Int))) t s sp held (toI (P.drop k)) (lastN s.data.toList P kj) (orgN P (kj+1)) st (.slice (some ⟨bo,off,none⟩) n cap) (.slice a4 kj cap4)):=zh (by
     have e:orgN P (kj+1)=kj:=by
      show(if P.getD kj 0=0 then kj else orgN P kj)=kj;rw [<-HKJ.out,HPE.out,if_pos hp0]
     rw [e];exact HI.out.own (Zae (Touch.refl _ _)) (HI.out.obj.set5 kj))
    have HBW0:Hid (Below B w (wr.setCell ⟨t,5,none⟩ (.int .i64 (kj:Int)))):=zh (HB.out.setCell (p:=⟨t,5,none⟩) HI.out.base _);clear hp0;go_wp2_with fail;generalize wr.setCell ⟨t,5,none⟩ (.int .i64 (kj:Int))=wb at *;have HG:=HG0;have HBW:=HBW0;clear HG0 HBW0 c0 c3 c4 c5 e3 e4 e5;obtain⟨c0,_,_,c3,c4,c5,_⟩:=HG.out.obj.cells;have hSS:(fun W:World=>W.cell? ⟨t,4,none⟩=some (.slice a4 kj cap4)/\W.cell? ⟨t,0,none⟩=some (.string s)) wb.drew:=⟨c4,c0⟩
    have hLT:t<wb.drew.heap.size:=HG.out.obj.lt
    have hSX:(fun W:World=>W.cell? ⟨t,4,none⟩=some (.slice a4 kj cap4)/\W.cell? ⟨t,0,none⟩=some (.string s)) (wb.drew.alloc (.cells #[.int .u8 (y.toNat:Int)] 5)):=
     ⟨(World.cell?_alloc_some wb.drew _ _ (by rw [hSS.1];rfl)).trans hSS.1,(World.cell?_alloc_some wb.drew _ _ (by rw [hSS.2];rfl)).trans hSS.2⟩
    refine ZeY 15 (fun W:World=>W.cell? ⟨t,4,none⟩=some (.slice a4 kj cap4)/\W.cell? ⟨t,0,none⟩=some (.string s)) (by kernel_rfl) ?_;refine Zah (i:=0) rfl (by kernel_rfl) (by kernel_rfl) (by kernel_rfl) (by kernel_rfl) (fun _ _ _ h=>h) (v:=?_) (Or.inl ⟨by rfl,?_⟩) hSS ?_;rotate_left
    ·rintro W ⟨k4,k0⟩
     go_simp
     try with_reducible rfl
    try simp only [Act.put,List.setIfInBounds_toArray,List.set_cons_zero,List.set_cons_succ]
    refine Zah (i:=1) rfl (by kernel_rfl) (by kernel_rfl) (by kernel_rfl) (by kernel_rfl) (fun _ _ _ h=>h) (v:=?_) (Or.inl ⟨by rfl,?_⟩) hSS ?_;rotate_left
    ·rintro W ⟨k4,k0⟩
     go_simp
     try with_reducible rfl
    try simp only [Act.put,List.setIfInBounds_toArray,List.set_cons_zero,List.set_cons_succ]
    refine Zah (i:=2) rfl (by kernel_rfl) (by kernel_rfl) (by kernel_rfl) (by kernel_rfl) (fun _ _ _ h=>h) (v:=?_) (Or.inl ⟨by rfl,?_⟩) hSS ?_;rotate_left
    ·rintro W ⟨k4,k0⟩
     go_simp
     try with_reducible rfl
    try simp only [Act.put,List.setIfInBounds_toArray,List.set_cons_zero,List.set_cons_succ]
    refine Zah (i:=3) rfl (by kernel_rfl) (by kernel_rfl) (by kernel_rfl) (by kernel_rfl) (fun _ _ _ h=>h) (v:=?_) (Or.inl ⟨by rfl,?_⟩) hSS ?_;rotate_left
    ·rintro W ⟨k4,k0⟩
     go_simp
     try with_reducible rfl
    try simp only [Act.put,List.setIfInBounds_toArray,List.set_cons_zero,List.set_cons_succ]
    refine Zah (i:=4) rfl (by kernel_rfl) (by kernel_rfl) (by kernel_rfl) (by kernel_rfl) (fun _ _ _ h=>h) (v:=?_) (Or.inl ⟨by rfl,?_⟩) hSS ?_;rotate_left
    ·rintro W ⟨k4,k0⟩
     go_simp
     try with_reducible rfl
    try simp only [Act.put,List.setIfInBounds_toArray,List.set_cons_zero,List.set_cons_succ]
    refine Zah (i:=5) rfl (by kernel_rfl) (by kernel_rfl) (by kernel_rfl) (by kernel_rfl) (fun _ _ _ h=>h) (v:=?_) (Or.inl ⟨by rfl,?_⟩) hSS ?_;rotate_left
    ·rintro W ⟨k4,k0⟩
     go_simp
     try with_reducible rfl
    try simp only [Act.put,List.setIfInBounds_toArray,List.set_cons_zero,List.set_cons_succ]
    refine Zah (i:=6) rfl (by kernel_rfl) (by kernel_rfl) (by kernel_rfl) (by kernel_rfl) (fun _ _ _ h=>h) (v:=?_) (Or.inl ⟨by rfl,?_⟩) hSS ?_;rotate_left
    ·rintro W ⟨k4,k0⟩
     go_simp
     try with_reducible rfl
    try simp only [Act.put,List.setIfInBounds_toArray,List.set_cons_zero,List.set_cons_succ]
    refine Zah (i:=7) rfl (by kernel_rfl) (by kernel_rfl) (by kernel_rfl) (by kernel_rfl) (fun _ _ _ h=>h) (v:=?_) (Or.inl ⟨by rfl,?_⟩) hSS ?_;rotate_left
    ·rintro W ⟨k4,k0⟩
     go_simp
     try with_reducible rfl
    try simp only [Act.put,List.setIfInBounds_toArray,List.set_cons_zero,List.set_cons_succ]
    refine Zah (i:=8) rfl (by kernel_rfl) (by kernel_rfl) (by kernel_rfl) (by kernel_rfl) (fun _ _ _ h=>h) (v:=?_) (Or.inl ⟨by rfl,?_⟩) hSS ?_;rotate_left
    ·rintro W ⟨k4,k0⟩
     go_simp
     try with_reducible rfl
    try simp only [Act.put,List.setIfInBounds_toArray,List.set_cons_zero,List.set_cons_succ]
    refine Zah (i:=9) rfl (by kernel_rfl) (by kernel_rfl) (by kernel_rfl) (by kernel_rfl) (fun _ _ _ h=>h) (v:=?_) (Or.inl ⟨by rfl,?_⟩) hSS ?_;rotate_left
    ·rintro W ⟨k4,k0⟩
     go_simp
     try with_reducible rfl
    try simp only [Act.put,List.setIfInBounds_toArray,List.set_cons_zero,List.set_cons_succ]
    refine Zau (rs:=[10]) (by kernel_rfl) (by simp) ?_;intro i hi;simp only [List.mem_cons,List.not_mem_nil,or_false] at hi;subst hi;refine Zbj rfl ?_;intro KC hKC
    go_simp
    go_at_call 162
    refine(HAH.out _).mono ?_;rintro e wA ⟨rfl,rfl⟩;refine hKC _ _ ⟨fun _=>hSS,?_⟩
    try simp only [Act.put,List.setIfInBounds_toArray,List.set_cons_zero,List.set_cons_succ]
    clear hKC;refine Zau (rs:=[11]) (by kernel_rfl) (by simp) ?_;intro i hi;simp only [List.mem_cons,List.not_mem_nil,or_false] at hi;subst hi;refine Zbj rfl ?_;intro KC hKC
    go_simp
    refine hKC _ _ ⟨fun _=>hSX,?_⟩
    try simp only [Act.put,List.setIfInBounds_toArray,List.set_cons_zero,List.set_cons_succ]
    clear hKC;refine Zau (rs:=[12]) (by kernel_rfl) (by simp) ?_;intro i hi;simp only [List.mem_cons,List.not_mem_nil,or_false] at hi;subst hi;refine Zbj rfl ?_;intro KC hKC;have HOWN:Hid (OwnY (wb.drew.alloc (.cells #[.int .u8 (y.toNat:Int)] 5)) B (.slice a4 kj cap4) (lastN s.data.toList P kj)):=zh (World.ownsRow.alloc (show wb.drew.ownsRow B 5 1 (.slice a4 kj cap4) _ _ from HG.out.last) _)
    have HBX:Hid ((wb.drew.alloc (.cells #[.int .u8 (y.toNat:Int)] 5)).cell? ⟨wb.heap.size,0,none⟩=some (u8v y)):=zh (by
     have:=cell_of_row _ _ 0 _ _ _ (heap_alloc_new wb.drew (.cells #[.int .u8 (y.toNat:Int)] 5));exact this)
    have HBZ:Hid (B<=(wb.drew.alloc (.cells #[.int .u8 (y.toNat:Int)] 5)).heap.size):=zh (by
     have h1:=HBW.out.size;have h2:wb.drew.heap.size=wb.heap.size:=rfl;simp;omega)
    refine Zgo (wb.drew.alloc (.cells #[.int .u8 (y.toNat:Int)] 5)) (by rfl) _ _ (by rfl) B wb.heap.size (.slice a4 kj cap4) (lastN s.data.toList P kj) y HOWN.out (by rfl) (by rfl) HBX.out (by rw [HLL.out];omega) HBZ.out ?_;intro v' w6 hO6 hB6 hk6 hf6;have hz:(wb.drew.alloc (.cells #[.int .u8 (y.toNat:Int)] 5)).heap.size=wb.heap.size+1:=by show(wb.heap.push _).size=_;simp
    have kt:w6.heap[t]?=wb.heap[t]?:=(hk6 t (by rw [hz];exact Nat.lt_succ_of_lt hLT) (fun e=>(HG.out.lap t e).1 rfl)).trans (Zam (w:=wb.drew) hLT);have hS6:(fun W:World=>W.cell? ⟨t,4,none⟩=some (.slice a4 kj cap4)/\W.cell? ⟨t,0,none⟩=some (.string s)) w6:=⟨(World.cell?_of_block (w:=wb) (a:=⟨t,4,none⟩) kt).trans c4,(World.cell?_of_block (w:=wb) (a:=⟨t,0,none⟩) kt).trans c0⟩
    have f4:w6.cell? ⟨t,4,none⟩=some (.slice a4 kj cap4):=hS6.1;have g4:w6.frozen? ⟨t,4,none⟩=false:=(World.frozen?_of_block (w:=wb) (a:=⟨t,4,none⟩) kt).trans (HG.out.obj.frozen 4 (by omega));refine hKC _ _ ⟨fun _=>hS6,?_⟩
    try simp only [Act.put,List.setIfInBounds_toArray,List.set_cons_zero,List.set_cons_succ]
    clear hKC;have HPU:Hid (Pushed wb w6 (.slice a4 kj cap4) v'):=zh ⟨hB6.os,hB6.tape,hB6.output,by have:=hB6.size;omega,fun k hk hn=>(hk6 k (by omega) hn).trans (Zam (w:=wb.drew) hk),fun k hk=>(hf6 k hk).imp id (fun h=>by omega)⟩
    have HO6:Hid (OwnY w6 B v' (lastN s.data.toList P (kj+1))):=zh (by
     rw [ZdM (by rw [<-HKJ.out,HNK.out];omega),<-HKJ.out,HPE.out,HY.out,HKJ.out];exact hO6)
    have HN6:=zh (HG.out.grown HPU.out HO6.out)
    have HB7:Hid (Below B w (w6.setCell ⟨t,4,none⟩ v')):=zh (HBW.out.trans (HN6.out.2.below (Nat.le_trans hb HBW.out.size) (fun x hx=>by
     rcases hx with e|e
     ·have:=HG.out.base;omega
     ·exact(HG.out.last.lt x e).1)))
    have HI7:Hid (IsTu B (w6.setCell ⟨t,4,none⟩ v') t s sp held (toI (P.drop k)) (lastN s.data.toList P (k+(j+1))) (orgN P (k+(j+1))) st (.slice (some ⟨bo,off,none⟩) n cap) v'):=zh (by
     rw [show k+(j+1)=kj+1 by have:=HKJ.out;omega];exact HN6.out.1)
    obtain⟨va,vc,hve⟩:=hO6.slice;obtain⟨vl,hvl⟩:∃vl,(lastN s.data.toList P kj++[y]).length=vl:=⟨_,rfl⟩
    rw [hvl] at hve;subst hve;clear hvl;refine Zau (rs:=[13]) (by kernel_rfl) (by simp) ?_;intro i hi;simp only [List.mem_cons,List.not_mem_nil,or_false] at hi;subst hi;refine Zbj rfl ?_;intro KC hKC
    go_simp
    refine hKC _ _ ⟨fun _=>hS6,?_⟩
    try simp only [Act.put,List.setIfInBounds_toArray,List.set_cons_zero,List.set_cons_succ]
    clear hKC;refine Zau (rs:=[14]) (by kernel_rfl) (by simp) ?_;intro i hi;simp only [List.mem_cons,List.not_mem_nil,or_false] at hi;subst hi;refine Zbj rfl ?_;intro KC hKC
    go_simp
    refine hKC _ _ ⟨fun _=>hS6,?_⟩
    try simp only [Act.put,List.setIfInBounds_toArray,List.set_cons_zero,List.set_cons_succ]
    clear hKC;refine Zau (rs:=[15]) (by kernel_rfl) (by simp) ?_;intro i hi;simp only [List.mem_cons,List.not_mem_nil,or_false] at hi;subst hi;refine Zbj rfl ?_;intro KC hKC
    go_simp
    refine hKC _ _ ⟨fun h=>absurd rfl h,?_⟩;refine ZeX (by kernel_rfl) ?_ _;clear f4 g4 hSS hSX kt hz;go_wp2_with fail;go_roundw
    case rel=>exact⟨j+1,_,by go_num,by omega,HI7.out,HB7.out⟩
    case measure=>simp [intOf];omega
   ·have hp0i:((p:Int)==0)=false:=by rw [beq_eq_false_iff_ne];omega
    have HG:Hid (IsTu B wr t s sp held (toI (P.drop k)) (lastN s.data.toList P kj) (orgN P (kj+1)) st (.slice (some ⟨bo,off,none⟩) n cap) (.slice a4 kj cap4)):=zh (by
     have e:orgN P (kj+1)=orgN P kj:=by
      show(if P.getD kj 0=0 then kj else orgN P kj)=_;rw [<-HKJ.out,HPE.out,if_neg hp0]
     rw [e];exact HI.out)
    have HBW:=HB;clear hp0;go_wp2_with fail;obtain⟨wb,rfl⟩:∃wb:World,wb=wr:=⟨_,rfl⟩
    clear c0 c3 c4 c5 e3 e4 e5;obtain⟨c0,_,_,c3,c4,c5,_⟩:=HG.out.obj.cells;have hSS:(fun W:World=>W.cell? ⟨t,4,none⟩=some (.slice a4 kj cap4)/\W.cell? ⟨t,0,none⟩=some (.string s)) wb.drew:=⟨c4,c0⟩
    have hLT:t<wb.drew.heap.size:=HG.out.obj.lt
    have hSX:(fun W:World=>W.cell? ⟨t,4,none⟩=some (.slice a4 kj cap4)/\W.cell? ⟨t,0,none⟩=some (.string s)) (wb.drew.alloc (.cells #[.int .u8 (y.toNat:Int)] 5)):=
     ⟨(World.cell?_alloc_some wb.drew _ _ (by rw [hSS.1];rfl)).trans hSS.1,(World.cell?_alloc_some wb.drew _ _ (by rw [hSS.2];rfl)).trans hSS.2⟩
    refine ZeY 15 (fun W:World=>W.cell? ⟨t,4,none⟩=some (.slice a4 kj cap4)/\W.cell? ⟨t,0,none⟩=some (.string s)) (by kernel_rfl) ?_;refine Zah (i:=0) rfl (by kernel_rfl) (by kernel_rfl) (by kernel_rfl) (by kernel_rfl) (fun _ _ _ h=>h) (v:=?_) (Or.inl ⟨by rfl,?_⟩) hSS ?_;rotate_left
    ·rintro W ⟨k4,k0⟩
     go_simp
     try with_reducible rfl
    try simp only [Act.put,List.setIfInBounds_toArray,List.set_cons_zero,List.set_cons_succ]
    refine Zah (i:=1) rfl (by kernel_rfl) (by kernel_rfl) (by kernel_rfl) (by kernel_rfl) (fun _ _ _ h=>h) (v:=?_) (Or.inl ⟨by rfl,?_⟩) hSS ?_;rotate_left
    ·rintro W ⟨k4,k0⟩
     go_simp
     try with_reducible rfl
    try simp only [Act.put,List.setIfInBounds_toArray,List.set_cons_zero,List.set_cons_succ]
    refine Zah (i:=2) rfl (by kernel_rfl) (by kernel_rfl) (by kernel_rfl) (by kernel_rfl) (fun _ _ _ h=>h) (v:=?_) (Or.inl ⟨by rfl,?_⟩) hSS ?_;rotate_left
    ·rintro W ⟨k4,k0⟩
     go_simp
     try with_reducible rfl
    try simp only [Act.put,List.setIfInBounds_toArray,List.set_cons_zero,List.set_cons_succ]
    refine Zah (i:=3) rfl (by kernel_rfl) (by kernel_rfl) (by kernel_rfl) (by kernel_rfl) (fun _ _ _ h=>h) (v:=?_) (Or.inl ⟨by rfl,?_⟩) hSS ?_;rotate_left
    ·rintro W ⟨k4,k0⟩
     go_simp
     try with_reducible rfl
    try simp only [Act.put,List.setIfInBounds_toArray,List.set_cons_zero,List.set_cons_succ]
    refine Zah (i:=4) rfl (by kernel_rfl) (by kernel_rfl) (by kernel_rfl) (by kernel_rfl) (fun _ _ _ h=>h) (v:=?_) (Or.inl ⟨by rfl,?_⟩) hSS ?_;rotate_left
    ·rintro W ⟨k4,k0⟩
     go_simp
     try with_reducible rfl
    try simp only [Act.put,List.setIfInBounds_toArray,List.set_cons_zero,List.set_cons_succ]
    refine Zah (i:=5) rfl (by kernel_rfl) (by kernel_rfl) (by kernel_rfl) (by kernel_rfl) (fun _ _ _ h=>h) (v:=?_) (Or.inl ⟨by rfl,?_⟩) hSS ?_;rotate_left
    ·rintro W ⟨k4,k0⟩
     go_simp
     try with_reducible rfl
    try simp only [Act.put,List.setIfInBounds_toArray,List.set_cons_zero,List.set_cons_succ]
    refine Zah (i:=6) rfl (by kernel_rfl) (by kernel_rfl) (by kernel_rfl) (by kernel_rfl) (fun _ _ _ h=>h) (v:=?_) (Or.inl ⟨by rfl,?_⟩) hSS ?_;rotate_left
    ·rintro W ⟨k4,k0⟩
     go_simp
     try with_reducible rfl
    try simp only [Act.put,List.setIfInBounds_toArray,List.set_cons_zero,List.set_cons_succ]
    refine Zah (i:=7) rfl (by kernel_rfl) (by kernel_rfl) (by kernel_rfl) (by kernel_rfl) (fun _ _ _ h=>h) (v:=?_) (Or.inl ⟨by rfl,?_⟩) hSS ?_;rotate_left
    ·rintro W ⟨k4,k0⟩
     go_simp
     try with_reducible rfl
    try simp only [Act.put,List.setIfInBounds_toArray,List.set_cons_zero,List.set_cons_succ]
    refine Zah (i:=8) rfl (by kernel_rfl) (by kernel_rfl) (by kernel_rfl) (by kernel_rfl) (fun _ _ _ h=>h) (v:=?_) (Or.inl ⟨by rfl,?_⟩) hSS ?_;rotate_left
    ·rintro W ⟨k4,k0⟩
     go_simp
     try with_reducible rfl
    try simp only [Act.put,List.setIfInBounds_toArray,List.set_cons_zero,List.set_cons_succ]
    refine Zah (i:=9) rfl (by kernel_rfl) (by kernel_rfl) (by kernel_rfl) (by kernel_rfl) (fun _ _ _ h=>h) (v:=?_) (Or.inl ⟨by rfl,?_⟩) hSS ?_;rotate_left
    ·rintro W ⟨k4,k0⟩
     go_simp
     try with_reducible rfl
    try simp only [Act.put,List.setIfInBounds_toArray,List.set_cons_zero,List.set_cons_succ]
    refine Zau (rs:=[10]) (by kernel_rfl) (by simp) ?_;intro i hi;simp only [List.mem_cons,List.not_mem_nil,or_false] at hi;subst hi;refine Zbj rfl ?_;intro KC hKC
    go_simp
    go_at_call 162
    refine(HAH.out _).mono ?_;rintro e wA ⟨rfl,rfl⟩;refine hKC _ _ ⟨fun _=>hSS,?_⟩
    try simp only [Act.put,List.setIfInBounds_toArray,List.set_cons_zero,List.set_cons_succ]
    clear hKC;refine Zau (rs:=[11]) (by kernel_rfl) (by simp) ?_;intro i hi;simp only [List.mem_cons,List.not_mem_nil,or_false] at hi;subst hi;refine Zbj rfl ?_;intro KC hKC
    go_simp
    refine hKC _ _ ⟨fun _=>hSX,?_⟩
    try simp only [Act.put,List.setIfInBounds_toArray,List.set_cons_zero,List.set_cons_succ]
    clear hKC;refine Zau (rs:=[12]) (by kernel_rfl) (by simp) ?_;intro i hi;simp only [List.mem_cons,List.not_mem_nil,or_false] at hi;subst hi;refine Zbj rfl ?_;intro KC hKC;have HOWN:Hid (OwnY (wb.drew.alloc (.cells #[.int .u8 (y.toNat:Int)] 5)) B (.slice a4 kj cap4) (lastN s.data.toList P kj)):=zh (World.ownsRow.alloc (show wb.drew.ownsRow B 5 1 (.slice a4 kj cap4) _ _ from HG.out.last) _)
    have HBX:Hid ((wb.drew.alloc (.cells #[.int .u8 (y.toNat:Int)] 5)).cell? ⟨wb.heap.size,0,none⟩=some (u8v y)):=zh (by
     have:=cell_of_row _ _ 0 _ _ _ (heap_alloc_new wb.drew (.cells #[.int .u8 (y.toNat:Int)] 5));exact this)
    have HBZ:Hid (B<=(wb.drew.alloc (.cells #[.int .u8 (y.toNat:Int)] 5)).heap.size):=zh (by
     have h1:=HBW.out.size;have h2:wb.drew.heap.size=wb.heap.size:=rfl;simp;omega)
    refine Zgo (wb.drew.alloc (.cells #[.int .u8 (y.toNat:Int)] 5)) (by rfl) _ _ (by rfl) B wb.heap.size (.slice a4 kj cap4) (lastN s.data.toList P kj) y HOWN.out (by rfl) (by rfl) HBX.out (by rw [HLL.out];omega) HBZ.out ?_;intro v' w6 hO6 hB6 hk6 hf6;have hz:(wb.drew.alloc (.cells #[.int .u8 (y.toNat:Int)] 5)).heap.size=wb.heap.size+1:=by show(wb.heap.push _).size=_;simp
    have kt:w6.heap[t]?=wb.heap[t]?:=(hk6 t (by rw [hz];exact Nat.lt_succ_of_lt hLT) (fun e=>(HG.out.lap t e).1 rfl)).trans (Zam (w:=wb.drew) hLT);have hS6:(fun W:World=>W.cell? ⟨t,4,none⟩=some (.slice a4 kj cap4)/\W.cell? ⟨t,0,none⟩=some (.string s)) w6:=⟨(World.cell?_of_block (w:=wb) (a:=⟨t,4,none⟩) kt).trans c4,(World.cell?_of_block (w:=wb) (a:=⟨t,0,none⟩) kt).trans c0⟩
    have f4:w6.cell? ⟨t,4,none⟩=some (.slice a4 kj cap4):=hS6.1;have g4:w6.frozen? ⟨t,4,none⟩=false:=(World.frozen?_of_block (w:=wb) (a:=⟨t,4,none⟩) kt).trans (HG.out.obj.frozen 4 (by omega));refine hKC _ _ ⟨fun _=>hS6,?_⟩
    try simp only [Act.put,List.setIfInBounds_toArray,List.set_cons_zero,List.set_cons_succ]
    clear hKC;have HPU:Hid (Pushed wb w6 (.slice a4 kj cap4) v'):=zh ⟨hB6.os,hB6.tape,hB6.output,by have:=hB6.size;omega,fun k hk hn=>(hk6 k (by omega) hn).trans (Zam (w:=wb.drew) hk),fun k hk=>(hf6 k hk).imp id (fun h=>by omega)⟩
    have HO6:Hid (OwnY w6 B v' (lastN s.data.toList P (kj+1))):=zh (by
     rw [ZdM (by rw [<-HKJ.out,HNK.out];omega),<-HKJ.out,HPE.out,HY.out,HKJ.out];exact hO6)
    have HN6:=zh (HG.out.grown HPU.out HO6.out)
    have HB7:Hid (Below B w (w6.setCell ⟨t,4,none⟩ v')):=zh (HBW.out.trans (HN6.out.2.below (Nat.le_trans hb HBW.out.size) (fun x hx=>by
     rcases hx with e|e
     ·have:=HG.out.base;omega
     ·exact(HG.out.last.lt x e).1)))
    have HI7:Hid (IsTu B (w6.setCell ⟨t,4,none⟩ v') t s sp held (toI (P.drop k)) (lastN s.data.toList P (k+(j+1))) (orgN P (k+(j+1))) st (.slice (some ⟨bo,off,none⟩) n cap) v'):=zh (by
     rw [show k+(j+1)=kj+1 by have:=HKJ.out;omega];exact HN6.out.1)
    obtain⟨va,vc,hve⟩:=hO6.slice;obtain⟨vl,hvl⟩:∃vl,(lastN s.data.toList P kj++[y]).length=vl:=⟨_,rfl⟩
    rw [hvl] at hve;subst hve;clear hvl;refine Zau (rs:=[13]) (by kernel_rfl) (by simp) ?_;intro i hi;simp only [List.mem_cons,List.not_mem_nil,or_false] at hi;subst hi;refine Zbj rfl ?_;intro KC hKC
    go_simp
    refine hKC _ _ ⟨fun _=>hS6,?_⟩
    try simp only [Act.put,List.setIfInBounds_toArray,List.set_cons_zero,List.set_cons_succ]
    clear hKC;refine Zau (rs:=[14]) (by kernel_rfl) (by simp) ?_;intro i hi;simp only [List.mem_cons,List.not_mem_nil,or_false] at hi;subst hi;refine Zbj rfl ?_;intro KC hKC
    go_simp
    refine hKC _ _ ⟨fun _=>hS6,?_⟩
    try simp only [Act.put,List.setIfInBounds_toArray,List.set_cons_zero,List.set_cons_succ]
    clear hKC;refine Zau (rs:=[15]) (by kernel_rfl) (by simp) ?_;intro i hi;simp only [List.mem_cons,List.not_mem_nil,or_false] at hi;subst hi;refine Zbj rfl ?_;intro KC hKC
    go_simp
    refine hKC _ _ ⟨fun h=>absurd rfl h,?_⟩;refine ZeX (by kernel_rfl) ?_ _;clear f4 g4 hSS hSX kt hz;go_wp2_with fail;go_roundw
    case rel=>exact⟨j+1,_,by go_num,by omega,HI7.out,HB7.out⟩
    case measure=>simp [intOf];omega
  ·have hji:¬(j:Int)<(g:Int):=by omega
   have hje:j=g:=by omega
   subst hje;have hsl3:=fun W=>Zty bo off n cap j hgn hc1 hc2 W
   obtain⟨off2,ho2⟩:∃off2,(if cap=j then off else off+j)=off2:=⟨_,rfl⟩
   have hoff2:j<n->off2=off+j:=fun h=>by rw [<-ho2,if_neg (by omega)]
   rw [ho2] at hsl3;clear ho2
   have HR:Hid (TakeP B w (wr.setCell ⟨t,3,none⟩ (.slice (some ⟨bo,off2,none⟩) (n-j) (cap-j))) t s sp held st P k j (.returned (.int .i64 (j:Int)))):=zh (by
    refine⟨rfl,bo,off2,n-j,cap-j,v1,HI.out.setRow (zs':=toI (P.drop (k+j))) ?_ (fun e=>HI.out.oap (by simpa [Value.ownBlock] using e)) (fun x hx e=>(HI.out.lap x hx).2 (by simpa [Value.ownBlock] using e)) (fun x hx=>HI.out.olt x (by simpa [Value.ownBlock] using hx)) (Or.inr ⟨bo,off2,n-j,cap-j,rfl,by omega,by omega⟩),⟨by rw [HNK.out];omega,by omega,by omega⟩,HB.out.setCell (p:=⟨t,3,none⟩) HI.out.base _⟩;have hl:(toI (P.drop (k+j))).length=n-j:=by rw [toI_length,List.length_drop,HNK.out];omega
    refine⟨_,cap-j,by rw [hl],fun i x hx=>⟨bo,off2,rfl,?_⟩⟩;have hi:i<n-j:=by rw [<-hl];exact(List.getElem?_eq_some_iff.1 hx).1
    rw [hoff2 (by omega),Nat.add_assoc,HCELL.out wr (j+i) (by omega) HI.out.row];have e:(toI (P.drop (k+j))).getD i 0=x:=by rw [List.getD_eq_getElem?_getD,hx];rfl
    rw [<-e,toI_getD,ZfL,Nat.add_assoc])
   clear hoff2;go_wp2_with fail;go_ret;exact HR.out
end
end
section
open Go.RowKit BwtM SrtM PkM
def TuSt (B:Nat) (w:World) (t n:Nat) (s:ByteArray) (R:Nat) (P:List Nat) (g:Nat):Prop:=
 ((g<R\/(g=0/\R=0))/\∃b,SoSt B w b n s.data.toList [t] g (R-g)/\IsTu B w t s (.pointer (some ⟨b,0,none⟩)) (3*n) [] [] 0 g (.slice none 0 0) (.slice none 0 0)) \/
 (R<=g/\g<=R+n/\∃bo off nn cap vw,IsTu B w t s (.pointer none) (3*n) (toI (P.drop (g-R))) (lastN s.data.toList P (g-R)) (orgN P (g-R)) g (.slice (some ⟨bo,off,none⟩) nn cap) vw/\P.length-(g-R)=nn/\nn<=cap/\cap<=9223372036854775807)
structure Srtd (s:ByteArray) (n R:Nat) (P:List Nat):Prop where
 size:s.size=n
 pos:0<n
 le:n<=1024
 ord:IsSorted s.data.toList P
 steps:StepsOf s.data.toList R
theorem Srtd.len {s:ByteArray} {n R:Nat} {P:List Nat} (h:Srtd s n R P):P.length=n/\s.data.toList.length=n/\(∀p∈P,p<n)/\R<=500000:=by
 have hl:s.data.toList.length=n:=(Zbr s).trans h.size;refine⟨by rw [h.ord.1.length_eq,List.length_range,hl],hl,fun p hp=>?_,(h.steps.most (by rw [hl];exact h.le)).2⟩;have:=List.mem_range.1 (h.ord.1.mem_iff.1 hp);omega
def BStepP (B:Nat) (w w':World) (t n:Nat) (s:ByteArray) (R:Nat) (P:List Nat) (g a:Nat) (e:Ending):Prop:=
 e=.returned (.int .i64 (a:Int))/\TuSt B w' t n s R P (g+a)/\Below B w w'
theorem ZsO {w:World} {B:Nat} {v:Value} {zs:List Int} (h:OwnI w B v zs) (hz:0<zs.length):∃bo cap,v=.slice (some ⟨bo,0,none⟩) zs.length cap/\zs.length<=cap/\cap<=9223372036854775807:=by
 have hl:=h.1;rcases h.2 with⟨rfl,h0⟩|⟨g,cap,cur,rfl,hB,hg,hnc,hcm,hcs,ht⟩
 ·rw [h0] at hz;omega
 ·exact⟨g,cap,rfl,hnc,by unfold maxLen at hcm;omega⟩
section
variable {B t n R g : Nat} {s : ByteArray} {P : List Nat}
theorem ZnT (w:World) (k:Int) (h:t<w.heap.size) (hk:k<1):Calls Tryz.prog 90 #[.pointer (some ⟨t,0,none⟩),.int .i64 k] w fun e w'=>e=.returned (.int .i64 0)/\w'=w:=by
 go_enter Tryz.func90,Tryz.ntmps90;go_wp2_with fail;go_ret;exact⟨rfl,rfl⟩
theorem ZnU (w:World) (k:Nat) (bo off nn cap:Nat) (vw:Value) (hs:Srtd s n R P) (hg:R<=g) (hg2:g<=R+n) (h:IsTu B w t s (.pointer none) (3*n) (toI (P.drop (g-R))) (lastN s.data.toList P (g-R)) (orgN P (g-R)) g (.slice (some ⟨bo,off,none⟩) nn cap) vw) (hn:P.length-(g-R)=nn) (hc1:nn<=cap) (hc2:cap<=9223372036854775807) (hk1:1<=k) (hk:k<=9223372036854775807) (hb:B<=w.heap.size) :
  Calls Tryz.prog 90 #[.pointer (some ⟨t,0,none⟩),.int .i64 (k:Int)] w fun e w'=>BStepP B w w' t n s R P g (min k (R+n-g)) e:=by
 obtain⟨hl1,hl2,hl3,hl4⟩:=hs.len;have hn1:=hs.le;have hsz:=hs.size;have hmin:min k nn=min k (R+n-g):=by rw [<-hn,hl1,show n-(g-R)=R+n-g by omega]
 have HT:=zh (Zk6 w P (g-R) k bo off cap nn vw h (by rw [hsz];exact hl3) (by omega) hn hc1 hc2 (by omega) (by omega) hk hb);rw [hmin] at HT;obtain⟨a,ha⟩:∃a,min k (R+n-g)=a:=⟨_,rfl⟩
 rw [ha] at HT ⊢;have hab:a<=R+n-g:=by omega
 obtain⟨c0,c1,_,_,_,_,c6⟩:=h.obj.cells;have HG:=zh (And.intro hg hg2);have hkg:g<=600000:=by omega
 have HL1:=zh hl1;have hkk:(1:Int)<=(k:Int):=by omega
 have HBT:=zh h.base;clear h hmin ha hl2 hl3 hn hs;go_enter Tryz.func90,Tryz.ntmps90;go_wp2_with fail;refine(ZpK _ _).mono ?_;rintro e w1 ⟨rfl,rfl⟩;go_wp2_with fail;refine(ZpJ _).mono ?_;rintro e w2 ⟨rfl,rfl⟩;go_wp2_with fail;refine HT.out.mono ?_;rintro e w3 ⟨rfl,b2,o2,n2,c2,vw3,h3,hk3,hB3⟩;have HK3:=zh hk3;have H3:=zh h3;have HB3:=zh hB3;obtain⟨_,_,_,_,_,_,d6⟩:=h3.obj.cells;have e6:=h3.obj.frozen 6 (by omega);clear h3 hB3 hk3;obtain⟨ga,hga⟩:∃ga,g+a=ga:=⟨_,rfl⟩
 have hgai:(g:Int)+(a:Int)=(ga:Int):=by omega
 have hgaw:IntKind.i64.wrap (ga:Int)=(ga:Int):=IntWalk.i64_in _ (by omega)
 have HR:Hid (BStepP B w2 (w3.setCell ⟨t,6,none⟩ (.int .i64 (ga:Int))) t n s R P g a (.returned (.int .i64 (a:Int)))):=zh (by
  have h4:=H3.out.own (Zae (i:=6) (Touch.refl _ _)) (H3.out.obj.set6 ga);have hGG:=HG.out;have e1:g-R+a=ga-R:=by omega
  rw [e1] at h4;refine⟨rfl,?_,HB3.out.setCell (p:=⟨t,6,none⟩) HBT.out _⟩;rw [hga];refine Or.inr ⟨by omega,by omega,?_⟩;have hk3:=HK3.out;rw [e1] at hk3;exact⟨b2,o2,n2,c2,vw3,h4,hk3⟩)
 clear hga;go_wp2_with fail;go_ret;exact HR.out
theorem Zma (w:World) (k b:Nat) (hs:Srtd s n R P) (hg:g<R\/(g=0/\R=0)) (hS:SoSt B w b n s.data.toList [t] g (R-g)) (h:IsTu B w t s (.pointer (some ⟨b,0,none⟩)) (3*n) [] [] 0 g (.slice none 0 0) (.slice none 0 0)) (hk1:1<=k) (hk:k<=9223372036854775807) (hb:B<=w.heap.size) :
  Calls Tryz.prog 90 #[.pointer (some ⟨t,0,none⟩),.int .i64 (k:Int)] w fun e w'=>BStepP B w w' t n s R P g (min k (R+n-g)) e:=by
 obtain⟨hl1,hl2,hl3,hl4⟩:=hs.len;have hn1:=hs.le;have hsz:=hs.size;have hpos:=hs.pos;have HST:=zh (ZpW s.data.toList w g (R-g) k hS hl2 (Or.inl hpos) (by omega) (by omega) (by omega) hk hb);obtain⟨a,ha⟩:∃a,min k (R-g)=a:=⟨_,rfl⟩
 rw [ha] at HST;obtain⟨c0,c1,_,_,_,_,c6⟩:=h.obj.cells;have H:=zh h;have HBT:=zh h.base;have HL1:=zh hl1;have HL2:=zh hl2;have HORD:=zh hs.ord;have HP:=zh hl3;have HSZ:=zh hsz;have hkg:g<=600000:=by omega
 have hkk:(1:Int)<=(k:Int):=by omega
 have HAE:=zh ha;have HGR:=zh hg;obtain⟨k2,hk2⟩:∃k2,k-a=k2:=⟨_,rfl⟩
 have hak:a<=k:=by omega
 have hk2i:(k:Int)-(a:Int)=(k2:Int):=by omega
 have hk2w:IntKind.i64.wrap (k2:Int)=(k2:Int):=IntWalk.i64_in _ (by omega);have HK2:=zh hk2;have hab:a<=R-g:=by omega
 clear h hS ha hl1 hl2 hl3 hs hsz hk2 hg;go_enter Tryz.func90,Tryz.ntmps90;go_wp2_with fail;refine HST.out.mono ?_;rintro e w1 ⟨rfl,hS1,hB1,hZ1⟩;have HS1:=zh hS1;have HB1:=zh hB1
 have H1:Hid (IsTu B w1 t s (.pointer (some ⟨b,0,none⟩)) (3*n) [] [] 0 g (.slice none 0 0) (.slice none 0 0)):=zh (by
  obtain⟨F,o1,o2⟩:=H.out.obj;exact⟨⟨F,(hZ1 t (by simp)).trans o1,o2⟩,IsInts.nil _,OwnY.nil _ _,fun e=>(by cases e),fun j hj=>(by cases hj),H.out.base,fun j hj=>(by cases hj),Or.inl rfl⟩)
 have HD:=zh (hS1.done HL2.out);obtain⟨d0,d1,_,d3,_,_,d6⟩:=H1.out.obj.cells;have e1:=H1.out.obj.frozen 1 (by omega);have e3:=H1.out.obj.frozen 3 (by omega);have HZ:=zh hS1.zlt;clear hS1 hB1 hZ1;by_cases hfin:R-g-a=0
 ·rw [show(R-g-a==0)=true by rw [beq_iff_eq];exact hfin] at HD;have HS1f:Hid (SoSt B w1 b n s.data.toList [t] (g+a) 0):=zh (by have:=HS1.out;rw [hfin] at this;exact this);have HOR:=zh (ZnQ w1 HS1f.out HL2.out (by omega));go_wp2_with fail;refine HD.out.mono ?_;rintro e w2 ⟨rfl,rfl⟩;go_wp2_with fail;refine HOR.out.mono ?_;rintro e w3 ⟨⟨v,P2,rfl,hO,hso⟩,hB3⟩;obtain rfl:P2=P:=hso.same HORD.out;have HO:=zh hO;have hzl:(toI P2).length=n:=by rw [toI_length];exact HL1.out
  obtain⟨bo,cap,hve,hc1,hc2⟩:=ZsO hO (by rw [hzl];exact hpos);rw [hzl] at hve hc1;subst hve;have H3:=zh (H1.out.below hB3);have HB3:=zh (HB1.out.trans (hB3.mono (Nat.le_trans hb HB1.out.size)));obtain⟨d0,d1,_,d3,_,_,d6⟩:=H3.out.obj.cells;have e1:=H3.out.obj.frozen 1 (by omega);have e3:=H3.out.obj.frozen 3 (by omega);have e6:=H3.out.obj.frozen 6 (by omega);have HBO:Hid (w2.heap.size<=bo/\bo<w3.heap.size):=zh (hO.lt bo rfl)
  have HT5:Hid (IsTu B ((w3.setCell ⟨t,3,none⟩ (.slice (some ⟨bo,0,none⟩) n cap)).setCell ⟨t,1,none⟩ (.pointer none)) t s (.pointer none) (3*n) (toI (P2.drop 0)) (lastN s.data.toList P2 0) (orgN P2 0) g (.slice (some ⟨bo,0,none⟩) n cap) (.slice none 0 0)):=zh (by
   have hlt:=H1.out.obj.lt;have hbo:=HBO.out;have h4:=H3.out.setRow (ov':=.slice (some ⟨bo,0,none⟩) n cap) (zs':=toI P2) HO.out.ints (fun e=>by simp [Value.ownBlock] at e;omega) (fun j hj=>by cases hj) (fun j hj=>by simp [Value.ownBlock] at hj;omega) (Or.inr ⟨bo,0,n,cap,rfl,hc1,hc2⟩);have h5:=h4.own (Zae (i:=1) (Touch.refl _ _)) (h4.obj.set1 (.pointer none));exact h5)
  have HB5:Hid (Below B w ((w3.setCell ⟨t,3,none⟩ (.slice (some ⟨bo,0,none⟩) n cap)).setCell ⟨t,1,none⟩ (.pointer none))):=zh ((HB3.out.setCell (p:=⟨t,3,none⟩) HBT.out _).setCell (p:=⟨t,1,none⟩) HBT.out _);clear hO hso hB3 hzl;go_wp2_with fail;generalize (w3.setCell ⟨t,3,none⟩ (.slice (some ⟨bo,0,none⟩) n cap)).setCell ⟨t,1,none⟩ (.pointer none)=w5 at *;have HTK:=zh (Zk6 w5 P2 0 k2 bo 0 cap n (.slice none 0 0) HT5.out (by rw [HSZ.out];exact HP.out) (Nat.zero_le _) (by rw [HL1.out];omega) hc1 hc2 (by rw [HL1.out];omega) (by rw [HSZ.out];omega) (by omega) (Nat.le_trans hb HB5.out.size));obtain⟨g2,hg2⟩:∃g2,min k2 n=g2:=⟨_,rfl⟩
  rw [hg2] at HTK;refine HTK.out.mono ?_;rintro e w6 ⟨rfl,b6,o6,n6,c6,v6,h6,hk6,hB6⟩;have H6:=zh h6;have HK6:=zh hk6;have HB6:=zh (HB5.out.trans hB6);obtain⟨_,_,_,_,_,_,d6⟩:=h6.obj.cells;have e6:=h6.obj.frozen 6 (by omega);obtain⟨tt,htt⟩:∃tt,a+g2=tt:=⟨_,rfl⟩
  have httm:min k (R+n-g)=tt:=by
   have h1:=HAE.out;have h2:=HK2.out;have h3:=HGR.out;omega
  have HTT:Hid (min k (R+n-g)=tt/\g+tt-R=g2/\R<=g+tt/\g+tt<=R+n):=zh (by
   have h3:=HGR.out;omega)
  have htti:(a:Int)+(g2:Int)=(tt:Int):=by omega
  have httw:IntKind.i64.wrap (tt:Int)=(tt:Int):=IntWalk.i64_in _ (by omega);obtain⟨gt,hgt⟩:∃gt,g+tt=gt:=⟨_,rfl⟩
  have hgti:(g:Int)+(tt:Int)=(gt:Int):=by omega
  have hgtw:IntKind.i64.wrap (gt:Int)=(gt:Int):=IntWalk.i64_in _ (by omega)
  have HR:Hid (BStepP B w (w6.setCell ⟨t,6,none⟩ (.int .i64 (gt:Int))) t n s R P2 g (min k (R+n-g)) (.returned (.int .i64 (tt:Int)))):=zh (by
   rw [HTT.out.1];have h7:=H6.out.own (Zae (i:=6) (Touch.refl _ _)) (H6.out.obj.set6 gt);rw [Nat.zero_add] at h7;have hk6:=HK6.out;rw [Nat.zero_add] at hk6;refine⟨rfl,?_,HB6.out.setCell (p:=⟨t,6,none⟩) HBT.out _⟩;have hx:=HTT.out.2;rw [hgt] at hx ⊢;refine Or.inr ⟨hx.2.1,hx.2.2,b6,o6,n6,c6,v6,?_,?_⟩
   ·rw [hx.1];exact h7
   ·rw [hx.1];exact hk6)
  clear h6 hk6 hB6 hg2 htt httm hgt;go_wp2_with fail;go_ret;exact HR.out
 ·rw [show(R-g-a==0)=false by rw [beq_eq_false_iff_ne];exact hfin] at HD
  have HAK:Hid (a=k/\k2=0):=zh (by
   have h1:=HAE.out;have h2:=HK2.out;omega)
  have HTK:=zh (ZnS w1 k2 (.slice none 0 0) [] 0 H1.out (by omega) (Nat.le_trans hb HB1.out.size));go_wp2_with fail;refine HD.out.mono ?_;rintro e w2 ⟨rfl,rfl⟩;go_wp2_with fail;refine HTK.out.mono ?_;rintro e w3 ⟨rfl,h3,hT3⟩;have H3:=zh h3;have HT3:=zh hT3;obtain⟨_,_,_,_,_,_,d6⟩:=h3.obj.cells;have e6:=h3.obj.frozen 6 (by omega);obtain⟨ga,hga⟩:∃ga,g+a=ga:=⟨_,rfl⟩
  have hgai:(g:Int)+(a:Int)=(ga:Int):=by omega
  have hgaw:IntKind.i64.wrap (ga:Int)=(ga:Int):=IntWalk.i64_in _ (by omega);have HMN:Hid (min k (R+n-g)=a):=zh (by have:=HAK.out;omega);have HLTR:Hid (ga<R):=zh (by omega)
  have HR:Hid (BStepP B w (w3.setCell ⟨t,6,none⟩ (.int .i64 (ga:Int))) t n s R P g (min k (R+n-g)) (.returned (.int .i64 (a:Int)))):=zh (by
   rw [HMN.out];have h7:=H3.out.own (Zae (i:=6) (Touch.refl _ _)) (H3.out.obj.set6 ga);have t7:Touch (·=t) w3 (w3.setCell ⟨t,6,none⟩ (.int .i64 (ga:Int))):=Zae (Touch.refl _ _);have hs7:=(HS1.out.touched HT3.out (fun k _ hk=>by rw [hk];simp)).touched t7 (fun k _ hk=>by rw [hk];simp);have hb3:Below B w w3:=HB1.out.trans (HT3.out.below (Nat.le_trans hb HB1.out.size) (fun k hk=>by rw [hk];exact HBT.out));refine⟨rfl,?_,hb3.setCell (p:=⟨t,6,none⟩) HBT.out _⟩;rw [show R-g-a=R-ga by omega] at hs7;rw [hga] at hs7 ⊢;exact Or.inl ⟨Or.inl HLTR.out,b,hs7,h7⟩)
  clear h3 hT3 hga;go_wp2_with fail;go_ret;exact HR.out
theorem Zp3 (w:World) (k:Int) (hs:Srtd s n R P) (h:TuSt B w t n s R P g) (ht:t<w.heap.size) (hk:k<=9223372036854775807) (hb:B<=w.heap.size) :
  Calls Tryz.prog 90 #[.pointer (some ⟨t,0,none⟩),.int .i64 k] w fun e w'=>BStepP B w w' t n s R P g (min k.toNat (R+n-g)) e:=by
 by_cases hk1:k<1
 ·refine(ZnT w k ht hk1).mono ?_;rintro e w' ⟨rfl,rfl⟩;rw [show min k.toNat (R+n-g)=0 by omega];exact⟨rfl,h,Below.refl _ _⟩
 ·obtain⟨K,rfl⟩:∃K:Nat,k=(K:Int):=⟨k.toNat,by omega⟩
  rw [Int.toNat_natCast];rcases h with⟨h1,b,h2,h3⟩|⟨h1,h2,bo,off,nn,cap,vw,h3,h4,h5,h6⟩
  ·exact Zma w K b hs h1 h2 h3 (by omega) (by omega) hb
  ·exact ZnU w K bo off nn cap vw hs h1 h2 h3 h4 h5 h6 (by omega) (by omega) hb
theorem TuSt.lt {w:World} (h:TuSt B w t n s R P g):t<w.heap.size:=by
 rcases h with⟨_,b,_,h3⟩|⟨_,_,bo,off,nn,cap,vw,h3,_⟩
 ·exact h3.obj.lt
 ·exact h3.obj.lt
theorem TuSt.whole {w:World} (h:TuSt B w t n s R P (R+n)) (hs:Srtd s n R P) :
  Calls Tryz.prog 92 #[.pointer (some ⟨t,0,none⟩)] w (fun e w'=>e=.returned (.tuple #[.string ⟨(lastN s.data.toList P n).toArray⟩,.int .i64 (orgN P n:Int)])/\∃m,w'=w.drewN m):=by
 obtain⟨hl1,hl2,hl3,hl4⟩:=hs.len;have h1:=hs.le;have h2:=hs.pos;have h3:=hs.size;rcases h with⟨hg,b,hS,hI⟩|⟨hg,hg2,bo,off,nn,cap,vw,hI,h4,h5,h6⟩
 ·omega
 ·have hl:(lastN s.data.toList P (R+n-R)).length=R+n-R:=ZaT (by omega);have e2:R+n-R=n:=by omega
  rw [e2] at hI hl;exact Zl9 hI (by omega) (by omega) (by omega)
end
end
section
open Go.RowKit BwtM SrtM PkM
def tuCells (s:ByteArray) (sp:Value) (held:Nat) (ov:Value):List Value:=[.string s,sp,.int .i64 (held:Int),ov,.slice none 0 0,.int .i64 0,.int .i64 0]
theorem Ztn (w:World) (s:ByteArray) (sp:Value) (held:Nat) (ov:Value):TuObj (w.alloc (.cells #[.string s,sp,.int .i64 (held:Int),ov,.slice none 0 0,.int .i64 0,.int .i64 0] 190)) w.heap.size s sp held ov (.slice none 0 0) 0 0:=by
 refine⟨fun k=>(tuCells s sp held ov).getD k undef,?_,⟨rfl,rfl,rfl,rfl,rfl,rfl,rfl⟩⟩;unfold ObjF;rw [heap_alloc_new];rfl
theorem ZrD (s:ByteArray) (n:Nat) (w:World) (hn:s.size=n) (h0:0<n) (hs:n<=1024):Calls Tryz.prog 89 #[.string s] w fun e w'=>∃t R P,e=.returned (.tuple #[.pointer (some ⟨t,0,none⟩),.int .i64 0])/\Srtd s n R P/\TuSt w.heap.size w' t n s R P 0/\Below w.heap.size w w':=by
 have hemp:=ZjF s (by omega);have HNEW:=zh (ZrB s n w hn (by omega));have HN:=zh hn;clear hn;go_enter Tryz.func89,Tryz.ntmps89;go_wp2_with fail;refine HNEW.out.mono ?_;rintro e w1 ⟨b,R,rfl,hS,hR,hB⟩;have HS:=zh hS;have HR:=zh hR;have HB:=zh hB;have HH:=zh (hS.held (by omega));clear hS hR hB;go_wp2_with fail;refine HH.out.mono ?_;rintro e w2 ⟨rfl,m,rfl⟩
 have HF:Hid (∃R P,Srtd s n R P/\TuSt w.heap.size ((w1.drewN m).alloc (.cells #[.string s,.pointer (some ⟨b,0,none⟩),.int .i64 ((3*n:Nat):Int),.slice none 0 0,.slice none 0 0,.int .i64 0,.int .i64 0] 190)) w1.heap.size n s R P 0/\Below w.heap.size w ((w1.drewN m).alloc (.cells #[.string s,.pointer (some ⟨b,0,none⟩),.int .i64 ((3*n:Nat):Int),.slice none 0 0,.slice none 0 0,.int .i64 0,.int .i64 0] 190))):=zh (by
  have hb2:Below w1.heap.size w1 ((w1.drewN m).alloc (.cells #[.string s,.pointer (some ⟨b,0,none⟩),.int .i64 ((3*n:Nat):Int),.slice none 0 0,.slice none 0 0,.int .i64 0,.int .i64 0] 190)):=(Zas w1 m).trans ((Below.refl w1.heap.size (w1.drewN m)).alloc (Nat.le_refl _) _);have hz:((w1.drewN m).alloc (.cells #[.string s,.pointer (some ⟨b,0,none⟩),.int .i64 ((3*n:Nat):Int),.slice none 0 0,.slice none 0 0,.int .i64 0,.int .i64 0] 190)).heap.size=w1.heap.size+1:=by show(w1.heap.push _).size=_;simp
  refine⟨R,sortP s.data.toList n,⟨HN.out,h0,hs,?_,HR.out⟩,Or.inl ⟨by omega,b,?_,?_⟩,HB.out.trans (hb2.mono HB.out.size)⟩
  ·have:=ZcT s.data.toList;rw [Zbr,HN.out] at this;exact this
  ·exact HS.out.with hb2 [w1.heap.size] (fun g hg=>by rw [List.mem_singleton] at hg;subst hg;rw [hz];omega)
  ·exact⟨Ztn (w1.drewN m) s _ _ _,IsInts.nil _,OwnY.nil _ _,fun e=>(by cases e),fun j hj=>(by cases hj),HB.out.size,fun j hj=>(by cases hj),Or.inl rfl⟩)
 go_wp2_with fail;go_ret2;obtain⟨R2,P2,h1,h2,h3⟩:=HF.out;exact⟨_,R2,P2,rfl,h1,h2,h3⟩
def mostBw (N:Nat):Nat:=if N<1 then 0 else min (mostN N+min N 1099511627776) 1099511627776
theorem Zp4 (n:Int) (w:World) (h1:-9223372036854775808<=n) (h2:n<=9223372036854775807):Calls Tryz.prog 91 #[.int .i64 n] w fun e w'=>e=.returned (.int .i64 (mostBw n.toNat:Int))/\w'=w:=by
 by_cases hn:n<1
 ·have e:mostBw n.toNat=0:=by unfold mostBw;rw [if_pos (by omega)]
  rw [e];go_enter Tryz.func91,Tryz.ntmps91;go_wp2_with fail;go_ret;exact⟨rfl,rfl⟩
 ·obtain⟨N,rfl⟩:∃N:Nat,n=(N:Int):=⟨n.toNat,by omega⟩
  rw [Int.toNat_natCast];have HM:=zh (ZpZ (N:Int) w h1 h2);rw [Int.toNat_natCast] at HM;have hml:=Zm0 N;have hres:mostBw N=min (mostN N+min N 1099511627776) 1099511627776:=by unfold mostBw;rw [if_neg (by omega)]
  rw [hres];obtain⟨M,hM⟩:∃M,mostN N=M:=⟨_,rfl⟩
  rw [hM] at HM hml ⊢;obtain⟨c,hc⟩:∃c,min N 1099511627776=c:=⟨_,rfl⟩
  have hci:min (N:Int) 1099511627776=(c:Int):=by omega
  obtain⟨d,hd⟩:∃d,M+c=d:=⟨_,rfl⟩
  have hdi:(M:Int)+(c:Int)=(d:Int):=by omega
  have hdw:IntKind.i64.wrap (d:Int)=(d:Int):=IntWalk.i64_in _ (by omega);obtain⟨r,hr⟩:∃r,min d 1099511627776=r:=⟨_,rfl⟩
  have hri:min (d:Int) 1099511627776=(r:Int):=by omega
  rw [hc,hd,hr];clear hres hM hc hd hr;go_enter Tryz.func91,Tryz.ntmps91;go_wp2_with fail;refine HM.out.mono ?_;rintro e w' ⟨rfl,rfl⟩;go_wp2_with fail;go_ret;exact⟨rfl,rfl⟩
theorem Srtd.most {s:ByteArray} {n R:Nat} {P:List Nat} (h:Srtd s n R P):R+n<=mostBw n/\mostBw n<=1099511627776:=by
 obtain⟨hl1,hl2,hl3,hl4⟩:=h.len;have h1:=h.le;have h2:=h.pos;have h3:=(h.steps.most (by rw [hl2];exact h1)).1;rw [hl2] at h3;have h4:=Zm0 n;unfold mostBw;rw [if_neg (by omega)];omega
theorem ZsP (s:ByteArray) (n:Nat) (w:World) (hn:s.size=n) (h0:0<n) (hs:n<=1024):Calls Tryz.prog 61 #[.string s] w fun e w'=>(∃P,IsSorted s.data.toList P/\e=.returned (.tuple #[.string ⟨(lastN s.data.toList P n).toArray⟩,.int .i64 (orgN P n:Int),.int .i64 0]))/\Below w.heap.size w w':=by
 have HNEW:=zh (ZrD s n w hn h0 hs);have HM:=zh (fun W=>Zp4 (n:Int) W (by omega) (by omega));rw [Int.toNat_natCast] at HM;obtain⟨M,hM⟩:∃M,mostBw n=M:=⟨_,rfl⟩
 rw [hM] at HM;have HME:=zh hM;have hsi:(s.size:Int)=(n:Int):=by omega
 clear hn hM;go_enter Tryz.func61,Tryz.ntmps61;go_wp2_with fail;refine HNEW.out.mono ?_;rintro e w1 ⟨t,R,P,rfl,hsr,hT,hB⟩;have HB:=zh hB;have HSR:=zh hsr;have hm:=hsr.most;rw [HME.out] at hm;have HST:=zh (Zp3 w1 (M:Int) hsr hT hT.lt (by omega) hB.size);rw [Int.toNat_natCast,Nat.sub_zero,Nat.min_eq_right hm.1] at HST;have HORD:=zh hsr.ord;clear hsr hT hB;go_wp2_with fail;refine(HM.out _).mono ?_;rintro e w2 ⟨rfl,rfl⟩;go_wp2_with fail;refine HST.out.mono ?_;rintro e w3 ⟨rfl,hT3,hB3⟩;rw [Nat.zero_add] at hT3;have HRES:=zh (hT3.whole HSR.out);have HB3:=zh (HB.out.trans hB3);clear hT3 hB3;obtain⟨L,hL⟩:∃L:ByteArray,(⟨(lastN s.data.toList P n).toArray⟩:ByteArray)=L:=⟨_,rfl⟩
 rw [hL] at HRES;have HL:=zh hL;clear hL;go_wp2_with fail;refine HRES.out.mono ?_;rintro e w4 ⟨rfl,m,rfl⟩;have HB4:=zh (HB3.out.trans (ZaS w.heap.size w3 m));go_wp2_with fail;go_ret3;exact⟨⟨P,HORD.out,by rw [HL.out];rfl⟩,HB4.out⟩
end
end Go.Proofs.YtlfpbcadcfaboaaGreatDoor

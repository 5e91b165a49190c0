import Derived.Test.YtnachbjhhpnadaaGreatDoorBcA
import Derived.Test.YtnachbjhhpnadaaGreatDoorBcD
import Derived.Test.YtnachbjhhpnadaaGreatDoorBcH
import Derived.Test.YtnachbjhhpnadaaGreatDoorBcI
import Derived.Test.YtnachbjhhpnadaaGreatDoorBcM
import Derived.Test.YtnachbjhhpnadaaGreatDoorBcN
import Derived.Test.YtnachbjhhpnadaaGreatDoorBcO
import Derived.Test.YtnachbjhhpnadaaGreatDoorBcP
import Derived.Test.YtnachbjhhpnadaaGreatDoorBcQ
import Derived.Test.YtnachbjhhpnadaaGreatDoorBcR
import Derived.Test.YtnachbjhhpnadaaGreatDoorBcS
import Derived.StillTailTactics
import Derived.Deep.RegionHeld3
import Derived.Shelf.Strconv.Itoa0
import Derived.BigQuiet
set_option linter.unusedVariables false
set_option linter.unusedSimpArgs false
set_option maxHeartbeats 8000000
set_option maxRecDepth 100000
namespace Go.Proofs.YtnachbjhhpnadaaGreatDoor
section
open Go.RowKit BitM HufM CanM CodM UsedM MtfM BlkM
theorem ZcV (b:Nat) (w:World) (cs:Array Value):Touch (·=b) w (w.setRow b cs):=⟨rfl,rfl,rfl,by simp [World.setRow],fun j hj hn=>setRow_other _ _ j _ (fun e=>hn (by omega))⟩
def RdP20 (Q:List Bool) (R:Nat) (ys:List UInt8) (origin sum:Nat) (er:Int) (k:Nat):Prop:=match rdB Q R with
 | .ok l o s b _=>ys=l/\origin=o/\sum=s/\er=0/\k=b
 | .err e=>ys=[]/\origin=0/\sum=0/\er=e/\k=0
theorem RdP20.ok {Q:List Bool} {R o s b h:Nat} {l:List UInt8} (hr:rdB Q R=.ok l o s b h):RdP20 Q R l o s 0 b:=by unfold RdP20;rw [hr];exact⟨rfl,rfl,rfl,rfl,rfl⟩
theorem RdP20.err {Q:List Bool} {R:Nat} {e:Int} (hr:rdB Q R=.err e):RdP20 Q R [] 0 0 e 0:=by unfold RdP20;rw [hr];exact⟨rfl,rfl,rfl,rfl,rfl⟩
def ReadB (w:World) (rb:Nat) (v:Value) (l:List UInt8) (dr sp p:Nat) (Q:List Bool) (R:Nat) (e:Ending) (w':World):Prop:=
 ∃(ys:List UInt8) (origin sum:Nat) (er:Int) (k:Nat),e=.returned (.tuple #[.agg (gotV ys (origin:Int) (sum:Int)),.int .i64 er])/\RdP20 Q R ys origin sum er k/\IsReader w' rb v l dr sp (p+k)/\Touch (fun k=>k=rb\/w.heap.size<=k) w w'
theorem IsB.cells {w:World} {t R:Nat} {O:Nat->Prop} {s:BSt} (h:IsB w t R O s):(∃(begun:Bool) (sum origin:Int) (list row places:Value) (fr ot:Int) (last:Value),IsBk w t (R:Int) begun sum origin list row places fr ot last 0 false)/\w.cell? ⟨t,11,none⟩=some (.bool false)/\∃a cap,w.cell? ⟨t,9,none⟩=some (.slice a s.took cap):=by
 cases s with
 | start=>exact⟨⟨_,_,_,_,_,_,_,_,_,h.1⟩,h.1.cell 11,none,0,h.1.cell 9⟩
 | head _ _=>exact⟨⟨_,_,_,_,_,_,_,_,_,h.1⟩,h.1.cell 11,none,0,h.1.cell 9⟩
 | row _ _ _ _ _ _ _ ys _=>
  obtain⟨b,rwb,plb,last,OC,h⟩:=h;obtain⟨a,cap,e⟩:=h.la.slice;exact⟨⟨_,_,_,_,_,_,_,_,_,h.bk⟩,h.bk.cell 11,a,cap,by rw [h.bk.cell 9,e];rfl⟩
theorem ZqP (ys:List UInt8) (o s:Int):(gotV ys o s).all (·.oneCell')=true:=by simp [gotV,Value.oneCell']
theorem Zfw (rb R:Nat) (v:Value) (l:List UInt8) (dr sp p:Nat) (w:World) (hR:IsReader w rb v l dr sp p) (hs:dr+l.length<=1099511627776) (hR5:5<=R) (hRb:R<=900000) (hsm:8*(dr+l.length)-p<400000) :
  Calls Tryz.prog 24 #[.pointer (some ⟨rb,0,none⟩),.int .i64 (R:Int)] w (ReadB w rb v l dr sp p ((bitsOf l).drop (p-8*dr)) R):=by
 have h1:=hR.2.2.2.1;have h2:=hR.2.2.2.2;have hbl:Hid (∀k,foot rb v k->k<w.heap.size):=zh hR.lt;have HR:=zh hR;obtain⟨Q,hQ⟩:∃Q,(bitsOf l).drop (p-8*dr)=Q:=⟨_,rfl⟩
 have HQ:=zh hQ;have hql:Q.length=8*(dr+l.length)-p:=by rw [<-hQ,List.length_drop,Zan];omega
 have HQL:=zh hql;have HQD:Hid (∀a,Q.drop a=(bitsOf l).drop (p+a-8*dr)):=zh (fun a=>by rw [<-hQ,List.drop_drop];congr 1;omega);have hr0:=heap_alloc_new w (.cells #[.string ⟨#[]⟩,.int .i64 0,.int .u32 0] 34);have hi:=ZbI got0 rfl;have hu:=Tryz.underlying34;have HB0:=zh ((Below.refl w.heap.size w).alloc (Nat.le_refl _) (.cells #[.string ⟨#[]⟩,.int .i64 0,.int .u32 0] 34));have hsz0:Hid ((w.alloc (.cells #[.string ⟨#[]⟩,.int .i64 0,.int .u32 0] 34)).heap.size=w.heap.size+1):=zh (by simp);have HN:=zh (fun W=>ZmD (R:Int) W ⟨by omega,by omega⟩);have HRB:Hid (rb<w.heap.size):=zh (hR.lt rb (Or.inl rfl));rw [hQ];clear hR hQ hql;go_enter Tryz.func24,Tryz.ntmps24;go_wp2_with fail;generalize w.alloc (.cells #[.string ⟨#[]⟩,.int .i64 0,.int .u32 0] 34)=w0 at *;refine(HN.out _).mono ?_;rintro e w1 ⟨rfl,hk1,hb1⟩;obtain⟨t,ht⟩:∃t,w0.heap.size=t:=⟨_,rfl⟩
 have HT:=zh ht;rw [ht] at hk1 hb1 ⊢;have HK1:=zh hk1;have HB1:Hid (Below w.heap.size w w1):=zh (HB0.out.trans (hb1.mono (by have:=HB0.out.size;omega)));have HR1:=zh (HR.out.other (Touch.ofBelow (S:=fun _=>False) HB1.out) (fun _ _ h=>h));have hg1:w1.heap[w.heap.size]?=some (.cells got0 34 (0,0)):=(hb1.block _ (by have:=hsz0.out;omega)).trans hr0;have HG1:=zh hg1;clear hk1 hb1 ht hr0 hg1;go_wp2_with fail;refine(ZcA rb v l dr sp p w1 HR1.out).mono ?_;rintro e w2 ⟨rfl,hw2⟩;have hw2':w1=w2:=by first|exact hw2|exact hw2.symm
 subst hw2';go_wp2_with fail
 go_loopw [] (fun wr=>∃(O:Nat->Prop),(∀k,O k->w.heap.size<k)/\O t/\wr.heap[w.heap.size]?=some (.cells got0 34 (0,0))/\Touch (fun k=>k=rb\/w.heap.size<=k) w wr/\((∃(s:BSt) (a:Nat),IsB wr t R O s/\RtB Q R a s/\live s/\IsReader wr rb v l dr sp (p+a)/\a<=Q.length)\/(∃(ys:List UInt8) (origin sum held a:Nat),IsBd wr t R O ys origin sum held/\rdB Q R=.ok ys origin sum a held/\IsReader wr rb v l dr sp (p+a))))
  (fun wr=>match wr.cell? ⟨t,11,none⟩ with|some (.bool true)=>0|_=>1+(8*(dr+l.length)-(match wr.cell? ⟨rb,3,none⟩ with|some (.int _ x)=>x.toNat|_=>0))+(R-(match wr.cell? ⟨t,9,none⟩ with|some (.slice _ n _)=>n|_=>0)))
 case atStart=>
  refine⟨fun k=>k=t,fun k hk=>by have:=HT.out;have:=hsz0.out;omega,rfl,HG1.out,(Touch.ofBelow (S:=fun k=>k=rb\/w.heap.size<=k) HB1.out),Or.inl ⟨.start,0,⟨HK1.out,rfl⟩,rfl,trivial,HR1.out,Nat.zero_le _⟩⟩
 case round=>
  clear HK1 HB1 HR1 HG1;obtain⟨O,hOw,hOt,hg,hT,hst⟩:=hrel;have HOW:=zh hOw;have HOT:=zh hOt;have HG:=zh hg;have HTW:=zh hT;have hne:Hid (∀k,foot rb v k->¬O k):=zh (fun k hk e=>by have h1:=hOw k e;have h2:=hbl.out k hk;omega);have hgl:Hid (w.heap.size<wr.heap.size):=zh (Array.getElem?_eq_some_iff.1 hg).1;clear hOw hOt hg hT;rcases hst with⟨s,a,hB,hrt,hlv,hRd,ha⟩|⟨ys,origin,sum,held,a,hB,hrd,hRd⟩
  ·obtain⟨⟨begun,sm,og,list,row,places,fr,ot,last,hK⟩,m11,la,lcap,m9⟩:=hB.cells;have HD:=zh (Zde wr hK);have HST:=zh (ZoB (Q:=Q) (r:=[]) s hB hRd hs hne.out (by rw [HQD.out a,List.append_nil]) ha hrt hlv hR5 hRb (by have:=HQL.out;omega));rw [<-HQD.out a] at HST;have mr3:=hRd.cells.2.2.2.1;have htk:=hrt.took;have hae:Hid ((Q.drop a).length=Q.length-a):=zh (List.length_drop);have hmeas:∃M0,M0=1+(8*(dr+l.length)-(p+a))+(R-s.took):=⟨_,rfl⟩
   clear hB hrt hlv hRd hK;go_wp2_with fail;refine HD.out.mono ?_;rintro e w2 ⟨rfl,hw2⟩;have hw2':wr=w2:=by first|exact hw2|exact hw2.symm
   subst hw2';go_wp2_with fail;refine HST.out.mono ?_;rintro e w3 ⟨er,rfl,used,O',hR3,hT3,hO3,hu3,hcase⟩;have HR3:=zh hR3;have HTW3:Hid (Touch (fun k=>k=rb\/w.heap.size<=k) w w3):=zh (HTW.out.trans hT3 (fun k hk=>Or.inl (hk.elim (fun e=>Or.inr (by have:=HOW.out k e;omega)) Or.inl)))
   have HG3:Hid (w3.heap[w.heap.size]?=some (.cells got0 34 (0,0))):=zh ((hT3.block _ hgl.out (fun e=>by
    rcases e with e|e
    ·have:=HOW.out _ e;omega
    ·have:=HRB.out;omega)).trans HG.out)
   have HO3:Hid (∀k,O' k->w.heap.size<k):=zh (fun k hk=>by
    rcases hO3 k hk with e|e
    ·exact HOW.out k e
    ·have:=hgl.out;omega)
   have nr3:=hR3.cells.2.2.2.1;have hua:a+used<=Q.length:=by have h1:=hae.out;omega
   have HUA:=zh hua;clear hR3 hT3 hO3 HST;by_cases he0:er=0
   ·subst he0;go_wp2_with fail;go_roundw
    case rel=>
     rcases hcase with⟨_,s',k1,k2,k3,_,_⟩|⟨_,sum,origin,held,ys,k1,k2⟩|⟨h,_⟩|⟨h,_⟩
     ·refine⟨O',HO3.out,?_,HG3.out,HTW3.out,Or.inl ⟨s',a+used,k1,k2,k3,by rw [<-Nat.add_assoc];exact HR3.out,HUA.out⟩⟩;cases s' with
      | start=>exact k1.2
      | head _ _=>exact k1.2
      | row _ _ _ _ _ _ _ _ _=>
       obtain⟨_,_,_,_,_,hrow⟩:=k1;exact hrow.oo.1
     ·refine⟨O',HO3.out,?_,HG3.out,HTW3.out,Or.inr ⟨ys,origin,sum,held,a+used,k1,k2,by rw [<-Nat.add_assoc];exact HR3.out⟩⟩;obtain⟨_,_,_,_,_,_,_,_,_,hrow,_⟩:=k1;exact hrow.oo.1
     ·exact absurd rfl h
     ·exact absurd h (by decide)
    case measure=>
     rw [m11,mr3,m9,nr3];rcases hcase with⟨_,s',k1,k2,k3,k4,k5⟩|⟨_,sum,origin,held,ys,k1,k2⟩|⟨h,_⟩|⟨h,_⟩
     ·obtain⟨_,n11,na,ncap,n9⟩:=k1.cells;have:=k2.took;have h9:=HUA.out;have h8:=HQL.out;rw [n11,n9];simp;omega
     ·obtain⟨_,_,_,_,_,_,_,_,_,hrow,_⟩:=k1;have n11:=hrow.bk.cell 11;simp only [bkV] at n11;rw [n11];simp
      try omega
     ·exact absurd rfl h
     ·exact absurd h (by decide)
   ·have hne0:(er != 0)=true:=by simp [he0]
    have HRP:Hid (RdP20 Q R [] 0 0 er 0):=zh (by
     rcases hcase with⟨h,_⟩|⟨h,_⟩|⟨_,_,_,h⟩|⟨rfl,_,_,h⟩
     ·exact absurd h he0
     ·exact absurd h he0
     ·exact RdP20.err h
     ·exact RdP20.err (h rfl))
    clear hcase he0 m11 m9 mr3 nr3;go_wp2_with fail;refine(Zbc rb v l dr sp (p+a+used) p w3 HR3.out hs h1 h2).mono ?_;rintro e w4 ⟨rfl,hR4,hT4⟩;have HR4:=zh hR4;have HG4:Hid (w4.heap[w.heap.size]?=some (.cells got0 34 (0,0))):=zh ((hT4.block _ (Array.getElem?_eq_some_iff.1 HG3.out).1 (fun e=>by have:=HRB.out;have e2:w.heap.size=rb:=e;omega)).trans HG3.out);have HTW4:Hid (Touch (fun k=>k=rb\/w.heap.size<=k) w w4):=zh (HTW3.out.trans hT4 (fun k hk=>Or.inl (Or.inl hk)));clear hR4 hT4;go_wp2_with (first|(refine ZaM rfl 34 rfl got0 ZgC ?_)|(refine wpList_store_row rfl 34 _ _ rfl w.heap.size got0 rfl rfl 34 got0 HG4.out hi rfl ZlE ?_));refine bodyPost_ret (v:=.tuple #[.agg got0,.int .i64 er]) (Zbl rfl _ _ w.heap.size got0 34 _ _ rfl rfl (setRow_heap _ _ got0 got0 34 _ HG4.out) hu rfl hi) rfl ⟨[],0,0,er,0,rfl,HRP.out,?_,?_⟩
    ·have hT5:Touch (·=w.heap.size) w4 (w4.setRow w.heap.size got0):=ZcV _ _ _;exact HR4.out.other hT5 (fun k hk e=>by have h5:=hbl.out k hk;have e2:k=w.heap.size:=e;omega)
    ·exact HTW4.out.trans (ZcV w.heap.size w4 got0) (fun k hk=>Or.inl (Or.inr (by have e2:k=w.heap.size:=hk;omega)))
  ·obtain⟨s,c,st,m,b,rwb,plb,last,OC,hrow,hh⟩:=hB;have HD:=zh (Zde wr hrow.bk);have HGO:=zh (ZmG 0 ys wr hrow.bk hrow.la);have HRP:=zh (RdP20.ok hrd);have HRD:=zh hRd;obtain⟨V,hV⟩:∃V,gotV ys (origin:Int) (sum:Int)=V:=⟨_,rfl⟩
   have HV:=zh hV;have hVa:V.all (·.oneCell')=true:=by rw [<-hV];exact ZqP _ _ _
   have hVs:V.size=3:=by rw [<-hV];rfl
   rw [hV] at HGO;have hiV:=ZbI V hVs;clear hrow hrd hRd hV;go_wp2_with fail;refine HD.out.mono ?_;rintro e w2 ⟨rfl,hw2⟩;have hw2':wr=w2:=by first|exact hw2|exact hw2.symm
   subst hw2';go_wp2_with fail;refine HGO.out.mono ?_;rintro e w3 ⟨rfl,hb3⟩;have HG3:Hid (w3.heap[w.heap.size]?=some (.cells got0 34 (0,0))):=zh ((hb3.block _ hgl.out).trans HG.out);have HR3:=zh (HRD.out.other (Touch.ofBelow (S:=fun _=>False) hb3) (fun _ _ h=>h));have HTW3:Hid (Touch (fun k=>k=rb\/w.heap.size<=k) w w3):=zh (HTW.out.trans (Touch.ofBelow (S:=fun _=>False) hb3) (fun k h=>h.elim));clear hb3;go_wp2_with (refine wpList_store_row rfl 34 _ _ rfl w.heap.size V rfl rfl 34 got0 HG3.out hiV hVs.symm hVa ?_);refine bodyPost_ret (v:=.tuple #[.agg V,.int .i64 0]) (Zbl rfl _ _ w.heap.size V 34 _ _ rfl rfl (setRow_heap _ _ got0 V 34 _ HG3.out) hu rfl hiV) rfl ⟨ys,origin,sum,0,a,by rw [HV.out],HRP.out,?_,?_⟩
   ·exact HR3.out.other (ZcV w.heap.size w3 V) (fun k hk e=>by have h5:=hbl.out k hk;have e2:k=w.heap.size:=e;omega)
   ·exact HTW3.out.trans (ZcV w.heap.size w3 V) (fun k hk=>Or.inl (Or.inr (by have e2:k=w.heap.size:=hk;omega)))
end
section
open Go.RowKit RleM
def u8s (l:List UInt8):List Value:=l.map u8v
structure Packs (w0:World) (b:Nat) (l:List UInt8) (w:World):Prop where
 used:Used w0.heap.size b (u8s l) w
 below:Below w0.heap.size w0 w
theorem Packs.drewN {w0 w:World} {b:Nat} {l:List UInt8} (h:Packs w0 b l w) (m:Nat):Packs w0 b l (w.drewN m):=
 ⟨h.used.drewN m,h.below.trans ⟨rfl,rfl,rfl,Nat.le_refl _,fun _ _=>rfl⟩⟩
theorem ZeP {s:ByteArray} {k:Nat} (hk:k<s.size):s.data.toList[k]?=some s[k]:=byte_at rfl hk
theorem ZfC {s:ByteArray} {k:Nat} (hk:k<s.size):s.data.toList.take (k+1)=s.data.toList.take k++[s[k]]:=by
 rw [List.take_add_one,ZeP hk];rfl
structure Unp (I:List UInt8->World->Prop) (s:ByteArray) (k:Nat) (a:UInt8) (n:Nat) (o:List UInt8) (wr:World):Prop where
 run:urun (0,0) (s.data.toList.take k)=some ((a,n),o)
 inv:I o wr
 len:o.length<=255*k
 last:0<n->0<k/\s.data.toList[k-1]?=some a
theorem Unp.plain {I:List UInt8->World->Prop} {s:ByteArray} {k:Nat} {a:UInt8} {n:Nat} {o:List UInt8} {wr w':World} (h:Unp I s k a n o wr) (hk:k<s.size) (hn:n≠4)
  (m:Nat) (hm:m=if s[k]=a then n+1 else 1) (hw:I (o++List.replicate 1 s[k]) w'):Unp I s (k+1) s[k] m (o++List.replicate 1 s[k]) w':=by
 obtain⟨h1,h2,h3,h4⟩:=h;refine⟨?_,hw,by simp;omega,fun _=>⟨by omega,by simpa using ZeP hk⟩⟩;rw [ZfC hk,ZfB,h1];simp [ustep,hn,hm]
theorem Unp.count {I:List UInt8->World->Prop} {s:ByteArray} {k:Nat} {a:UInt8} {o:List UInt8} {wr w':World} (h:Unp I s k a 4 o wr) (hk:k<s.size) (hc:¬251<s[k].toNat)
  (hw:I (o++List.replicate s[k].toNat a) w'):Unp I s (k+1) a 0 (o++List.replicate s[k].toNat a) w':=by
 obtain⟨h1,h2,h3,h4⟩:=h;have:=s[k].toNat_lt;refine⟨?_,hw,by simp;omega,fun h=>by omega⟩;rw [ZfC hk,ZfB,h1];simp [ustep,hc]
theorem ZoH {st:UInt8×Nat} (l m:List UInt8) (h:urun st l=none):urun st (l++m)=none:=by rw [Zdh,h];rfl
theorem Unp.bad {I:List UInt8->World->Prop} {s:ByteArray} {k:Nat} {a:UInt8} {o:List UInt8} {wr:World} (h:Unp I s k a 4 o wr) (hk:k<s.size) (hc:251<s[k].toNat):dec s.data.toList=([],25):=by
 obtain⟨h1,h2,h3,h4⟩:=h
 have h5:urun (0,0) (s.data.toList.take (k+1))=none:=by
  rw [ZfC hk,ZfB,h1];simp [ustep,hc]
 have:=ZoH _ (s.data.toList.drop (k+1)) h5;rw [List.take_append_drop] at this;unfold dec res;rw [this];rfl
theorem Unp.done {I:List UInt8->World->Prop} {s:ByteArray} {a:UInt8} {n:Nat} {o:List UInt8} {wr:World} (h:Unp I s s.size a n o wr):dec s.data.toList=(if n=4 then([],24) else(o,0)):=by
 have h1:=h.run;rw [show s.data.toList.take s.size=s.data.toList from List.take_of_length_le (Nat.le_refl _)] at h1;unfold dec res;rw [h1];rfl
def Left (I:List UInt8->World->Prop) (l:List UInt8) (w:World):Prop:=∃o,I o w/\((dec l).2=0->o=(dec l).1)
theorem ZgF (F:FuncId) (caps:Array Value) (I:List UInt8->World->Prop) (s:ByteArray) (w:World) (hs:s.size<=4294967296)
  (he:∀args w,(callFunc F args).run Tryz.prog w=.ok (.enter F args) w) (hd:∀o w n,I o w->I o (w.drewN n))
  (hI:∀o (b:UInt8) (n:Nat) w,I o w->n<=255->o.length<=255*s.size->Calls Tryz.prog F (#[.int .u8 (b.toNat:Int),.int .i64 (n:Int)]++caps) w fun e w'=>e=.returned (.tuple #[])/\I (o++List.replicate n b) w')
  (h0:I [] w):Calls Tryz.prog 135 #[.string s,.func (.func F) #[] caps] w fun e w'=>e=.returned (.int .i64 ((dec s.data.toList).2:Int))/\Left I s.data.toList w':=by
 have HI:=zh hI;have HD:=zh hd;have H0:=zh h0;clear hI hd h0;go_enter Tryz.func135,Tryz.ntmps135;go_wp2_with fail
 go_loopw [5,6,9] (fun v _ i wr=>∃(k n:Nat) (a:UInt8) (o:List UInt8),k<=s.size/\i=.int .i64 k/\v=.int .i64 n/\n<=4/\Hid (Unp I s k a n o wr)) (fun _ _ i _=>s.size-(intOf i).toNat)
 case atStart=>exact⟨0,0,0,[],by omega,rfl,rfl,by omega,zh ⟨rfl,H0.out,by simp,fun h=>by omega⟩⟩
 case round=>
  obtain⟨k,n,a,o,hk,rfl,rfl,hn,hU⟩:=hrel;have hol:o.length<=255*s.size:=by have:=hU.out.len;omega
  by_cases hlt:k<s.size
  ·by_cases h4:n=4
   ·subst h4;obtain⟨hk0,hla⟩:=hU.out.last (by omega);have hk1:k-1<s.size:=by omega
    have hla2:s[k-1]=a:=by have:=ZeP hk1;rw [hla] at this;exact(Option.some.inj this).symm
    have HLA:=zh hla2;clear hla hla2;have kk:(0:Int)<(k:Int):=by omega
    by_cases hc:(251:Int)<(s[k].toNat:Int)
    ·have HBAD:=zh (hU.out.bad hlt (by omega));go_wp2_with fail;go_ret;exact⟨by rw [HBAD.out];rfl,o,hU.out.inv,fun e=>by rw [HBAD.out] at e;cases e⟩
    ·go_wp2_with fail
     have hix:∀W,(Instr.index 9 (.string s) (.int .i64 (IntKind.i64.wrap ((k:Int)-1)))).run Tryz.prog W=.ok (.int .u8 (a.toNat:Int)) W:=fun W=>by
      rw [IntWalk.i64_in _ (by omega),run_index_string W 9 s .i64 ((k:Int)-1) Tryz.underlying9];have e:((k:Int)-1).toNat=k-1:=by omega
      simp [e,HLA.out];omega
     go_still_tail 9,(by kernel_rfl)
     change wpList _ _ _ _ _ (wr.drewN 1);clear hix;go_wp2_with fail;have h255:=s[k].toNat_lt;refine(HI.out o a s[k].toNat _ (HD.out _ _ _ hU.out.inv) (by omega) hol).mono ?_;rintro e w2 ⟨rfl,hi2⟩;have HI2:=zh hi2;clear hi2;go_wp2_with fail;go_roundw
     case rel=>exact⟨k+1,0,a,_,by omega,by go_num,rfl,by omega,zh (hU.out.count hlt (by omega) HI2.out)⟩
     case measure=>simp [intOf];omega
   ·have hn4:((n:Int)==4)=false:=by rw [beq_eq_false_iff_ne];omega
    have h255:=s[k].toNat_lt
    have hbk:∀W,(Instr.index 9 (.string s) (.int .i64 (k:Int))).run Tryz.prog W=.ok (.int .u8 (s[k].toNat:Int)) W:=fun W=>by
     rw [run_index_string W 9 s .i64 (k:Int) Tryz.underlying9];simp [hlt]
    by_cases hn0:n=0
    ·subst hn0;go_wp2_with fail
     go_quiet (fail)
     go_wp2_with fail;refine(HI.out o s[k] 1 _ (HD.out _ _ _ hU.out.inv) (by omega) hol).mono ?_;rintro e w2 ⟨rfl,hi2⟩;have HI2:=zh hi2;clear hi2;go_wp2_with fail;go_roundw
     case rel=>exact⟨k+1,1,s[k],_,by omega,by go_num,rfl,by omega,zh (hU.out.plain hlt h4 1 (by simp) HI2.out)⟩
     case measure=>simp [intOf];omega
    ·obtain⟨hk0,hla⟩:=hU.out.last (by omega);have hk1:k-1<s.size:=by omega
     have hla2:s[k-1]=a:=by have:=ZeP hk1;rw [hla] at this;exact(Option.some.inj this).symm
     have HLA:=zh hla2;clear hla hla2;have hp:0<n:=by omega
     have hix:∀W,(Instr.index 9 (.string s) (.int .i64 (IntKind.i64.wrap ((k:Int)-1)))).run Tryz.prog W=.ok (.int .u8 (a.toNat:Int)) W:=fun W=>by
      rw [IntWalk.i64_in _ (by omega),run_index_string W 9 s .i64 ((k:Int)-1) Tryz.underlying9];have e:((k:Int)-1).toNat=k-1:=by omega
      simp [e,HLA.out];omega
     by_cases he:s[k]=a
     ·have hb:((s[k].toNat:Int)==(a.toNat:Int))=true:=Zka he;have hb2:((s[k].toNat:Int) != (a.toNat:Int))=false:=by rw [he];simp
      have HE:=zh he;clear he;go_wp2_with fail
      go_quiet (fail)
      go_wp2_with fail;refine(HI.out o s[k] 1 _ (HD.out _ _ _ hU.out.inv) (by omega) hol).mono ?_;rintro e w2 ⟨rfl,hi2⟩;have HI2:=zh hi2;clear hi2;go_wp2_with fail;go_roundw
      case rel=>exact⟨k+1,n+1,s[k],_,by omega,by go_num,by go_num,by omega,zh (hU.out.plain hlt h4 (n+1) (by rw [if_pos HE.out]) HI2.out)⟩
      case measure=>simp [intOf];omega
     ·have hb:((s[k].toNat:Int)==(a.toNat:Int))=false:=Zj9 he;have hb2:((s[k].toNat:Int) != (a.toNat:Int))=true:=by simp [bne,hb]
      have HE:=zh he;clear he;go_wp2_with fail
      go_quiet (fail)
      go_wp2_with fail;refine(HI.out o s[k] 1 _ (HD.out _ _ _ hU.out.inv) (by omega) hol).mono ?_;rintro e w2 ⟨rfl,hi2⟩;have HI2:=zh hi2;clear hi2;go_wp2_with fail;go_roundw
      case rel=>exact⟨k+1,1,s[k],_,by omega,by go_num,rfl,by omega,zh (hU.out.plain hlt h4 1 (by rw [if_neg HE.out]) HI2.out)⟩
      case measure=>simp [intOf];omega
  ·obtain rfl:k=s.size:=by omega
   have HDN:=zh hU.out.done;by_cases h4:n=4
   ·subst h4;go_wp2_with fail;go_ret;rw [HDN.out];exact⟨rfl,o,hU.out.inv,fun e=>by rw [HDN.out] at e;cases e⟩
   ·have hn4:((n:Int)==4)=false:=by rw [beq_eq_false_iff_ne];omega
    go_wp2_with fail;go_ret;exact⟨by rw [HDN.out,if_neg h4];rfl,o,hU.out.inv,fun _=>by rw [HDN.out,if_neg h4]⟩
theorem Zf9 (w0 w:World) (b N:Nat) (c:UInt8) (n:Nat) (h:Counts w0 b N w) (hb:w0.heap.size<=b) (hN:N<=1099511627776) (hn:n<=255) :
  Calls Tryz.prog 197 #[.int .u8 (c.toNat:Int),.int .i64 (n:Int),.pointer (some ⟨b,0,none⟩)] w fun e w'=>e=.returned (.tuple #[])/\Counts w0 b (N+n) w':=by
 have c0:=cell_of_row _ _ 0 _ _ _ h.block;have f0:=frozen_of_row _ _ 0 _ _ h.block;have H:=zh h;clear h;simp at c0;go_enter Tryz.func197,Tryz.ntmps197;go_wp2_with fail;go_end0;exact⟨rfl,H.out.put hb (N+n) _ (by simp)⟩
theorem Zga (w0 w:World) (b:Nat) (o:List UInt8) (c:UInt8) (n:Nat) (h:Packs w0 b o w) (hN:o.length<=1099511627776) (hn:n<=255) :
  Calls Tryz.prog 136 #[.int .u8 (c.toNat:Int),.int .i64 (n:Int),.pointer (some ⟨b,0,none⟩)] w fun e w'=>e=.returned (.tuple #[])/\Packs w0 b (o++List.replicate n c) w':=by
 have H:=zh h;clear h;go_enter Tryz.func136,Tryz.ntmps136;go_wp2_with fail
 go_loopw [6] (fun i wr=>∃k:Nat,k<=n/\i=.int .i64 k/\Hid (Packs w0 b (o++List.replicate k c) wr)) (fun i _=>n-(intOf i).toNat)
 case atStart=>exact⟨0,by omega,rfl,by simpa using H⟩
 case round=>
  obtain⟨k,hk,rfl,hP⟩:=hrel;by_cases hlt:k<n
  ·have hs:=hP.out.below.size;go_wp2_with fail;refine(Zhg w0.heap.size b _ (c.toNat:Int) wr hP.out.used (by simp [u8s];omega) hs).mono ?_;rintro e w2 ⟨rfl,hu,hb⟩;have HU:=zh hu;have HB:=zh hb;clear hu hb;go_wp2_with fail;go_roundw
   case rel=>
    refine⟨k+1,by omega,by go_num,zh ⟨?_,hP.out.below.trans HB.out⟩⟩;have:=HU.out;rw [List.replicate_succ',<-List.append_assoc];rw [u8s,List.map_append];exact this
   case measure=>simp [intOf];omega
  ·obtain rfl:k=n:=by omega
   go_wp2_with fail;go_end0;exact⟨rfl,hP.out⟩
theorem ZoI (l:List UInt8):(dec l).1.length<=255*l.length:=by
 have h:∀(l:List UInt8) (st:UInt8×Nat) (r:(UInt8×Nat)×List UInt8),urun st l=some r->r.2.length<=255*l.length:=by
  intro l
  induction l with
  | nil=>
   intro st r h;have:(st,[])=r:=by simpa [urun] using h
   subst this;simp
  | cons c l ih=>
   intro st r h;rw [urun] at h;obtain⟨q,hq,h2⟩:=Option.bind_eq_some_iff.1 h;obtain⟨q2,hq2,rfl⟩:=Option.map_eq_some_iff.1 h2;have h3:=ih _ _ hq2
   have h4:q.2.length<=255:=by
    unfold ustep at hq;split at hq
    ·split at hq
     ·cases hq
     ·have hc:=c.toNat_lt;obtain rfl:=Option.some.inj hq;simp;omega
    ·obtain rfl:=Option.some.inj hq;simp
   simp only [List.length_append,List.length_cons];omega
 unfold dec res;cases hr:urun (0,0) l with
 | none=>simp [outc]
 | some r=>
  obtain⟨st,o⟩:=r;have:=h l _ _ hr;show(if st.2=4 then(([]:List UInt8),24) else(o,0)).1.length<=_;split
  ·simp
  ·exact this
theorem ZiM (s:ByteArray) (w:World) (hs:s.size<=4294967296) :
  Calls Tryz.prog 133 #[.string s] w fun e w'=>e=.returned (.tuple #[.int .i64 ((dec s.data.toList).1.length:Int),.int .i64 ((dec s.data.toList).2:Int)])/\Below w.heap.size w w':=by
 have HE:=zh (Zj8 s.data.toList);go_enter Tryz.func133,Tryz.ntmps133;go_wp2_with fail;refine(ZgF 197 #[.pointer (some ⟨w.heap.size,0,none⟩)] (fun o w'=>Counts w w.heap.size o.length w') s _ hs (enters_of Tryz.func197 (by kernel_rfl) rfl) (fun o w' n h=>h.drewN n) (fun o b n w' h hn ho=>?_) ?_).mono ?_
 ·rw [List.length_append,List.length_replicate];exact Zf9 w w' w.heap.size _ b n h (Nat.le_refl _) (by omega) hn
 ·exact⟨heap_alloc_new _ _,(Below.refl _ _).alloc (Nat.le_refl _) _⟩
 ·rintro e w1 ⟨rfl,o,hc,ho⟩;have c:=cell_of_row _ _ 0 _ _ _ hc.block;have B1:=zh hc.below;have HO:=zh ho;clear hc ho;simp at c;by_cases hz:(dec s.data.toList).2=0
  ·have e1:o=(dec s.data.toList).1:=HO.out hz;subst e1;rw [hz];have HZ:=zh hz;clear hz;go_wp2_with fail;go_ret2;exact⟨by rw [HZ.out];rfl,B1.out⟩
  ·have hb:(((dec s.data.toList).2:Int) != 0)=true:=by simpa using hz
   have hn:(dec s.data.toList).1=[]:=HE.out hz;have HN:=zh hn;clear hn;go_wp2_with fail;go_ret2;exact⟨by rw [HN.out];rfl,B1.out⟩
theorem ZiN (s:ByteArray) (w:World) (hs:s.size<=4294967296) :
  Calls Tryz.prog 77 #[.string s] w fun e w'=>e=.returned (.tuple #[.string ⟨(dec s.data.toList).1.toArray⟩,.int .i64 ((dec s.data.toList).2:Int)])/\Below w.heap.size w w':=by
 have HE:=zh (Zj8 s.data.toList);have hlen:=ZoI s.data.toList;have hz0:s.data.toList.length=s.size:=rfl;have hlen2:(dec s.data.toList).1.length<=1099511627776:=by omega
 clear hlen hz0;go_enter Tryz.func77,Tryz.ntmps77;go_wp2_with fail;refine(ZiM s w hs).mono ?_;rintro e w1 ⟨rfl,hb1⟩;have B1:=zh hb1;have hs1:=hb1.size;clear hb1;by_cases hz:(dec s.data.toList).2=0
 ·rw [hz];have HZ:=zh hz;clear hz;go_wp2_with fail;refine(Tryz.Builder_Grow_fresh w1.heap.size w1.heap.size (dec s.data.toList).1.length _ (Nat.le_refl _) (heap_alloc_new w1 _) (by simp) (by omega)).mono ?_;rintro e w2 ⟨rfl,hu2,hb2⟩;have HU2:=zh hu2;have HB2:=zh (((Below.refl w1.heap.size w1).alloc (Nat.le_refl _) (.cells #[.pointer none,.slice none 0 0] 186)).trans hb2);clear hu2 hb2;go_wp2_with fail;refine(ZgF 136 #[.pointer (some ⟨w1.heap.size,0,none⟩)] (fun o w'=>Packs w1 w1.heap.size o w') s _ hs (enters_of Tryz.func136 (by kernel_rfl) rfl) (fun o w' n h=>h.drewN n) (fun o b n w' h hn ho=>?_) ?_).mono ?_
  ·exact Zga w1 w' w1.heap.size o b n h (by omega) hn
  ·exact⟨HU2.out,HB2.out⟩
  ·rintro e w3 ⟨rfl,o,hp,ho⟩;obtain rfl:o=(dec s.data.toList).1:=ho HZ.out;have HU3:=zh hp.used;have HB3:=zh hp.below;have hs3:=hp.below.size;clear hp ho;go_wp2_with fail;refine(Tryz.Builder_String_any w1.heap.size w1.heap.size (dec s.data.toList).1 w3 (Or.inr HU3.out) hs3).mono ?_;rintro e w4 ⟨rfl,hb4⟩;have HB4:=zh (B1.out.trans ((HB3.out.trans hb4).mono hs1));clear hb4;go_wp2_with fail;go_ret2;exact⟨by rw [HZ.out];rfl,HB4.out⟩
 ·have hb:(((dec s.data.toList).2:Int) != 0)=true:=by simpa using hz
  have hn:(dec s.data.toList).1=[]:=HE.out hz;have HN:=zh hn;clear hn;go_wp2_with fail;go_ret2;exact⟨by rw [HN.out];rfl,B1.out⟩
end
section
open Go.RowKit
def decO (s:ByteArray) (o:Nat):List UInt8×Nat:=RleM.dec (unText s o).data.toList
def sumO (s:ByteArray) (o:Nat):Nat:=(CrcM.crc (decO s o).1).toNat
def OpenP (s:ByteArray) (o:Int) (sum:Int) (t:ByteArray) (er:Int):Prop:=
 (s.size=0/\t=⟨#[]⟩/\er=1)\/(0<s.size/\(o<0\/(s.size:Int)<=o)/\t=⟨#[]⟩/\er=23) \/
 (∃O:Nat,o=(O:Int)/\O<s.size/\(((decO s O).2≠0/\t=⟨#[]⟩/\er=25)\/((decO s O).2=0/\(sumO s O:Int)≠sum/\t=⟨#[]⟩/\er=21)\/((decO s O).2=0/\(sumO s O:Int)=sum/\t=⟨(decO s O).1.toArray⟩/\er=0)))
theorem OpenP.same {s t u:ByteArray} {o sum er fr:Int} (h:OpenP s o sum t er) (k:OpenP s o sum u fr):t=u/\er=fr:=by
 rcases h with⟨h1,rfl,rfl⟩|⟨h1,h2,rfl,rfl⟩|⟨O,rfl,h1,h2⟩<;>rcases k with⟨k1,rfl,rfl⟩|⟨k1,k2,rfl,rfl⟩|⟨P,hP,k1,k2⟩
 ·exact⟨rfl,rfl⟩
 ·omega
 ·omega
 ·omega
 ·exact⟨rfl,rfl⟩
 ·omega
 ·omega
 ·omega
 ·obtain rfl:O=P:=by omega
  rcases h2 with⟨h2,rfl,rfl⟩|⟨h2,h3,rfl,rfl⟩|⟨h2,h3,rfl,rfl⟩<;>rcases k2 with⟨k2,rfl,rfl⟩|⟨k2,k3,rfl,rfl⟩|⟨k2,k3,rfl,rfl⟩
  ·exact⟨rfl,rfl⟩
  ·exact absurd k2 h2
  ·exact absurd k2 h2
  ·exact absurd h2 k2
  ·exact⟨rfl,rfl⟩
  ·exact absurd k3 h3
  ·exact absurd h2 k2
  ·exact absurd h3 k3
  ·exact⟨rfl,rfl⟩
theorem ZoT (s:ByteArray) (o:Nat):(decO s o).1.length<=255*s.size:=by
 have:=ZoI (unText s o).data.toList;have e:(unText s o).data.toList.length=s.size:=(show(unText s o).data.toList.length=(unText s o).size from rfl).trans (Zcl s o);unfold decO;rw [e] at this;exact this
theorem ZiQ (l:List UInt8):(⟨l.toArray⟩:ByteArray).size=l.length:=by simp [ByteArray.size]
theorem ZfE (s:ByteArray) (o:Int) (sum:Nat) (w:World) (hs:s.size<=1000) :
  Calls Tryz.prog 35 #[.agg #[.string s,.int .i64 o,.int .u32 (sum:Int)]] w fun e w'=>∃(t:ByteArray) (er:Int),e=.returned (.tuple #[.string t,.int .i64 er])/\OpenP s o (sum:Int) t er/\Below w.heap.size w w':=by
 have hg:=heap_alloc_new w (.cells #[.string s,.int .i64 o,.int .u32 (sum:Int)] 34);have c0:(w.alloc (.cells #[.string s,.int .i64 o,.int .u32 (sum:Int)] 34)).cell? ⟨w.heap.size,0,none⟩=some (.string s):=by rw [cell_of_row _ _ _ _ _ _ hg];rfl
 have c1:(w.alloc (.cells #[.string s,.int .i64 o,.int .u32 (sum:Int)] 34)).cell? ⟨w.heap.size,1,none⟩=some (.int .i64 o):=by rw [cell_of_row _ _ _ _ _ _ hg];rfl
 have HB0:=zh ((Below.refl w.heap.size w).alloc (Nat.le_refl _) (.cells #[.string s,.int .i64 o,.int .u32 (sum:Int)] 34));have hsz:Hid ((w.alloc (.cells #[.string s,.int .i64 o,.int .u32 (sum:Int)] 34)).heap.size=w.heap.size+1):=zh (by simp);have HG:=zh hg;clear hg;by_cases h0:s.size=0
 ·have hse:s=ByteArray.empty:=by
   have h1:s.data.toList=[]:=List.eq_nil_of_length_eq_zero h0;apply ByteArray.ext;apply Array.toList_inj.1;rw [h1];rfl
  have HU:Hid (∀W,Calls Tryz.prog 76 #[.string s,.int .i64 o] W fun e w'=>e=.returned (.tuple #[.string ⟨#[]⟩,.int .i64 1])/\w'=W):=zh (fun W=>by rw [hse];exact ZmK o W);have H0:=zh h0;clear hse h0;go_enter Tryz.func35,Tryz.ntmps35;go_wp2_with fail;refine(HU.out _).mono ?_;rintro e w1 ⟨rfl,rfl⟩;go_wp2_with fail;go_ret2;exact⟨⟨#[]⟩,1,rfl,Or.inl ⟨H0.out,rfl,rfl⟩,HB0.out⟩
 ·have h1:0<s.size:=by omega
  by_cases ho:o<0\/(s.size:Int)<=o
  ·have HU:=zh (fun W=>ZqV s o W h1 (by omega) ho);have H1:=zh (And.intro h1 ho);clear h0 h1 ho;go_enter Tryz.func35,Tryz.ntmps35;go_wp2_with fail;refine(HU.out _).mono ?_;rintro e w1 ⟨rfl,m,hw⟩;have HB1:Hid (Below w.heap.size w w1):=zh (by rw [hw];exact HB0.out.trans ⟨rfl,rfl,rfl,Nat.le_refl _,fun _ _=>rfl⟩);clear hw;go_wp2_with fail;go_ret2;exact⟨⟨#[]⟩,23,rfl,Or.inr (Or.inl ⟨H1.out.1,H1.out.2,rfl,rfl⟩),HB1.out⟩
  ·obtain⟨O,rfl⟩:∃O:Nat,o=(O:Int):=⟨o.toNat,by omega⟩
   have hO:O<s.size:=by omega
   have HU:=zh (fun W=>ZqU s O W (by omega) h1 hO);have hus:=Zcl s O;have HD:=zh (fun W=>ZiN (unText s O) W (by omega));have hdl:=ZoT s O;have HC:=zh (fun W=>ZoS ⟨(decO s O).1.toArray⟩ W (by rw [ZiQ];unfold maxLen;omega));have HO:=zh hO;have e1:RleM.dec (unText s O).data.toList=decO s O:=rfl;have e2:(CrcM.crc (⟨(decO s O).1.toArray⟩:ByteArray).data.toList).toNat=sumO s O:=rfl;rw [e1] at HD;rw [e2] at HC;obtain⟨X,hX⟩:∃X,sumO s O=X:=⟨_,rfl⟩
   obtain⟨E,hE⟩:∃E,(decO s O).2=E:=⟨_,rfl⟩
   obtain⟨T,hT⟩:∃T:ByteArray,(⟨(decO s O).1.toArray⟩:ByteArray)=T:=⟨_,rfl⟩
   have HX:=zh hX;have HE:=zh hE;have HT:=zh hT;rw [hE,hT] at HD;rw [hX,hT] at HC;generalize hut:unText s O=u at *;clear h0 h1 ho hO hdl e1 e2 hX hE hT hus hut;go_enter Tryz.func35,Tryz.ntmps35;go_wp2_with fail;refine(HU.out _).mono ?_;rintro e w1 ⟨rfl,hb1⟩;have HB1:=zh (HB0.out.trans (hb1.mono HB0.out.size));have HG1:=zh ((hb1.block w.heap.size (by have:=hsz.out;omega)).trans HG.out);have HL1:Hid (w.heap.size<w1.heap.size):=zh (by have h1:=hb1.size;have:=hsz.out;omega);clear hb1 c0 c1;go_wp2_with fail;refine(HD.out _).mono ?_;rintro e w2 ⟨rfl,hb2⟩;have HB2:=zh (HB1.out.trans (hb2.mono HB1.out.size));have hg2:=(hb2.block w.heap.size HL1.out).trans HG1.out;have HL2:Hid (w.heap.size<w2.heap.size):=zh (Nat.lt_of_lt_of_le HL1.out hb2.size);have HG2:=zh hg2;have c2:w2.cell? ⟨w.heap.size,2,none⟩=some (.int .u32 (sum:Int)):=by rw [cell_of_row _ _ _ _ _ _ hg2];rfl
   clear hb2 hg2;by_cases hE0:E=0
   ·have hEb:((E:Int) != 0)=false:=by rw [hE0];rfl
    have HE0:=zh hE0;clear hE0;go_wp2_with fail
    go_region_held3 (fun W=>W.cell? ⟨w.heap.size,2,none⟩=some (.int .u32 (sum:Int))) (go_keep)
     (first
      | (go_at_call 78;refine(HC.out _).mono ?_;rintro e w3 ⟨rfl,hb3⟩;have HB3:=zh (HB2.out.trans ((⟨rfl,rfl,rfl,Nat.le_refl _,fun _ _=>rfl⟩:Below w.heap.size w2 w2.drew).trans (hb3.mono (Nat.le_of_lt HL2.out))));have c3:w3.cell? ⟨w.heap.size,2,none⟩=some (.int .u32 (sum:Int)):=(by rw [cell_of_row _ _ _ _ _ _ ((hb3.block w.heap.size HL2.out).trans HG2.out)];rfl);clear hb3))
    all_goals
     by_cases hx:(X:Int)=(sum:Int)
     ·have hxb:((X:Int) != (sum:Int))=false:=by rw [hx];simp
      have HXS:=zh hx;clear hx;go_wp2_with fail;go_ret2;exact⟨T,0,rfl,Or.inr (Or.inr ⟨O,rfl,HO.out,Or.inr (Or.inr ⟨by rw [HE.out,HE0.out],by rw [HX.out];exact HXS.out,HT.out.symm,rfl⟩)⟩),HB3.out⟩
     ·have hxb:((X:Int) != (sum:Int))=true:=by simp;omega
      have HXS:=zh hx;clear hx;go_wp2_with fail;go_ret2;exact⟨⟨#[]⟩,21,rfl,Or.inr (Or.inr ⟨O,rfl,HO.out,Or.inr (Or.inl ⟨by rw [HE.out,HE0.out],by rw [HX.out];exact HXS.out,rfl,rfl⟩)⟩),HB3.out⟩
   ·have hEb:((E:Int) != 0)=true:=by simp;omega
    have HE0:=zh hE0;clear hE0;go_wp2_with fail;go_ret2;exact⟨⟨#[]⟩,25,rfl,Or.inr (Or.inr ⟨O,rfl,HO.out,Or.inl ⟨by rw [HE.out];exact HE0.out,rfl,rfl⟩⟩),HB2.out⟩
end
section
open Go.RowKit BitM HufM CanM CodM UsedM MtfM TabM FreqM BlkM
theorem ZfF {l:List UInt8} (h:l≠[]) (hl:l.length<=300) (o sum:Nat):(allK l o sum).length<=300400:=by
 have h1:=(mayK h).len (by have:=ZcT l;omega);have h2:(ubits (has l)).length<=272:=by rw [Zbg];have:=cnt_le (has l) 16;omega
 unfold allK rowK;simp only [List.length_append,Zac,List.length_cons,List.length_nil];omega
theorem ZoU:OpenP ⟨#[97]⟩ 0 (((CrcM.crc [97]).toNat:Nat):Int) ⟨#[97]⟩ 0:=by
 have h1:(unText ⟨#[97]⟩ 0).data.toList=[97]:=by
  have h2:=Zcl ⟨#[97]⟩ 0;rfl
 have h2:decO ⟨#[97]⟩ 0=([97],0):=by
  unfold decO;rw [h1];rfl
 refine Or.inr (Or.inr ⟨0,rfl,by decide,Or.inr (Or.inr ⟨by rw [h2],?_,by rw [h2],rfl⟩)⟩);unfold sumO;rw [h2]
def LetW (Sm:Nat):Prop:=∀(g:Nat) (W:World),IsWriter W g (.slice none 0 0) [] 0->Bnds W->1<g->Calls Tryz.prog 13 #[.pointer (some ⟨g,0,none⟩),.string ⟨#[97]⟩,.int .u32 (Sm:Int)] W fun e w'=>e=.returned (.int .i64 0)/\Wrote W g (.slice none 0 0) 0 (allK [97] 0 Sm) w'
theorem ZiR (w:World) (hB:Bnds w) (hWr:LetW (CrcM.crc [97]).toNat):Calls Tryz.prog 11 #[] w fun e w'=>e=.returned (.bool true)/\Below w.heap.size w w':=by
 have HBN:=zh hB;obtain⟨Sm,hSm⟩:∃Sm,(CrcM.crc [97]).toNat=Sm:=⟨_,rfl⟩
 have hSl:Sm<4294967296:=by rw [<-hSm];exact(CrcM.crc [97]).isLt
 have HOP:=ZoU;rw [hSm] at HOP;have HOPN:=zh (fun W=>ZfE ⟨#[97]⟩ 0 Sm W (by decide));have HOPE:=zh (fun(t:ByteArray) (er:Int) (h:OpenP ⟨#[97]⟩ 0 (Sm:Int) t er)=>h.same HOP);have HCRC:=zh (fun W=>ZiP ⟨#[97]⟩ W (by decide));have hcr:(CrcM.crc (⟨#[97]⟩:ByteArray).data.toList).toNat=Sm:=hSm;rw [hcr] at HCRC;have hlen:=ZfF (l:=[97]) (by simp) (by simp) 0 Sm;have HRB:=zh (fun more=>Zsx (l:=[97]) (origin:=0) (sum:=Sm) (room:=5) (by simp) (by simp) (by simp) hSl (by simp) more);have HWR:Hid (∀(g:Nat) (W:World),IsWriter W g (.slice none 0 0) [] 0->Bnds W->1<g->Calls Tryz.prog 13 #[.pointer (some ⟨g,0,none⟩),.string ⟨#[97]⟩,.int .u32 (Sm:Int)] W fun e w'=>e=.returned (.int .i64 0)/\Wrote W g (.slice none 0 0) 0 (allK [97] 0 Sm) w'):=zh (by rw [hSm] at hWr;exact hWr);clear hWr;obtain⟨Q,hQ⟩:∃Q,allK [97] 0 Sm=Q:=⟨_,rfl⟩
 obtain⟨L,hL⟩:∃L,Q.length=L:=⟨_,rfl⟩
 rw [hQ] at hlen HRB HWR;rw [hL] at hlen HRB;have HL:=zh hL
 have hTS:(⟨(byts (Q++padding Q)).toArray⟩:ByteArray).size<=40000:=by
  show(byts (Q++padding Q)).length<=_;obtain⟨n,hn1,hn2⟩:=Ziz Q;rw [ZaV];omega
 have HTB:=zh (ZmB Q ⟨#[]⟩);obtain⟨T,hT⟩:∃T:ByteArray,(⟨(byts (Q++padding Q)).toArray⟩:ByteArray)=T:=⟨_,rfl⟩
 have HT:=zh hT;rw [hT] at hTS HTB
 have HTT:Hid (bitsOf T.data.toList=Q++padding Q):=zh (by
  have h:=HTB.out;rw [ZlC,ZaO] at h;have e:bitsOf (⟨#[]⟩:ByteArray).data.toList=[]:=rfl;rw [e,List.append_nil,List.append_nil] at h;exact h)
 have HTL:Hid (T.data.toList.length=T.size):=zh rfl;have hLL:((L:Int)==(L:Int))=true:=by simp
 clear hQ hL hT hB HTB HOP hSm hcr hSl;go_enter Tryz.func11,Tryz.ntmps11;go_wp2_with fail;refine(Zcd w).mono ?_;rintro e w1 ⟨rfl,hw1,hb1⟩;have W1:=zh hw1;have B1:=zh hb1;have N1:=zh (HBN.out.below hb1);clear hw1 hb1;go_wp2_with fail;refine(HCRC.out _).mono ?_;rintro e w2 ⟨rfl,rfl⟩;go_wp2_with fail;refine(HWR.out _ _ W1.out N1.out HBN.out.lt).mono ?_;rintro e w3 ⟨rfl,v3,hw3,ht3,_⟩;have W3:=zh hw3;have B3:=zh (B1.out.trans (ht3.below B1.out.size (fun i hi=>(W1.out.lt i hi).2)));clear hw3 ht3;go_wp2_with fail;refine(ZeK _ _ _ _ w3 W3.out).mono ?_;rintro e w4 ⟨rfl,rfl⟩;rw [HL.out];go_wp2_with fail;refine(Zg3 _ _ _ _ _ W3.out (by have:=HL.out;omega)).mono ?_;rintro e w5 ⟨rfl,v5,hw5,ht5,_⟩;have W5:=zh hw5;have B5:=zh (B3.out.trans (ht5.below B3.out.size (fun i hi=>(W3.out.lt i hi).2)));clear hw5 ht5;go_wp2_with fail;refine(Ze9 _ _ _ _ w5 W5.out).mono ?_;rintro e w6 ⟨rfl,_,ht6⟩;have B6:=zh (B5.out.trans (ht6.below B5.out.size (fun i hi=>(W5.out.lt i hi).2)));rw [List.drop_zero,HT.out];clear ht6;go_wp2_with fail;refine(Zcf _ w6 (by unfold maxLen;omega)).mono ?_;rintro e w7 ⟨b,v7,rfl,hr7,hb7,hf7⟩;have R7:=zh hr7;have B7:=zh (B6.out.trans (hb7.mono B6.out.size));have F7:=zh (hf7 b (Or.inl rfl));have S6:=zh B6.out.size;clear hr7 hb7 hf7;have HRD:=Zfw b 5 v7 _ 0 0 0 w7 R7.out (by have:=HTL.out;omega) (by decide) (by decide) (by have:=HTL.out;omega);rw [show((5:Nat):Int)=5 from rfl] at HRD;have HRD:=zh HRD;go_wp2_with fail;refine HRD.out.mono ?_;rintro e w8 ⟨ys,og,sm,er,k,rfl,hp8,hr8,ht8⟩;have hp9:RdP20 (bitsOf T.data.toList) 5 ys og sm er k:=hp8;obtain⟨hh,hrd⟩:=HRB.out (padding Q);rw [HTT.out] at hp9;unfold RdP20 at hp9;rw [hrd] at hp9;obtain⟨rfl,rfl,rfl,rfl,rfl⟩:ys=[97]/\og=0/\sm=Sm/\er=0/\k=L:=hp9;have e8:(Value.agg (gotV [97] ((0:Nat):Int) (sm:Int)))=.agg #[.string ⟨#[97]⟩,.int .i64 0,.int .u32 (sm:Int)]:=rfl;rw [e8];clear e8 hrd hp8;have hz0:0+k=k:=Nat.zero_add k;rw [hz0] at hr8
 have B8:=zh (B7.out.trans (ht8.below B7.out.size (fun i hi=>by
  have h1:=F7.out;have h3:=S6.out;rcases hi with rfl|hi
  ·omega
  ·have:=B7.out.size;omega)))
 obtain⟨w9,hw9⟩:∃w9,w8.alloc (.cells #[.string ⟨#[97]⟩,.int .i64 0,.int .u32 (sm:Int)] 34)=w9:=⟨_,rfl⟩
 have hg9:w9.heap[w8.heap.size]?=some (.cells #[.string ⟨#[97]⟩,.int .i64 0,.int .u32 (sm:Int)] 34 (0,0)):=by rw [<-hw9];exact heap_alloc_new _ _
 have B9:Hid (Below w.heap.size w w9):=zh (by rw [<-hw9];exact B8.out.alloc B8.out.size _);have R9:Hid (IsReader w9 b v7 T.data.toList 0 0 k):=zh (by rw [<-hw9];exact hr8.other (Touch.ofBelow (S:=fun _=>False) ((Below.refl _ _).alloc (Nat.le_refl _) _)) (fun _ _ h=>h));have Z9:Hid (w8.heap.size<w9.heap.size):=zh (Array.getElem?_eq_some_iff.1 hg9).1;have G9:=zh hg9;have hi:=ZbI #[.string ⟨#[97]⟩,.int .i64 0,.int .u32 (sm:Int)] rfl;have hu:=Tryz.underlying34;have HW9:=zh hw9;clear hr8 ht8 hz0 hw9;go_wp2_with (first|(refine wpList_load_row rfl 34 _ rfl w8.heap.size rfl 34 #[.string ⟨#[97]⟩,.int .i64 0,.int .u32 (sm:Int)] (0,0) _ hg9 hu rfl hi ?_));refine(HOPN.out _).mono ?_;rintro e w10 ⟨t,er,rfl,hp10,hb10⟩;rw [HW9.out] at hb10;obtain⟨rfl,rfl⟩:=HOPE.out _ _ hp10;have hg10:w10.heap[w8.heap.size]?=some (.cells #[.string ⟨#[97]⟩,.int .i64 0,.int .u32 (sm:Int)] 34 (0,0)):=(hb10.block _ Z9.out).trans G9.out;have c0:w10.cell? ⟨w8.heap.size,0,none⟩=some (.string ⟨#[97]⟩):=by rw [cell_of_row _ _ 0 _ _ _ hg10];rfl
 have c1:w10.cell? ⟨w8.heap.size,1,none⟩=some (.int .i64 0):=by rw [cell_of_row _ _ 1 _ _ _ hg10];rfl
 have R10:=zh (R9.out.other (Touch.ofBelow (S:=fun _=>False) hb10) (fun _ _ h=>h));have B10:=zh (B9.out.trans (hb10.mono B9.out.size));clear hp10 hb10 hg10 hg9;go_wp2_with fail;refine(ZcA b v7 _ 0 0 k w10 R10.out).mono ?_;rintro e w11 ⟨rfl,hw11⟩;have hw11':w10=w11:=by first|exact hw11|exact hw11.symm
 subst hw11';go_wp2_with fail;go_ret;exact⟨rfl,B10.out⟩
end
end Go.Proofs.YtnachbjhhpnadaaGreatDoor
namespace Go.Proofs
open Go.Shelf
def Tryz.lays129_ren:Go.Shelf.Ren:=⟨fun|129=>253|n=>n,fun|3=>3|4=>4|5=>5|9=>9|46=>205|53=>72|n=>n,fun  | n=>n⟩
theorem Tryz.lays129:Go.Proofs.Lays.n129 Tryz.prog Tryz.lays129_ren:={
 mixed:=by kernel_rfl
 f129:=Tryz.func253.trans (congrArg some (by kernel_rfl))
 t3:=Tryz.underlying3
 a3:=Tryz.isAgg3
 z3:=Tryz.sizeOf3
 v3:=Tryz.zeroValue3
 t4:=Tryz.underlying4
 a4:=Tryz.isAgg4
 z4:=Tryz.sizeOf4
 v4:=Tryz.zeroValue4
 t5:=Tryz.underlying5
 a5:=Tryz.isAgg5
 z5:=Tryz.sizeOf5
 v5:=Tryz.zeroValue5
 t9:=Tryz.underlying9
 a9:=Tryz.isAgg9
 z9:=Tryz.sizeOf9
 v9:=Tryz.zeroValue9
 t46:=Tryz.underlying205
 a46:=Tryz.isAgg205
 z46:=Tryz.sizeOf205
 v46:=Tryz.zeroValue205
 t53:=Tryz.underlying72
 a53:=Tryz.isAgg72
 z53:=Tryz.sizeOf72
 v53:=Tryz.zeroValue72
}
end Go.Proofs
namespace Go.Proofs.YtnachbjhhpnadaaGreatDoor
section
open Go.RowKit
theorem Zke:∀(k x:Nat),x<2^k->k<=64->x<2^Lib.bitLen x/\(0<x->2^(Lib.bitLen x-1)<=x):=by
 intro k
 induction k with
 | zero=>
  intro x hx _;have:x=0:=by simpa using hx
  subst this;exact⟨by decide,fun h=>by omega⟩
 | succ k ih=>
  intro x hx hk;rcases Nat.eq_zero_or_pos x with rfl|h0
  ·exact⟨by decide,fun h=>by omega⟩
  ·have h1:=Lib.bitLen_half x (by omega) (Nat.lt_of_lt_of_le hx (Nat.pow_le_pow_right (by omega) hk));have h2:=ih (x / 2) (by rw [Nat.pow_succ] at hx;omega) (by omega);rw [h1];refine⟨by rw [Nat.add_comm,Nat.pow_succ];omega,fun _=>?_⟩;rw [Nat.add_sub_cancel_left];rcases Nat.eq_zero_or_pos (x / 2) with e|e
   ·rw [e,show Lib.bitLen 0=0 by decide];exact h0
   ·have h3:=h2.2 e
    have h4:0<Lib.bitLen (x / 2):=by
     rcases Nat.eq_zero_or_pos (Lib.bitLen (x / 2)) with g|g
     ·have:=h2.1;rw [g] at this;simp at this;omega
     ·exact g
    have h5:2^Lib.bitLen (x / 2)=2^(Lib.bitLen (x / 2)-1)*2:=by rw [<-Nat.pow_succ];congr 1;omega
    omega
end
section
open Go.RowKit BwtM SrtM PkM
section
variable {B : Nat} {b n : Nat} {Z : List Nat}
end
end
section
open Go.RowKit BwtM SrtM PkM
def lastB (T:List UInt8) (p:Nat):UInt8:=T.getD ((if p=0 then T.length else p)-1) 0
theorem ZmO (s:ByteArray) (p:Nat) (w:World) (hs:s.size<=1000000) (hp:p<s.size):Calls Tryz.prog 213 #[.string s,.int .i64 (p:Int)] w fun e w'=>e=.returned (.int .u8 ((lastB s.data.toList p).toNat:Int))/\w'=w:=by
 have hl:=ZoY s;by_cases h0:p=0
 ·subst h0;obtain⟨j,hj⟩:∃j,s.size-1=j:=⟨_,rfl⟩
  have hjs:j<s.size:=by omega
  have hb:=ZrO s hjs
  have hx:(lastB s.data.toList 0).toNat=bt s.data.toList j:=by
   unfold lastB;rw [if_pos rfl,hl,hj,ZqX _ (by rw [hl];exact hjs)]
  rw [hx];generalize bt s.data.toList j=x at *;have hji:(s.size:Int)-1=(j:Int):=by omega
  have hjw:IntKind.i64.wrap (j:Int)=(j:Int):=IntWalk.i64_in _ (by omega);have hjl:(j:Int)<(s.size:Int):=by omega
  clear hx hl hj;go_enter Tryz.func213,Tryz.ntmps213;go_wp2_with fail;go_ret;exact⟨rfl,rfl⟩
 ·obtain⟨j,hj⟩:∃j,p-1=j:=⟨_,rfl⟩
  have hjs:j<s.size:=by omega
  have hb:=ZrO s hjs
  have hx:(lastB s.data.toList p).toNat=bt s.data.toList j:=by
   unfold lastB;rw [if_neg h0,hj,ZqX _ (by rw [hl];exact hjs)]
  rw [hx];generalize bt s.data.toList j=x at *;have hji:(p:Int)-1=(j:Int):=by omega
  have hjw:IntKind.i64.wrap (j:Int)=(j:Int):=IntWalk.i64_in _ (by omega);have hjl:(j:Int)<(s.size:Int):=by omega
  have hp0:((p:Int)==0)=false:=by rw [beq_eq_false_iff_ne];omega
  clear hx hl hj h0;go_enter Tryz.func213,Tryz.ntmps213;go_wp2_with fail;go_ret;exact⟨rfl,rfl⟩
structure TuF (F:Nat->Value) (s:ByteArray) (sp:Value) (held:Nat) (ov vw:Value) (og st:Nat):Prop where
 f0:F 0=.string s
 f1:F 1=sp
 f2:F 2=.int .i64 (held:Int)
 f3:F 3=ov
 f4:F 4=vw
 f5:F 5=.int .i64 (og:Int)
 f6:F 6=.int .i64 (st:Int)
def TuObj (w:World) (t:Nat) (s:ByteArray) (sp:Value) (held:Nat) (ov vw:Value) (og st:Nat):Prop:=∃F,ObjF 7 210 w t F/\TuF F s sp held ov vw og st
section
variable {B : Nat} {w w' : World} {t : Nat} {s : ByteArray} {sp ov vw : Value} {held og st : Nat} {zs : List Int} {l : List UInt8}
theorem TuObj.cells (h:TuObj w t s sp held ov vw og st):w.cell? ⟨t,0,none⟩=some (.string s)/\w.cell? ⟨t,1,none⟩=some sp/\w.cell? ⟨t,2,none⟩=some (.int .i64 (held:Int))/\w.cell? ⟨t,3,none⟩=some ov/\w.cell? ⟨t,4,none⟩=some vw /\
  w.cell? ⟨t,5,none⟩=some (.int .i64 (og:Int))/\w.cell? ⟨t,6,none⟩=some (.int .i64 (st:Int)):=by
 obtain⟨F,h1,h2⟩:=h;refine⟨?_,?_,?_,?_,?_,?_,?_⟩
 ·rw [(h1.cell (i:=0) (by omega)).1,h2.f0]
 ·rw [(h1.cell (i:=1) (by omega)).1,h2.f1]
 ·rw [(h1.cell (i:=2) (by omega)).1,h2.f2]
 ·rw [(h1.cell (i:=3) (by omega)).1,h2.f3]
 ·rw [(h1.cell (i:=4) (by omega)).1,h2.f4]
 ·rw [(h1.cell (i:=5) (by omega)).1,h2.f5]
 ·rw [(h1.cell (i:=6) (by omega)).1,h2.f6]
theorem TuObj.frozen (h:TuObj w t s sp held ov vw og st) (i:Nat) (hi:i<7):w.frozen? ⟨t,i,none⟩=false:=by
 obtain⟨F,h1,h2⟩:=h;exact(h1.cell hi).2
theorem TuObj.lt (h:TuObj w t s sp held ov vw og st):t<w.heap.size:=by
 obtain⟨F,h1,h2⟩:=h;exact h1.lt
theorem TuObj.other (h:TuObj w t s sp held ov vw og st) {X:Nat->Prop} (ht:Touch X w w') (hX:¬X t):TuObj w' t s sp held ov vw og st:=by
 obtain⟨F,h1,h2⟩:=h;exact⟨F,h1.other ht hX,h2⟩
theorem TuObj.set1 (h:TuObj w t s sp held ov vw og st) (x:Value):TuObj (w.setCell ⟨t,1,none⟩ x) t s x held ov vw og st:=by
 obtain⟨F,h1,h2⟩:=h;exact⟨_,h1.set 1 _,(Zab _ _ (by omega)).trans h2.f0,Zak _ _ _,(Zab _ _ (by omega)).trans h2.f2,(Zab _ _ (by omega)).trans h2.f3,(Zab _ _ (by omega)).trans h2.f4,(Zab _ _ (by omega)).trans h2.f5,(Zab _ _ (by omega)).trans h2.f6⟩
theorem TuObj.set3 (h:TuObj w t s sp held ov vw og st) (x:Value):TuObj (w.setCell ⟨t,3,none⟩ x) t s sp held x vw og st:=by
 obtain⟨F,h1,h2⟩:=h;exact⟨_,h1.set 3 _,(Zab _ _ (by omega)).trans h2.f0,(Zab _ _ (by omega)).trans h2.f1,(Zab _ _ (by omega)).trans h2.f2,Zak _ _ _,(Zab _ _ (by omega)).trans h2.f4,(Zab _ _ (by omega)).trans h2.f5,(Zab _ _ (by omega)).trans h2.f6⟩
theorem TuObj.set4 (h:TuObj w t s sp held ov vw og st) (x:Value):TuObj (w.setCell ⟨t,4,none⟩ x) t s sp held ov x og st:=by
 obtain⟨F,h1,h2⟩:=h;exact⟨_,h1.set 4 _,(Zab _ _ (by omega)).trans h2.f0,(Zab _ _ (by omega)).trans h2.f1,(Zab _ _ (by omega)).trans h2.f2,(Zab _ _ (by omega)).trans h2.f3,Zak _ _ _,(Zab _ _ (by omega)).trans h2.f5,(Zab _ _ (by omega)).trans h2.f6⟩
theorem TuObj.set5 (h:TuObj w t s sp held ov vw og st) (x:Nat):TuObj (w.setCell ⟨t,5,none⟩ (.int .i64 (x:Int))) t s sp held ov vw x st:=by
 obtain⟨F,h1,h2⟩:=h;exact⟨_,h1.set 5 _,(Zab _ _ (by omega)).trans h2.f0,(Zab _ _ (by omega)).trans h2.f1,(Zab _ _ (by omega)).trans h2.f2,(Zab _ _ (by omega)).trans h2.f3,(Zab _ _ (by omega)).trans h2.f4,Zak _ _ _,(Zab _ _ (by omega)).trans h2.f6⟩
theorem TuObj.set6 (h:TuObj w t s sp held ov vw og st) (x:Nat):TuObj (w.setCell ⟨t,6,none⟩ (.int .i64 (x:Int))) t s sp held ov vw og x:=by
 obtain⟨F,h1,h2⟩:=h;exact⟨_,h1.set 6 _,(Zab _ _ (by omega)).trans h2.f0,(Zab _ _ (by omega)).trans h2.f1,(Zab _ _ (by omega)).trans h2.f2,(Zab _ _ (by omega)).trans h2.f3,(Zab _ _ (by omega)).trans h2.f4,(Zab _ _ (by omega)).trans h2.f5,Zak _ _ _⟩
end
def OrdV (ov:Value):Prop:=ov=.slice none 0 0\/∃bo off n cap,ov=.slice (some ⟨bo,off,none⟩) n cap/\n<=cap/\cap<=9223372036854775807
structure IsTu (B:Nat) (w:World) (t:Nat) (s:ByteArray) (sp:Value) (held:Nat) (zs:List Int) (l:List UInt8) (og st:Nat) (ov vw:Value):Prop where
 obj:TuObj w t s sp held ov vw og st
 row:IsInts w ov zs
 last:OwnY w B vw l
 oap:ov.ownBlock≠some t
 lap:∀j,vw.ownBlock=some j->j≠t/\ov.ownBlock≠some j
 base:B<=t
 olt:∀j,ov.ownBlock=some j->j<w.heap.size
 oin:OrdV ov
section
variable {B : Nat} {w w' : World} {t : Nat} {s : ByteArray} {sp ov vw : Value} {held og st : Nat} {zs : List Int} {l : List UInt8}
theorem IsTu.own {sp':Value} {held' og' st':Nat} (h:IsTu B w t s sp held zs l og st ov vw) (ht:Touch (·=t) w w') (ho:TuObj w' t s sp' held' ov vw og' st'):IsTu B w' t s sp' held' zs l og' st' ov vw:=
 ⟨ho,h.row.same (fun k hk=>ht.block k (h.olt k hk) (fun e=>h.oap (by rw [<-e];exact hk))),h.last.same (fun k hk=>ht.block k (h.last.lt k hk).2 (h.lap k hk).1),h.oap,h.lap,h.base,fun j hj=>Nat.lt_of_lt_of_le (h.olt j hj) ht.size,h.oin⟩
theorem IsTu.other (h:IsTu B w t s sp held zs l og st ov vw) {X:Nat->Prop} (ht:Touch X w w') (h1:¬X t) (h2:∀k,ov.ownBlock=some k->¬X k) (h3:∀k,vw.ownBlock=some k->¬X k):IsTu B w' t s sp held zs l og st ov vw:=
 ⟨h.obj.other ht h1,h.row.same (fun k hk=>ht.block k (h.olt k hk) (h2 k hk)),h.last.same (fun k hk=>ht.block k (h.last.lt k hk).2 (h3 k hk)),h.oap,h.lap,h.base,fun j hj=>Nat.lt_of_lt_of_le (h.olt j hj) ht.size,h.oin⟩
theorem IsTu.below (h:IsTu B w t s sp held zs l og st ov vw) (ht:Below w.heap.size w w'):IsTu B w' t s sp held zs l og st ov vw:=
 h.other (Touch.ofBelow (S:=fun _=>False) ht) (fun e=>e) (fun _ _ e=>e) (fun _ _ e=>e)
theorem IsTu.grown {vw':Value} {l':List UInt8} (h:IsTu B w t s sp held zs l og st ov vw) (ht:Pushed w w' vw vw') (hw:OwnY w' B vw' l'):IsTu B (w'.setCell ⟨t,4,none⟩ vw') t s sp held zs l' og st ov vw' /\
  Touch (fun k=>k=t\/vw.ownBlock=some k) w (w'.setCell ⟨t,4,none⟩ vw'):=by
 have tt:Touch (fun k=>vw.ownBlock=some k) w w':=⟨ht.os,ht.tape,ht.output,ht.size,fun k hk hn=>ht.block k hk hn⟩
 have t2:Touch (·=t) w' (w'.setCell ⟨t,4,none⟩ vw'):=Zaa (Touch.refl _ _);have h1:TuObj w' t s sp held ov vw og st:=h.obj.other tt (fun e=>(h.lap t e).1 rfl)
 have hlap:∀j,vw'.ownBlock=some j->j≠t/\ov.ownBlock≠some j:=fun j hj=>by
  rcases ht.own j hj with e|e
  ·exact h.lap j e
  ·have l1:=h.obj.lt;exact⟨by omega,fun e2=>by have:=h.olt j e2;omega⟩
 have hrow:IsInts w' ov zs:=h.row.same (fun k hk=>tt.block k (h.olt k hk) (fun e=>(h.lap k e).2 hk));have hsz:=ht.size
 exact⟨⟨h1.set4 vw',hrow.same (fun k hk=>t2.block k (Nat.lt_of_lt_of_le (h.olt k hk) hsz) (fun e=>h.oap (by rw [<-e];exact hk))),hw.same (fun k hk=>t2.block k (hw.lt k hk).2 (hlap k hk).1),h.oap,hlap,h.base,fun j hj=>Nat.lt_of_lt_of_le (h.olt j hj) (Nat.le_trans hsz t2.size),h.oin⟩,
  (tt.mono (fun _ h=>Or.inr h)).trans (t2.mono (fun _ h=>Or.inl h)) (fun _ h=>Or.inl h)⟩
theorem IsTu.setRow {ov':Value} {zs':List Int} (h:IsTu B w t s sp held zs l og st ov vw) (hr:IsInts w ov' zs') (h1:ov'.ownBlock≠some t) (h2:∀j,vw.ownBlock=some j->ov'.ownBlock≠some j) (h3:∀j,ov'.ownBlock=some j->j<w.heap.size) (h4:OrdV ov'):IsTu B (w.setCell ⟨t,3,none⟩ ov') t s sp held zs' l og st ov' vw:=by
 have t2:Touch (·=t) w (w.setCell ⟨t,3,none⟩ ov'):=Zaa (Touch.refl _ _);exact⟨h.obj.set3 ov',hr.same (fun k hk=>t2.block k (h3 k hk) (fun e=>h1 (by rw [<-e];exact hk))),h.last.same (fun k hk=>t2.block k (h.last.lt k hk).2 (h.lap k hk).1),h1,fun j hj=>⟨(h.lap j hj).1,h2 j hj⟩,h.base,fun j hj=>Nat.lt_of_lt_of_le (h3 j hj) t2.size,h4⟩
theorem Zo2 (h:IsTu B w t s sp held zs l og st ov vw) (hs:0<s.size) (hs2:s.size<=1000000) (hl:l.length<=1000000):Calls Tryz.prog 158 #[.pointer (some ⟨t,0,none⟩)] w fun e w'=>e=.returned (.bool (l.length==s.size))/\∃m,w'=w.drewN m:=by
 obtain⟨c0,_,_,_,c4,_,_⟩:=h.obj.cells;obtain⟨a,cap,rfl⟩:=h.last.slice;obtain⟨n,hn⟩:∃n,l.length=n:=⟨_,rfl⟩
 rw [hn] at c4 hl ⊢;have hemp:=ZgI s hs;obtain⟨r,hr⟩:∃r,(n==s.size)=r:=⟨_,rfl⟩
 have hri:((n:Int)==(s.size:Int))=r:=by rw [<-hr,Bool.eq_iff_iff,beq_iff_eq,beq_iff_eq];omega
 rw [hr];clear h hn hr;go_enter Tryz.func158,Tryz.ntmps158;go_wp2_with fail
 go_quiet (fail)
 go_wp2_with fail;go_ret;exact⟨rfl,_,rfl⟩
theorem Zkf (h:IsTu B w t s sp held zs l og st ov vw) (hs:0<s.size) (hs2:s.size<=1000000) (hl:l.length=s.size):Calls Tryz.prog 97 #[.pointer (some ⟨t,0,none⟩)] w fun e w'=>e=.returned (.tuple #[.string ⟨l.toArray⟩,.int .i64 (og:Int)])/\∃m,w'=w.drewN m:=by
 have HD:=zh (Zo2 h hs hs2 (by omega));rw [show(l.length==s.size)=true by rw [beq_iff_eq];exact hl] at HD;obtain⟨_,_,_,_,c4,c5,_⟩:=h.obj.cells;have HL:=zh h.last;have HCV:=fun m=>ZeJ (W:=w.drewN m) h.last
 clear h hl;go_enter Tryz.func97,Tryz.ntmps97;go_wp2_with fail;refine HD.out.mono ?_;rintro e w2 ⟨rfl,m,rfl⟩;go_wp2_with fail
 go_quiet (fail)
 go_wp2_with fail;go_ret2;exact⟨rfl,_,by rw [World.drewN_drewN]⟩
end
end
section
open Go.RowKit BwtM SrtM PkM
def orgN (P:List Nat):Nat->Nat
 | 0=>0
 | k+1=>if P.getD k 0=0 then k else orgN P k
def lastN (T:List UInt8) (P:List Nat) (k:Nat):List UInt8:=(P.take k).map (lastB T)
theorem ZgJ {T:List UInt8} {P:List Nat} {k:Nat} (h:k<P.length):lastN T P (k+1)=lastN T P k++[lastB T (P.getD k 0)]:=by
 unfold lastN;rw [List.take_succ_eq_append_getElem h,List.map_append,List.getD_eq_getElem?_getD,List.getElem?_eq_getElem h];rfl
theorem Zo3 {T:List UInt8} {P:List Nat} {k:Nat} (h:k<=P.length):(lastN T P k).length=k:=by unfold lastN;rw [List.length_map,List.length_take];omega
theorem ZtY (b off n cap g:Nat) (h1:g<=n) (h2:n<=cap) (h3:cap<=9223372036854775807) (W:World):(Instr.slice 79 (.slice (some ⟨b,off,none⟩) n cap) none (some (.int .i64 (g:Int))) none).run Tryz.prog W=.ok (.slice (some ⟨b,off,none⟩) g cap) W:=by
 have hs:(sizeOf (Tryz.prog.elem 79)).run Tryz.prog W=.ok 1 W:=by kernel_rfl
 rw [run_slice_h W 79 (some ⟨b,off,none⟩) n cap (by kernel_rfl) .i64 _ (by omega) (by omega),hs];have e1:((g:Int)).toNat=g:=by omega
 simp [Result.andThen,sliced,e1,Addr.add]
theorem ZtZ (b off n cap g:Nat) (h1:g<=n) (h2:n<=cap) (h3:cap<=9223372036854775807) (W:World):(Instr.slice 79 (.slice (some ⟨b,off,none⟩) n cap) (some (.int .i64 (g:Int))) none none).run Tryz.prog W=.ok (.slice (some ⟨b,if cap=g then off else off+g,none⟩) (n-g) (cap-g)) W:=by
 have hs:(sizeOf (Tryz.prog.elem 79)).run Tryz.prog W=.ok 1 W:=by kernel_rfl
 rw [run_slice_l W 79 (some ⟨b,off,none⟩) n cap (by kernel_rfl) .i64 _ (by omega) (by omega),hs];have e1:((g:Int)).toNat=g:=by omega
 by_cases e3:cap=g
 ·simp [Result.andThen,sliced,e1,e3]
 ·simp [Result.andThen,sliced,e1,e3,Addr.add]
section
variable {B : Nat} {t : Nat} {s : ByteArray} {sp : Value} {held st : Nat}
def TakeP (B:Nat) (w w':World) (t:Nat) (s:ByteArray) (sp:Value) (held st:Nat) (P:List Nat) (k g:Nat) (e:Ending):Prop:=
 e=.returned (.int .i64 (g:Int))/\∃bo off nn cap vw,IsTu B w' t s sp held (toI (P.drop (k+g))) (lastN s.data.toList P (k+g)) (orgN P (k+g)) st (.slice (some ⟨bo,off,none⟩) nn cap) vw/\(P.length-(k+g)=nn/\nn<=cap/\cap<=9223372036854775807)/\Below B w w'
theorem Zo4 (w:World) (P:List Nat) (k q:Nat) (bo off cap n:Nat) (vw:Value) (h:IsTu B w t s sp held (toI (P.drop k)) (lastN s.data.toList P k) (orgN P k) st (.slice (some ⟨bo,off,none⟩) n cap) vw) (hP:∀p∈P,p<s.size) (hk:k<=P.length) (hn:P.length-k=n) (hc1:n<=cap) (hc2:cap<=9223372036854775807) (hPl:P.length<=500000) (hs:s.size<=1000000) (hq:q<=9223372036854775807) (hb:B<=w.heap.size) :
  Calls Tryz.prog 156 #[.pointer (some ⟨t,0,none⟩),.int .i64 (q:Int)] w fun e w'=>TakeP B w w' t s sp held st P k (min q n) e:=by
 have hlen:(toI (P.drop k)).length=n:=by rw [toI_length,List.length_drop];exact hn
 have HLEN:=zh hlen;obtain⟨g,hg⟩:∃g,min q n=g:=⟨_,rfl⟩
 have hmin:min (q:Int) (n:Int)=(g:Int):=by omega
 obtain⟨c0,_,_,c3,_⟩:=h.obj.cells;have H:=zh h;have hgn:g<=n:=by omega
 have HP:=zh hP;rw [hg];have HNK:Hid (P.length=k+n):=zh (by omega);have hsl:=fun W=>ZtY bo off n cap g hgn hc1 hc2 W
 have HB0:Hid (Below B w w):=zh (Below.refl _ _);have hn5:n<=500000:=by omega
 have HCELL:Hid (∀W j,j<n->IsInts W (.slice (some ⟨bo,off,none⟩) n cap) (toI (P.drop k))->W.cell? ⟨bo,off+j,none⟩=some (.int .i64 ((P.getD (k+j) 0:Nat):Int))):=zh (fun W j hj hI=>by
  obtain⟨b2,o2,c2,e2,hc⟩:=hI.cell (k:=j) (by rw [HLEN.out];exact hj);simp only [Value.slice.injEq,Option.some.injEq,Addr.mk.injEq] at e2;obtain⟨⟨rfl,rfl,_⟩,_,_⟩:=e2;rw [hc,toI_getD,ZcK])
 clear h hP hlen hn hg;go_enter Tryz.func156,Tryz.ntmps156;go_wp2_with fail
 go_loopw [22] (fun vj wr=>∃(j:Nat) (vw:Value),vj=.int .i64 (j:Int)/\j<=g/\IsTu B wr t s sp held (toI (P.drop k)) (lastN s.data.toList P (k+j)) (orgN P (k+j)) st (.slice (some ⟨bo,off,none⟩) n cap) vw/\Below B w wr) (fun vj _=>g-(intOf vj).toNat)
 case atStart=>exact⟨0,vw,rfl,Nat.zero_le _,H.out,HB0.out⟩
 case round=>
  clear H HB0 c0 c3;obtain⟨j,v1,rfl,hj,hI,hB⟩:=hrel;have HI:=zh hI;have HB:=zh hB;obtain⟨c0,_,_,c3,c4,c5,_⟩:=hI.obj.cells;have e3:=hI.obj.frozen 3 (by omega);have e4:=hI.obj.frozen 4 (by omega);have e5:=hI.obj.frozen 5 (by omega);have hll:(lastN s.data.toList P (k+j)).length=k+j:=Zo3 (by rw [HNK.out];omega);have HLL:=zh hll;clear hI hB;by_cases hjg:j<g
  ·have hji:(j:Int)<(g:Int):=by omega
   have cO:=HCELL.out wr j (by omega) HI.out.row;obtain⟨p,hp⟩:∃p,P.getD (k+j) 0=p:=⟨_,rfl⟩
   rw [hp] at cO
   have hps:p<s.size:=by
    rw [<-hp,List.getD_eq_getElem?_getD,List.getElem?_eq_getElem (by rw [HNK.out];omega)];exact HP.out _ (List.getElem_mem _)
   have HPE:=zh hp;obtain⟨kj,hkj⟩:∃kj,k+j=kj:=⟨_,rfl⟩
   have HKJ:=zh hkj;have hkjb:kj<=500000:=by have:=HNK.out;omega
   rw [hkj] at HLL HI c5;have HAH:=zh (fun W=>ZmO s p W hs hps);obtain⟨y,hy⟩:∃y,lastB s.data.toList p=y:=⟨_,rfl⟩
   rw [hy] at HAH;have HY:=zh hy;clear hp hkj hy hll;obtain⟨a4,cap4,hv4⟩:=HI.out.last.slice;rw [HLL.out] at hv4;subst hv4;by_cases hp0:p=0
   ·have hp0i:((p:Int)==0)=true:=by rw [beq_iff_eq];omega
    have HG0:Hid (IsTu B (wr.setCell ⟨t,5,none⟩ (.int .i64 (kj:Int))) t s sp held (toI (P.drop k)) (lastN s.data.toList P kj) (orgN P (kj+1)) st (.slice (some ⟨bo,off,none⟩) n cap) (.slice a4 kj cap4)):=zh (by
     have e:orgN P (kj+1)=kj:=by
      show(if P.getD kj 0=0 then kj else orgN P kj)=kj;rw [<-HKJ.out,HPE.out,if_pos hp0]
     rw [e];exact HI.out.own (Zaa (Touch.refl _ _)) (HI.out.obj.set5 kj))
    have HBW0:Hid (Below B w (wr.setCell ⟨t,5,none⟩ (.int .i64 (kj:Int)))):=zh (HB.out.setCell (p:=⟨t,5,none⟩) HI.out.base _);clear hp0;go_wp2_with fail;generalize wr.setCell ⟨t,5,none⟩ (.int .i64 (kj:Int))=wb at *;have HG:=HG0;have HBW:=HBW0;clear HG0 HBW0 c0 c3 c4 c5 e3 e4 e5;obtain⟨c0,_,_,c3,c4,c5,_⟩:=HG.out.obj.cells;have hSS:(fun W:World=>W.cell? ⟨t,4,none⟩=some (.slice a4 kj cap4)/\W.cell? ⟨t,0,none⟩=some (.string s)) wb.drew:=⟨c4,c0⟩
    have hLT:t<wb.drew.heap.size:=HG.out.obj.lt
    have hSX:(fun W:World=>W.cell? ⟨t,4,none⟩=some (.slice a4 kj cap4)/\W.cell? ⟨t,0,none⟩=some (.string s)) (wb.drew.alloc (.cells #[.int .u8 (y.toNat:Int)] 5)):=
     ⟨(World.cell?_alloc_some wb.drew _ _ (by rw [hSS.1];rfl)).trans hSS.1,(World.cell?_alloc_some wb.drew _ _ (by rw [hSS.2];rfl)).trans hSS.2⟩
    refine Zdg 15 (fun W:World=>W.cell? ⟨t,4,none⟩=some (.slice a4 kj cap4)/\W.cell? ⟨t,0,none⟩=some (.string s)) (by kernel_rfl) ?_;refine Zag (i:=0) rfl (by kernel_rfl) (by kernel_rfl) (by kernel_rfl) (by kernel_rfl) (fun _ _ _ h=>h) (v:=?_) (Or.inl ⟨by rfl,?_⟩) hSS ?_;rotate_left
    ·rintro W ⟨k4,k0⟩
     go_simp
     try with_reducible rfl
    try simp only [Act.put,List.setIfInBounds_toArray,List.set_cons_zero,List.set_cons_succ]
    refine Zag (i:=1) rfl (by kernel_rfl) (by kernel_rfl) (by kernel_rfl) (by kernel_rfl) (fun _ _ _ h=>h) (v:=?_) (Or.inl ⟨by rfl,?_⟩) hSS ?_;rotate_left
    ·rintro W ⟨k4,k0⟩
     go_simp
     try with_reducible rfl
    try simp only [Act.put,List.setIfInBounds_toArray,List.set_cons_zero,List.set_cons_succ]
    refine Zag (i:=2) rfl (by kernel_rfl) (by kernel_rfl) (by kernel_rfl) (by kernel_rfl) (fun _ _ _ h=>h) (v:=?_) (Or.inl ⟨by rfl,?_⟩) hSS ?_;rotate_left
    ·rintro W ⟨k4,k0⟩
     go_simp
     try with_reducible rfl
    try simp only [Act.put,List.setIfInBounds_toArray,List.set_cons_zero,List.set_cons_succ]
    refine Zag (i:=3) rfl (by kernel_rfl) (by kernel_rfl) (by kernel_rfl) (by kernel_rfl) (fun _ _ _ h=>h) (v:=?_) (Or.inl ⟨by rfl,?_⟩) hSS ?_;rotate_left
    ·rintro W ⟨k4,k0⟩
     go_simp
     try with_reducible rfl
    try simp only [Act.put,List.setIfInBounds_toArray,List.set_cons_zero,List.set_cons_succ]
    refine Zag (i:=4) rfl (by kernel_rfl) (by kernel_rfl) (by kernel_rfl) (by kernel_rfl) (fun _ _ _ h=>h) (v:=?_) (Or.inl ⟨by rfl,?_⟩) hSS ?_;rotate_left
    ·rintro W ⟨k4,k0⟩
     go_simp
     try with_reducible rfl
    try simp only [Act.put,List.setIfInBounds_toArray,List.set_cons_zero,List.set_cons_succ]
    refine Zag (i:=5) rfl (by kernel_rfl) (by kernel_rfl) (by kernel_rfl) (by kernel_rfl) (fun _ _ _ h=>h) (v:=?_) (Or.inl ⟨by rfl,?_⟩) hSS ?_;rotate_left
    ·rintro W ⟨k4,k0⟩
     go_simp
     try with_reducible rfl
    try simp only [Act.put,List.setIfInBounds_toArray,List.set_cons_zero,List.set_cons_succ]
    refine Zag (i:=6) rfl (by kernel_rfl) (by kernel_rfl) (by kernel_rfl) (by kernel_rfl) (fun _ _ _ h=>h) (v:=?_) (Or.inl ⟨by rfl,?_⟩) hSS ?_;rotate_left
    ·rintro W ⟨k4,k0⟩
     go_simp
     try with_reducible rfl
    try simp only [Act.put,List.setIfInBounds_toArray,List.set_cons_zero,List.set_cons_succ]
    refine Zag (i:=7) rfl (by kernel_rfl) (by kernel_rfl) (by kernel_rfl) (by kernel_rfl) (fun _ _ _ h=>h) (v:=?_) (Or.inl ⟨by rfl,?_⟩) hSS ?_;rotate_left
    ·rintro W ⟨k4,k0⟩
     go_simp
     try with_reducible rfl
    try simp only [Act.put,List.setIfInBounds_toArray,List.set_cons_zero,List.set_cons_succ]
    refine Zag (i:=8) rfl (by kernel_rfl) (by kernel_rfl) (by kernel_rfl) (by kernel_rfl) (fun _ _ _ h=>h) (v:=?_) (Or.inl ⟨by rfl,?_⟩) hSS ?_;rotate_left
    ·rintro W ⟨k4,k0⟩
     go_simp
     try with_reducible rfl
    try simp only [Act.put,List.setIfInBounds_toArray,List.set_cons_zero,List.set_cons_succ]
    refine Zag (i:=9) rfl (by kernel_rfl) (by kernel_rfl) (by kernel_rfl) (by kernel_rfl) (fun _ _ _ h=>h) (v:=?_) (Or.inl ⟨by rfl,?_⟩) hSS ?_;rotate_left
    ·rintro W ⟨k4,k0⟩
     go_simp
     try with_reducible rfl
    try simp only [Act.put,List.setIfInBounds_toArray,List.set_cons_zero,List.set_cons_succ]
    refine Zao (rs:=[10]) (by kernel_rfl) (by simp) ?_;intro i hi;simp only [List.mem_cons,List.not_mem_nil,or_false] at hi;subst hi;refine ZaJ rfl ?_;intro KC hKC
    go_simp
    go_at_call 213
    refine(HAH.out _).mono ?_;rintro e wA ⟨rfl,rfl⟩;refine hKC _ _ ⟨fun _=>hSS,?_⟩
    try simp only [Act.put,List.setIfInBounds_toArray,List.set_cons_zero,List.set_cons_succ]
    clear hKC;refine Zao (rs:=[11]) (by kernel_rfl) (by simp) ?_;intro i hi;simp only [List.mem_cons,List.not_mem_nil,or_false] at hi;subst hi;refine ZaJ rfl ?_;intro KC hKC
    go_simp
    refine hKC _ _ ⟨fun _=>hSX,?_⟩
    try simp only [Act.put,List.setIfInBounds_toArray,List.set_cons_zero,List.set_cons_succ]
    clear hKC;refine Zao (rs:=[12]) (by kernel_rfl) (by simp) ?_;intro i hi;simp only [List.mem_cons,List.not_mem_nil,or_false] at hi;subst hi;refine ZaJ rfl ?_;intro KC hKC;have HOWN:Hid (OwnY (wb.drew.alloc (.cells #[.int .u8 (y.toNat:Int)] 5)) B (.slice a4 kj cap4) (lastN s.data.toList P kj)):=zh (World.ownsRow.alloc (show wb.drew.ownsRow B 5 1 (.slice a4 kj cap4) _ _ from HG.out.last) _)
    have HBX:Hid ((wb.drew.alloc (.cells #[.int .u8 (y.toNat:Int)] 5)).cell? ⟨wb.heap.size,0,none⟩=some (u8v y)):=zh (by
     have:=cell_of_row _ _ 0 _ _ _ (heap_alloc_new wb.drew (.cells #[.int .u8 (y.toNat:Int)] 5));exact this)
    have HBZ:Hid (B<=(wb.drew.alloc (.cells #[.int .u8 (y.toNat:Int)] 5)).heap.size):=zh (by
     have h1:=HBW.out.size;have h2:wb.drew.heap.size=wb.heap.size:=rfl;simp;omega)
    refine ZbP (wb.drew.alloc (.cells #[.int .u8 (y.toNat:Int)] 5)) (by rfl) _ _ (by rfl) B wb.heap.size (.slice a4 kj cap4) (lastN s.data.toList P kj) y HOWN.out (by rfl) (by rfl) HBX.out (by rw [HLL.out];omega) HBZ.out ?_;intro v' w6 hO6 hB6 hk6 hf6;have hz:(wb.drew.alloc (.cells #[.int .u8 (y.toNat:Int)] 5)).heap.size=wb.heap.size+1:=by show(wb.heap.push _).size=_;simp
    have kt:w6.heap[t]?=wb.heap[t]?:=(hk6 t (by rw [hz];exact Nat.lt_succ_of_lt hLT) (fun e=>(HG.out.lap t e).1 rfl)).trans (Zam (w:=wb.drew) hLT);have hS6:(fun W:World=>W.cell? ⟨t,4,none⟩=some (.slice a4 kj cap4)/\W.cell? ⟨t,0,none⟩=some (.string s)) w6:=⟨(World.cell?_of_block (w:=wb) (a:=⟨t,4,none⟩) kt).trans c4,(World.cell?_of_block (w:=wb) (a:=⟨t,0,none⟩) kt).trans c0⟩
    have f4:w6.cell? ⟨t,4,none⟩=some (.slice a4 kj cap4):=hS6.1;have g4:w6.frozen? ⟨t,4,none⟩=false:=(World.frozen?_of_block (w:=wb) (a:=⟨t,4,none⟩) kt).trans (HG.out.obj.frozen 4 (by omega));refine hKC _ _ ⟨fun _=>hS6,?_⟩
    try simp only [Act.put,List.setIfInBounds_toArray,List.set_cons_zero,List.set_cons_succ]
    clear hKC;have HPU:Hid (Pushed wb w6 (.slice a4 kj cap4) v'):=zh ⟨hB6.os,hB6.tape,hB6.output,by have:=hB6.size;omega,fun k hk hn=>(hk6 k (by omega) hn).trans (Zam (w:=wb.drew) hk),fun k hk=>(hf6 k hk).imp id (fun h=>by omega)⟩
    have HO6:Hid (OwnY w6 B v' (lastN s.data.toList P (kj+1))):=zh (by
     rw [ZgJ (by rw [<-HKJ.out,HNK.out];omega),<-HKJ.out,HPE.out,HY.out,HKJ.out];exact hO6)
    have HN6:=zh (HG.out.grown HPU.out HO6.out)
    have HB7:Hid (Below B w (w6.setCell ⟨t,4,none⟩ v')):=zh (HBW.out.trans (HN6.out.2.below (Nat.le_trans hb HBW.out.size) (fun x hx=>by
     rcases hx with e|e
     ·have:=HG.out.base;omega
     ·exact(HG.out.last.lt x e).1)))
    have HI7:Hid (IsTu B (w6.setCell ⟨t,4,none⟩ v') t s sp held (toI (P.drop k)) (lastN s.data.toList P (k+(j+1))) (orgN P (k+(j+1))) st (.slice (some ⟨bo,off,none⟩) n cap) v'):=zh (by
     rw [show k+(j+1)=kj+1 by have:=HKJ.out;omega];exact HN6.out.1)
    obtain⟨va,vc,hve⟩:=hO6.slice;obtain⟨vl,hvl⟩:∃vl,(lastN s.data.toList P kj++[y]).length=vl:=⟨_,rfl⟩
    rw [hvl] at hve;subst hve;clear hvl;refine Zao (rs:=[13]) (by kernel_rfl) (by simp) ?_;intro i hi;simp only [List.mem_cons,List.not_mem_nil,or_false] at hi;subst hi;refine ZaJ rfl ?_;intro KC hKC
    go_simp
    refine hKC _ _ ⟨fun _=>hS6,?_⟩
    try simp only [Act.put,List.setIfInBounds_toArray,List.set_cons_zero,List.set_cons_succ]
    clear hKC;refine Zao (rs:=[14]) (by kernel_rfl) (by simp) ?_;intro i hi;simp only [List.mem_cons,List.not_mem_nil,or_false] at hi;subst hi;refine ZaJ rfl ?_;intro KC hKC
    go_simp
    refine hKC _ _ ⟨fun _=>hS6,?_⟩
    try simp only [Act.put,List.setIfInBounds_toArray,List.set_cons_zero,List.set_cons_succ]
    clear hKC;refine Zao (rs:=[15]) (by kernel_rfl) (by simp) ?_;intro i hi;simp only [List.mem_cons,List.not_mem_nil,or_false] at hi;subst hi;refine ZaJ rfl ?_;intro KC hKC
    go_simp
    refine hKC _ _ ⟨fun h=>absurd rfl h,?_⟩;refine Zdf (by kernel_rfl) ?_ _;clear f4 g4 hSS hSX kt hz;go_wp2_with fail;go_roundw
    case rel=>exact⟨j+1,_,by go_num,by omega,HI7.out,HB7.out⟩
    case measure=>simp [intOf];omega
   ·have hp0i:((p:Int)==0)=false:=by rw [beq_eq_false_iff_ne];omega
    have HG:Hid (IsTu B wr t s sp held (toI (P.drop k)) (lastN s.data.toList P kj) (orgN P (kj+1)) st (.slice (some ⟨bo,off,none⟩) n cap) (.slice a4 kj cap4)):=zh (by
     have e:orgN P (kj+1)=orgN P kj:=by
      show(if P.getD kj 0=0 then kj else orgN P kj)=_;rw [<-HKJ.out,HPE.out,if_neg hp0]
     rw [e];exact HI.out)
    have HBW:=HB;clear hp0;go_wp2_with fail;obtain⟨wb,rfl⟩:∃wb:World,wb=wr:=⟨_,rfl⟩
    clear c0 c3 c4 c5 e3 e4 e5;obtain⟨c0,_,_,c3,c4,c5,_⟩:=HG.out.obj.cells;have hSS:(fun W:World=>W.cell? ⟨t,4,none⟩=some (.slice a4 kj cap4)/\W.cell? ⟨t,0,none⟩=some (.string s)) wb.drew:=⟨c4,c0⟩
    have hLT:t<wb.drew.heap.size:=HG.out.obj.lt
    have hSX:(fun W:World=>W.cell? ⟨t,4,none⟩=some (.slice a4 kj cap4)/\W.cell? ⟨t,0,none⟩=some (.string s)) (wb.drew.alloc (.cells #[.int .u8 (y.toNat:Int)] 5)):=
     ⟨(World.cell?_alloc_some wb.drew _ _ (by rw [hSS.1];rfl)).trans hSS.1,(World.cell?_alloc_some wb.drew _ _ (by rw [hSS.2];rfl)).trans hSS.2⟩
    refine Zdg 15 (fun W:World=>W.cell? ⟨t,4,none⟩=some (.slice a4 kj cap4)/\W.cell? ⟨t,0,none⟩=some (.string s)) (by kernel_rfl) ?_;refine Zag (i:=0) rfl (by kernel_rfl) (by kernel_rfl) (by kernel_rfl) (by kernel_rfl) (fun _ _ _ h=>h) (v:=?_) (Or.inl ⟨by rfl,?_⟩) hSS ?_;rotate_left
    ·rintro W ⟨k4,k0⟩
     go_simp
     try with_reducible rfl
    try simp only [Act.put,List.setIfInBounds_toArray,List.set_cons_zero,List.set_cons_succ]
    refine Zag (i:=1) rfl (by kernel_rfl) (by kernel_rfl) (by kernel_rfl) (by kernel_rfl) (fun _ _ _ h=>h) (v:=?_) (Or.inl ⟨by rfl,?_⟩) hSS ?_;rotate_left
    ·rintro W ⟨k4,k0⟩
     go_simp
     try with_reducible rfl
    try simp only [Act.put,List.setIfInBounds_toArray,List.set_cons_zero,List.set_cons_succ]
    refine Zag (i:=2) rfl (by kernel_rfl) (by kernel_rfl) (by kernel_rfl) (by kernel_rfl) (fun _ _ _ h=>h) (v:=?_) (Or.inl ⟨by rfl,?_⟩) hSS ?_;rotate_left
    ·rintro W ⟨k4,k0⟩
     go_simp
     try with_reducible rfl
    try simp only [Act.put,List.setIfInBounds_toArray,List.set_cons_zero,List.set_cons_succ]
    refine Zag (i:=3) rfl (by kernel_rfl) (by kernel_rfl) (by kernel_rfl) (by kernel_rfl) (fun _ _ _ h=>h) (v:=?_) (Or.inl ⟨by rfl,?_⟩) hSS ?_;rotate_left
    ·rintro W ⟨k4,k0⟩
     go_simp
     try with_reducible rfl
    try simp only [Act.put,List.setIfInBounds_toArray,List.set_cons_zero,List.set_cons_succ]
    refine Zag (i:=4) rfl (by kernel_rfl) (by kernel_rfl) (by kernel_rfl) (by kernel_rfl) (fun _ _ _ h=>h) (v:=?_) (Or.inl ⟨by rfl,?_⟩) hSS ?_;rotate_left
    ·rintro W ⟨k4,k0⟩
     go_simp
     try with_reducible rfl
    try simp only [Act.put,List.setIfInBounds_toArray,List.set_cons_zero,List.set_cons_succ]
    refine Zag (i:=5) rfl (by kernel_rfl) (by kernel_rfl) (by kernel_rfl) (by kernel_rfl) (fun _ _ _ h=>h) (v:=?_) (Or.inl ⟨by rfl,?_⟩) hSS ?_;rotate_left
    ·rintro W ⟨k4,k0⟩
     go_simp
     try with_reducible rfl
    try simp only [Act.put,List.setIfInBounds_toArray,List.set_cons_zero,List.set_cons_succ]
    refine Zag (i:=6) rfl (by kernel_rfl) (by kernel_rfl) (by kernel_rfl) (by kernel_rfl) (fun _ _ _ h=>h) (v:=?_) (Or.inl ⟨by rfl,?_⟩) hSS ?_;rotate_left
    ·rintro W ⟨k4,k0⟩
     go_simp
     try with_reducible rfl
    try simp only [Act.put,List.setIfInBounds_toArray,List.set_cons_zero,List.set_cons_succ]
    refine Zag (i:=7) rfl (by kernel_rfl) (by kernel_rfl) (by kernel_rfl) (by kernel_rfl) (fun _ _ _ h=>h) (v:=?_) (Or.inl ⟨by rfl,?_⟩) hSS ?_;rotate_left
    ·rintro W ⟨k4,k0⟩
     go_simp
     try with_reducible rfl
    try simp only [Act.put,List.setIfInBounds_toArray,List.set_cons_zero,List.set_cons_succ]
    refine Zag (i:=8) rfl (by kernel_rfl) (by kernel_rfl) (by kernel_rfl) (by kernel_rfl) (fun _ _ _ h=>h) (v:=?_) (Or.inl ⟨by rfl,?_⟩) hSS ?_;rotate_left
    ·rintro W ⟨k4,k0⟩
     go_simp
     try with_reducible rfl
    try simp only [Act.put,List.setIfInBounds_toArray,List.set_cons_zero,List.set_cons_succ]
    refine Zag (i:=9) rfl (by kernel_rfl) (by kernel_rfl) (by kernel_rfl) (by kernel_rfl) (fun _ _ _ h=>h) (v:=?_) (Or.inl ⟨by rfl,?_⟩) hSS ?_;rotate_left
    ·rintro W ⟨k4,k0⟩
     go_simp
     try with_reducible rfl
    try simp only [Act.put,List.setIfInBounds_toArray,List.set_cons_zero,List.set_cons_succ]
    refine Zao (rs:=[10]) (by kernel_rfl) (by simp) ?_;intro i hi;simp only [List.mem_cons,List.not_mem_nil,or_false] at hi;subst hi;refine ZaJ rfl ?_;intro KC hKC
    go_simp
    go_at_call 213
    refine(HAH.out _).mono ?_;rintro e wA ⟨rfl,rfl⟩;refine hKC _ _ ⟨fun _=>hSS,?_⟩
    try simp only [Act.put,List.setIfInBounds_toArray,List.set_cons_zero,List.set_cons_succ]
    clear hKC;refine Zao (rs:=[11]) (by kernel_rfl) (by simp) ?_;intro i hi;simp only [List.mem_cons,List.not_mem_nil,or_false] at hi;subst hi;refine ZaJ rfl ?_;intro KC hKC
    go_simp
    refine hKC _ _ ⟨fun _=>hSX,?_⟩
    try simp only [Act.put,List.setIfInBounds_toArray,List.set_cons_zero,List.set_cons_succ]
    clear hKC;refine Zao (rs:=[12]) (by kernel_rfl) (by simp) ?_;intro i hi;simp only [List.mem_cons,List.not_mem_nil,or_false] at hi;subst hi;refine ZaJ rfl ?_;intro KC hKC;have HOWN:Hid (OwnY (wb.drew.alloc (.cells #[.int .u8 (y.toNat:Int)] 5)) B (.slice a4 kj cap4) (lastN s.data.toList P kj)):=zh (World.ownsRow.alloc (show wb.drew.ownsRow B 5 1 (.slice a4 kj cap4) _ _ from HG.out.last) _)
    have HBX:Hid ((wb.drew.alloc (.cells #[.int .u8 (y.toNat:Int)] 5)).cell? ⟨wb.heap.size,0,none⟩=some (u8v y)):=zh (by
     have:=cell_of_row _ _ 0 _ _ _ (heap_alloc_new wb.drew (.cells #[.int .u8 (y.toNat:Int)] 5));exact this)
    have HBZ:Hid (B<=(wb.drew.alloc (.cells #[.int .u8 (y.toNat:Int)] 5)).heap.size):=zh (by
     have h1:=HBW.out.size;have h2:wb.drew.heap.size=wb.heap.size:=rfl;simp;omega)
    refine ZbP (wb.drew.alloc (.cells #[.int .u8 (y.toNat:Int)] 5)) (by rfl) _ _ (by rfl) B wb.heap.size (.slice a4 kj cap4) (lastN s.data.toList P kj) y HOWN.out (by rfl) (by rfl) HBX.out (by rw [HLL.out];omega) HBZ.out ?_;intro v' w6 hO6 hB6 hk6 hf6;have hz:(wb.drew.alloc (.cells #[.int .u8 (y.toNat:Int)] 5)).heap.size=wb.heap.size+1:=by show(wb.heap.push _).size=_;simp
    have kt:w6.heap[t]?=wb.heap[t]?:=(hk6 t (by rw [hz];exact Nat.lt_succ_of_lt hLT) (fun e=>(HG.out.lap t e).1 rfl)).trans (Zam (w:=wb.drew) hLT);have hS6:(fun W:World=>W.cell? ⟨t,4,none⟩=some (.slice a4 kj cap4)/\W.cell? ⟨t,0,none⟩=some (.string s)) w6:=⟨(World.cell?_of_block (w:=wb) (a:=⟨t,4,none⟩) kt).trans c4,(World.cell?_of_block (w:=wb) (a:=⟨t,0,none⟩) kt).trans c0⟩
    have f4:w6.cell? ⟨t,4,none⟩=some (.slice a4 kj cap4):=hS6.1;have g4:w6.frozen? ⟨t,4,none⟩=false:=(World.frozen?_of_block (w:=wb) (a:=⟨t,4,none⟩) kt).trans (HG.out.obj.frozen 4 (by omega));refine hKC _ _ ⟨fun _=>hS6,?_⟩
    try simp only [Act.put,List.setIfInBounds_toArray,List.set_cons_zero,List.set_cons_succ]
    clear hKC;have HPU:Hid (Pushed wb w6 (.slice a4 kj cap4) v'):=zh ⟨hB6.os,hB6.tape,hB6.output,by have:=hB6.size;omega,fun k hk hn=>(hk6 k (by omega) hn).trans (Zam (w:=wb.drew) hk),fun k hk=>(hf6 k hk).imp id (fun h=>by omega)⟩
    have HO6:Hid (OwnY w6 B v' (lastN s.data.toList P (kj+1))):=zh (by
     rw [ZgJ (by rw [<-HKJ.out,HNK.out];omega),<-HKJ.out,HPE.out,HY.out,HKJ.out];exact hO6)
    have HN6:=zh (HG.out.grown HPU.out HO6.out)
    have HB7:Hid (Below B w (w6.setCell ⟨t,4,none⟩ v')):=zh (HBW.out.trans (HN6.out.2.below (Nat.le_trans hb HBW.out.size) (fun x hx=>by
     rcases hx with e|e
     ·have:=HG.out.base;omega
     ·exact(HG.out.last.lt x e).1)))
    have HI7:Hid (IsTu B (w6.setCell ⟨t,4,none⟩ v') t s sp held (toI (P.drop k)) (lastN s.data.toList P (k+(j+1))) (orgN P (k+(j+1))) st (.slice (some ⟨bo,off,none⟩) n cap) v'):=zh (by
     rw [show k+(j+1)=kj+1 by have:=HKJ.out;omega];exact HN6.out.1)
    obtain⟨va,vc,hve⟩:=hO6.slice;obtain⟨vl,hvl⟩:∃vl,(lastN s.data.toList P kj++[y]).length=vl:=⟨_,rfl⟩
    rw [hvl] at hve;subst hve;clear hvl;refine Zao (rs:=[13]) (by kernel_rfl) (by simp) ?_;intro i hi;simp only [List.mem_cons,List.not_mem_nil,or_false] at hi;subst hi;refine ZaJ rfl ?_;intro KC hKC
    go_simp
    refine hKC _ _ ⟨fun _=>hS6,?_⟩
    try simp only [Act.put,List.setIfInBounds_toArray,List.set_cons_zero,List.set_cons_succ]
    clear hKC;refine Zao (rs:=[14]) (by kernel_rfl) (by simp) ?_;intro i hi;simp only [List.mem_cons,List.not_mem_nil,or_false] at hi;subst hi;refine ZaJ rfl ?_;intro KC hKC
    go_simp
    refine hKC _ _ ⟨fun _=>hS6,?_⟩
    try simp only [Act.put,List.setIfInBounds_toArray,List.set_cons_zero,List.set_cons_succ]
    clear hKC;refine Zao (rs:=[15]) (by kernel_rfl) (by simp) ?_;intro i hi;simp only [List.mem_cons,List.not_mem_nil,or_false] at hi;subst hi;refine ZaJ rfl ?_;intro KC hKC
    go_simp
    refine hKC _ _ ⟨fun h=>absurd rfl h,?_⟩;refine Zdf (by kernel_rfl) ?_ _;clear f4 g4 hSS hSX kt hz;go_wp2_with fail;go_roundw
    case rel=>exact⟨j+1,_,by go_num,by omega,HI7.out,HB7.out⟩
    case measure=>simp [intOf];omega
  ·have hji:¬(j:Int)<(g:Int):=by omega
   have hje:j=g:=by omega
   subst hje;have hsl3:=fun W=>ZtZ bo off n cap j hgn hc1 hc2 W
   obtain⟨off2,ho2⟩:∃off2,(if cap=j then off else off+j)=off2:=⟨_,rfl⟩
   have hoff2:j<n->off2=off+j:=fun h=>by rw [<-ho2,if_neg (by omega)]
   rw [ho2] at hsl3;clear ho2
   have HR:Hid (TakeP B w (wr.setCell ⟨t,3,none⟩ (.slice (some ⟨bo,off2,none⟩) (n-j) (cap-j))) t s sp held st P k j (.returned (.int .i64 (j:Int)))):=zh (by
    refine⟨rfl,bo,off2,n-j,cap-j,v1,HI.out.setRow (zs':=toI (P.drop (k+j))) ?_ (fun e=>HI.out.oap (by simpa [Value.ownBlock] using e)) (fun x hx e=>(HI.out.lap x hx).2 (by simpa [Value.ownBlock] using e)) (fun x hx=>HI.out.olt x (by simpa [Value.ownBlock] using hx)) (Or.inr ⟨bo,off2,n-j,cap-j,rfl,by omega,by omega⟩),⟨by rw [HNK.out];omega,by omega,by omega⟩,HB.out.setCell (p:=⟨t,3,none⟩) HI.out.base _⟩;have hl:(toI (P.drop (k+j))).length=n-j:=by rw [toI_length,List.length_drop,HNK.out];omega
    refine⟨_,cap-j,by rw [hl],fun i x hx=>⟨bo,off2,rfl,?_⟩⟩;have hi:i<n-j:=by rw [<-hl];exact(List.getElem?_eq_some_iff.1 hx).1
    rw [hoff2 (by omega),Nat.add_assoc,HCELL.out wr (j+i) (by omega) HI.out.row];have e:(toI (P.drop (k+j))).getD i 0=x:=by rw [List.getD_eq_getElem?_getD,hx];rfl
    rw [<-e,toI_getD,ZcK,Nat.add_assoc])
   clear hoff2;go_wp2_with fail;go_ret;exact HR.out
end
end
section
open Go.RowKit BwtM SrtM PkM
theorem ZsP {w:World} {B:Nat} {v:Value} {zs:List Int} (h:OwnI w B v zs) (hz:0<zs.length):∃bo cap,v=.slice (some ⟨bo,0,none⟩) zs.length cap/\zs.length<=cap/\cap<=9223372036854775807:=by
 have hl:=h.1;rcases h.2 with⟨rfl,h0⟩|⟨g,cap,cur,rfl,hB,hg,hnc,hcm,hcs,ht⟩
 ·rw [h0] at hz;omega
 ·exact⟨g,cap,rfl,hnc,by unfold maxLen at hcm;omega⟩
section
variable {B t n R g : Nat} {s : ByteArray} {P : List Nat}
end
end
section
open Go.RowKit BwtM SrtM PkM
def tuCells (s:ByteArray) (sp:Value) (held:Nat) (ov:Value):List Value:=[.string s,sp,.int .i64 (held:Int),ov,.slice none 0 0,.int .i64 0,.int .i64 0]
theorem ZtH (w:World) (s:ByteArray) (sp:Value) (held:Nat) (ov:Value):TuObj (w.alloc (.cells #[.string s,sp,.int .i64 (held:Int),ov,.slice none 0 0,.int .i64 0,.int .i64 0] 210)) w.heap.size s sp held ov (.slice none 0 0) 0 0:=by
 refine⟨fun k=>(tuCells s sp held ov).getD k undef,?_,⟨rfl,rfl,rfl,rfl,rfl,rfl,rfl⟩⟩;unfold ObjF;rw [heap_alloc_new];rfl
end
end Go.Proofs.YtnachbjhhpnadaaGreatDoor

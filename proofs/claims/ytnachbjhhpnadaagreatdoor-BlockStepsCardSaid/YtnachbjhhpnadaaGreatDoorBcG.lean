import Derived.Test.YtnachbjhhpnadaaGreatDoorBcA
import Derived.Test.YtnachbjhhpnadaaGreatDoorBcC
import Derived.Test.YtnachbjhhpnadaaGreatDoorBcD
import Derived.Test.YtnachbjhhpnadaaGreatDoorBcF
import Derived.Lib.SliceRun
import Derived.Deep.LoopGhost
set_option linter.unusedVariables false
set_option linter.unusedSimpArgs false
set_option maxHeartbeats 8000000
set_option maxRecDepth 100000
namespace Go.Proofs.YtnachbjhhpnadaaGreatDoor
section
open Go.RowKit SymM HufM
theorem ArrD.ints {t:TypeId} {w:World} {g N:Nat} {d:Row} (h:ArrD t w g N d) {n:Nat} (hn:n<=N) (cap:Nat):IsInts w (.slice (some ⟨g,0,none⟩) n cap) ((List.range n).map d):=by
 refine⟨some ⟨g,0,none⟩,cap,by simp,fun i x hx=>⟨g,0,rfl,?_⟩⟩;have hi:=(List.getElem?_eq_some_iff.1 hx).1;simp at hi;rw [List.getElem?_map,List.getElem?_range hi] at hx;simp only [Option.map_some,Option.some.injEq] at hx;rw [Nat.zero_add,<-hx];exact(h.cell (show i<N by omega)).1
theorem Zp4 (W:World) (b n:Nat) (hn:n<=515):(Instr.sliceAt 340 (.pointer (some ⟨b,0,none⟩)) none (some (.int .i64 (n:Int))) none).run Tryz.prog W=.ok (.slice (some ⟨b,0,none⟩) n 515) W:=by
 have e:Tryz.prog.arrayLen 340=515:=by kernel_rfl
 have hs:(sizeOf (Tryz.prog.elem 340)).run Tryz.prog W=.ok 1 W:=by kernel_rfl
 rw [run_sliceAt_array_h W _ ⟨b,0,none⟩ (by kernel_rfl) .i64 (n:Int) (by omega) (by rw [e];omega),hs];simp [Result.andThen,slicedAt,e,Addr.add]
theorem Zme (b off m c:Nat) (zs:List Int) (w:World) (hv:IsInts w (.slice (some ⟨b,off,none⟩) m c) zs) (hz:zs.length<=1000000) :
  Calls Tryz.prog 212 #[.slice (some ⟨b,off,none⟩) m c] w fun e w'=>∃r,e=.returned r/\IsInts w' r zs/\Below w.heap.size w w'/\(∀k,r.ownBlock=some k->w.heap.size<=k):=by
 have HV:=zh hv;have hs1:(w.alloc (.cells #[] 3)).heap.size=w.heap.size+1:=by simp
 have HO:Hid (OwnI (w.alloc (.cells #[] 3)) w.heap.size (.slice (some ⟨w.heap.size,0,none⟩) 0 0) []):=zh ⟨rfl,Or.inr ⟨w.heap.size,0,#[],rfl,Nat.le_refl _,heap_alloc_new w _,Nat.le_refl _,by simp [maxLen],rfl,rfl⟩⟩;have HB:Hid (Below w.heap.size w (w.alloc (.cells #[] 3))):=zh ((Below.refl _ w).alloc (Nat.le_refl _) _);have HV2:Hid (IsInts (w.alloc (.cells #[] 3)) (.slice (some ⟨b,off,none⟩) m c) zs):=zh (hv.below HB.out);clear hv;go_enter Tryz.func212,Tryz.ntmps212;have hnil:∀W,(binOp .eql 79 (.slice (some ⟨b,off,none⟩) m c) (.slice none 0 0)).run Tryz.prog W=.ok (.bool false) W:=fun W=>Lib.run_eql_slice_nil W _ _ _ _ _ _ _ Tryz.underlying79
 go_upto_region 3 with fail
 go_step
 go_wp2_with (refine Zg1 (w.alloc (.cells #[] 3)) rfl _ _ rfl w.heap.size (.slice (some ⟨w.heap.size,0,none⟩) 0 0) [] b off m c zs HO.out HV2.out rfl rfl (by simp;omega) (by rw [hs1];omega) ?_);intro v' w' hown hb;have HOWN:=zh hown;have HB2:=zh hb;clear hown hb;go_wp2_with fail;go_ret;exact⟨v',rfl,HOWN.out.ints,HB.out.trans HB2.out,fun k hk=>(HOWN.out.lt k hk).1⟩
theorem Zgv (v:Value) (zs:List Int) (w:World) (hv:IsInts w v zs) (h2:2<=zs.length) (hz:zs.length<=258) (hpos:∀z∈zs,0<=z/\z<=1099511627776) :
  Calls Tryz.prog 275 #[v] w fun e w'=>∃(r:Value) (ds:List Int),e=.returned r/\IsInts w' r ds/\DepP zs ds/\Below w.heap.size w w'/\(∀k,r.ownBlock=some k->w.heap.size<=k):=by
 have HV0:=zh hv;have HPOS:=zh hpos;obtain⟨a,cap,rfl,_⟩:=hv;obtain⟨n,hn⟩:∃n,zs.length=n:=⟨_,rfl⟩
 have HN:=zh hn;rw [hn] at h2 hz ⊢;clear hn hpos;go_enter Tryz.func275,Tryz.ntmps275;go_wp2_with fail;refine(Zp3 (.slice a n cap) zs w (by rw [<-HN.out];exact HV0.out) (by rw [HN.out];exact h2) (by rw [HN.out];exact hz) HPOS.out).mono ?_;rintro e w1 ⟨ab,rfl,hJ,hB⟩;have HJ:=zh hJ;have HB:=zh hB;have hi:=ZnI ab;have hall:=Zgu 515 ab;obtain⟨RA,hRA⟩:∃RA,rowA 515 ab=RA:=⟨_,rfl⟩
 rw [hRA] at hi hall;have HRA:=zh hRA;rw [hRA];clear hJ hB;have hzs:Tryz.zeroCells340.size=RA.size:=by rw [Zg5,ZbV,<-hRA,ZbV]
 have h0:(w1.alloc (.cells Tryz.zeroCells340 340)).heap[w1.heap.size]?=some (.cells Tryz.zeroCells340 340 (0,0)):=heap_alloc_new w1 _;go_wp2_with (refine wpList_store_row rfl 340 _ _ rfl w1.heap.size RA rfl rfl 340 Tryz.zeroCells340 h0 hi hzs hall ?_)
 have hA0:ArrD 340 ((w1.alloc (.cells Tryz.zeroCells340 340)).setRow w1.heap.size RA) w1.heap.size 515 ab:=by
  have:=setRow_heap _ _ _ RA _ _ h0;rw [<-hRA] at this ⊢;exact this
 have hbs:Below w1.heap.size w1 ((w1.alloc (.cells Tryz.zeroCells340 340)).setRow w1.heap.size RA):=Zae ((Below.refl _ w1).alloc (Nat.le_refl _) _) (Nat.le_refl _) RA;have hsz:((w1.alloc (.cells Tryz.zeroCells340 340)).setRow w1.heap.size RA).heap.size=w1.heap.size+1:=by simp [World.setRow]
 generalize (w1.alloc (.cells Tryz.zeroCells340 340)).setRow w1.heap.size RA=w2 at *;obtain⟨B3,hB3⟩:∃B3,w1.heap.size=B3:=⟨_,rfl⟩
 rw [hB3] at hA0 hbs hsz
 have hD0:ArrD 340 (w2.alloc (.cells Tryz.zeroCells340 340)) (B3+1) 515 (fun _=>0):=by
  have:=heap_alloc_new w2 (.cells Tryz.zeroCells340 340);rw [hsz,Zg5] at this;rw [Zg5];exact this
 have hA1:ArrD 340 (w2.alloc (.cells Tryz.zeroCells340 340)) B3 515 ab:=(Below.heap_alloc w2 _ _ (by rw [hsz];omega)).trans hA0;have hb2:Below w.heap.size w (w2.alloc (.cells Tryz.zeroCells340 340)):=HB.out.trans ((hbs.alloc (by rw [hsz];omega) _).mono (by rw [<-hB3];exact HB.out.size));have hlow:Hid (w.heap.size<=B3):=zh (by rw [<-hB3];exact HB.out.size);obtain⟨d,hdep,hd0,hdb,hup⟩:=HJ.out.dep;rw [HN.out] at hd0 hdb hup hdep;have HA1:=zh hA1;have HD0:=zh hD0;have HB2:=zh hb2;have HDEP:=zh hdep;have HUP:=zh hup;have HDB:=zh hdb;have HD00:=zh hd0;rw [hB3];have hsz':=hsz;clear hA0 hbs hA1 hD0 hb2 hdep hup hdb hd0 h0 hzs hi hall hRA hB3;go_wp2_with fail;generalize (w2.alloc (.cells Tryz.zeroCells340 340))=w3 at *;clear hsz hsz'
 go_loopw [6] (fun vt wr=>∃(t:Nat) (x:Int) (dd:Row),vt=.int .i64 x/\x=(t:Int)-1/\t<=2*n-2/\ArrD 340 wr (B3+1) 515 dd/\ArrD 340 wr B3 515 ab/\(∀k,t<=k->k<=2*n-2->dd k=(d k:Int))/\Below w.heap.size w wr) (fun vt _=>(intOf vt+1).toNat)
 case atStart=>exact⟨2*n-2,2*(n:Int)-2-1,_,rfl,by omega,Nat.le_refl _,HD0.out,HA1.out,fun k h3 h4=>by
  obtain rfl:k=2*n-2:=by omega
  rw [HD00.out];rfl,HB2.out⟩
 case round=>
  obtain⟨t,x,dd,rfl,hx,ht,hD,hA,hdd,hBw⟩:=hrel;have HD:=zh hD;have HA:=zh hA;have HDD:=zh hdd;have HBW:=zh hBw;clear hD hA hdd hBw;by_cases ht0:1<=t
  ·obtain⟨s,hs⟩:∃s,t=s+1:=⟨t-1,by omega⟩
   obtain rfl:x=(s:Int):=by omega
   have HS:=zh hs;have hs515:s<515:=by omega
   have hs5:(s:Int)<515:=by omega
   obtain⟨u,hu1,hu2,hu3,hu4⟩:=HUP.out s (by omega);have hu515:u<515:=by omega
   have hu5:(u:Int)<515:=by omega
   obtain⟨c1,f1⟩:=HA.out.cell hs515;obtain⟨c2,f2⟩:=HD.out.cell hu515;obtain⟨c3,f3⟩:=HD.out.cell hs515;rw [hu1] at c1;rw [HDD.out u (by omega) hu3] at c2;have hdu:d u<=600:=by have:=HDB.out u hu3;omega
   obtain⟨q,hq⟩:∃q,d u=q:=⟨_,rfl⟩
   rw [hq] at c2 hdu;have HQ:Hid (d s=q+1):=zh (by rw [hu4,hq]);clear hs hu1 hu4 hq hx;go_wp2_with fail;go_roundw
   case rel=>exact⟨s,(s:Int)-1,_,rfl,rfl,by have:=HS.out;omega,HD.out.set hs515 ((q:Int)+1),HA.out.other ((Zaa (Touch.refl _ wr)):Touch (·=B3+1) wr _) (fun h=>by have h':B3=B3+1:=h;omega),fun k h3 h4=>by
    by_cases e:k=s
    ·subst e;simp only [if_true];rw [HQ.out];rfl
    ·simp only [e,if_false];exact HDD.out k (by have:=HS.out;omega) h4,HBW.out.setCell (p:=⟨B3+1,s,none⟩) (by show w.heap.size<=B3+1;have:=hlow.out;omega) _⟩
   case measure=>simp [intOf]
  ·obtain rfl:t=0:=by omega
   have hx0:¬(0:Int)<=x:=by omega
   have hI:=HD.out.ints (show n<=515 by omega) 515
   have HI:Hid (IsInts wr (.slice (some ⟨B3+1,0,none⟩) n 515) ((List.range n).map fun i=>(d i:Int))):=zh (by
    have e:(List.range n).map dd=(List.range n).map fun i=>(d i:Int):=List.map_congr_left (fun i hi=>HDD.out i (Nat.zero_le _) (by have:=List.mem_range.1 hi;omega))
    rw [<-e];exact hI)
   clear hI;have hsl:=fun W=>Zp4 W (B3+1) n (by omega)
   go_wp2_with fail;refine(Zme (B3+1) 0 n 515 _ wr HI.out (by simp;omega)).mono ?_;rintro e w4 ⟨r,rfl,hr,hb,ho⟩;have HR:=zh hr;have HBB:=zh hb;have HOO:Hid (∀k,r.ownBlock=some k->w.heap.size<=k):=zh (fun k hk=>Nat.le_trans HBW.out.size (ho k hk));clear hr hb ho;go_wp2_with fail;go_ret;exact⟨_,_,rfl,HR.out,HDEP.out,HBW.out.trans (HBB.out.mono HBW.out.size),HOO.out⟩
end
section
open Go.RowKit HufM
def ups (zs:List Int):List Int:=zs.map fun x=>if x<1 then 1 else x
def OfOk (zs:List Int):Prop:=3<=zs.length/\zs.length<=258/\Within 0 1099511627776 zs
def OfP (zs rs:List Int) (err:Nat):Prop:=(¬OfOk zs/\rs=[]/\err=1)\/(OfOk zs/\(∃n,n<=40/\OfR n (ups zs) rs)/\err=0)
theorem ZrF {zs:List Int} (h:Within 0 1099511627776 zs):Bd 40 (ups zs):=by
 intro y hy;obtain⟨x,hx,rfl⟩:=List.mem_map.1 hy;have:=h x hx;have e:((2^40+1:Nat):Int)=1099511627777:=by decide
 rw [e];split<;>omega
theorem ZbO (zs:List Int):(ups zs).length=zs.length:=by simp [ups]
theorem ZdZ {zs:List Int} (h:∀z∈zs,0<=z/\z<=1099511627777):∀z∈hvs zs,0<=z/\z<=1099511627776:=by
 intro y hy;obtain⟨x,hx,rfl⟩:=List.mem_map.1 hy;have:=h x hx;unfold hv;rw [if_neg (by omega)];omega
theorem Ztl (v:Value) (zs:List Int) (w:World) (hv:IsInts w v zs) (hz:zs.length<=9223372036854775807) :
  Calls Tryz.prog 259 #[v] w fun e w'=>∃(r:Value) (rs:List Int) (err:Nat),e=.returned (.tuple #[r,.int .i64 (err:Int)])/\IsInts w' r rs/\OfP zs rs err/\Below w.heap.size w w'/\(∀k,r.ownBlock=some k->w.heap.size<=k):=by
 have HV:=zh hv;have HNIL:Hid (IsInts w (.slice none 0 0) []):=zh (IsInts.nil w);obtain⟨ad,cap,rfl,_⟩:=hv;by_cases h1:zs.length<3
 ·have h1b:(zs.length:Int)<3:=by omega
  go_enter Tryz.func259,Tryz.ntmps259;go_wp2_with fail;go_ret2;exact⟨_,[],1,rfl,HNIL.out,Or.inl ⟨fun h=>by have:=h.1;omega,rfl,rfl⟩,Below.refl _ _,fun k hk=>absurd hk (by simp [Value.ownBlock])⟩
 ·have h1b:decide ((zs.length:Int)<3)=false:=by simp only [decide_eq_false_iff_not];omega
  by_cases h2:258<zs.length
  ·have h2b:258<(zs.length:Int):=by omega
   go_enter Tryz.func259,Tryz.ntmps259;go_wp2_with fail;go_ret2;exact⟨_,[],1,rfl,HNIL.out,Or.inl ⟨fun h=>by have:=h.2.1;omega,rfl,rfl⟩,Below.refl _ _,fun k hk=>absurd hk (by simp [Value.ownBlock])⟩
  ·have h2b:decide (258<(zs.length:Int))=false:=by simp only [decide_eq_false_iff_not];omega
   by_cases hw:Within 0 1099511627776 zs
   ·have HW:=zh hw;have HA:=zh (Zbm _ zs 0 1099511627776 true w HV.out ⟨fun _=>hw,fun _=>rfl⟩ hz);obtain⟨n0,rs,hn0,hof⟩:=OfR.exists 40 (ups zs) (ZrF hw) (by rw [ZbO];omega) (by rw [ZbO];omega);have HOF:=zh hof;clear hw hof;obtain⟨N,hN⟩:∃N,zs.length=N:=⟨_,rfl⟩
    have HN:=zh hN;rw [hN] at h1 h1b h2 h2b hz HV HA ⊢;have hmk:=Za2 N (by omega) w;have HR0:=zh (RowI.made w N);have hb0:Hid (Below w.heap.size w (w.alloc (.cells (madeCells #[Value.int .i64 0] N) 3))):=zh ((Below.refl _ w).alloc (Nat.le_refl _) _);obtain⟨g,hg⟩:∃g,w.heap.size=g:=⟨_,rfl⟩
    have HG:=zh hg;rw [hg] at hmk HR0;clear hN hg;go_enter Tryz.func259,Tryz.ntmps259;go_wp2_with fail;refine HA.out.mono ?_;rintro e w1 ⟨rfl,rfl⟩;go_wp2_with fail;generalize w1.alloc (.cells (madeCells #[Value.int .i64 0] N) 3)=w2 at *;go_wp2_with fail
    go_loopw [26] (fun i wr=>∃k:Nat,k<=N/\i=.int .i64 k/\RowI wr g (ups (zs.take k)++List.replicate (N-k) 0)/\Below w1.heap.size w1 wr) (fun i _=>N-(intOf i).toNat)
    case atStart=>exact⟨0,Nat.zero_le _,rfl,by simpa [ups] using HR0.out,hb0.out⟩
    case round=>
     obtain⟨k,hk,rfl,hR,hB⟩:=hrel;have HR:=zh hR;have HB:=zh hB;have hlen:(ups (zs.take k)).length=k:=by rw [ZbO,List.length_take,HN.out];omega
     by_cases hlk:k<N
     ·have hki:(k:Int)<(N:Int):=by omega
      obtain⟨b1,o1,k1,he1,c1⟩:=HV.out.cell (show k<zs.length by rw [HN.out];exact hlk);rw [HN.out] at he1;simp only [Value.slice.injEq] at he1;obtain⟨rfl,_,rfl⟩:=he1;have c1:=(HB.out.cell (ZaG c1)).trans c1;obtain⟨x,hx⟩:∃x,zs.getD k 0=x:=⟨_,rfl⟩
      rw [hx] at c1;obtain⟨c2,f2,hset⟩:=RowI.cell hR (i:=k) (by rw [List.length_append,hlen,List.length_replicate];omega);generalize (ups (zs.take k)++List.replicate (N-k) 0).getD k 0=y at c2
      have hnext:Hid (RowI (wr.setCell ⟨g,k,none⟩ (.int .i64 (if x<1 then 1 else x))) g (ups (zs.take (k+1))++List.replicate (N-(k+1)) 0)):=zh (by
       have h1:=hset (if x<1 then 1 else x);have h2:=Zk2 (ups (zs.take k)) (N-(k+1)) (if x<1 then 1 else x);rw [hlen,show N-(k+1)+1=N-k by omega] at h2;rw [h2] at h1
       have h3:ups (zs.take (k+1))=ups (zs.take k)++[if x<1 then 1 else x]:=by
        unfold ups;rw [List.take_add_one,List.map_append,List.getElem?_eq_getElem (show k<zs.length by rw [HN.out];exact hlk)];congr 1;have hx2:zs[k]'(by rw [HN.out];exact hlk)=x:=by rw [<-hx,List.getD_eq_getElem?_getD,List.getElem?_eq_getElem (show k<zs.length by rw [HN.out];exact hlk)];rfl
        simp only [Option.toList_some,List.map_cons,List.map_nil,hx2]
       rw [h3];exact h1)
      have hbn:Hid (Below w1.heap.size w1 (wr.setCell ⟨g,k,none⟩ (.int .i64 (if x<1 then 1 else x)))):=zh (HB.out.setCell (p:=⟨g,k,none⟩) (by rw [HG.out];exact Nat.le_refl g) _);clear hR hB hset hx hlen;go_wp2_with fail;go_roundw
      case rel=>exact⟨k+1,by omega,by go_num,hnext.out,hbn.out⟩
      case measure=>simp [intOf];omega
     ·have hki:¬(k:Int)<(N:Int):=by omega
      obtain rfl:N=k:=by omega
      have h:=HR.out.ints N N (by rw [List.length_append,hlen];simp)
      have e:ups (zs.take N)++List.replicate (N-N) 0=ups zs:=by
       rw [Nat.sub_self,List.replicate_zero,List.append_nil,List.take_of_length_le (Nat.le_of_eq HN.out)]
      rw [e] at h;have HI:=zh h;have hul:Hid ((ups zs).length=N):=zh (by rw [ZbO,HN.out]);clear h e hR hB hlen;go_wp2_with fail
      refine(Zgv _ (ups zs) wr HI.out (by rw [hul.out];omega) (by rw [hul.out];omega) (fun z hz=>by
       obtain⟨x,hx,rfl⟩:=List.mem_map.1 hz;have:=HW.out x hx;split<;>omega)).mono ?_
      rintro e w3 ⟨r,ds,rfl,hi,hd,hb,ho⟩;have HO3:Hid (∀k,r.ownBlock=some k->w1.heap.size<=k):=zh (fun k hk=>Nat.le_trans HB.out.size (ho k hk));have HI3:=zh hi;have HD3:=zh hd;have HB3:Hid (Below w1.heap.size w1 w3):=zh (HB.out.trans (hb.mono HB.out.size));have HU3:Hid (IsInts w3 (.slice (some ⟨g,0,none⟩) N N) (ups zs)):=zh (HI.out.below hb);clear hi hd hb ho;go_wp2_with fail
      go_loopg [5,8] n0 (fun gk vw vl wr=>∃(ws ds:List Int),IsInts wr vw ws/\IsInts wr vl ds/\DepP ws ds/\ws.length=N/\(∀z∈ws,0<=z/\z<=1099511627776)/\OfR gk ws rs/\Below w1.heap.size w1 wr/\(∀k,vl.ownBlock=some k->w1.heap.size<=k))
      case atStart=>exact⟨ups zs,ds,HU3.out,HI3.out,HD3.out,hul.out,fun z hz=>by
       obtain⟨x,hx,rfl⟩:=List.mem_map.1 hz;have:=HW.out x hx;split<;>omega,HOF.out,HB3.out,HO3.out⟩
      case round=>
       obtain⟨ws,ds2,hws,hds,hdp,hwl,hwb,hor,hB4,hO4⟩:=hrel;have HO4:=zh hO4;clear hO4;have HWS:=zh hws;have HDS:=zh hds;have HDP:=zh hdp;have HWL:=zh hwl;have HWB:=zh hwb;have HOR:=zh hor;have HB4:=zh hB4;have hdl:ds2.length<=9223372036854775807:=by have:=hdp.len;omega
       have HLG:=zh (Zjt _ ds2 wr hds hdl);obtain⟨a1,cap1,rfl,_⟩:=hws;obtain⟨a2,cap2,rfl,_⟩:=hds;clear hdp hwl hwb hor hB4;by_cases hgt:20<lg ds2
       ·have hno:Hid (¬∀y∈ds2,y<=20):=zh (fun h=>by have:=(Zte (zs:=ds2) (b:=20) (by decide)).2 h;omega)
        obtain⟨k,hk,hor2⟩:∃k,gk=k+1/\OfR k (hvs ws) rs:=by
         cases HOR.out with
         | now _ _ k1 k2=>exact absurd (by rw [HDP.out.same k1];exact k2) hno.out
         | later n _ ys _ k1 k2 k3=>exact⟨n,rfl,k3⟩
        have HOR2:=zh hor2;have HK:=zh hk;obtain⟨G,hG⟩:∃G,lg ds2=G:=⟨_,rfl⟩
        rw [hG] at hgt HLG;clear hor2 hk hG;go_wp2_with fail;refine HLG.out.mono ?_;rintro e w4 ⟨rfl,rfl⟩;go_wp2_with fail;refine(Zl8 _ ws w4 HWS.out (by rw [HWL.out];omega) (fun z hz=>by have:=HWB.out z hz;omega)).mono ?_;rintro e w5 ⟨r5,rfl,hi5,hb5⟩;have HI5:=zh hi5;have HB5:=zh hb5;clear hi5 hb5;go_wp2_with fail;refine(Zgv _ (hvs ws) w5 HI5.out (by rw [Zcc,HWL.out];omega) (by rw [Zcc,HWL.out];omega) (ZdZ (fun z hz=>by have:=HWB.out z hz;omega))).mono ?_;rintro e w6 ⟨r6,ds6,rfl,hi6,hd6,hb6,ho6⟩;have HO6:Hid (∀k,r6.ownBlock=some k->w1.heap.size<=k):=zh (fun k hk=>Nat.le_trans (Nat.le_trans HB4.out.size HB5.out.size) (ho6 k hk));have HI6:=zh hi6;have HD6:=zh hd6;have HB6:=zh hb6;clear hi6 hd6 hb6 ho6;go_wp2_with fail
        go_roundg k
        case rel=>exact⟨hvs ws,ds6,HI5.out.below HB6.out,HI6.out,HD6.out,by rw [Zcc,HWL.out],ZdZ (fun z hz=>by have:=HWB.out z hz;omega),HOR2.out,HB4.out.trans ((HB5.out.mono HB4.out.size).trans (HB6.out.mono (Nat.le_trans HB4.out.size HB5.out.size))),HO6.out⟩
        case measure=>have:=HK.out;omega
       ·have hrs:Hid (rs=ds2):=zh (by
         have h20:∀y∈ds2,y<=20:=(Zte (zs:=ds2) (b:=20) (by decide)).1 (by omega);cases HOR.out with
         | now _ _ k1 k2=>exact k1.same HDP.out
         | later n _ ys _ k1 k2 k3=>exact absurd (by rw [<-HDP.out.same k1];exact h20) k2)
        obtain⟨G,hG⟩:∃G,lg ds2=G:=⟨_,rfl⟩
        rw [hG] at hgt HLG;clear hG;go_wp2_with fail;refine HLG.out.mono ?_;rintro e w4 ⟨rfl,rfl⟩;go_wp2_with fail;go_ret2;exact⟨_,ds2,0,rfl,HDS.out,Or.inr ⟨⟨by have:=HN.out;omega,by have:=HN.out;omega,HW.out⟩,⟨n0,hn0,by rw [<-hrs.out];exact HOF.out⟩,rfl⟩,HB4.out,HO4.out⟩
   ·have HW:=zh hw;have HA:=zh (Zbm _ zs 0 1099511627776 false w HV.out ⟨fun h=>(by cases h),fun h=>absurd h hw⟩ hz);clear hw;go_enter Tryz.func259,Tryz.ntmps259;go_wp2_with fail;refine HA.out.mono ?_;rintro e w1 ⟨rfl,rfl⟩;go_wp2_with fail;go_ret2;exact⟨_,[],1,rfl,HNIL.out,Or.inl ⟨fun h=>HW.out h.2.2,rfl,rfl⟩,Below.refl _ _,fun k hk=>absurd hk (by simp [Value.ownBlock])⟩
end
section
namespace TabM
open Go.RowKit FreqM HufM
def nTab (n:Int):Nat:=if n<200 then 2 else if n<600 then 3 else if n<1200 then 4 else if n<2400 then 5 else 6
theorem Zc9 (n:Int):2<=nTab n/\nTab n<=6:=by unfold nTab;split<;>(try split)<;>(try split)<;>(try split)<;>omega
def nB (n:Int) (k:Nat):Nat:=2+(if 0<k/\200<=n then 1 else 0)+(if 1<k/\600<=n then 1 else 0)+(if 2<k/\1200<=n then 1 else 0)+(if 3<k/\2400<=n then 1 else 0)
theorem Zsb (n:Int):nB n 0=2:=by simp [nB]
theorem Ztm (n:Int):nB n 4=nTab n:=by
 unfold nB nTab;simp only [show(0:Nat)<4 by omega,show(1:Nat)<4 by omega,show(2:Nat)<4 by omega,show(3:Nat)<4 by omega,true_and];split<;>split<;>split<;>split<;>(try split)<;>(try split)<;>(try split)<;>(try split)<;>omega
def bnd (k:Nat):Int:=if k=0 then 200 else if k=1 then 600 else if k=2 then 1200 else 2400
theorem Zsc (n:Int) (k:Nat) (hk:k<4):nB n (k+1)=nB n k+if bnd k<=n then 1 else 0:=by
 rcases(by omega:k=0\/k=1\/k=2\/k=3) with rfl|rfl|rfl|rfl<;>simp [nB,bnd]<;>omega
theorem ZtQ (n:Int) (k:Nat):nB n k<=6:=by
 unfold nB;split<;>split<;>split<;>split<;>omega
def sm (cs:List Int) (k:Nat):Int:=sumF (cs.take k)
theorem ZjD (cs:List Int):sm cs 0=0:=rfl
theorem ZjE (cs:List Int) {k:Nat} (hk:k<cs.length):sm cs (k+1)=sm cs k+cs.getD k 0:=by
 unfold sm;rw [List.take_succ_eq_append_getElem hk,Zg4,List.getD_eq_getElem?_getD,List.getElem?_eq_getElem hk];simp [sumF]
theorem Zsd {cs:List Int} (h:∀x∈cs,0<=x) (k:Nat):0<=sm cs k:=Zjw _ (fun x hx=>h x (List.mem_of_mem_take hx))
theorem Ztn {cs:List Int} (h:Nums cs):∀{k:Nat},k<=cs.length->sm cs k<=1099511627776*(k:Int)
 | 0,_=>by rw [ZjD];omega
 | k+1,hk=>by
  have h1:=Ztn h (k:=k) (by omega);have h2:=(h _ (FreqM.getD_mem cs k (by omega))).2;rw [ZjE cs (by omega)];omega
def tb (cs:List Int) (n:Int) (k:Nat):Nat:=(min (sm cs k) (n-1)*(nTab n:Int) / n).toNat
theorem Zse {cs:List Int} {n:Int} (h:∀x∈cs,0<=x) (hn:1<=n) (k:Nat):min (sm cs k) (n-1)*(nTab n:Int) / n=(tb cs n k:Int)/\tb cs n k<nTab n:=by
 have h0:=Zsd h k;have h1:=Zc9 n;have h2:0<=min (sm cs k) (n-1):=by omega
 have h3:min (sm cs k) (n-1)<=n-1:=by omega
 have h4:0<=min (sm cs k) (n-1)*(nTab n:Int):=Int.mul_nonneg h2 (by omega);have h5:0<=min (sm cs k) (n-1)*(nTab n:Int) / n:=Int.ediv_nonneg h4 (by omega)
 have h6:min (sm cs k) (n-1)*(nTab n:Int) / n<(nTab n:Int):=by
  rw [Int.ediv_lt_iff_lt_mul (by omega)];have:min (sm cs k) (n-1)*(nTab n:Int)<=(n-1)*(nTab n:Int):=Int.mul_le_mul_of_nonneg_right h3 (by omega);have e:(n-1)*(nTab n:Int)=(nTab n:Int)*n-(nTab n:Int):=by rw [Int.sub_mul,Int.mul_comm];omega
  omega
 unfold tb;omega
def fRow (cs:List Int) (n:Int) (k p:Nat):List Int:=(List.range cs.length).map fun j=>if j<k/\tb cs n j=p then 0 else 15
def firstK (cs:List Int) (n:Int) (k:Nat):List (List Int):=(List.range (nTab n)).map (fRow cs n k)
def firstM (cs:List Int) (n:Int):List (List Int):=firstK cs n cs.length
theorem Zg6 (cs:List Int) (n:Int) (k p:Nat):(fRow cs n k p).length=cs.length:=by simp [fRow]
theorem Zbq (cs:List Int) (n:Int) (k:Nat):(firstK cs n k).length=nTab n:=by simp [firstK]
theorem ZnJ (cs:List Int) (n:Int) (p:Nat):fRow cs n 0 p=List.replicate cs.length 15:=by
 unfold fRow;apply List.ext_getElem
 ·simp
 ·intro i h1 h2;simp
theorem Zp5 (cs:List Int) (n:Int) (k:Nat) (hk:k<cs.length):fRow cs n (k+1) (tb cs n k)=(fRow cs n k (tb cs n k)).set k 0:=by
 unfold fRow;apply List.ext_getElem
 ·simp
 ·intro i h1 h2;rw [List.getElem_set];simp only [List.getElem_map,List.getElem_range];by_cases e:k=i
  ·subst e;simp
  ·rw [if_neg e];by_cases hi:i<k
   ·have h3:i<k+1:=by omega
    simp [hi,h3]
   ·have h3:¬i<k+1:=by omega
    simp [hi,h3]
theorem Zmf (cs:List Int) (n:Int) (k p:Nat) (hp:p≠tb cs n k):fRow cs n (k+1) p=fRow cs n k p:=by
 unfold fRow;apply List.map_congr_left;intro i hi;by_cases e:i=k
 ·subst e;have h1:¬(i<i+1/\tb cs n i=p):=fun h=>hp h.2.symm
  have h2:¬(i<i/\tb cs n i=p):=fun h=>by omega
  rw [if_neg h1,if_neg h2]
 ·have h3:(i<k+1/\tb cs n i=p)↔(i<k/\tb cs n i=p):=by omega
  simp only [h3]
theorem ZjF (cs:List Int) (n:Int) (k:Nat) (hk:k<cs.length) (ht:tb cs n k<nTab n):firstK cs n (k+1)=(firstK cs n k).set (tb cs n k) (((firstK cs n k).getD (tb cs n k) []).set k 0):=by
 apply List.ext_getElem
 ·simp [firstK]
 ·intro p h1 h2;rw [List.getElem_set]
  have hg:(firstK cs n k).getD (tb cs n k) []=fRow cs n k (tb cs n k):=by
   rw [List.getD_eq_getElem?_getD,List.getElem?_eq_getElem (by rw [Zbq];exact ht)];simp [firstK]
  by_cases e:tb cs n k=p
  ·rw [if_pos e,hg,<-Zp5 cs n k hk];subst e;simp [firstK]
  ·rw [if_neg e];simp only [firstK,List.getElem_map,List.getElem_range];exact Zmf cs n k p (fun h=>e h.symm)
theorem Zsf (cs:List Int) (n:Int) (k p:Nat):Within 0 20 (fRow cs n k p):=by
 intro z hz;unfold fRow at hz;obtain⟨i,_,rfl⟩:=List.mem_map.1 hz;split<;>omega
def rw_ (rows:List (List Int)) (p:Nat):List Int:=rows.getD p []
def pk (g:List Int) (rows:List (List Int)):Nat->Nat
 | 0=>0
 | k+1=>if costS g (rw_ rows k)<costS g (rw_ rows (pk g rows k)) then k else pk g rows k
def pickM (g:List Int) (rows:List (List Int)):Nat:=pk g rows rows.length
theorem Zp6 (g:List Int) (rows:List (List Int)):∀k,pk g rows k<=k-1
 | 0=>Nat.le_refl _
 | k+1=>by
  have:=Zp6 g rows k;rw [pk];split<;>omega
theorem Zlb (g:List Int) {rows:List (List Int)} (h:1<=rows.length):pickM g rows<rows.length:=by
 have:=Zp6 g rows rows.length;unfold pickM;omega
open Classical in
noncomputable def lensF (zs:List Int):List Int:=if h:∃rs,∃n,n<=40/\OfR n (ups zs) rs then h.choose else[]
theorem Zlc {zs rs:List Int} {n:Nat} (hn:n<=40) (h:OfR n (ups zs) rs):lensF zs=rs:=by
 have hx:∃rs,∃n,n<=40/\OfR n (ups zs) rs:=⟨rs,n,hn,h⟩
 unfold lensF;rw [dif_pos hx];obtain⟨m,_,hm⟩:=hx.choose_spec;exact(hm.same n rs h).1
theorem Zgw {zs:List Int} (h:OfOk zs):∃n,n<=40/\OfR n (ups zs) (lensF zs):=by
 obtain⟨n,rs,hn,ho⟩:=OfR.exists 40 (ups zs) (ZrF h.2.2) (by rw [ZbO];have:=h.1;omega) (by rw [ZbO];have:=h.2.1;omega);exact⟨n,hn,by rw [Zlc hn ho];exact ho⟩
theorem Zcg {zs:List Int} (h:OfOk zs):(lensF zs).length=zs.length/\Within 1 20 (lensF zs)/\shr (lensF zs)=1048576:=by
 obtain⟨n,hn,ho⟩:=Zgw h;have:=ho.whole (by rw [ZbO];have:=h.1;omega);rw [ZbO] at this;exact⟨this.1,this.2.1,this.2.2⟩
theorem OfP.fun {zs rs:List Int} {err:Nat} (hp:OfP zs rs err) (h:OfOk zs):rs=lensF zs/\err=0:=by
 rcases hp with⟨h1,_⟩|⟨_,⟨n,hn,ho⟩,e⟩
 ·exact absurd h h1
 ·exact⟨(Zlc hn ho).symm,e⟩
def took (zs:List Int) (rows:List (List Int)) (p:Nat):Nat->List Int
 | 0=>[]
 | q+1=>took zs rows p q++(if pickM (grp zs q) rows=p then grp zs q else[])
def picksM (zs:List Int) (rows:List (List Int)) (q:Nat):List Int:=(List.range q).map fun i=>(pickM (grp zs i) rows:Int)
theorem Zfe (zs:List Int) (rows:List (List Int)) (q:Nat):picksM zs rows (q+1)=picksM zs rows q++[(pickM (grp zs q) rows:Int)]:=by simp [picksM,List.range_succ]
theorem Zbr (zs:List Int) (rows:List (List Int)) (q:Nat):(picksM zs rows q).length=q:=by simp [picksM]
theorem Zg7 (zs:List Int) (rows:List (List Int)) (p:Nat):∀q,(took zs rows p q).length<=50*q
 | 0=>Nat.le_refl _
 | q+1=>by
  have h1:=Zg7 zs rows p q;have h2:=ZcB zs q;rw [took,List.length_append];split
  ·omega
  ·simp only [List.length_nil];omega
theorem ZcE (zs:List Int) (rows:List (List Int)) (p:Nat):∀q,(took zs rows p q).length<=zs.length-(zs.length-50*q)
 | 0=>Nat.zero_le _
 | q+1=>by
  have h1:=ZcE zs rows p q;have h2:=ZcB zs q;rw [took,List.length_append];split
  ·omega
  ·simp only [List.length_nil];omega
theorem Zdz {zs:List Int} {n:Int} (h:Syms zs n) (i:Nat):Syms (grp zs i) n:=fun x hx=>h x (List.mem_of_mem_drop (List.mem_of_mem_take hx))
noncomputable def roundM (zs:List Int) (N:Nat) (rows:List (List Int)):List (List Int):=(List.range rows.length).map fun p=>lensF (counts (took zs rows p (ng zs.length)) N)
theorem Za0 (zs:List Int) (N:Nat) (rows:List (List Int)):(roundM zs N rows).length=rows.length:=by simp [roundM]
def TabOk (N:Nat) (rows:List (List Int)):Prop:=2<=rows.length/\rows.length<=6/\∀r∈rows,r.length=N/\Within 0 20 r
theorem Zld {zs:List Int} {N:Nat} (h3:3<=N) (h258:N<=258) (hz:zs.length<=2000000):OfOk (counts zs N):=by
 refine⟨by rw [Zaq];exact h3,by rw [Zaq];exact h258,fun z hx=>?_⟩;have:=Zdv zs N z hx;omega
theorem ZnK {zs:List Int} {N:Nat} {rows:List (List Int)} (h3:3<=N) (h258:N<=258) (hz:zs.length<=2000000) (h:TabOk N rows):TabOk N (roundM zs N rows):=by
 refine⟨by rw [Za0];exact h.1,by rw [Za0];exact h.2.1,fun r hr=>?_⟩;unfold roundM at hr;obtain⟨p,_,rfl⟩:=List.mem_map.1 hr;have h1:=Zcg (Zld (zs:=took zs rows p (ng zs.length)) h3 h258 (by have:=ZcE zs rows p (ng zs.length);omega));rw [Zaq] at h1;exact⟨h1.1,fun z hz=>by have:=h1.2.1 z hz;omega⟩
theorem ZnL (cs:List Int) (n:Int):TabOk cs.length (firstM cs n):=by
 have h:=Zc9 n;refine⟨by rw [firstM,Zbq];exact h.1,by rw [firstM,Zbq];exact h.2,fun r hr=>?_⟩;unfold firstM firstK at hr;obtain⟨p,_,rfl⟩:=List.mem_map.1 hr;exact⟨Zg6 _ _ _ _,Zsf _ _ _ _⟩
noncomputable def rnd (zs:List Int) (N:Nat):Nat->List (List Int)
 | 0=>firstM (counts zs N) (zs.length:Int)
 | i+1=>roundM zs N (rnd zs N i)
theorem ZnM {zs:List Int} {N:Nat} (h3:3<=N) (h258:N<=258) (hz:zs.length<=2000000):∀i,TabOk N (rnd zs N i)
 | 0=>by
  have:=ZnL (counts zs N) (zs.length:Int);rw [Zaq] at this;exact this
 | i+1=>ZnK h3 h258 hz (ZnM h3 h258 hz i)
theorem Zd0 (zs:List Int) (N:Nat):∀i,(rnd zs N i).length=nTab (zs.length:Int)
 | 0=>by rw [rnd,firstM,Zbq]
 | i+1=>by rw [rnd,Za0,Zd0 zs N i]
theorem TabOk.at_ {N:Nat} {rows:List (List Int)} (h:TabOk N rows) {p:Nat} (hp:p<rows.length):(rw_ rows p).length=N/\Within 0 20 (rw_ rows p):=
 h.2.2 _ (by unfold rw_;rw [List.getD_eq_getElem?_getD,List.getElem?_eq_getElem hp];exact List.getElem_mem hp)
theorem Zg8 {g ls:List Int} {N:Nat} (hs:Syms g (N:Int)) (hl:ls.length=N) (hw:Within 0 20 ls):0<=costS g ls/\costS g ls<=20*(g.length:Int):=by
 induction g with
 | nil=>exact⟨Int.le_refl _,Int.le_refl _⟩
 | cons x t ih=>
  have h1:=ih (fun y hy=>hs y (List.mem_cons_of_mem _ hy));have h2:=hs x (List.mem_cons_self);have h3:=hw (ls.getD x.toNat 0) (FreqM.getD_mem ls x.toNat (by omega));have e:costS (x::t) ls=ls.getD x.toNat 0+costS t ls:=rfl;rw [e,List.length_cons];omega
end TabM
end
section
namespace CodM
open Go.RowKit BitM HufM CanM
open Classical in
noncomputable def getM (zs:List Int) (q:List Bool):Option Nat:=if h:∃i,i<zs.length/\Begins zs (ln zs i,i) q then some h.choose else none
theorem ZcF {zs:List Int} {q:List Bool} {i:Nat} (hw:WholeP zs) (hi:i<zs.length) (h:Begins zs (ln zs i,i) q):getM zs q=some i:=by
 have hx:∃i,i<zs.length/\Begins zs (ln zs i,i) q:=⟨i,hi,h⟩
 unfold getM;rw [dif_pos hx];have h1:=hx.choose_spec;have l1:=Zc8 hw.1 hi;have l2:=Zc8 hw.1 h1.1;have:=Zl7 (Zcx h1.1) (Zcx hi) (by show ln zs _<=20;omega) (by show ln zs _<=20;omega) h1.2 h;exact congrArg some (congrArg Prod.snd this)
theorem Zd1 {zs:List Int} {q:List Bool} {i:Nat} (h:getM zs q=some i):i<zs.length/\Begins zs (ln zs i,i) q:=by
 unfold getM at h;split at h
 ·rename_i hx;obtain rfl:=Option.some.inj h;exact hx.choose_spec
 ·cases h
theorem ZjG {zs:List Int} {q:List Bool} (h:∀i,i<zs.length->¬Begins zs (ln zs i,i) q):getM zs q=none:=by
 unfold getM;rw [dif_neg];rintro⟨i,hi,hb⟩;exact h i hi hb
theorem Zmg {zs:List Int} {x:Nat×Nat} {q:List Bool} (r:List Bool) (h:Begins zs x q):Begins zs x (q++r):=by
 obtain⟨h1,h2⟩:=h;exact⟨by rw [List.length_append];omega,by rw [List.take_append_of_le_length h1];exact h2⟩
theorem Zp7 {zs:List Int} {q:List Bool} {i:Nat} (r:List Bool) (hw:WholeP zs) (h:getM zs q=some i):getM zs (q++r)=some i:=by
 obtain⟨h1,h2⟩:=Zd1 h;exact ZcF hw h1 (Zmg r h2)
theorem ZnN {zs:List Int} {i:Nat} (hw:WholeP zs) (hi:i<zs.length) (r:List Bool):getM zs (code zs i++r)=some i:=ZcF hw hi (Zjx hw hi r)
inductive R14 where
 | ok (l:List Int) (n:Nat)
 | err (e:Int) (l:List Int)
def R14.skip (k:Nat):R14->R14
 | .ok l n=>.ok l (k+n)
 | .err e l=>.err e l
theorem ZbW (r:R14) (j k:Nat):(r.skip j).skip k=r.skip (k+j):=by
 cases r<;>simp [R14.skip,Nat.add_assoc]
def tb (rows:List (List Int)) (ps:List Nat) (n:Nat):List Int:=rows.getD (ps.getD (n / 50) 0) []
noncomputable def rdS (rows:List (List Int)) (ps:List Nat) (N most:Nat):Nat->List Bool->List Int->R14
 | 0,_,l=>.err 3 l
 | f+1,q,l=>
  if ps.length<=l.length / 50 then .err 25 l
  else match getM (tb rows ps l.length) q with
   | none=>.err 3 l
   | some i=>
    if l.length=most then .err 2 []
    else if i+1=N then .ok (l++[(i:Int)]) (ln (tb rows ps l.length) i)
    else(rdS rows ps N most f (q.drop (ln (tb rows ps l.length) i)) (l++[(i:Int)])).skip (ln (tb rows ps l.length) i)
noncomputable def rdT (ps:List Nat) (N most:Nat):Nat->List Bool->List (List Int)->R14
 | 0,q,rows=>rdS rows ps N most (q.length+1) q []
 | m+1,q,rows=>match DelM.rd q N with
  | .short=>.err 3 []
  | .table=>.err 22 []
  | .ok ls n=>open Classical in if WholeP ls then(rdT ps N most m (q.drop n) (rows++[ls])).skip n else .err 22 []
noncomputable def rdC (Q:List Bool) (N most:Nat):R14:=match PkM.rd Q with
 | .short=>.err 3 []
 | .bad _=>.err 25 []
 | .ok ps k=>(rdT ps N most (num (Q.take 3)) (Q.drop k) []).skip k
theorem Zg9 {rows:List (List Int)} {ps:List Nat} {N most:Nat} (hw:∀n,n / 50<ps.length->WholeP (tb rows ps n)):∀(f:Nat) (q:List Bool) (l:List Int),q.length<f->rdS rows ps N most f q l=rdS rows ps N most (q.length+1) q l
 | 0,q,l,h=>absurd h (Nat.not_lt_zero _)
 | f+1,q,l,h=>by
  rw [rdS,rdS];by_cases hp:ps.length<=l.length / 50
  ·rw [if_pos hp,if_pos hp]
  ·rw [if_neg hp,if_neg hp];have hwh:=hw l.length (by omega);cases hg:getM (tb rows ps l.length) q with
   | none=>rfl
   | some i=>
    obtain⟨h1,h2⟩:=Zd1 hg;have h3:=Zc8 hwh.1 h1;have h4:ln (tb rows ps l.length) i<=q.length:=h2.1;have hl:(q.drop (ln (tb rows ps l.length) i)).length=q.length-ln (tb rows ps l.length) i:=List.length_drop;show(if l.length=most then _ else if i+1=N then _ else(rdS rows ps N most f (q.drop (ln (tb rows ps l.length) i)) (l++[(i:Int)])).skip _)=(if l.length=most then _ else if i+1=N then _ else(rdS rows ps N most q.length (q.drop (ln (tb rows ps l.length) i)) (l++[(i:Int)])).skip _);rw [Zg9 hw f _ _ (by omega),Zg9 hw q.length _ _ (by omega)]
end CodM
end
section
namespace CodM
open Go.RowKit BitM HufM CanM
inductive CSt where
 | fields
 | pick (t n:Nat) (ps o:List Nat)
 | len (t:Nat) (ps:List Nat) (gs:List (List Int)) (ls:List Int) (now:Int)
 | sym (t:Nat) (ps:List Nat) (gs:List (List Int)) (cnt:Nat) (done:Bool)
def CSt.held (N:Nat):CSt->Nat
 | .fields=>0
 | .pick _ _ ps _=>ps.length
 | .len _ ps gs _ _=>ps.length+gs.length*N
 | .sym _ ps gs _ _=>ps.length+gs.length*N
def CSt.cnt:CSt->Nat
 | .sym _ _ _ c _=>c
 | _=>0
def CSt.done:CSt->Bool
 | .sym _ _ _ _ d=>d
 | _=>false
def Whs (N:Nat) (gs:List (List Int)):Prop:=∀g∈gs,g.length=N/\WholeP g
def Hd (Q:List Bool) (ps:List Nat) (t:Nat):Prop:=(∃k,PkM.rd Q=.ok ps k)/\num (Q.take 3)=t/\t<=6/\2<=t/\1<=ps.length/\ps.length<=32767/\∀x∈ps,x<t
def RtC (Q:List Bool) (N most a:Nat) (L:List Int):CSt->Prop
 | .fields=>a=0/\L=[]
 | .pick t n ps o=>PkM.Rt Q a t n ps o/\1<=n/\ps.length<n/\L=[]
 | .len t ps gs ls now=>Hd Q ps t/\Whs N gs/\gs.length<t/\ls.length<N/\L=[]/\∃j,j<=a/\rdC Q N most=(rdT ps N most (t-gs.length) (Q.drop j) gs).skip j/\DelM.Rt (Q.drop j) N (a-j) ls now
 | .sym t ps gs cnt done=>Hd Q ps t/\Whs N gs/\gs.length=t/\L.length=cnt/\cnt / 50<=ps.length/\(if done then rdC Q N most=.ok L a else L.length<=most/\rdC Q N most=(rdS gs ps N most ((Q.drop a).length+1) (Q.drop a) L).skip a)
theorem RtC.start (Q:List Bool) (N most:Nat):RtC Q N most 0 [] .fields:=⟨rfl,rfl⟩
theorem Zic (q:List Bool) (t:Nat) (ps o:List Nat):(PkM.pstep q t 0 ps o false).ps=ps:=by
 unfold PkM.pstep;rw [if_neg (by simp),if_pos rfl];split
 ·rfl
 ·split
  ·rfl
  ·split<;>rfl
theorem Zsg (q:List Bool) (t n:Nat) (ps o:List Nat) (hn:n≠0):(PkM.pstep q t n ps o false).n=n/\(PkM.pstep q t n ps o false).t=t/\(PkM.pstep q t n ps o false).ps.length<=ps.length+1/\((PkM.pstep q t n ps o false).err=0->(PkM.pstep q t n ps o false).ps.length=ps.length+1):=by
 unfold PkM.pstep;rw [if_neg (by simp),if_neg hn];split
 ·exact⟨rfl,rfl,Nat.le_succ _,fun h=>absurd h (by show ¬(25:Int)=0;decide)⟩
 ·split
  ·exact⟨rfl,rfl,Nat.le_succ _,fun h=>absurd h (by show ¬(3:Int)=0;decide)⟩
  ·refine⟨rfl,rfl,?_,fun _=>?_⟩
   ·show(ps++_).length<=_;simp
   ·show(ps++_).length=_;simp
theorem ZdA {Q:List Bool} {N most:Nat} (h:PkM.rd Q=.short):rdC Q N most=.err 3 []:=by unfold rdC;rw [h]
theorem Zha {Q:List Bool} {N most n:Nat} (h:PkM.rd Q=.bad n):rdC Q N most=.err 25 []:=by unfold rdC;rw [h]
theorem Zle {Q:List Bool} {N most k:Nat} {ps:List Nat} (h:PkM.rd Q=.ok ps k):rdC Q N most=(rdT ps N most (num (Q.take 3)) (Q.drop k) []).skip k:=by unfold rdC;rw [h]
theorem ZtR {Q:List Bool} {a t n:Nat} {ps o:List Nat} (h:PkM.Rt Q a t n ps o) (hn:1<=n) (hl:ps.length=n):Hd Q ps t/\PkM.rd Q=.ok ps a:=by
 have h1:=h.all hn hl;rcases h with⟨rfl,_⟩|⟨h2,h6,hn1,hn2,hle,hO,hlt,_⟩
 ·omega
 ·exact⟨⟨⟨a,h1.1⟩,h1.2,h6,h2,by omega,by omega,hlt⟩,h1.1⟩
theorem RtC.fields {Q q r:List Bool} {N most:Nat} (o:List Nat) (hq:Q.drop 0=q++r) :
  ((PkM.pstep q 0 0 [] o false).err=0/\(PkM.pstep q 0 0 [] o false).bad=false/\1<=(PkM.pstep q 0 0 [] o false).used/\(PkM.pstep q 0 0 [] o false).used<=q.length/\RtC Q N most (PkM.pstep q 0 0 [] o false).used [] (.pick (PkM.pstep q 0 0 [] o false).t (PkM.pstep q 0 0 [] o false).n (PkM.pstep q 0 0 [] o false).ps (PkM.pstep q 0 0 [] o false).o)) \/
  ((PkM.pstep q 0 0 [] o false).err=25/\(PkM.pstep q 0 0 [] o false).used<=q.length/\rdC Q N most=.err 25 []) \/
  (PkM.pstep q 0 0 [] o false=⟨3,0,0,0,[],o,false⟩/\(r=[]->rdC Q N most=.err 3 [])):=by
 have hp:=Zic q 0 [] o;rcases(PkM.Rt.start Q o).step (Or.inl rfl) q r hq with⟨e1,e2,e3,e4,e5,e6⟩|⟨e1,e2,e3,e4,_⟩|⟨e1,e2⟩
 ·refine Or.inl ⟨e1,e2,e3,e4,by rwa [Nat.zero_add] at e5,e6,by rw [hp];exact e6,rfl⟩
 ·exact Or.inr (Or.inl ⟨e1,e3,Zha e4⟩)
 ·exact Or.inr (Or.inr ⟨e1,fun h=>ZdA (e2 h)⟩)
theorem RtC.pick {Q q r:List Bool} {N most a t n:Nat} {ps o:List Nat} {L:List Int} (h3:3<=N) (h:RtC Q N most a L (.pick t n ps o)) (hq:Q.drop a=q++r) :
  ((PkM.pstep q t n ps o false).err=0/\(PkM.pstep q t n ps o false).bad=false/\1<=(PkM.pstep q t n ps o false).used/\(PkM.pstep q t n ps o false).used<=q.length/\(PkM.pstep q t n ps o false).n=n/\(PkM.pstep q t n ps o false).t=t/\(PkM.pstep q t n ps o false).ps.length=ps.length+1 /\
   ((PkM.pstep q t n ps o false).ps.length<n/\RtC Q N most (a+(PkM.pstep q t n ps o false).used) L (.pick t n (PkM.pstep q t n ps o false).ps (PkM.pstep q t n ps o false).o)\/(PkM.pstep q t n ps o false).ps.length=n/\RtC Q N most (a+(PkM.pstep q t n ps o false).used) L (.len t (PkM.pstep q t n ps o false).ps [] [] 0))) \/
  ((PkM.pstep q t n ps o false).err=25/\(PkM.pstep q t n ps o false).used<=q.length/\rdC Q N most=.err 25 L) \/
  (PkM.pstep q t n ps o false=⟨3,0,t,n,ps,o,false⟩/\(r=[]->rdC Q N most=.err 3 L)):=by
 obtain⟨h1,hn,hl,rfl⟩:=h;obtain⟨k1,k2,k3,k4⟩:=Zsg q t n ps o (by omega);rcases h1.step (Or.inr hl) q r hq with⟨e1,e2,e3,e4,e5,e6⟩|⟨e1,e2,e3,e4,_⟩|⟨e1,e2⟩
 ·refine Or.inl ⟨e1,e2,e3,e4,k1,k2,k4 e1,?_⟩;rw [k1,k2] at e5;have k5:=k4 e1;by_cases hlt:(PkM.pstep q t n ps o false).ps.length<n
  ·exact Or.inl ⟨hlt,e5,hn,hlt,rfl⟩
  ·have hle:(PkM.pstep q t n ps o false).ps.length=n:=by omega
   obtain⟨hh,hr⟩:=ZtR e5 hn hle;refine Or.inr ⟨hle,hh,fun g hg=>absurd hg (by simp),by show 0<t;have:=hh.2.2.2.1;omega,by show 0<N;omega,rfl,_,Nat.le_refl _,?_,?_⟩
   ·rw [Zle hr,hh.2.1];rfl
   ·rw [Nat.sub_self];exact DelM.Rt.start _ _
 ·exact Or.inr (Or.inl ⟨e1,e3,Zha e4⟩)
 ·exact Or.inr (Or.inr ⟨e1,fun h=>ZdA (e2 h)⟩)
theorem ZdB {ps:List Nat} {N most m:Nat} {q:List Bool} {gs:List (List Int)} (h:DelM.rd q N=.short):rdT ps N most (m+1) q gs=.err 3 []:=by rw [rdT,h]
theorem ZdC {ps:List Nat} {N most m:Nat} {q:List Bool} {gs:List (List Int)} (h:DelM.rd q N=.table):rdT ps N most (m+1) q gs=.err 22 []:=by rw [rdT,h]
theorem Zid {ps:List Nat} {N most m n:Nat} {q:List Bool} {gs:List (List Int)} {ls:List Int} (h:DelM.rd q N=.ok ls n) (hw:WholeP ls):rdT ps N most (m+1) q gs=(rdT ps N most m (q.drop n) (gs++[ls])).skip n:=by
 rw [rdT,h];simp only [if_pos hw]
theorem Zhb {ps:List Nat} {N most m n:Nat} {q:List Bool} {gs:List (List Int)} {ls:List Int} (h:DelM.rd q N=.ok ls n) (hw:¬WholeP ls):rdT ps N most (m+1) q gs=.err 22 []:=by
 rw [rdT,h];simp only [if_neg hw]
theorem RtC.len {Q q r:List Bool} {N most a t:Nat} {ps:List Nat} {gs:List (List Int)} {ls:List Int} {now:Int} {L:List Int} (h3:3<=N) (h:RtC Q N most a L (.len t ps gs ls now)) (hq:Q.drop a=q++r) :
  ((DelM.dstep q ls now false).err=0/\(DelM.dstep q ls now false).bad=false/\1<=(DelM.dstep q ls now false).used/\(DelM.dstep q ls now false).used<=q.length/\(DelM.dstep q ls now false).ls.length<=N /\
   ((DelM.dstep q ls now false).ls.length<N/\RtC Q N most (a+(DelM.dstep q ls now false).used) L (.len t ps gs (DelM.dstep q ls now false).ls (DelM.dstep q ls now false).now) \/
    (DelM.dstep q ls now false).ls.length=N/\¬WholeP (DelM.dstep q ls now false).ls/\rdC Q N most=.err 22 L \/
    (DelM.dstep q ls now false).ls.length=N/\WholeP (DelM.dstep q ls now false).ls/\gs.length+1<t/\RtC Q N most (a+(DelM.dstep q ls now false).used) L (.len t ps (gs++[(DelM.dstep q ls now false).ls]) [] 0) \/
    (DelM.dstep q ls now false).ls.length=N/\WholeP (DelM.dstep q ls now false).ls/\gs.length+1=t/\RtC Q N most (a+(DelM.dstep q ls now false).used) L (.sym t ps (gs++[(DelM.dstep q ls now false).ls]) 0 false))) \/
  ((DelM.dstep q ls now false).err=22/\(DelM.dstep q ls now false).used<=q.length/\(DelM.dstep q ls now false).ls=ls/\rdC Q N most=.err 22 L) \/
  (DelM.dstep q ls now false=⟨3,0,ls,now,false⟩/\(r=[]->rdC Q N most=.err 3 L)):=by
 obtain⟨hh,hW,hgs,hls,rfl,j,hj,hR,hD⟩:=h;obtain⟨m,hm⟩:∃m,t-gs.length=m+1:=⟨t-gs.length-1,by omega⟩
 rw [hm] at hR;have hqj:(Q.drop j).drop (a-j)=q++r:=by rw [List.drop_drop,show j+(a-j)=a by omega];exact hq
 rcases hD.step hls q r hqj with⟨e1,e2,e3,e4,e5⟩|⟨e1,e2,e3,e4,e5⟩|⟨e1,e2⟩
 ·generalize DelM.dstep q ls now false=O at *;refine Or.inl ⟨e1,e2,e3,e4,e5.1,?_⟩;have ea:a-j+O.used=a+O.used-j:=by omega
  rw [ea] at e5;by_cases hlt:O.ls.length<N
  ·exact Or.inl ⟨hlt,hh,hW,hgs,hlt,rfl,j,by omega,by rw [hm];exact hR,e5⟩
  ·have hN:O.ls.length=N:=by have:=e5.1;omega
   have hall:=e5.all hN (by omega);by_cases hw:WholeP O.ls
   ·have hR2:rdC Q N most=(rdT ps N most m (Q.drop (a+O.used)) (gs++[O.ls])).skip (a+O.used):=by
     rw [hR,Zid hall hw,ZbW,List.drop_drop,show j+(a+O.used-j)=a+O.used by omega]
    have hW2:Whs N (gs++[O.ls]):=fun g hg=>by
     rcases List.mem_append.1 hg with h|h
     ·exact hW g h
     ·rw [List.mem_singleton] at h;subst h;exact⟨hN,hw⟩
    have hl2:(gs++[O.ls]).length=gs.length+1:=by simp
    by_cases ht:gs.length+1<t
    ·refine Or.inr (Or.inr (Or.inl ⟨hN,hw,ht,hh,hW2,by rw [hl2];exact ht,by show 0<N;omega,rfl,_,Nat.le_refl _,?_,?_⟩))
     ·rw [hR2,hl2,show t-(gs.length+1)=m by omega]
     ·rw [Nat.sub_self];exact DelM.Rt.start _ _
    ·refine Or.inr (Or.inr (Or.inr ⟨hN,hw,by omega,hh,hW2,by rw [hl2];omega,rfl,by show 0 / 50<=ps.length;omega,?_⟩));rw [if_neg (by simp)];refine⟨Nat.zero_le _,?_⟩;rw [hR2,show m=0 by omega,rdT]
   ·exact Or.inr (Or.inl ⟨hN,hw,by rw [hR,Zhb hall hw];rfl⟩)
 ·exact Or.inr (Or.inl ⟨e1,e3,e5,by rw [hR,ZdC e4];rfl⟩)
 ·exact Or.inr (Or.inr ⟨e1,fun h=>by rw [hR,ZdB (e2 h)];rfl⟩)
theorem Whs.tb {N:Nat} {gs:List (List Int)} {Q:List Bool} {ps:List Nat} {t n:Nat} (h:Whs N gs) (hh:Hd Q ps t) (hg:gs.length=t) (hn:n / 50<ps.length):ps.getD (n / 50) 0<gs.length/\(tb gs ps n).length=N/\WholeP (tb gs ps n):=by
 have h1:ps.getD (n / 50) 0<t:=by
  rw [List.getD_eq_getElem?_getD,List.getElem?_eq_getElem hn];exact hh.2.2.2.2.2.2 _ (List.getElem_mem hn)
 refine⟨by omega,?_⟩;refine h _ ?_;unfold CodM.tb;rw [List.getD_eq_getElem?_getD,List.getElem?_eq_getElem (by omega)];exact List.getElem_mem _
theorem RtC.sym {Q q r:List Bool} {N most a t cnt:Nat} {ps:List Nat} {gs:List (List Int)} {L:List Int} (h:RtC Q N most a L (.sym t ps gs cnt false)) (hq:Q.drop a=q++r) :
  (ps.length<=cnt / 50->rdC Q N most=.err 25 L) /\
  (cnt / 50<ps.length->getM (tb gs ps cnt) q=none->r=[]->rdC Q N most=.err 3 L) /\
  (∀i,cnt / 50<ps.length->getM (tb gs ps cnt) q=some i->i<N/\1<=ln (tb gs ps cnt) i/\ln (tb gs ps cnt) i<=q.length/\(L.length=most->rdC Q N most=.err 2 []) /\
   (L.length<most->RtC Q N most (a+ln (tb gs ps cnt) i) (L++[(i:Int)]) (.sym t ps gs (cnt+1) (decide (i+1=N))))):=by
 obtain⟨hh,hW,hg,hL,hc50,hif⟩:=h;rw [if_neg (by simp)] at hif;obtain⟨hle,hR⟩:=hif;have hwh:=fun n hn=>(hW.tb hh hg (n:=n) hn).2.2
 rw [rdS,hL] at hR;refine⟨fun h=>?_,fun h hn hr=>?_,fun i h hi=>?_⟩
 ·rw [hR,if_pos h];rfl
 ·rw [if_neg (by omega),hq,hr,List.append_nil,hn] at hR;rw [hR];rfl
 ·have hw:=hwh cnt h;have hN:=(hW.tb hh hg (n:=cnt) h).2.1;obtain⟨i1,i2⟩:=Zd1 hi;have l1:=Zc8 hw.1 i1;have l2:ln (tb gs ps cnt) i<=q.length:=i2.1;rw [if_neg (by omega),hq,Zp7 r hw hi] at hR;have hR2:rdC Q N most=(if cnt=most then R14.err 2 [] else if i+1=N then .ok (L++[(i:Int)]) (ln (tb gs ps cnt) i) else(rdS gs ps N most (q++r).length ((q++r).drop (ln (tb gs ps cnt) i)) (L++[(i:Int)])).skip (ln (tb gs ps cnt) i)).skip a:=hR;refine⟨by omega,l1.1,l2,fun hm=>?_,fun hm=>⟨hh,hW,hg,by rw [List.length_append,hL];rfl,by omega,?_⟩⟩
  ·rw [hR2,if_pos (by omega)];rfl
  ·rw [if_neg (by omega)] at hR2;by_cases hd:i+1=N
   ·rw [if_pos (by simp [hd])];rw [hR2,if_pos hd];rfl
   ·rw [if_neg (by simp [hd])];rw [if_neg hd,ZbW] at hR2;have hdl:Q.drop (a+ln (tb gs ps cnt) i)=(q++r).drop (ln (tb gs ps cnt) i):=by rw [<-List.drop_drop,hq]
    refine⟨by rw [List.length_append];show L.length+1<=most;omega,?_⟩;rw [hR2,hdl,Zg9 hwh (q++r).length _ _ (by rw [List.length_drop,List.length_append];omega)]
end CodM
end
section
namespace CodM
open Go.RowKit BitM HufM CanM FreqM
def symT (gs:List (List Int)) (ps:List Nat):Nat->List Int->List Bool
 | _,[]=>[]
 | n,z::t=>code (tb gs ps n) z.toNat++symT gs ps (n+1) t
theorem Zhc (gs:List (List Int)) (ps:List Nat):∀(a b:List Int) (n:Nat),symT gs ps n (a++b)=symT gs ps n a++symT gs ps (n+a.length) b
 | [],b,n=>rfl
 | z::t,b,n=>by
  show _++symT gs ps (n+1) (t++b)=(_++symT gs ps (n+1) t)++_;rw [Zhc gs ps t b (n+1),List.append_assoc,List.length_cons,show n+1+t.length=n+(t.length+1) by omega]
def symB (gs:List (List Int)) (ps:List Nat) (zs:List Int) (k:Nat):List Bool:=symT gs ps 0 (zs.take k)
theorem Zff (gs:List (List Int)) (ps:List Nat) (zs:List Int) {k:Nat} (h:k<zs.length):symB gs ps zs (k+1)=symB gs ps zs k++code (tb gs ps k) (zs.getD k 0).toNat:=by
 unfold symB;rw [List.take_succ_eq_append_getElem h,Zhc,List.length_take,Nat.min_eq_left (by omega),Nat.zero_add,List.getD_eq_getElem?_getD,List.getElem?_eq_getElem h];show _++(code _ _++[])=_;rw [List.append_nil];rfl
def gsB (gs:List (List Int)):List Bool:=gs.flatMap DelM.allB
theorem Zsh (a b:List (List Int)):gsB (a++b)=gsB a++gsB b:=by simp [gsB]
theorem Zlf (gs:List (List Int)) {k:Nat} (h:k<gs.length):gsB (gs.take (k+1))=gsB (gs.take k)++DelM.allB (gs.getD k []):=by
 rw [List.take_succ_eq_append_getElem h,Zsh,List.getD_eq_getElem?_getD,List.getElem?_eq_getElem h];simp [gsB]
def allC (gs:List (List Int)) (ps:List Nat) (zs:List Int):List Bool:=PkM.allB ps gs.length++gsB gs++symB gs ps zs zs.length
def EndP (N:Nat) (t:List Int):Prop:=Syms t (N:Int)/\∀i,i<t.length->(t.getD i 0=(N:Int)-1↔i+1=t.length)
theorem EndP.tail {N:Nat} {z:Int} {t:List Int} (h:EndP N (z::t)):EndP N t:=
 ⟨fun x hx=>h.1 x (List.mem_cons_of_mem _ hx),fun i hi=>by
  have h1:=h.2 (i+1) (by simp;omega);rw [List.length_cons] at h1;show t.getD i 0=_↔_;have e:(z::t).getD (i+1) 0=t.getD i 0:=rfl;rw [e] at h1;omega⟩
theorem EndP.head {N:Nat} {z:Int} {t:List Int} (h:EndP N (z::t)):0<=z/\z<(N:Int)/\(z=(N:Int)-1↔t=[]):=by
 have h1:=h.1 z List.mem_cons_self;have h2:=h.2 0 (by simp);have e:(z::t).getD 0 0=z:=rfl;rw [e,List.length_cons] at h2;refine⟨h1.1,h1.2,h2.trans ⟨fun h=>List.eq_nil_of_length_eq_zero (by omega),fun h=>by rw [h];rfl⟩⟩
def Tbs (N:Nat) (gs:List (List Int)) (ps:List Nat) (m:Nat):Prop:=∀n,n<m->n / 50<ps.length/\(tb gs ps n).length=N/\WholeP (tb gs ps n)
theorem ZnO {gs:List (List Int)} {ps:List Nat} {N most m:Nat} (hT:Tbs N gs ps m) (q:List Bool):∀(t l:List Int) (f:Nat),EndP N t->t≠[]->l.length+t.length=m->t.length<=f->l.length<=most ->
  rdS gs ps N most f (symT gs ps l.length t++q) l=if m<=most then .ok (l++t) (symT gs ps l.length t).length else .err 2 []
 | [],l,f,_,h0,_,_,_=>absurd rfl h0
 | z::t,l,0,_,_,_,h,_=>absurd h (by simp)
 | z::t,l,f+1,hE,_,hm,hf,hl=>by
  have hh:=hE.head;rw [List.length_cons] at hm hf;obtain⟨hp,hN,hw⟩:=hT l.length (by omega);have hi:z.toNat<(tb gs ps l.length).length:=by omega
  have hz:((z.toNat:Nat):Int)=z:=by omega
  have e1:symT gs ps l.length (z::t)++q=code (tb gs ps l.length) z.toNat++(symT gs ps (l.length+1) t++q):=List.append_assoc _ _ _
  have e2:(symT gs ps l.length (z::t)).length=ln (tb gs ps l.length) z.toNat+(symT gs ps (l.length+1) t).length:=by
   show(code _ _++_).length=_;rw [List.length_append,Zat]
  rw [e1,e2,rdS,if_neg (by omega),ZnN hw hi];show(if l.length=most then _ else if z.toNat+1=N then _ else _)=_;by_cases h1:l.length=most
  ·rw [if_pos h1,if_neg (by omega)]
  ·rw [if_neg h1];by_cases h2:t=[]
   ·have h3:=hh.2.2.2 h2;subst h2;rw [if_pos (by omega),if_pos (by simp at hm;omega),hz];rfl
   ·have h3:¬z=(N:Int)-1:=fun h=>h2 (hh.2.2.1 h)
    rw [if_neg (by omega),hz]
    have hd:(code (tb gs ps l.length) z.toNat++(symT gs ps (l.length+1) t++q)).drop (ln (tb gs ps l.length) z.toNat)=symT gs ps (l.length+1) t++q:=by
     rw [List.drop_append_of_le_length (by rw [Zat];omega),List.drop_of_length_le (by rw [Zat];omega),List.nil_append]
    rw [hd];have hll:(l++[z]).length=l.length+1:=by simp
    have:=ZnO (most:=most) (N:=N) hT q t (l++[z]) f hE.tail h2 (by omega) (by omega) (by omega);rw [hll] at this;rw [this];by_cases h4:m<=most
    ·rw [if_pos h4,if_pos h4];show R14.ok _ _=_;rw [List.append_assoc];rfl
    ·rw [if_neg h4,if_neg h4];rfl
theorem Zda {gs:List (List Int)} {ps:List Nat} {N m:Nat} (hT:Tbs N gs ps m):∀(t:List Int) (n:Nat),Syms t (N:Int)->n+t.length<=m->t.length<=(symT gs ps n t).length/\(symT gs ps n t).length<=20*t.length
 | [],n,_,_=>⟨Nat.le_refl _,Nat.le_refl _⟩
 | z::t,n,hS,hm=>by
  rw [List.length_cons] at hm ⊢;obtain⟨hp,hN,hw⟩:=hT n (by omega);have h1:=hS z List.mem_cons_self;have h2:=Zc8 hw.1 (show z.toNat<(tb gs ps n).length by omega);have h3:=Zda hT t (n+1) (fun x hx=>hS x (List.mem_cons_of_mem _ hx)) (by omega);show _<=(code _ _++_).length/\(code _ _++_).length<=_;rw [List.length_append,Zat];omega
theorem ZrG {ps:List Nat} {N most:Nat} (h3:3<=N) (h258:N<=258) (q:List Bool):∀(t gs:List (List Int)),(∀g∈t,g.length=N/\WholeP g)->rdT ps N most t.length (gsB t++q) gs=(rdS (gs++t) ps N most (q.length+1) q []).skip (gsB t).length
 | [],gs,_=>by
  show rdT ps N most 0 q gs=_;rw [rdT,List.append_nil];cases rdS gs ps N most (q.length+1) q [] with
  | ok l n=>show R14.ok l n=.ok l (0+n);rw [Nat.zero_add]
  | err e _=>rfl
 | g::t,gs,h=>by
  obtain⟨hN,hw⟩:=h g List.mem_cons_self;have hM:DelM.May g:=⟨by omega,by omega,hw.1⟩
  have e1:gsB (g::t)++q=DelM.allB g++(gsB t++q):=List.append_assoc _ _ _;have e2:(gsB (g::t)).length=(DelM.allB g).length+(gsB t).length:=List.length_append;have hr:=DelM.rd_all hM (gsB t++q);rw [hN] at hr;rw [e1,e2,List.length_cons,Zid hr hw,List.drop_append_of_le_length (Nat.le_refl _),List.drop_length,List.nil_append,ZrG h3 h258 q t (gs++[g]) (fun x hx=>h x (List.mem_cons_of_mem _ hx)),ZbW,List.append_assoc];rfl
theorem Zhd {N:Nat} (h3:3<=N) (h258:N<=258):∀(gs:List (List Int)),Whs N gs->(gsB gs).length<=10100*gs.length
 | [],_=>Nat.le_refl _
 | g::t,h=>by
  obtain⟨hN,hw⟩:=h g List.mem_cons_self;have hM:DelM.May g:=⟨by omega,by omega,hw.1⟩
  have h1:=DelM.encK_le hM (Nat.le_refl _);have h2:=DelM.allB_length g;have e2:(gsB (g::t)).length=(DelM.allB g).length+(gsB t).length:=List.length_append;have:=Zhd h3 h258 t (fun x hx=>h x (List.mem_cons_of_mem _ hx));rw [e2,List.length_cons];omega
theorem Zsi {gs:List (List Int)} {ps:List Nat} {zs:List Int} {N most:Nat} (h3:3<=N) (h258:N<=258) (hp:PkM.May ps gs.length) (hW:Whs N gs) (hT:Tbs N gs ps zs.length) (hE:EndP N zs) (h1:1<=zs.length) (q:List Bool) :
  rdC (allC gs ps zs++q) N most=if zs.length<=most then .ok zs (allC gs ps zs).length else .err 2 []:=by
 have hq:allC gs ps zs++q=PkM.allB ps gs.length++(gsB gs++(symT gs ps 0 zs++q)):=by
  unfold allC symB;rw [List.take_length,List.append_assoc,List.append_assoc]
 have hl:(allC gs ps zs).length=(PkM.allB ps gs.length).length+(gsB gs).length+(symT gs ps 0 zs).length:=by
  unfold allC symB;rw [List.take_length,List.length_append,List.length_append]
 obtain⟨k1,k2,_⟩:=PkM.rd_all hp (gsB gs++(symT gs ps 0 zs++q));rw [hq,hl,Zle k1,k2,List.drop_append_of_le_length (Nat.le_refl _),List.drop_length,List.nil_append,ZrG h3 h258 _ gs [] hW,List.nil_append,ZbW];have hne:zs≠[]:=fun h=>by rw [h] at h1;exact absurd h1 (by simp)
 have hg:=Zda hT zs 0 hE.1 (by omega);have:=ZnO (most:=most) hT q zs [] ((symT gs ps 0 zs++q).length+1) hE hne (by simp) (by rw [List.length_append];omega) (Nat.zero_le _);rw [List.length_nil,List.nil_append] at this;rw [this];by_cases h4:zs.length<=most
 ·rw [if_pos h4,if_pos h4];rfl
 ·rw [if_neg h4,if_neg h4];rfl
theorem Zlg (gs:List (List Int)) (ps:List Nat) (k:Nat):∀(g:List Int) (n:Nat),50*k<=n->n+g.length<=50*k+50->(∀x∈g,0<=(gs.getD (ps.getD k 0) []).getD x.toNat 0)->((symT gs ps n g).length:Int)=costS g (gs.getD (ps.getD k 0) [])
 | [],n,_,_,_=>rfl
 | z::t,n,h1,h2,h3=>by
  rw [List.length_cons] at h2;have ih:=Zlg gs ps k t (n+1) (by omega) (by omega) (fun x hx=>h3 x (List.mem_cons_of_mem _ hx));have e:costS (z::t) (gs.getD (ps.getD k 0) [])=(gs.getD (ps.getD k 0) []).getD z.toNat 0+costS t (gs.getD (ps.getD k 0) []):=rfl;have hz:=h3 z List.mem_cons_self;have hk:tb gs ps n=gs.getD (ps.getD k 0) []:=by unfold tb;rw [show n / 50=k by omega]
  show(((code (tb gs ps n) z.toNat++symT gs ps (n+1) t).length:Nat):Int)=_;rw [List.length_append,Zat,e,<-ih,hk];unfold ln;omega
end CodM
end
section
namespace CodM
open Go.RowKit BitM HufM CanM
def lst:R14->List Int
 | .ok l _=>l
 | .err _ l=>l
theorem Zlh (r:R14) (k:Nat):lst (r.skip k)=lst r:=by cases r<;>rfl
noncomputable def heldC (Q:List Bool) (N:Nat):Nat:=match PkM.rd Q with
 | .short=>0
 | .bad _=>0
 | .ok ps _=>ps.length+num (Q.take 3)*N
theorem Zli {Q:List Bool} {ps:List Nat} {t N:Nat} (h:Hd Q ps t):heldC Q N=ps.length+t*N:=by
 obtain⟨⟨k,hk⟩,ht,_⟩:=h;unfold heldC;rw [hk];simp only [ht]
end CodM
end
section
namespace ZerM
open Go.RowKit
def rowC (m:Nat):List Int:=if _h:m=0 then[] else(if m % 2=1 then 0 else 1)::rowC ((m-1) / 2)
termination_by m
decreasing_by omega
theorem ZdD:rowC 0=[]:=by rw [rowC];rfl
theorem ZeL (m:Nat) (h:0<m):rowC m=(if m % 2=1 then 0 else 1)::rowC ((m-1) / 2):=by
 rw [rowC,dif_neg (by omega)]
theorem Zlj (m:Nat) (h:m % 2=1):rowC m=0::rowC ((m-1) / 2):=by
 rw [ZeL m (by omega),if_pos h]
theorem Zie (m:Nat) (h0:0<m) (h:m % 2=0):rowC m=1::rowC ((m-1) / 2):=by
 rw [ZeL m h0,if_neg (by omega)]
def val:List Int->Nat
 | []=>0
 | c::t=>1+c.toNat+2*val t
def Bin (l:List Int):Prop:=∀c∈l,c=0\/c=1
theorem Bin.nil:Bin []:=fun c h=>by cases h
theorem Bin.snoc {l:List Int} (h:Bin l) {c:Int} (hc:c=0\/c=1):Bin (l++[c]):=fun x hx=>by
 rcases List.mem_append.1 hx with h1|h1
 ·exact h x h1
 ·rw [List.mem_singleton] at h1;rw [h1];exact hc
theorem Zhe (m:Nat):val (rowC m)=m:=by
 induction m using Nat.strongRecOn with
 | _ m ih=>
  by_cases h0:m=0
  ·subst h0;rw [ZdD];rfl
  ·rw [ZeL m (by omega)];unfold val;rw [ih ((m-1) / 2) (by omega)];by_cases h1:m % 2=1
   ·rw [if_pos h1];simp;omega
   ·rw [if_neg h1];simp;omega
theorem bin_rowC (m:Nat):Bin (rowC m):=by
 induction m using Nat.strongRecOn with
 | _ m ih=>
  by_cases h0:m=0
  ·subst h0;rw [ZdD];exact Bin.nil
  ·rw [ZeL m (by omega)];intro c hc;rcases List.mem_cons.1 hc with h|h
   ·rw [h];by_cases h1:m % 2=1
    ·rw [if_pos h1];exact Or.inl rfl
    ·rw [if_neg h1];exact Or.inr rfl
   ·exact ih _ (by omega) c h
theorem Zd2 (a b:List Int):val (a++b)=val a+2^a.length*val b:=by
 induction a with
 | nil=>simp [val]
 | cons c t ih=>
  show 1+c.toNat+2*val (t++b)=1+c.toNat+2*val t+2^(t.length+1)*val b;rw [ih,Nat.mul_add,Nat.pow_succ,Nat.mul_comm (2^t.length) 2,Nat.mul_assoc];omega
theorem Zhf (a:List Int) (c:Int):val (a++[c])=val a+(1+c.toNat)*2^a.length:=by
 rw [Zd2,Nat.mul_comm];rfl
theorem Zsj (a:List Int):2^a.length<=val a+1:=by
 induction a with
 | nil=>simp [val]
 | cons c t ih=>
  show 2^(t.length+1)<=1+c.toNat+2*val t+1;rw [Nat.pow_succ];omega
theorem Zsk (a:List Int):a.length<=val a:=by
 induction a with
 | nil=>simp [val]
 | cons c t ih=>
  show t.length+1<=1+c.toNat+2*val t;omega
theorem Zch (m:Nat):(rowC m).length<=m:=by
 have:=Zsk (rowC m);rw [Zhe] at this;exact this
def encS (s:List Int×Nat) (p:Int):List Int×Nat:=if p=0 then(s.1,s.2+1) else(s.1++rowC s.2++[p+1],0)
def encF (l:List Int):List Int×Nat:=l.foldl encS ([],0)
def enc (l:List Int) (n:Int):List Int:=(encF l).1++rowC (encF l).2++[n+1]
theorem Zif (l:List Int) (k:Nat) (h:k<l.length):encF (l.take (k+1))=encS (encF (l.take k)) (l.getD k 0):=by
 unfold encF;rw [List.take_succ_eq_append_getElem h,List.foldl_append,List.getD_eq_getElem?_getD,List.getElem?_eq_getElem h];rfl
theorem Zlk:∀(l:List Int) (s:List Int×Nat),(l.foldl encS s).1.length+(l.foldl encS s).2<=s.1.length+s.2+l.length
 | [],s=>by simp
 | p::t,s=>by
  have ih:=Zlk t (encS s p);simp only [List.foldl_cons,List.length_cons]
  have:(encS s p).1.length+(encS s p).2<=s.1.length+s.2+1:=by
   unfold encS;by_cases h:p=0
   ·rw [if_pos h];simp;omega
   ·rw [if_neg h];have:=Zch s.2;simp;omega
  omega
theorem ZjH (l:List Int):(encF l).1.length+(encF l).2<=l.length:=by
 have:=Zlk l ([],0);simpa [encF] using this
theorem enc_len (l:List Int) (n:Int):(enc l n).length<=l.length+1:=by
 have h1:=ZjH l;have h2:=Zch (encF l).2;unfold enc;simp;omega
def EncOk (l:List Int) (n:Int):Prop:=1<=n/\n<=256/\∀p∈l,0<=p/\p<n
def EncP (l:List Int) (n:Int) (zs:List Int) (err:Nat):Prop:=(¬EncOk l n/\zs=[]/\err=1)\/(EncOk l n/\zs=enc l n/\err=0)
def encR (n:Int):Nat->List Int->List Int
 | z,[]=>rowC z++[n+1]
 | z,p::t=>if p=0 then encR n (z+1) t else rowC z++(p+1)::encR n 0 t
theorem Zll (n:Int):∀(l:List Int) (s:List Int×Nat),(l.foldl encS s).1++rowC (l.foldl encS s).2++[n+1]=s.1++encR n s.2 l
 | [],s=>by simp [encR]
 | p::t,s=>by
  rw [List.foldl_cons,Zll n t (encS s p)];unfold encS;by_cases h:p=0
  ·rw [if_pos h];show s.1++encR n (s.2+1) t=s.1++(if p=0 then _ else _);rw [if_pos h]
  ·rw [if_neg h];show s.1++rowC s.2++[p+1]++encR n 0 t=s.1++(if p=0 then _ else _);rw [if_neg h];simp
theorem enc_eq (l:List Int) (n:Int):enc l n=encR n 0 l:=by
 have:=Zll n l ([],0);simpa [enc,encF] using this
structure St where
 out:List Int
 rc:List Int
 done:Bool
def ini:St:=⟨[],[],false⟩
def cnt (s:St):Nat:=s.out.length+val s.rc
def putS (n:Int) (s:St) (c:Int):St:=
 if c<2 then⟨s.out,s.rc++[c],false⟩
 else if c=n+1 then⟨s.out++List.replicate (val s.rc) 0,[],true⟩
 else⟨s.out++List.replicate (val s.rc) 0++[c-1],[],false⟩
def putE (n:Int) (most:Nat) (s:St) (c:Int):Nat:=
 if s.done=true then 7 else if c<0\/n+1<c then 25 else if most<cnt (putS n s c) then 2 else 0
def putZ (s:St) (c:Int):Nat:=if c<2 then 0 else val s.rc
def putP (n:Int) (c:Int):Int:=if c<2\/c=n+1 then -1 else c-1
theorem putS_part {n:Int} {s:St} {c:Int} (h:c<2):putS n s c=⟨s.out,s.rc++[c],false⟩:=by unfold putS;rw [if_pos h]
theorem putS_end {n:Int} {s:St} {c:Int} (h:¬c<2) (he:c=n+1):putS n s c=⟨s.out++List.replicate (val s.rc) 0,[],true⟩:=by unfold putS;rw [if_neg h,if_pos he]
theorem putS_one {n:Int} {s:St} {c:Int} (h:¬c<2) (he:c≠n+1):putS n s c=⟨s.out++List.replicate (val s.rc) 0++[c-1],[],false⟩:=by unfold putS;rw [if_neg h,if_neg he]
theorem Zlm {n:Int} {s:St} {c:Int} (h:c<2):cnt (putS n s c)=cnt s+(1+c.toNat)*2^s.rc.length:=by
 rw [putS_part h];unfold cnt;rw [Zhf];simp only [];omega
theorem ZjI {n:Int} {s:St} {c:Int} (h:¬c<2) (he:c=n+1):cnt (putS n s c)=cnt s:=by
 rw [putS_end h he];unfold cnt;simp [val]
theorem ZjJ {n:Int} {s:St} {c:Int} (h:¬c<2) (he:c≠n+1):cnt (putS n s c)=cnt s+1:=by
 rw [putS_one h he];unfold cnt;simp [val];omega
structure Ok (most:Nat) (s:St):Prop where
 bin:Bin s.rc
 le:cnt s<=most
 fin:s.done=true->s.rc=[]
theorem Ok.ini (most:Nat):Ok most ini:=⟨Bin.nil,Nat.zero_le _,fun _=>rfl⟩
theorem Ok.put {n:Int} {most:Nat} {s:St} {c:Int} (h:Ok most s) (he:putE n most s c=0):Ok most (putS n s c):=by
 unfold putE at he;split at he
 ·cases he
 ·split at he
  ·cases he
  ·rename_i hc;split at he
   ·cases he
   ·rename_i hm;by_cases h2:c<2
    ·refine⟨?_,by omega,fun h3=>?_⟩
     ·rw [putS_part h2];exact h.bin.snoc (by omega)
     ·rw [putS_part h2] at h3;cases h3
    ·by_cases h3:c=n+1
     ·exact⟨by rw [putS_end h2 h3];exact Bin.nil,by omega,fun _=>by rw [putS_end h2 h3]⟩
     ·exact⟨by rw [putS_one h2 h3];exact Bin.nil,by omega,fun _=>by rw [putS_one h2 h3]⟩
theorem Ok.len {most:Nat} {s:St} (h:Ok most s) (hm:most<=1099511627776):s.rc.length<=40:=by
 have h1:=h.le;unfold cnt at h1;have h2:=Zsj s.rc;by_cases h3:s.rc.length<=40
 ·exact h3
 ·exfalso
  have:2^41<=2^s.rc.length:=Nat.pow_le_pow_right (by omega) (by omega);simp at this;omega
theorem Zby {n:Int} {most:Nat} {s:St} {c:Int} (hd:s.done=false) (h0:0<=c) (h1:c<=n+1) (hm:cnt (putS n s c)<=most):putE n most s c=0:=by
 unfold putE;rw [if_neg (by simp [hd]),if_neg (by omega),if_neg (by omega)]
def dec (n:Int) (most:Nat):St->List Int->List Int×Nat
 | s,[]=>if s.done=true then(s.out,0) else([],24)
 | s,c::cs=>if putE n most s c=0 then dec n most (putS n s c) cs else([],if putE n most s c=7 then 25 else putE n most s c)
theorem dec_go {n:Int} {most:Nat} {s:St} {c:Int} {cs:List Int} (h:putE n most s c=0):dec n most s (c::cs)=dec n most (putS n s c) cs:=by
 show(if _ then _ else _)=_;rw [if_pos h]
theorem dec_stop {n:Int} {most:Nat} {s:St} {c:Int} {cs:List Int} (h:putE n most s c≠0):dec n most s (c::cs)=([],if putE n most s c=7 then 25 else putE n most s c):=by
 show(if _ then _ else _)=_;rw [if_neg h]
def DecOk (n most:Int):Prop:=1<=n/\n<=256/\0<=most/\most<=1099511627776
theorem ZjK (n:Int) (most:Nat) (hn:1<=n) (cs:List Int):∀(r:List Int) (out rc:List Int),Bin r->out.length+val (rc++r)<=most ->
  dec n most ⟨out,rc,false⟩ (r++cs)=dec n most ⟨out,rc++r,false⟩ cs
 | [],out,rc,_,_=>by simp
 | c::r,out,rc,hb,hm=>by
  have hc:=hb c (List.mem_cons_self ..);have h2:c<2:=by omega
  have e1:rc++c::r=(rc++[c])++r:=by simp
  have hle:out.length+val (rc++[c])<=most:=by
   rw [e1,Zd2] at hm;omega
  have he:putE n most ⟨out,rc,false⟩ c=0:=Zby rfl (by omega) (by omega) (by rw [putS_part h2];exact hle);rw [List.cons_append,dec_go he,putS_part h2,e1];exact ZjK n most hn cs r out (rc++[c]) (fun x hx=>hb x (List.mem_cons_of_mem _ hx)) (by rw [<-e1];exact hm)
theorem dec_encR (n:Int) (most:Nat) (hn:1<=n):∀(l out:List Int) (z:Nat),(∀p∈l,0<=p/\p<n)->out.length+z+l.length<=most ->
  dec n most ⟨out,[],false⟩ (encR n z l)=(out++List.replicate z 0++l,0)
 | [],out,z,_,hm=>by
  simp only [encR,List.length_nil] at hm ⊢;have hv:=Zhe z;rw [ZjK n most hn _ _ _ _ (bin_rowC z) (by simp [hv];omega)]
  have he:putE n most ⟨out,[]++rowC z,false⟩ (n+1)=0:=Zby rfl (by omega) (by omega) (by
   rw [ZjI (by omega) rfl];unfold cnt;simp [hv];omega)
  rw [dec_go he,putS_end (by omega) rfl];simp [dec,hv]
 | p::t,out,z,hp,hm=>by
  have hp0:=hp p (List.mem_cons_self ..);have hpt:∀q∈t,0<=q/\q<n:=fun q hq=>hp q (List.mem_cons_of_mem _ hq)
  simp only [List.length_cons] at hm;by_cases h:p=0
  ·subst h;show dec n most ⟨out,[],false⟩ (if (0:Int)=0 then encR n (z+1) t else _)=_;rw [if_pos rfl,dec_encR n most hn t out (z+1) hpt (by omega),List.replicate_succ'];simp
  ·show dec n most ⟨out,[],false⟩ (if p=0 then _ else rowC z++(p+1)::encR n 0 t)=_;rw [if_neg h];have hv:=Zhe z;rw [ZjK n most hn _ _ _ _ (bin_rowC z) (by simp [hv];omega)]
   have he:putE n most ⟨out,[]++rowC z,false⟩ (p+1)=0:=Zby rfl (by omega) (by omega) (by
    rw [ZjJ (by omega) (by omega)];unfold cnt;simp [hv];omega)
   rw [dec_go he,putS_one (by omega) (by omega)];have:=dec_encR n most hn t (out++List.replicate (val ([]++rowC z)) 0++[p+1-1]) 0 hpt (by simp [hv];omega);simp only at this ⊢;rw [this];simp [hv]
end ZerM
end
end Go.Proofs.YtnachbjhhpnadaaGreatDoor

import Derived.Test.YtlfpbcadcfaboaaGreatDoorTcC
import Derived.Test.YtlfpbcadcfaboaaGreatDoorTcI
import Derived.Laws.StandIn
import Derived.Laws.CopyRow
import Derived.StillTailTactics
set_option linter.unusedVariables false
set_option linter.unusedSimpArgs false
set_option maxHeartbeats 8000000
set_option maxRecDepth 100000
namespace Go.Proofs.YtlfpbcadcfaboaaGreatDoor
section
open Go.RowKit TabM FreqM HufM
theorem ZnD (a:Option Addr) (len c:Nat) (zs:List Int) (k:Nat) (w:World) (hI:IsInts w (.slice a len c) zs) (hlen:zs.length=len) (hm:len<=1000000) (hc:len<=c) (hc2:c<=9223372036854775807) (hk:k<ng len) :
  Calls Tryz.prog 202 #[.slice a len c,.int .i64 (k:Int)] w fun e w'=>∃v:Value,e=.returned (.tuple #[v,.int .i64 0])/\OwnI w' w.heap.size v (grp zs k)/\Below w.heap.size w w':=by
 have HGR:=zh (ZhA (len:Int) w (by omega) (by omega));rw [Zpu] at HGR;have hkl:50*k<len:=by unfold ng at hk;omega
 obtain⟨b,off,rfl⟩:∃b off,a=some ⟨b,off,none⟩:=by
  obtain⟨a1,cap1,he,hcc⟩:=hI;simp only [Value.slice.injEq] at he;obtain⟨rfl,_,_⟩:=he;obtain⟨b,off,h,_⟩:=hcc 0 _ (List.getElem?_eq_getElem (show 0<zs.length by omega));exact⟨b,off,h⟩
 have HG1:=zh (ZnC b off len c zs k w hI hlen hm hc hc2 hkl);have h0:¬(k:Int)<0:=by omega
 have h1:¬(ng len:Int)<=(k:Int):=by omega
 generalize hN:ng len=N at *;clear hI;go_enter Tryz.func202,Tryz.ntmps202;go_wp2_with fail;refine HGR.out.mono ?_;rintro e w' ⟨rfl,rfl⟩;go_wp2_with fail;refine HG1.out.mono ?_;rintro e w2 ⟨v,rfl,hO,hB⟩;have HO:=zh hO;have HB:=zh hB;clear hO hB;go_wp2_with fail;go_ret2;exact⟨_,rfl,HO.out,HB.out⟩
theorem Zrc:Tryz.zeroCells253=rowA 1548 (fun _=>0):=by kernel_rfl
def cq (zs:List Int) (rows:List (List Int)) (q i:Nat):Int:=((took zs rows (i / 258) q).count ((i % 258:Nat):Int):Int)
def cqm (zs:List Int) (rows:List (List Int)) (q P m i:Nat):Int:=cq zs rows q i+if i / 258=P then(((grp zs q).take m).count ((i % 258:Nat):Int):Int) else 0
theorem Zrd (zs:List Int) (rows:List (List Int)) (q P i:Nat):cqm zs rows q P 0 i=cq zs rows q i:=by
 unfold cqm;rw [List.take_zero];simp
theorem Zsr (zs:List Int) (rows:List (List Int)) (q i:Nat):cqm zs rows q (pickM (grp zs q) rows) (grp zs q).length i=cq zs rows (q+1) i:=by
 unfold cqm cq;rw [List.take_of_length_le (Nat.le_refl _),took,List.count_append];by_cases h:i / 258=pickM (grp zs q) rows
 ·rw [if_pos h,if_pos h.symm];simp
 ·rw [if_neg h,if_neg (fun e=>h e.symm)];simp
theorem Zre (zs:List Int) (rows:List (List Int)) (q P m s:Nat) (hm:m<(grp zs q).length) (hs:(grp zs q).getD m 0=(s:Int)) (hs2:s<258) (i:Nat) :
  cqm zs rows q P (m+1) i=if i=P*258+s then cqm zs rows q P m (P*258+s)+1 else cqm zs rows q P m i:=by
 unfold cqm;have hc:=FreqM.count_take (grp zs q) ((i % 258:Nat):Int) m hm;rw [hs] at hc;by_cases h:i=P*258+s
 ·subst h;have e1:(P*258+s) / 258=P:=by omega
  have e2:(P*258+s) % 258=s:=by omega
  rw [if_pos rfl,e1,if_pos rfl,if_pos rfl];rw [e2] at hc ⊢;rw [hc,if_pos rfl];omega
 ·rw [if_neg h];by_cases h2:i / 258=P
  ·have h3:¬((i % 258:Nat):Int)=(s:Int):=fun e=>h (by omega)
   rw [if_pos h2,if_pos h2,hc,if_neg h3];rfl
  ·rw [if_neg h2,if_neg h2]
theorem Ztu (zs:List Int) (rows:List (List Int)) (q P m i:Nat):0<=cqm zs rows q P m i/\cqm zs rows q P m i<=50*(q:Int)+50:=by
 unfold cqm cq;have h1:=Zj4 zs rows (i / 258) q;have h2:(took zs rows (i / 258) q).count ((i % 258:Nat):Int)<=(took zs rows (i / 258) q).length:=List.count_le_length;have h3:((grp zs q).take m).count ((i % 258:Nat):Int)<=((grp zs q).take m).length:=List.count_le_length;have h4:=Zc7 zs q;rw [List.length_take] at h3;split<;>omega
theorem Zte {w:World} {K:Nat} {zs:List Int} {rows:List (List Int)} {q:Nat} (h:ArrD 253 w K 1548 (cq zs rows q)) {p N:Nat} (hp:p<6) (hN:N<=258) (cap:Nat):IsInts w (.slice (some ⟨K,p*258,none⟩) N cap) (counts (took zs rows p q) N):=by
 refine⟨_,cap,by rw [Zaq],fun i x hx=>⟨K,p*258,rfl,?_⟩⟩;have hi:=(List.getElem?_eq_some_iff.1 hx).1;rw [Zaq] at hi;rw [(h.cell (i:=p*258+i) (by omega)).1];have h2:=Zjo (took zs rows p q) N i hi;rw [List.getD_eq_getElem?_getD,hx] at h2;have h3:x=((took zs rows p q).count (i:Int):Int):=h2;rw [h3];unfold cq;rw [show(p*258+i) / 258=p by omega,show(p*258+i) % 258=i by omega]
theorem Zpv (W:World) (b off n:Nat) (hn:n<=258):(Instr.sliceAt 209 (.pointer (some ⟨b,off,none⟩)) none (some (.int .i64 (n:Int))) none).run Tryz.prog W=.ok (.slice (some ⟨b,off,none⟩) n 258) W:=by
 have e:Tryz.prog.arrayLen 209=258:=by kernel_rfl
 have hs:(sizeOf (Tryz.prog.elem 209)).run Tryz.prog W=.ok 1 W:=by kernel_rfl
 rw [run_sliceAt_array_h W _ ⟨b,off,none⟩ (by kernel_rfl) .i64 (n:Int) (by omega) (by rw [e];omega),hs];simp [Result.andThen,slicedAt,e,Addr.add]
structure RdT (H:Nat) (w0 wr:World) (d:Nat->Int) (vL vP:Value):Prop where
 res:wr.heap[H]?=some (.cells #[.slice none 0 0,.slice none 0 0] 154 (0,0))
 cho:wr.heap[H+1]?=some (.cells #[vL,vP] 154 (0,0))
 cnt:ArrD 253 wr (H+2) 1548 d
 bel:Below H w0 wr
theorem RdT.lt {H:Nat} {w0 wr:World} {d:Nat->Int} {vL vP:Value} (h:RdT H w0 wr d vL vP):H+2<wr.heap.size:=(Array.getElem?_eq_some_iff.1 h.cnt).1
theorem RdT.below {H:Nat} {w0 wr w2:World} {d:Nat->Int} {vL vP:Value} (h:RdT H w0 wr d vL vP) (hb:Below (H+3) wr w2):RdT H w0 w2 d vL vP:=
 ⟨(hb.block _ (by omega)).trans h.res,(hb.block _ (by omega)).trans h.cho,(hb.block _ (by omega)).trans h.cnt,h.bel.trans (hb.mono (by omega))⟩
theorem RdT.cells {H:Nat} {w0 wr:World} {d:Nat->Int} {vL vP:Value} (h:RdT H w0 wr d vL vP):wr.cell? ⟨H+1,0,none⟩=some vL/\wr.cell? ⟨H+1,1,none⟩=some vP/\wr.frozen? ⟨H+1,0,none⟩=false/\wr.frozen? ⟨H+1,1,none⟩=false:=by
 refine⟨?_,?_,frozen_of_row _ _ _ _ _ h.cho,frozen_of_row _ _ _ _ _ h.cho⟩<;>(rw [cell_of_row _ _ _ _ _ _ h.cho];rfl)
theorem RdT.setP {H:Nat} {w0 wr:World} {d:Nat->Int} {vL vP:Value} (h:RdT H w0 wr d vL vP) (v:Value):RdT H w0 (wr.setCell ⟨H+1,1,none⟩ v) d vL v:=
 ⟨(heap_setCell_other _ _ _ _ (by show H≠H+1;omega)).trans h.res,heap_setCell_same wr (H+1) 1 _ _ v h.cho,(heap_setCell_other _ _ _ _ (by show H+2≠H+1;omega)).trans h.cnt,h.bel.setCell (p:=⟨H+1,1,none⟩) (by show H<=H+1;omega) v⟩
theorem RdT.setL {H:Nat} {w0 wr:World} {d:Nat->Int} {vL vP:Value} (h:RdT H w0 wr d vL vP) (v:Value):RdT H w0 (wr.setCell ⟨H+1,0,none⟩ v) d v vP:=
 ⟨(heap_setCell_other _ _ _ _ (by show H≠H+1;omega)).trans h.res,heap_setCell_same wr (H+1) 0 _ _ v h.cho,(heap_setCell_other _ _ _ _ (by show H+2≠H+1;omega)).trans h.cnt,h.bel.setCell (p:=⟨H+1,0,none⟩) (by show H<=H+1;omega) v⟩
theorem RdT.setC {H:Nat} {w0 wr:World} {d:Nat->Int} {vL vP:Value} (h:RdT H w0 wr d vL vP) {i:Nat} (hi:i<1548) (x:Int):RdT H w0 (wr.setCell ⟨H+2,i,none⟩ (.int .i64 x)) (fun k=>if k=i then x else d k) vL vP:=
 ⟨(heap_setCell_other _ _ _ _ (by show H≠H+2;omega)).trans h.res,(heap_setCell_other _ _ _ _ (by show H+1≠H+2;omega)).trans h.cho,h.cnt.set hi x,h.bel.setCell (p:=⟨H+2,i,none⟩) (by show H<=H+2;omega) _⟩
theorem RdT.ext {H:Nat} {w0 wr:World} {d e:Nat->Int} {vL vP:Value} (h:RdT H w0 wr d vL vP) (he:d=e):RdT H w0 wr e vL vP:=he▸h
theorem OwnI.setLow {w:World} {base:Nat} {v:Value} {zs:List Int} (h:OwnI w base v zs) {p:Addr} (hp:p.block<base) (x:Value):OwnI (w.setCell p x) base v zs:=
 h.same (fun k hk=>heap_setCell_other _ _ _ _ (fun e=>by have:=(h.lt k hk).1;omega))
theorem RdT.drew {H:Nat} {w0 wr:World} {d:Nat->Int} {vL vP:Value} (h:RdT H w0 wr d vL vP):RdT H w0 wr.drew d vL vP:=⟨h.res,h.cho,h.cnt,h.bel.drew⟩
def Kept (B:Nat) (w:World) (vL vP:Value) (gs:List (List Int)) (ps:List Int):Prop:=
 ∀W:World,(∀k,B<=k->k<w.heap.size->W.heap[k]?=w.heap[k]?)->w.heap.size<=W.heap.size->IsRR W vL gs/\IsInts W vP ps
theorem Kept.now {B:Nat} {w:World} {vL vP:Value} {gs:List (List Int)} {ps:List Int} (h:Kept B w vL vP gs ps):IsRR w vL gs/\IsInts w vP ps:=h w (fun _ _ _=>rfl) (Nat.le_refl _)
theorem ZlQ:(Tryz.prog.info? 154).map (·.size)=some 2:=by kernel_rfl
theorem Zfq (a b:Option Addr) (m n c d:Nat):(#[Value.slice a m c,Value.slice b n d]:Array Value).all (·.oneCell')=true:=by simp [Value.oneCell']
theorem RdT.start (w:World) (zs:List Int) (rows:List (List Int)):RdT w.heap.size w (((w.alloc (.cells #[.slice none 0 0,.slice none 0 0] 154)).alloc (.cells #[.slice none 0 0,.slice none 0 0] 154)).alloc (.cells Tryz.zeroCells253 253)) (cq zs rows 0) (.slice none 0 0) (.slice none 0 0):=by
 have s1:(w.alloc (.cells #[.slice none 0 0,.slice none 0 0] 154)).heap.size=w.heap.size+1:=by simp
 have s2:((w.alloc (.cells #[.slice none 0 0,.slice none 0 0] 154)).alloc (.cells #[.slice none 0 0,.slice none 0 0] 154)).heap.size=w.heap.size+2:=by simp
 have h1:=heap_alloc_new w (.cells #[.slice none 0 0,.slice none 0 0] 154);have h2:=heap_alloc_new (w.alloc (.cells #[.slice none 0 0,.slice none 0 0] 154)) (.cells #[.slice none 0 0,.slice none 0 0] 154);have h3:=heap_alloc_new ((w.alloc (.cells #[.slice none 0 0,.slice none 0 0] 154)).alloc (.cells #[.slice none 0 0,.slice none 0 0] 154)) (.cells Tryz.zeroCells253 253);rw [s1] at h2;rw [s2] at h3;refine⟨(Zam (by rw [s2];omega)).trans ((Zam (by rw [s1];omega)).trans h1),(Zam (by rw [s2];omega)).trans h2,?_,(((Below.refl _ _).alloc (Nat.le_refl _) _).alloc (by rw [s1];omega) _).alloc (by rw [s2];omega) _⟩;unfold ArrD;rw [h3,Zrc];rfl
theorem ZlR (a:Option Addr) (len c:Nat) (zs:List Int) (N:Nat) (vr:Value) (rows:List (List Int)) (w:World) (hI:IsInts w (.slice a len c) zs) (hlen:zs.length=len) (hz:len<=1000) (hc:len<=c) (hc2:c<=9223372036854775807)
  (hr:IsRR w vr rows) (hsy:Syms zs (N:Int)) (hok:TabOk N rows) (h3:3<=N) (h258:N<=258) :
  Calls Tryz.prog 169 #[.slice a len c,.int .i64 (N:Int),vr] w fun e w'=>∃(vL vP:Value),e=.returned (.agg #[vL,vP])/\Kept w.heap.size w' vL vP (roundM zs N rows) (picksM zs rows (ng zs.length))/\Below w.heap.size w w':=by
 have HV:=zh hI;have HR:=zh hr;have HSY:=zh hsy;have HOK:=zh hok;obtain⟨hl2,hl6,_⟩:=hok;obtain⟨ar,cr,rfl,_⟩:=hr;obtain⟨T,hT⟩:∃T,rows.length=T:=⟨_,rfl⟩
 have HT:=zh hT;rw [hT] at hl2 hl6 HR ⊢;have HLEN:=zh hlen;obtain⟨Q,hQ⟩:∃Q,ng len=Q:=⟨_,rfl⟩
 have HQ:=zh hQ;have hQ20:Q<=20:=by rw [<-hQ];unfold ng;omega
 have HGR:=zh (fun W=>ZhA (len:Int) W (by omega) (by omega));rw [Zpu,hQ] at HGR
 have HRM:Hid (∀p,p<T->(roundM zs N rows).take (p+1)=(roundM zs N rows).take p++[lensF (counts (took zs rows p Q) N)]):=zh (fun p hp=>by
  rw [List.take_succ_eq_append_getElem (by rw [Za1];omega)];unfold roundM;simp only [List.getElem_map,List.getElem_range];rw [hlen,hQ])
 have HCO:Hid (∀p,OfOk (counts (took zs rows p Q) N)):=zh (fun p=>Zir h3 h258 (by have:=Zj4 zs rows p Q;omega));obtain⟨H,hH⟩:∃H,w.heap.size=H:=⟨_,rfl⟩
 have HH:=zh hH;have HS0:=zh (RdT.start w zs rows);rw [hH] at HS0;have HEND:Hid (picksM zs rows (ng zs.length)=picksM zs rows Q):=zh (by rw [hlen,hQ]);clear hI hT hlen hQ hsy;go_enter Tryz.func169,Tryz.ntmps169;go_wp2_with fail;refine(HGR.out _).mono ?_;rintro e w3 ⟨rfl,hw3⟩;rw [hw3] at HS0
 try rw [hw3]
 clear hw3
 try rw [HH.out]
 clear hH;go_wp2_with fail
 go_loopw [21] (fun vq wr=>∃(q:Nat) (vP:Value),vq=.int .i64 (q:Int)/\q<=Q/\RdT H w wr (cq zs rows q) (.slice none 0 0) vP/\OwnI wr (H+3) vP (picksM zs rows q)) (fun vq _=>Q-(intOf vq).toNat)
 case atStart=>exact⟨0,_,rfl,by omega,HS0.out,OwnI.nil _ _⟩
 case round=>
  clear HS0;obtain⟨q,vP,rfl,hq,hT,hO⟩:=hrel;have HTT:=zh hT;have HO:=zh hO;have hHs:=hT.lt;have HV2:Hid (IsInts wr (.slice a len c) zs):=zh (HV.out.below (by rw [HH.out];exact hT.bel));have HR2:Hid (IsRR wr (.slice ar T cr) rows):=zh (HR.out.below (by rw [HH.out];exact hT.bel));clear hT hO;by_cases hqQ:q<Q
  ·have hqi:(q:Int)<(Q:Int):=by omega
   have HGK:=zh (ZnD a len c zs q wr HV2.out HLEN.out (by omega) hc hc2 (by rw [HQ.out];exact hqQ));go_wp2_with fail;refine HGK.out.mono ?_;rintro e w4 ⟨vg,rfl,hO4,hB4⟩;have HB4:=zh hB4;have HT4:=zh (HTT.out.below (hB4.mono (by omega)));have HO4:=zh (HO.out.below hB4);have HG4:Hid (OwnI w4 (H+3) vg (grp zs q)):=zh (hO4.lower (by omega));have HR4:=zh (HR2.out.below hB4);obtain⟨ag,cg,rfl⟩:=hO4.slice;have hgl:=Zc7 zs q;have hPl:=ZmJ (grp zs q) (rows:=rows) (by rw [HT.out];omega);rw [HT.out] at hPl;have HCH:=zh (ZkQ _ _ (grp zs q) rows N w4 HG4.out.ints HR4.out (Zf8 HSY.out q) HOK.out (by omega) h258);have HGS:=zh (Zf8 HSY.out q);obtain⟨P,hP⟩:∃P,pickM (grp zs q) rows=P:=⟨_,rfl⟩
   rw [hP] at HCH hPl;have HPK:Hid (picksM zs rows (q+1)=picksM zs rows q++[(P:Int)]):=zh (by rw [ZdW,hP]);have HCA:Hid (∀i,cqm zs rows q P (grp zs q).length i=cq zs rows (q+1) i):=zh (fun i=>by rw [<-hP];exact Zsr zs rows q i);obtain⟨G,hG⟩:∃G,(grp zs q).length=G:=⟨_,rfl⟩
   have HG:=zh hG;rw [hG] at hgl HCH HCA HG4 ⊢;have hG50:G<=50:=by omega
   clear hO4 hB4 hP hG hgl HTT HO HV2 HR2 HGK;go_wp2_with fail;refine HCH.out.mono ?_;rintro e w5 ⟨rfl,rfl⟩;clear HCH;go_wp2_with fail;obtain⟨wz,rfl⟩:∃wz:World,wz=wr:=⟨_,rfl⟩
   go_loopw [35] (fun vm wr2=>∃(m:Nat),vm=.int .i64 (m:Int)/\m<=G/\RdT H w wr2 (cqm zs rows q P m) (.slice none 0 0) vP/\OwnI wr2 (H+3) vP (picksM zs rows q)/\OwnI wr2 (H+3) (.slice ag G cg) (grp zs q)) (fun vm _=>G-(intOf vm).toNat)
   case atStart=>exact⟨0,rfl,by omega,HT4.out.ext (by funext i;rw [Zrd]),HO4.out,HG4.out⟩
   case round=>
    clear HT4 HO4 HG4;obtain⟨m,rfl,hm,hT,hO,hg⟩:=hrel;have HTT:=zh hT;have HO:=zh hO;have HGG:=zh hg;clear hT hO hg;by_cases hmG:m<G
    ·have hmi:(m:Int)<(G:Int):=by omega
     obtain⟨b1,o1,k1,he1,c1⟩:=HGG.out.ints.cell (show m<(grp zs q).length by rw [HG.out];exact hmG);rw [HG.out] at he1;simp only [Value.slice.injEq] at he1;obtain⟨rfl,he1b,rfl⟩:=he1;clear he1b;have hxr:=HGS.out _ (FreqM.getD_mem (grp zs q) m (by rw [HG.out];exact hmG));obtain⟨s,hs⟩:∃s:Nat,(grp zs q).getD m 0=(s:Int):=⟨((grp zs q).getD m 0).toNat,by omega⟩
     rw [hs] at c1 hxr;have hs258:s<258:=by omega
     have hsuc:=Zre zs rows q P m s (by rw [HG.out];exact hmG) hs hs258;obtain⟨A,hA⟩:∃A,P*258+s=A:=⟨_,rfl⟩
     have hA1548:A<1548:=by omega
     obtain⟨d1,f1⟩:=HTT.out.cnt.cell hA1548;have hbd:=Ztu zs rows q P m A;rw [hA] at hsuc;obtain⟨y,hy⟩:∃y,cqm zs rows q P m A=y:=⟨_,rfl⟩
     rw [hy] at d1 hbd hsuc;have HNX:Hid (RdT H w ((wr.setCell ⟨H+2,A,none⟩ (.int .i64 (y+1))).drew) (cqm zs rows q P (m+1)) (.slice none 0 0) vP):=zh ((HTT.out.setC hA1548 (y+1)).ext (by funext i;rw [hsuc i])).drew;have HO2:Hid (OwnI ((wr.setCell ⟨H+2,A,none⟩ (.int .i64 (y+1))).drew) (H+3) vP (picksM zs rows q)):=zh ((HO.out.setLow (by show H+2<H+3;omega) _).drewN 1);have HG2:Hid (OwnI ((wr.setCell ⟨H+2,A,none⟩ (.int .i64 (y+1))).drew) (H+3) (.slice (some ⟨b1,o1,none⟩) G cg) (grp zs q)):=zh ((HGG.out.setLow (by show H+2<H+3;omega) _).drewN 1);have hP6:(P:Int)<6:=by omega
     have hsi:(s:Int)<258:=by omega
     have hy1:IntKind.i64.wrap (y+1)=y+1:=IntWalk.i64_in _ (by omega);have hA2:P*258+s=A:=hA;clear hs hsuc hy hbd hA hxr;go_wp2_with fail
     go_region
     generalize ((wr.setCell ⟨H+2,A,none⟩ (.int .i64 (y+1))).drew)=w6 at *;clear d1 f1 hy1 hA2;go_wp2_with fail;go_roundw
     case rel=>exact⟨m+1,by go_num,by omega,HNX.out,HO2.out,HG2.out⟩
     case measure=>simp [intOf];omega
    ·have hmG2:m=G:=by omega
     have HT7:Hid (RdT H w wr (cq zs rows (q+1)) (.slice none 0 0) vP):=zh (HTT.out.ext (by funext i;rw [hmG2,HCA.out i]));have hmi:¬(m:Int)<(G:Int):=by omega
     obtain⟨e0,e1,g0,g1⟩:=HT7.out.cells;obtain⟨avP,cvP,rfl⟩:=HO.out.slice;have hpl:=ZaC zs rows q;have HPL:=zh hpl;rw [hpl] at HO HT7 e1 ⊢;have hHs2:=HT7.out.lt;clear hmG2 hpl HTT;go_wp2_with (at_builtin;refine Zaf wr rfl _ _ rfl (H+3) _ (picksM zs rows q) (P:Int) HO.out rfl rfl (by rw [HPL.out];omega) (by omega) ?_);intro v8 w8 hO8 hB8;have HT8:=zh (HT7.out.below hB8);have HO8:Hid (OwnI w8 (H+3) v8 (picksM zs rows (q+1))):=zh (by rw [HPK.out];exact hO8);obtain⟨e0,e1,g0,g1⟩:=HT8.out.cells;have HT9:=zh (HT8.out.setP v8);have HO9:=zh (HO8.out.setLow (p:=⟨H+1,1,none⟩) (by show H+1<H+3;omega) v8);obtain⟨av8,cv8,hv8⟩:=hO8.slice;rw [show(picksM zs rows q++[(P:Int)]).length=q+1 by rw [List.length_append,HPL.out];rfl] at hv8;subst hv8;clear hO8 hB8;go_wp2_with fail;go_roundw
     case rel=>exact⟨q+1,_,by go_num,by omega,HT9.out,HO9.out⟩
     case measure=>simp [intOf];omega
  ·obtain rfl:q=Q:=by omega
   have hqi:¬(q:Int)<(q:Int):=by omega
   obtain⟨avP,cvP,hvP⟩:=HO.out.slice;subst hvP;go_wp2_with fail;obtain⟨wz,rfl⟩:∃wz:World,wz=wr:=⟨_,rfl⟩
   go_loopw [57] (fun vp wr2=>∃(p bn:Nat) (vL:Value),vp=.int .i64 (p:Int)/\p<=T/\RdT H w wr2 (cq zs rows q) vL (.slice avP (picksM zs rows q).length cvP)/\OwnI wr2 (H+3) (.slice avP (picksM zs rows q).length cvP) (picksM zs rows q)/\OwnRI wr2 (H+3) bn vL ((roundM zs N rows).take p)/\(∀k,(Value.slice avP (picksM zs rows q).length cvP).ownBlock=some k->vL.ownBlock≠some k)) (fun vp _=>T-(intOf vp).toNat)
   case atStart=>exact⟨0,H+3,.slice none 0 0,rfl,by omega,HTT.out,HO.out,OwnRI.nil _ _ (by omega),fun k _ h=>by simp [Value.ownBlock] at h⟩
   case round=>
    clear HTT HO HV2 HR2;obtain⟨p,bn,vL,rfl,hp,hT,hO,hL,hD⟩:=hrel;have HD:=zh hD;clear hD;have HTT:=zh hT;have HO:=zh hO;have HL:=zh hL;have hHs2:=hT.lt;have hbn:=hL.2.1;have hbn3:=hL.1;obtain⟨aL,cL,rfl⟩:=hL.slice;obtain⟨e0,e1,g0,g1⟩:=hT.cells;have hll:((roundM zs N rows).take p).length=p:=by rw [List.length_take,Za1,HT.out];omega
    have HLL:=zh hll;rw [hll] at HL HTT e0 HD;clear hT hO hL hll;by_cases hpT:p<T
    ·have hpi:(p:Int)<(T:Int):=by omega
     have hp6:(p:Int)<6:=by omega
     have HIC:=zh (Zte HTT.out.cnt (show p<6 by omega) h258 258);have hsl:=fun W=>Zpv W (H+2) (p*258) N h258
     have HLO:=zh (Zs8 _ _ wr HIC.out (by rw [Zaq];omega));have HRS:=zh (HRM.out p hpT);have HCC:=zh (HCO.out p);have hN258:(N:Int)<=258:=by omega
     go_wp2_with fail;refine HLO.out.mono ?_;rintro e w4 ⟨r,rs,err,rfl,hI4,hp4,hB4,ho4⟩;obtain⟨hrs,rfl⟩:=OfP.fun hp4 HCC.out;rw [<-hrs] at HRS
     have hrl:rs.length=N:=by
      have:=(Zcl HCC.out).1;rw [<-hrs,Zaq] at this;exact this
     have HI4:=zh hI4
     have hul:Hid (∀k,r.ownBlock=some k->bn<=k/\k<w4.heap.size):=zh (fun k hk=>by
      have h5:=ho4 k hk;refine⟨by omega,?_⟩;obtain⟨b5,o5,c5,he5,hc5⟩:=hI4.cell (k:=0) (by omega);rw [he5] at hk;simp only [Value.ownBlock,Option.some.injEq] at hk;subst hk;exact ZaE hc5)
     obtain⟨a4,c4,rfl,_⟩:=hI4;have HT4:=zh (HTT.out.below (hB4.mono (by omega)));have HO4:=zh (HO.out.below hB4);have HL4:=zh (HL.out.below (hB4.mono hbn));obtain⟨x0,x1,y0,y1⟩:=HT4.out.cells;have hLl:=HLL.out;have HLB:Hid (((roundM zs N rows).take p).length+1<=1099511627776):=zh (by omega);clear hp4 hB4 ho4 hrs hrl hsl HLO HIC hLl;go_wp2_with (at_builtin;go_loud (refine Zbp w4 rfl _ _ rfl (H+3) bn _ _ _ rs HL4.out HI4.out hul.out rfl rfl HLB.out ?_));intro v8 w8 hL8 hB8 hk8 hv8;have HT8:=zh (HT4.out.below hB8);have HO8:Hid (OwnI w8 (H+3) (.slice avP (picksM zs rows q).length cvP) (picksM zs rows q)):=zh (HO4.out.same (fun k hk=>hk8 k (HO4.out.lt k hk).2 (HD.out k hk)))
     have HD8:Hid (∀k,(Value.slice avP (picksM zs rows q).length cvP).ownBlock=some k->v8.ownBlock≠some k):=zh (fun k hk e=>by
      rcases hv8 k e with h|h
      ·exact HD.out k hk h
      ·have:=(HO4.out.lt k hk).2;omega)
     obtain⟨x0,x1,y0,y1⟩:=HT8.out.cells;have HT9:=zh (HT8.out.setL v8);have HO9:=zh (HO8.out.setLow (p:=⟨H+1,0,none⟩) (by show H+1<H+3;omega) v8)
     have HL9:Hid (OwnRI (w8.setCell ⟨H+1,0,none⟩ v8) (H+3) w8.heap.size v8 ((roundM zs N rows).take (p+1))):=zh (by
      rw [HRS.out];exact hL8.same (fun k hk _=>heap_setCell_other _ _ _ _ (by show k≠H+1;omega)) (by simp))
     obtain⟨a8,c8,hv9⟩:=hL8.slice;rw [show((roundM zs N rows).take p++[rs]).length=p+1 by rw [List.length_append,HLL.out];rfl] at hv9;subst hv9;clear hL8 hB8 hk8 hv8;go_wp2_with fail;go_roundw
     case rel=>exact⟨p+1,w8.heap.size,_,by go_num,by omega,HT9.out,HO9.out,HL9.out,HD8.out⟩
     case measure=>simp [intOf];omega
    ·obtain rfl:p=T:=by omega
     have hpi:¬(p:Int)<(p:Int):=by omega
     have hall:(roundM zs N rows).take p=roundM zs N rows:=List.take_of_length_le (by rw [Za1,HT.out];exact Nat.le_refl _);rw [hall] at HL
     have HKK:Hid (Kept w.heap.size (wr.setRow H #[.slice aL p cL,.slice avP (picksM zs rows q).length cvP]) (.slice aL p cL) (.slice avP (picksM zs rows q).length cvP) (roundM zs N rows) (picksM zs rows (ng zs.length))):=zh (by
      intro W hW hs;rw [HH.out] at hW;rw [Zat] at hW hs;refine⟨(HL.out.same (fun k hk hk2=>(hW k (by omega) (by omega)).trans (setRow_other wr H k _ (by omega))) hs).rr,?_⟩;rw [HEND.out];exact(HO.out.same (fun k hk=>by have h5:=HO.out.lt k hk;exact(hW k (by omega) h5.2).trans (setRow_other wr H k _ (by omega)))).ints)
     have HBB:Hid (Below H w (wr.setRow H #[.slice aL p cL,.slice avP (picksM zs rows q).length cvP])):=zh (Zal HTT.out.bel (Nat.le_refl _) _);have hcho:=HTT.out.cho;have hres:=HTT.out.res;have hi:=ZlQ;have hu:=Tryz.underlying154;obtain⟨M,hM⟩:∃M,(picksM zs rows q).length=M:=⟨_,rfl⟩
     rw [hM] at hcho HKK HBB ⊢;clear hM hall;go_wp2_with (first|(refine wpList_load_row rfl 154 _ rfl (H+1) rfl 154 #[.slice aL p cL,.slice avP M cvP] (0,0) _ hcho hu rfl hi ?_)|(refine wpList_store_row rfl 154 _ _ rfl H #[.slice aL p cL,.slice avP M cvP] rfl rfl 154 _ hres hi rfl (Zfq _ _ _ _ _ _) ?_));refine bodyPost_ret (v:=.agg #[.slice aL p cL,.slice avP M cvP]) (results_cell_row rfl _ _ H 154 _ (0,0) _ rfl (setRow_heap _ _ _ _ _ _ hres) hu rfl hi) rfl ⟨_,_,rfl,HKK.out,by rw [HH.out];exact HBB.out⟩
theorem Zjw {P:Program} {fn:Func} {p q:Tmp} {ty:TypeId} (h:fn.results=#[.cell p ty,.tmp q]) (tmps:Array Value) (w:World) (a:Addr) (cs:Array Value) (e:Value)
  (hp:tmps.getD p undef=.pointer (some a)) (hq:tmps.getD q undef=e) (hl:(loadVar ty a).run P w=.ok (.agg cs) w) :
  (results fn tmps).run P w=.ok (.tuple #[.agg cs,e]) w:=by
 have hp':tmps[p]?.getD undef=.pointer (some a):=by simpa using hp
 have hq':tmps[q]?.getD undef=e:=by simpa using hq
 simp [results,h,hp',hq',asAddr,hl]
theorem Zpw (w:World) (b:Nat) (x y:Value) (h:w.heap[b]?=some (.cells #[x,y] 154 (0,0))):(loadVar 154 ⟨b,0,none⟩).run Tryz.prog w=.ok (.agg #[x,y]) w:=
 run_loadVar_row (P:=Tryz.prog) w b 154 154 #[x,y] (0,0) _ h Tryz.underlying154 rfl ZlQ
theorem Zpx (w:World):(w.alloc (.cells #[.slice none 0 0,.slice none 0 0] 154)).heap[w.heap.size]?=some (.cells #[.slice none 0 0,.slice none 0 0] 154 (0,0)):=heap_alloc_new _ _
def OfI (H C:Nat) (w wr:World) (zs:List Int) (N i:Nat) (vL vP:Value):Prop:=
 wr.heap[H]?=some (.cells #[.slice none 0 0,.slice none 0 0] 154 (0,0))/\wr.heap[C]?=some (.cells #[vL,vP] 154 (0,0))/\IsRR wr vL (rnd zs N i)/\Below H w wr /\
 (1<=i->∀W:World,(∀k,C<k->k<wr.heap.size->W.heap[k]?=wr.heap[k]?)->wr.heap.size<=W.heap.size->IsRR W vL (rnd zs N i)/\IsInts W vP (picksM zs (rnd zs N (i-1)) (ng zs.length)))
theorem Zrf (a:Option Addr) (len c:Nat) (zs:List Int) (N:Nat) (w:World) (hI:IsInts w (.slice a len c) zs) (hlen:zs.length=len) (hz:len<=1000) (hc:len<=c) (hc2:c<=9223372036854775807) (hB:Bnds w)
  (hsy:Syms zs (N:Int)) (h1:1<=len) (h3:3<=N) (h258:N<=258) :
  Calls Tryz.prog 140 #[.slice a len c,.int .i64 (N:Int)] w fun e w'=>∃(vL vP:Value),e=.returned (.tuple #[.agg #[vL,vP],.int .i64 0])/\(∀W:World,(∀k,w.heap.size<=k->k<w'.heap.size->W.heap[k]?=w'.heap[k]?)->w'.heap.size<=W.heap.size->IsRR W vL (rnd zs N 4)/\IsInts W vP (picksM zs (rnd zs N 3) (ng zs.length)))/\Below w.heap.size w w':=by
 have h0:=Zpx w;have hB1:=(Below.refl w.heap.size w).alloc (Nat.le_refl _) (.cells #[.slice none 0 0,.slice none 0 0] 154);have hI1:=hI.below hB1;have HCN:=zh (Znp _ zs (N:Int) _ hI1 (by omega));have HI1:=zh hI1;have HBN1:=zh (hB.below hB1);have HB1:=zh hB1;have HSY:=zh hsy;have hi:=ZlQ;have hu:=Tryz.underlying154;have HLEN:=zh hlen;have HOKC:Hid (CntOk zs (N:Int)):=zh ⟨by omega,by omega,hsy⟩;have HCC:Hid (Nums (counts zs N)/\(counts zs N).length=N):=zh ⟨fun x hx=>by have:=ZdV zs N x hx;omega,Zaq zs N⟩;have HGR:=zh (fun W=>ZhA (len:Int) W (by omega) (by omega));rw [Zpu] at HGR;have hng:ng len<=20:=by unfold ng;omega
 have HRO:Hid (∀i,TabOk N (rnd zs N i)):=zh (fun i=>Zjv h3 h258 (by omega) i);obtain⟨Q,hQ⟩:∃Q,ng len=Q:=⟨_,rfl⟩
 rw [hQ] at HGR hng;have hs1:(w.alloc (.cells #[.slice none 0 0,.slice none 0 0] 154)).heap.size=w.heap.size+1:=by simp
 have HS1:=zh hs1;have HI0:=zh hI;clear hB1 hI1 hs1 hlen hsy hQ hB hI;go_enter Tryz.func140,Tryz.ntmps140;go_wp2_with fail;generalize hw1:w.alloc (.cells #[.slice none 0 0,.slice none 0 0] 154)=w1 at *;clear hw1;refine HCN.out.mono ?_;rintro e w2 ⟨u,ys,err,rfl,hI2,hB2,hP2⟩;rcases hP2 with⟨hno,_⟩|⟨_,rfl,rfl⟩
 ·exact absurd HOKC.out hno
 rw [Int.toNat_natCast] at hI2;have hg2:w2.heap[w.heap.size]?=some (.cells #[.slice none 0 0,.slice none 0 0] 154 (0,0)):=(hB2.block _ (by rw [HS1.out];omega)).trans h0;have HG2:=zh hg2;have HB2:Hid (Below w.heap.size w w2):=zh (HB1.out.trans (hB2.mono HB1.out.size));have HI2:=zh (HI1.out.below hB2);have HBN2:=zh (HBN1.out.below hB2);have HC2:=zh hI2;have hlni:¬(len:Int)=0:=by omega
 have hlnb:((len:Int)==0)=false:=by rw [beq_eq_false_iff_ne];exact hlni
 clear hI2 hB2 h0 HCN hg2 HI1 HB1 HBN1;go_wp2_with fail;refine(HGR.out _).mono ?_;rintro e w3 ⟨rfl,rfl⟩;have hQi:¬(32767:Int)<(Q:Int):=by omega
 have HF:=zh (ZlP u (counts zs N) (len:Int) w2 HC2.out HBN2.out HCC.out.1 (by rw [HCC.out.2];exact h3) (by rw [HCC.out.2];exact h258) (by omega) (by omega));go_wp2_with fail;refine HF.out.mono ?_;rintro e w4 ⟨vL0,rfl,hR4,hB4⟩;have hR4':=hR4;obtain⟨aL,cL,rfl,_⟩:=hR4'
 have hR5:IsRR w4 (.slice aL (firstM (counts zs N) (len:Int)).length cL) (rnd zs N 0):=by
  unfold rnd;rw [HLEN.out];exact hR4
 obtain⟨T,hT⟩:∃T,(firstM (counts zs N) (len:Int)).length=T:=⟨_,rfl⟩
 rw [hT] at hR5 ⊢;obtain⟨C,hC⟩:∃C,w4.heap.size=C:=⟨_,rfl⟩
 obtain⟨H,hH⟩:∃H,w.heap.size=H:=⟨_,rfl⟩
 have hHC:H<C:=by
  have h5:=(Array.getElem?_eq_some_iff.1 HG2.out).1;have h6:=hB4.size;omega
 have hB24:=hB4
 have HS:Hid (OfI H C w (w4.alloc (.cells #[.slice aL T cL,.slice none 0 0] 154)) zs N 0 (.slice aL T cL) (.slice none 0 0)):=zh (by
  have h5:=(Array.getElem?_eq_some_iff.1 HG2.out).1;refine⟨?_,?_,hR5.below ((Below.refl _ _).alloc (Nat.le_refl _) _),?_,fun h=>by omega⟩
  ·rw [<-hH];exact(Zam (by omega)).trans ((hB24.block _ h5).trans HG2.out)
  ·rw [<-hC];exact heap_alloc_new w4 _
  ·rw [<-hH];exact(HB2.out.trans (hB24.mono HB2.out.size)).alloc (by have:=HB2.out.size;have:=hB24.size;omega) _)
 have HHH:=zh hH;have HCX:=zh hC;clear hR4 hR5 hB4 hB24 hT hC hH HG2 HB2 HI2 HBN2 HC2 HF;go_wp2_with fail;rw [HCX.out];generalize w4.alloc (.cells #[.slice aL T cL,.slice none 0 0] 154)=w5 at *
 try rw [HHH.out]
 go_loopw [33] (fun vi wr=>∃(i:Nat) (vL vP:Value),vi=.int .i64 (i:Int)/\i<=4/\OfI H C w wr zs N i vL vP) (fun vi _=>4-(intOf vi).toNat)
 case atStart=>exact⟨0,_,_,rfl,by omega,HS.out⟩
 case round=>
  clear HS;obtain⟨i,vL,vP,rfl,hi4,hO⟩:=hrel;have HO:=zh hO;obtain⟨k1,k2,k3,k4,k5⟩:=hO;have hCl:=(Array.getElem?_eq_some_iff.1 k2).1;have r0:wr.cell? ⟨C,0,none⟩=some vL:=by rw [cell_of_row _ _ _ _ _ _ k2];rfl
  by_cases hlt:i<4
  ·have hii:(i:Int)<4:=by omega
   have HR:=zh (ZlR a len c zs N vL (rnd zs N i) wr (HI0.out.below (by rw [HHH.out];exact k4)) HLEN.out hz hc hc2 k3 HSY.out (HRO.out i) h3 h258);obtain⟨aL2,cL2,rfl,_⟩:=k3;clear k1 k2 k4 k5;go_wp2_with fail;refine HR.out.mono ?_;rintro e w6 ⟨vL6,vP6,rfl,hK6,hB6⟩;obtain⟨hR6,hP6⟩:=hK6.now;obtain⟨aL6,cL6,rfl,_⟩:=hR6;obtain⟨aP6,cP6,rfl,_⟩:=hP6;obtain⟨k1,k2,k3,k4,k5⟩:=HO.out;have hg6:=(hB6.block C hCl).trans k2;have hr6:=(hB6.block H (by omega)).trans k1;obtain⟨M1,hM1⟩:∃M,(roundM zs N (rnd zs N i)).length=M:=⟨_,rfl⟩
   obtain⟨M2,hM2⟩:∃M,(picksM zs (rnd zs N i) (ng zs.length)).length=M:=⟨_,rfl⟩
   rw [hM1,hM2] at hK6 ⊢
   have HNX:Hid (OfI H C w (w6.setRow C #[.slice aL6 M1 cL6,.slice aP6 M2 cP6]) zs N (i+1) (.slice aL6 M1 cL6) (.slice aP6 M2 cP6)):=zh (by
    have hke:∀W:World,(∀k,C<k->k<(w6.setRow C #[.slice aL6 M1 cL6,.slice aP6 M2 cP6]).heap.size->W.heap[k]?=(w6.setRow C #[.slice aL6 M1 cL6,.slice aP6 M2 cP6]).heap[k]?)->(w6.setRow C #[.slice aL6 M1 cL6,.slice aP6 M2 cP6]).heap.size<=W.heap.size->IsRR W (.slice aL6 M1 cL6) (rnd zs N (i+1))/\IsInts W (.slice aP6 M2 cP6) (picksM zs (rnd zs N i) (ng zs.length)):=fun W hW hs=>by
     rw [Zat] at hW hs;exact hK6 W (fun k hk hk2=>(hW k (by omega) hk2).trans (setRow_other w6 C k _ (by omega))) hs
    exact⟨(setRow_other w6 C H _ (by omega)).trans hr6,setRow_heap w6 C _ _ _ (0,0) hg6,(hke _ (fun _ _ _=>rfl) (Nat.le_refl _)).1,Zal (k4.trans (hB6.mono (by omega))) (by omega) _,fun _=>hke⟩)
   clear k1 k2 k3 k4 k5 hK6 hB6 hr6 hM1 hM2 HR;go_wp2_with (refine wpList_store_row rfl 154 _ _ rfl C #[.slice aL6 M1 cL6,.slice aP6 M2 cP6] rfl rfl 154 _ hg6 hi rfl (Zfq _ _ _ _ _ _) ?_);go_roundw
   case rel=>exact⟨i+1,_,_,by go_num,by omega,HNX.out⟩
   case measure=>simp [intOf];omega
  ·obtain rfl:i=4:=by omega
   obtain⟨hR4,hP4⟩:=k5 (by omega) wr (fun _ _ _=>rfl) (Nat.le_refl _);obtain⟨aL6,cL6,rfl,_⟩:=hR4;obtain⟨aP6,cP6,rfl,_⟩:=hP4;obtain⟨M1,hM1⟩:∃M,(rnd zs N 4).length=M:=⟨_,rfl⟩
   obtain⟨M2,hM2⟩:∃M,(picksM zs (rnd zs N (4-1)) (ng zs.length)).length=M:=⟨_,rfl⟩
   rw [hM1,hM2] at k2 k5;rw [hM1] at r0 k3;have HF:Hid (∀W:World,(∀k,H<=k->k<(wr.setRow H #[.slice aL6 M1 cL6,.slice aP6 M2 cP6]).heap.size->W.heap[k]?=(wr.setRow H #[.slice aL6 M1 cL6,.slice aP6 M2 cP6]).heap[k]?)->(wr.setRow H #[.slice aL6 M1 cL6,.slice aP6 M2 cP6]).heap.size<=W.heap.size->IsRR W (.slice aL6 M1 cL6) (rnd zs N 4)/\IsInts W (.slice aP6 M2 cP6) (picksM zs (rnd zs N 3) (ng zs.length))):=zh (fun W hW hs=>k5 (by omega) W (fun k hk hk2=>(hW k (by omega) (by rw [Zat];exact hk2)).trans (setRow_other wr H k _ (by omega))) (by rw [Zat] at hs;exact hs));have HBB:Hid (Below H w (wr.setRow H #[.slice aL6 M1 cL6,.slice aP6 M2 cP6])):=zh (Zal k4 (Nat.le_refl _) _);clear k3 k4 k5 hM1 hM2 HO;go_wp2_with (first|(refine wpList_load_row rfl 154 _ rfl C rfl 154 #[.slice aL6 M1 cL6,.slice aP6 M2 cP6] (0,0) _ k2 hu rfl hi ?_)|(refine wpList_store_row rfl 154 _ _ rfl H #[.slice aL6 M1 cL6,.slice aP6 M2 cP6] rfl rfl 154 _ k1 hi rfl (Zfq _ _ _ _ _ _) ?_));exact bodyPost_ret (v:=.tuple #[.agg #[.slice aL6 M1 cL6,.slice aP6 M2 cP6],.int .i64 0]) (Zjw rfl _ _ ⟨H,0,none⟩ _ _ rfl rfl (Zpw _ _ _ _ (setRow_heap _ _ _ _ _ _ k1))) rfl ⟨_,_,rfl,by rw [HHH.out];exact HF.out,by rw [HHH.out];exact HBB.out⟩
end
section
open Go.RowKit
def ObjF (n:Nat) (T:TypeId) (w:World) (b:Nat) (F:Nat->Value):Prop:=w.heap[b]?=some (.cells (cellsF n F) T (0,0))
theorem ObjF.cell {n:Nat} {T:TypeId} {w:World} {b:Nat} {F:Nat->Value} (h:ObjF n T w b F) {i:Nat} (hi:i<n):w.cell? ⟨b,i,none⟩=some (F i)/\w.frozen? ⟨b,i,none⟩=false:=
 ⟨(cell_of_row _ _ _ _ _ _ h).trans (Zc6 n F hi),frozen_of_row _ _ _ _ _ h⟩
theorem ObjF.set {n:Nat} {T:TypeId} {w:World} {b:Nat} {F:Nat->Value} (h:ObjF n T w b F) (i:Nat) (x:Value):ObjF n T (w.setCell ⟨b,i,none⟩ x) b (upd F i x):=by
 have:=heap_setCell_same w b i _ _ x h;rw [ZdG] at this;exact this
theorem ObjF.lt {n:Nat} {T:TypeId} {w:World} {b:Nat} {F:Nat->Value} (h:ObjF n T w b F):b<w.heap.size:=(Array.getElem?_eq_some_iff.1 h).1
theorem ObjF.other {n:Nat} {T:TypeId} {w w':World} {b:Nat} {F:Nat->Value} (h:ObjF n T w b F) {S:Nat->Prop} (ht:Touch S w w') (hS:¬S b):ObjF n T w' b F:=
 (ht.block b h.lt hS).trans h
theorem ObjF.drewN {n:Nat} {T:TypeId} {w:World} {b:Nat} {F:Nat->Value} (h:ObjF n T w b F) (m:Nat):ObjF n T (w.drewN m) b F:=h
theorem Zit (n:Nat) (F:Nat->Value):(cellsF n F).size=n:=by simp [cellsF]
theorem ZhM {n:Nat} {F G:Nat->Value} (h:∀k,k<n->F k=G k):cellsF n F=cellsF n G:=by
 unfold cellsF;congr 1;exact List.map_congr_left (fun k hk=>h k (List.mem_range.1 hk))
theorem ObjF.ext {n:Nat} {T:TypeId} {w:World} {b:Nat} {F G:Nat->Value} (h:ObjF n T w b F) (e:∀k,k<n->F k=G k):ObjF n T w b G:=by
 unfold ObjF;rw [<-ZhM e];exact h
theorem ZlS (n:Nat) (F:Nat->Value) (o:Nat) (vs:List Value) (h:o+vs.length<=n) :
  ((cellsF n F).toList.take o++vs++(cellsF n F).toList.drop (o+vs.length)).toArray=cellsF n (fun k=>if k<o then F k else if k<o+vs.length then vs.getD (k-o) (F k) else F k):=by
 apply Array.toList_inj.1;show(List.take o ((List.range n).map F)++vs++List.drop (o+vs.length) ((List.range n).map F))=(List.range n).map _;apply List.ext_getElem
 ·simp;omega
 ·intro j h1 h2;have hjn:j<n:=by simpa using h2
  simp only [List.getElem_map,List.getElem_range];by_cases c1:j<o
  ·rw [if_pos c1,List.getElem_append_left (by simp;omega),List.getElem_append_left (by simp;omega)];simp
  ·rw [if_neg c1];by_cases c2:j<o+vs.length
   ·rw [if_pos c2,List.getElem_append_left (by simp;omega),List.getElem_append_right (by simp;omega)];have:min o n=o:=by omega
    simp only [List.length_take,List.length_map,List.length_range,this];rw [List.getD_eq_getElem?_getD,List.getElem?_eq_getElem (by omega)];rfl
   ·rw [if_neg c2,List.getElem_append_right (by simp;omega)];simp only [List.getElem_drop,List.getElem_map,List.getElem_range];congr 1;simp;omega
end
section
open Go.RowKit PkM BitM
theorem ZmS (n:Int) (r:Bool) (w:World) (hr:r=true↔2<=n/\n<=6):Calls Tryz.prog 170 #[.int .i64 n] w fun e w'=>e=.returned (.bool r)/\w'=w:=by
 by_cases h1:2<=n
 ·by_cases h2:n<=6
  ·obtain rfl:r=true:=hr.2 ⟨h1,h2⟩;clear hr;go_enter Tryz.func170,Tryz.ntmps170;go_wp2_with fail;go_ret;exact⟨rfl,rfl⟩
  ·obtain rfl:r=false:=by rw [Bool.eq_false_iff];intro h;exact h2 (hr.1 h).2
   clear hr;go_enter Tryz.func170,Tryz.ntmps170;go_wp2_with fail;go_ret;exact⟨rfl,rfl⟩
 ·obtain rfl:r=false:=by rw [Bool.eq_false_iff];intro h;exact h1 (hr.1 h).1
  clear hr;go_enter Tryz.func170,Tryz.ntmps170;go_wp2_with fail;go_ret;exact⟨rfl,rfl⟩
theorem ZrR {l:List Int} {k:Nat} (h:k<l.length):l.getD k 0∈l:=by
 rw [List.getD_eq_getElem?_getD,List.getElem?_eq_getElem h];exact List.getElem_mem h
theorem Ztf {zs:List Int} {P:Int->Prop} (h:∀j,j<zs.length->P (zs.getD j 0)):∀z∈zs,P z:=by
 intro z hz;obtain⟨i,hi,rfl⟩:=List.mem_iff_getElem.1 hz;have:=h i hi
 rwa [List.getD_eq_getElem?_getD,List.getElem?_eq_getElem hi] at this
theorem Zrg (v:Value) (zs:List Int) (t:Int) (r:Bool) (w:World) (hv:IsInts w v zs) (hr:r=true↔MayI zs t) (hz:zs.length<=9223372036854775807) :
  Calls Tryz.prog 141 #[v,.int .i64 t] w fun e w'=>e=.returned (.bool r)/\w'=w:=by
 have HV:=zh hv;have HRR:=zh hr;obtain⟨ad,cap,rfl,_⟩:=hv;clear hr;go_enter Tryz.func141,Tryz.ntmps141;go_wp2_with fail
 go_loopw [9] (fun i wr=>∃k:Nat,k<=zs.length/\i=.int .i64 k/\wr=w/\∀j,j<k->0<=zs.getD j 0/\zs.getD j 0<t) (fun i _=>zs.length-(intOf i).toNat)
 case atStart=>exact⟨0,by omega,rfl,rfl,fun j hj=>by omega⟩
 case round=>
  obtain⟨k,hk,rfl,rfl,hA⟩:=hrel;have HA:=zh hA;clear hA;by_cases hlk:k<zs.length
  ·have hki:(k:Int)<(zs.length:Int):=by omega
   obtain⟨b1,o1,k1,he1,c1⟩:=HV.out.cell hlk;simp only [Value.slice.injEq] at he1;obtain⟨rfl,_,rfl⟩:=he1;obtain⟨x,hx⟩:∃x,zs.getD k 0=x:=⟨_,rfl⟩
   rw [hx] at c1;have HX:=zh hx;clear hx;by_cases h0:x<0
   ·have hrf:r=false:=by
     rw [Bool.eq_false_iff,Ne,HRR.out];intro h;have:=h.2.2.2.2 _ (ZrR hlk);rw [HX.out] at this;omega
    subst hrf;go_wp2_with fail;go_ret;exact⟨rfl,rfl⟩
   ·by_cases h1:t<=x
    ·have hrf:r=false:=by
      rw [Bool.eq_false_iff,Ne,HRR.out];intro h;have:=h.2.2.2.2 _ (ZrR hlk);rw [HX.out] at this;omega
     subst hrf;go_wp2_with fail;go_ret;exact⟨rfl,rfl⟩
    ·go_wp2_with fail;go_roundw
     case rel=>exact⟨k+1,by omega,by go_num,(by first|rfl|trivial),fun j hj=>by
      by_cases e:j=k
      ·subst e;rw [HX.out];omega
      ·exact HA.out j (by omega)⟩
     case measure=>simp [intOf];omega
  ·have hki:¬(k:Int)<(zs.length:Int):=by omega
   have hw:Hid (∀z∈zs,0<=z/\z<t):=zh (Ztf (P:=fun z=>0<=z/\z<t) (fun j hj=>HA.out j (by omega)));by_cases ht:2<=t/\t<=6
   ·have HL:=zh (fun W=>ZmS t true W ⟨fun _=>ht,fun _=>rfl⟩);by_cases h1:1<=zs.length
    ·have h1i:(1:Int)<=(zs.length:Int):=by omega
     by_cases h2:zs.length<=32767
     ·have h2i:(zs.length:Int)<=32767:=by omega
      obtain rfl:r=true:=HRR.out.2 ⟨ht.1,ht.2,h1,h2,hw.out⟩;go_wp2_with fail;refine(HL.out _).mono ?_;rintro e w' ⟨rfl,rfl⟩;go_wp2_with fail;go_ret;exact⟨rfl,rfl⟩
     ·have h2i:¬(zs.length:Int)<=32767:=by omega
      obtain rfl:r=false:=by rw [Bool.eq_false_iff,Ne,HRR.out];exact fun h=>h2 h.2.2.2.1
      go_wp2_with fail;refine(HL.out _).mono ?_;rintro e w' ⟨rfl,rfl⟩;go_wp2_with fail;go_ret;refine⟨?_,rfl⟩;show Ending.returned (.bool (decide ((zs.length:Int)<=32767)))=_;rw [decide_eq_false (by omega)]
    ·have h1i:¬(1:Int)<=(zs.length:Int):=by omega
     obtain rfl:r=false:=by rw [Bool.eq_false_iff,Ne,HRR.out];exact fun h=>h1 h.2.2.1
     go_wp2_with fail;refine(HL.out _).mono ?_;rintro e w' ⟨rfl,rfl⟩;go_wp2_with fail;go_ret;exact⟨rfl,rfl⟩
   ·obtain rfl:r=false:=by rw [Bool.eq_false_iff,Ne,HRR.out];exact fun h=>ht ⟨h.1,h.2.1⟩
    have HL:=zh (fun W=>ZmS t false W ⟨fun e=>(by cases e),fun e=>absurd e ht⟩);clear ht;go_wp2_with fail;refine(HL.out _).mono ?_;rintro e w' ⟨rfl,rfl⟩;go_wp2_with fail;go_ret;exact⟨rfl,rfl⟩
def IdxP (zs:List Int) (x R:Int):Prop:=(∃k:Nat,R=(k:Int)/\k<zs.length/\zs.getD k 0=x/\∀j,j<k->zs.getD j 0≠x)\/(R=-1/\∀j,j<zs.length->zs.getD j 0≠x)
theorem IdxP.there {zs:List Int} {x R:Int} (h:IdxP zs x R) {k:Nat} (hk:k<zs.length) (hx:zs.getD k 0=x) (hn:∀j,j<k->zs.getD j 0≠x):R=(k:Int):=by
 rcases h with⟨k2,rfl,h1,h2,h3⟩|⟨rfl,h⟩
 ·rcases Nat.lt_trichotomy k2 k with h|h|h
  ·exact absurd h2 (hn k2 h)
  ·rw [h]
  ·exact absurd hx (h3 k h)
 ·exact absurd hx (h k hk)
theorem IdxP.none {zs:List Int} {x R:Int} (h:IdxP zs x R) (hn:∀j,j<zs.length->zs.getD j 0≠x):R=-1:=by
 rcases h with⟨k2,rfl,h1,h2,h3⟩|⟨rfl,h⟩
 ·exact absurd h2 (hn k2 h1)
 ·rfl
theorem Zjx (v:Value) (zs:List Int) (x R:Int) (w:World) (hv:IsInts w v zs) (hR:IdxP zs x R) (hz:zs.length<=9223372036854775807) :
  Calls Tryz.prog 139 #[v,.int .i64 x] w fun e w'=>e=.returned (.int .i64 R)/\w'=w:=by
 have HV:=zh hv;have HRR:=zh hR;obtain⟨ad,cap,rfl,_⟩:=hv;clear hR;go_enter Tryz.func139,Tryz.ntmps139;go_wp2_with fail
 go_loopw [8] (fun i wr=>∃k:Nat,k<=zs.length/\i=.int .i64 k/\wr=w/\∀j,j<k->zs.getD j 0≠x) (fun i _=>zs.length-(intOf i).toNat)
 case atStart=>exact⟨0,by omega,rfl,rfl,fun j hj=>by omega⟩
 case round=>
  obtain⟨k,hk,rfl,rfl,hA⟩:=hrel;have HA:=zh hA;clear hA;by_cases hlk:k<zs.length
  ·have hki:(k:Int)<(zs.length:Int):=by omega
   obtain⟨b1,o1,k1,he1,c1⟩:=HV.out.cell hlk;simp only [Value.slice.injEq] at he1;obtain⟨rfl,_,rfl⟩:=he1;obtain⟨y,hy⟩:∃y,zs.getD k 0=y:=⟨_,rfl⟩
   rw [hy] at c1;have HY:=zh hy;clear hy;by_cases he:x=y
   ·have hd:(x==y)=true:=by rw [he];exact beq_self_eq_true _
    have hR:=HRR.out.there hlk (HY.out.trans he.symm) HA.out;subst hR;clear he;go_wp2_with fail;go_ret;exact⟨rfl,rfl⟩
   ·have hd:(x==y)=false:=by rw [beq_eq_false_iff_ne];exact he
    have HE:=zh he;clear he;go_wp2_with fail;go_roundw
    case rel=>exact⟨k+1,by omega,by go_num,(by first|rfl|trivial),fun j hj=>by
     by_cases e:j=k
     ·subst e;rw [HY.out];exact fun h=>HE.out h.symm
     ·exact HA.out j (by omega)⟩
    case measure=>simp [intOf];omega
  ·have hki:¬(k:Int)<(zs.length:Int):=by omega
   have hR:=HRR.out.none (fun j hj=>HA.out j (by omega));subst hR;go_wp2_with fail;go_ret;exact⟨rfl,rfl⟩
def ordF (o:List Nat) (k:Nat):Value:=.int .i64 ((o.getD k 0:Nat):Int)
def ordA (o:List Nat):Array Value:=cellsF 6 (ordF o)
theorem ZfH (o:List Nat):(ordA o).size=6:=Zit 6 _
theorem ZmT (o:List Nat):(ordA o).all (·.oneCell')=true:=by
 rw [Array.all_eq_true];intro i hi;have h1:(ordA o)[i]?=some (ordF o i):=Zc6 6 _ (by rw [ZfH] at hi;exact hi);rw [Array.getElem?_eq_getElem hi] at h1;rw [Option.some.inj h1];rfl
def zsix:Nat->Value:=fun _=>.int .i64 0
def InO (w wr:World) (k:Nat):Prop:=
 Below w.heap.size w wr/\ObjF 6 206 wr w.heap.size zsix/\ObjF 6 206 wr (w.heap.size+1) (fun j=>if j<k then .int .i64 (j:Int) else .int .i64 0)
theorem ZlT (w:World):Calls Tryz.prog 142 #[] w fun e w'=>e=.returned (.agg (ordA O6))/\Below w.heap.size w w':=by
 have hb1:=(Below.refl w.heap.size w).alloc (Nat.le_refl _) (.cells #[.int .i64 0,.int .i64 0,.int .i64 0,.int .i64 0,.int .i64 0,.int .i64 0] 206);have hg1:=heap_alloc_new w (.cells #[.int .i64 0,.int .i64 0,.int .i64 0,.int .i64 0,.int .i64 0,.int .i64 0] 206);have hs1:(w.alloc (.cells #[.int .i64 0,.int .i64 0,.int .i64 0,.int .i64 0,.int .i64 0,.int .i64 0] 206)).heap.size=w.heap.size+1:=by show(w.heap.push _).size=_;simp
 have HI:Hid (InO w ((w.alloc (.cells #[.int .i64 0,.int .i64 0,.int .i64 0,.int .i64 0,.int .i64 0,.int .i64 0] 206)).alloc (.cells #[.int .i64 0,.int .i64 0,.int .i64 0,.int .i64 0,.int .i64 0,.int .i64 0] 206)) 0):=zh (by
  refine⟨hb1.alloc hb1.size _,?_,?_⟩
  ·exact(Zam (by rw [hs1];omega)).trans hg1
  ·have:=heap_alloc_new (w.alloc (.cells #[.int .i64 0,.int .i64 0,.int .i64 0,.int .i64 0,.int .i64 0,.int .i64 0] 206)) (.cells #[.int .i64 0,.int .i64 0,.int .i64 0,.int .i64 0,.int .i64 0,.int .i64 0] 206);rw [hs1] at this;exact this)
 clear hb1 hg1 hs1;go_enter Tryz.func142,Tryz.ntmps142;go_wp2_with fail
 go_loopw [3] (fun i wr=>∃k:Nat,k<=6/\i=.int .i64 k/\InO w wr k) (fun i _=>6-(intOf i).toNat)
 case atStart=>exact⟨0,by omega,rfl,HI.out⟩
 case round=>
  clear HI;obtain⟨k,hk,rfl,hI⟩:=hrel;have HI:=zh hI;clear hI;by_cases hlt:k<6
  ·have hki:(k:Int)<6:=by omega
   have hk0:(0:Int)<=(k:Int):=by omega
   obtain⟨c0,f0⟩:=HI.out.2.2.cell hlt
   have HS:Hid (InO w (wr.setCell ⟨w.heap.size+1,k,none⟩ (.int .i64 (k:Int))) (k+1)):=zh (by
    obtain⟨h1,h2,h3⟩:=HI.out;refine⟨h1.trans (Zae (b:=w.heap.size+1) (Touch.refl _ _) |>.below h1.size (fun i hi=>by have:i=w.heap.size+1:=hi;omega)),h2.other (Zae (b:=w.heap.size+1) (Touch.refl _ _)) (by show ¬w.heap.size=w.heap.size+1;omega),(h3.set k _).ext (fun j hj=>?_)⟩;unfold upd;by_cases e:j=k
    ·subst e;rw [if_pos rfl,if_pos (by omega)]
    ·rw [if_neg e];show(if j<k then _ else _)=_;by_cases e2:j<k
     ·rw [if_pos e2,if_pos (by omega)]
     ·rw [if_neg e2,if_neg (by omega)])
   rw [if_neg (by omega)] at c0;obtain⟨N,hN⟩:∃N,w.heap.size+1=N:=⟨_,rfl⟩
   rw [hN] at c0 f0 HS;simp only [hN];go_wp2_with fail;go_roundw
   case rel=>exact⟨k+1,by omega,by go_num,HS.out⟩
   case measure=>simp [intOf];omega
  ·obtain rfl:k=6:=by omega
   obtain⟨hb,h0,hc⟩:=HI.out
   have hA:cellsF 6 (fun j=>if j<6 then Value.int .i64 (j:Int) else .int .i64 0)=ordA O6:=by
    refine ZhM (fun j hj=>?_);rcases(by omega:j=0\/j=1\/j=2\/j=3\/j=4\/j=5) with rfl|rfl|rfl|rfl|rfl|rfl<;>rfl
   unfold ObjF at h0 hc;rw [hA] at hc;have hi:(Tryz.prog.info? 206).map (·.size)=some (ordA O6).size:=by rw [ZfH];kernel_rfl
   have ha:=ZmT O6;have h16:(cellsF 6 zsix).size=(ordA O6).size:=by rw [ZfH];rfl
   obtain⟨A,hA2⟩:∃A,ordA O6=A:=⟨_,rfl⟩
   have HA2:=zh hA2;rw [hA2] at hc hi ha h16;generalize cellsF 6 zsix=Z0 at *;clear HI hA hA2;go_wp2_with (first|(refine wpList_load_row rfl 206 _ rfl (w.heap.size+1) rfl 206 A (0,0) _ hc Tryz.underlying206 rfl hi ?_)|(refine wpList_store_row rfl 206 _ _ rfl w.heap.size A rfl rfl 206 Z0 h0 hi h16 ha ?_));refine bodyPost_ret (v:=.agg A) (results_cell_row rfl _ _ w.heap.size 206 A (0,0) _ rfl (setRow_heap wr _ Z0 A 206 _ h0) Tryz.underlying206 rfl hi) rfl ⟨by rw [HA2.out],?_⟩;exact hb.trans ⟨rfl,rfl,rfl,by simp [World.setRow],fun j hj=>setRow_other wr _ j _ (by omega)⟩
def LstAt (n:Nat) (T:TypeId) (w:World) (b off:Nat) (F:Nat->Value) (o:List Nat):Prop:=ObjF n T w b F/\o.length=6/\off+6<=n/\∀j,j<6->F (off+j)=ordF o j
theorem LstAt.ints {n:Nat} {T:TypeId} {w:World} {b off:Nat} {F:Nat->Value} {o:List Nat} (h:LstAt n T w b off F o) (k c:Nat) (hk:k<=6):IsInts w (.slice (some ⟨b,off,none⟩) k c) (toI (o.take k)):=by
 obtain⟨h1,h2,h3,h4⟩:=h;refine⟨_,c,by rw [toI_length,List.length_take,h2,Nat.min_eq_left hk],fun i x hx=>⟨b,off,rfl,?_⟩⟩;obtain⟨hi,hx2⟩:=List.getElem?_eq_some_iff.1 hx;rw [toI_length,List.length_take] at hi;rw [(h1.cell (i:=off+i) (by omega)).1,h4 i (by omega)];unfold ordF;have h5:=toI_getD (o.take k) i;rw [List.getD_eq_getElem?_getD,hx] at h5
 have h6:(o.take k).getD i 0=o.getD i 0:=by
  rw [List.getD_eq_getElem?_getD,List.getD_eq_getElem?_getD,List.getElem?_take,if_pos (by omega)]
 rw [h6] at h5;rw [<-h5];rfl
theorem Zrh (o:List Nat) (i j:Nat) (hi:i<o.length) (hj:j<o.length):(tch o i).getD j 0=if j=0 then o.getD i 0 else if j<=i then o.getD (j-1) 0 else o.getD j 0:=by
 rw [ZhZ o i hi];cases j with
 | zero=>
  rw [if_pos rfl,List.getD_cons_zero,List.getD_eq_getElem?_getD,List.getElem?_eq_getElem hi];rfl
 | succ m=>
  rw [if_neg (by omega),List.getD_cons_succ,List.getD_eq_getElem?_getD];by_cases h:m+1<=i
  ·rw [if_pos h,List.getElem?_append_left (by rw [List.length_take];omega),List.getElem?_take,if_pos (by omega),List.getD_eq_getElem?_getD];rfl
  ·rw [if_neg h,List.getElem?_append_right (by rw [List.length_take];omega),List.length_take,Nat.min_eq_left (by omega),List.getElem?_drop,List.getD_eq_getElem?_getD];congr 2;omega
def cpF (F:Nat->Value) (off i:Nat) (o:List Nat):Nat->Value:=
 fun k=>if k<off+1 then F k else if k<off+1+((toI (o.take i)).map iv64).length then((toI (o.take i)).map iv64).getD (k-(off+1)) (F k) else F k
theorem Ztg {n:Nat} {T:TypeId} {w:World} {b off:Nat} {F:Nat->Value} {o:List Nat} (h:LstAt n T w b off F o) {i:Nat} (hi:i<6) (j:Nat) (hj:j<6) :
  upd (cpF F off i o) off (ordF o i) (off+j)=ordF (tch o i) j:=by
 obtain⟨h1,h2,h3,h4⟩:=h;have hl:((toI (o.take i)).map iv64).length=i:=by rw [List.length_map,toI_length,List.length_take];omega
 unfold ordF;rw [Zrh o i j (by omega) (by omega)];by_cases e:j=0
 ·subst e;rw [Nat.add_zero,ZaO,if_pos rfl]
 ·rw [Zad _ _ (by omega),if_neg e];unfold cpF;rw [if_neg (by omega),hl];by_cases c:j<=i
  ·rw [if_pos (by omega),if_pos c];obtain⟨m,rfl⟩:∃m,j=m+1:=⟨j-1,by omega⟩
   rw [show off+(m+1)-(off+1)=m by omega,Nat.add_sub_cancel,List.getD_eq_getElem?_getD,List.getElem?_map];have h5:=toI_getD (o.take i) m
   have h6:(o.take i).getD m 0=o.getD m 0:=by
    rw [List.getD_eq_getElem?_getD,List.getD_eq_getElem?_getD,List.getElem?_take,if_pos (by omega)]
   rw [h6,List.getD_eq_getElem?_getD,List.getElem?_eq_getElem (by rw [toI_length,List.length_take];omega)] at h5;rw [List.getElem?_eq_getElem (by rw [toI_length,List.length_take];omega)];show iv64 _=_;unfold iv64;rw [<-h5];rfl
  ·rw [if_neg (by omega),if_neg c,h4 j hj];rfl
theorem Zss (F:Nat->Value) (off i:Nat) (o:List Nat) (x:Value) (hi:i<6) (k:Nat) (hk:k<off\/off+6<=k):upd (cpF F off i o) off x k=F k:=by
 have hl:((toI (o.take i)).map iv64).length<=i:=by rw [List.length_map,toI_length,List.length_take];omega
 rw [Zad _ _ (by omega)];unfold cpF;rcases hk with hk|hk
 ·rw [if_pos (by omega)]
 ·rw [if_neg (by omega),if_neg (by omega)]
theorem Zst {n:Nat} {T:TypeId} {w:World} {b off:Nat} {F:Nat->Value} {o:List Nat} (h:LstAt n T w b off F o) (i ty:Nat) (hi:i<6) :
  (Builtin.copy_ #[106,106] ty #[.slice (some ⟨b,off+1,none⟩) 5 5,.slice (some ⟨b,off,none⟩) i 6]).run Tryz.prog w=.ok (goInt i) (w.setRow b (cellsF n (cpF F off i o))):=by
 obtain⟨h1,h2,h3,h4⟩:=id h;have hl:((toI (o.take i)).map iv64).length=i:=by rw [List.length_map,toI_length,List.length_take];omega
 have hm:Nat.min i 5=i:=Nat.min_eq_left (by omega);have hI:=h.ints i 6 (by omega)
 have:=run_copy_row (P:=Tryz.prog) w 106 106 ty 3 b (off+1) 5 5 ⟨b,off,none⟩ i 6 (cellsF n F) T ((toI (o.take i)).map iv64) Tryz.underlying106 (by kernel_rfl) h1 (by rw [hl,hm]) (fun j v hj=>by
  rw [List.getElem?_map] at hj;obtain⟨x,hx,rfl⟩:=Option.map_eq_some_iff.1 hj;obtain⟨a,cap,he,hc⟩:=hI;obtain⟨b2,off2,ha,hb⟩:=hc j x hx;simp only [Value.slice.injEq] at he;rw [<-he.1] at ha;simp only [Option.some.injEq,Addr.mk.injEq,and_true] at ha;obtain⟨rfl,rfl⟩:=ha;rw [Addr.add_lit];exact hb) (by rw [hl,Zit];omega) (fun v hv=>by
  obtain⟨x,_,rfl⟩:=List.mem_map.1 hv;rfl)
 rw [ZlS n F (off+1) _ (by rw [hl];omega),hl] at this;unfold cpF;rw [hl];exact this
theorem Ziu {P:Program} {ops:Array Oper} {rest:List Oper} {o:Oper} {a:Act} {w:World} {Q:Exit->Act->World->Prop} (hgd:o.guard=none) (d s:Operand) (t t':TypeId)
  (ho:o.op=.call { callee:=.builtin .copy,args:=#[d,s],argTypes:=#[t,t'] }) (v u:Value) (hd:a.eval d=v) (hs:a.eval s=u) {v':Value} {w':World}
  (hr:(Builtin.copy_ #[t,t'] o.type #[v,u]).run P w=.ok v' w') (h:wpList P ops Q rest (a.put o.dst v') w'):wpList P ops Q (o::rest) a w:=
 wpList_plain hgd fun K hK=>by
  unfold Oper.wp execOp;simp only [ho,resolve,invoke,builtin,Sem.run_bind,Sem.run_pure,Result.andThen_ok,List.map_toArray,List.map_cons,List.map_nil,hd,hs,hr];exact hK _ _ h
theorem Zri (W:World) (b off:Nat):(Instr.sliceAt 206 (.pointer (some ⟨b,off,none⟩)) (some (.int .i64 1)) none none).run Tryz.prog W=.ok (.slice (some ⟨b,off+1,none⟩) 5 5) W:=by
 have e:Tryz.prog.arrayLen 206=6:=by kernel_rfl
 have hs:(sizeOf (Tryz.prog.elem 206)).run Tryz.prog W=.ok 1 W:=by kernel_rfl
 rfl
theorem Ztv (W:World) (b off i:Nat) (hi:i<=6):(Instr.sliceAt 206 (.pointer (some ⟨b,off,none⟩)) none (some (.int .i64 (i:Int))) none).run Tryz.prog W=.ok (.slice (some ⟨b,off,none⟩) i 6) W:=by
 have e:Tryz.prog.arrayLen 206=6:=by kernel_rfl
 have hs:(sizeOf (Tryz.prog.elem 206)).run Tryz.prog W=.ok 1 W:=by kernel_rfl
 rw [run_sliceAt_array_h W _ ⟨b,off,none⟩ (by kernel_rfl) .i64 (i:Int) (by omega) (by rw [e];omega),hs];simp [Result.andThen,slicedAt,e,Addr.add]
theorem Zpy (n:Nat) (T:TypeId) (b off i:Nat) (F:Nat->Value) (o:List Nat) (w:World) (h:LstAt n T w b off F o) (hi:i<6) :
  Calls Tryz.prog 171 #[.pointer (some ⟨b,off,none⟩),.int .i64 (i:Int)] w fun e w'=>e=.returned (ordF o i)/\(∃F',LstAt n T w' b off F' (tch o i)/\∀k,(k<off\/off+6<=k)->F' k=F k)/\Touch (·=b) w w':=by
 have H:=zh h;have hi2:(i:Int)<6:=by omega
 have hi0:(0:Int)<=(i:Int):=by omega
 have hs1:=fun W=>Zri W b off
 have hs2:=fun W=>Ztv W b off i (by omega)
 have hoff:=h.2.2.1;have c0:w.cell? ⟨b,off+i,none⟩=some (ordF o i):=by rw [(h.1.cell (i:=off+i) (by omega)).1,h.2.2.2 i hi]
 have HCP:=zh (fun(ty:Nat)=>Zst (w:=w.drewN 1) (T:=T) (F:=F) (o:=o) ⟨h.1.drewN 1,h.2⟩ i ty hi);have HAT:=zh (fun j hj=>Ztg h hi j hj);obtain⟨X,hX⟩:∃X,ordF o i=.int .i64 X:=⟨_,rfl⟩
 rw [hX] at c0 HAT ⊢;clear h hX;generalize hG:cpF F off i o=G at *;have HG:=zh hG;clear hG;go_enter Tryz.func171,Tryz.ntmps171;go_wp2_with fail
 go_still_tail 7,(by kernel_rfl)
 refine Ziu rfl _ _ 106 106 rfl _ _ rfl rfl (HCP.out _) ?_;have hset:((w.drewN 1).setRow b (cellsF n G)).heap[b]?=some (.cells (cellsF n G) T (0,0)):=setRow_heap _ _ _ _ _ _ (H.out.1.drewN 1);have hT1:Touch (·=b) w ((w.drewN 1).setRow b (cellsF n G)):=⟨rfl,rfl,rfl,by simp [World.setRow,World.drewN],fun j _ hj=>setRow_other (w.drewN 1) b j _ hj⟩
 generalize (w.drewN 1).setRow b (cellsF n G)=W1 at *;have HO:Hid (ObjF n T W1 b G):=zh hset;have HT1:=zh hT1;obtain⟨d0,d1⟩:=HO.out.cell (i:=off) (by omega);clear hset hT1 HCP hs1 hs2;go_wp2_with fail;go_ret;refine⟨rfl,⟨_,⟨HO.out.set off _,?_,H.out.2.2.1,HAT.out⟩,?_⟩,Zae HT1.out⟩
 ·rw [Zhr o i (by rw [H.out.2.1];exact hi)];exact H.out.2.1
 ·intro k hk;rw [<-HG.out];exact Zss F off i o _ hi k hk
end
end Go.Proofs.YtlfpbcadcfaboaaGreatDoor

import Derived.Test.YtlfpbcadcfaboaaGreatDoorTcA
import Derived.Test.YtlfpbcadcfaboaaGreatDoorTcB
import Derived.Test.YtlfpbcadcfaboaaGreatDoorTcC
import Derived.Test.YtlfpbcadcfaboaaGreatDoorTcD
import Derived.Test.YtlfpbcadcfaboaaGreatDoorTcE
import Derived.Test.YtlfpbcadcfaboaaGreatDoorTcF
import Derived.Test.YtlfpbcadcfaboaaGreatDoorTcG
import Derived.Test.YtlfpbcadcfaboaaGreatDoorTcH
import Derived.Test.YtlfpbcadcfaboaaGreatDoorTcI
import Derived.Test.YtlfpbcadcfaboaaGreatDoorTcJ
import Derived.Test.YtlfpbcadcfaboaaGreatDoorTcK
import Derived.Test.YtlfpbcadcfaboaaGreatDoorTwA
import Derived.Test.YtlfpbcadcfaboaaGreatDoorTwB
import Derived.Deep.Cut
import Derived.BigRegion
import Derived.BigQuiet
import Derived.Shelf.Abstract
import Derived.Laws.CopyRow
import Derived.Lib.SliceRun
import Derived.IntWalk
import Derived.Deep.LoopGhost
import Derived.Laws.BitsAllLaws
import Derived.StillTailTactics
import Derived.Deep.RegionHeld3
import Derived.Deep.AppendSrc
import Derived.Deep.Upon
import Derived.WalkKit
import Derived.Deep.RegionLaw
import Derived.Laws.StandIn
import Derived.Deep.MidRow
import Derived.Outline
import Derived.Laws.EntriesVeiled
set_option linter.unusedVariables false
set_option linter.unusedSimpArgs false
set_option maxHeartbeats 8000000
set_option maxRecDepth 100000
namespace Go.Proofs.YtlfpbcadcfaboaaGreatDoor
section
namespace HufM
open Go.RowKit
def inc (o:List Int) (ls:List Int):List Int:=ls.foldl (fun o x=>o.set x.toNat (o.getD x.toNat 0+1)) o
theorem Zef (ls:List Int):∀o:List Int,(inc o ls).length=o.length:=by
 induction ls with
 | nil=>intro o;rfl
 | cons x t ih=>intro o;exact(ih _).trans (by simp)
theorem Zc3 (o:List Int) (i j:Nat) (v:Int) (hi:i<o.length):(o.set i v).getD j 0=if j=i then v else o.getD j 0:=by
 rw [List.getD_eq_getElem?_getD,List.getD_eq_getElem?_getD,List.getElem?_set];by_cases e:i=j
 ·subst e;simp [hi]
 ·have:¬j=i:=fun h=>e h.symm
  simp [e,this]
theorem Zfm (o ls:List Int) {k:Nat} (h:k<ls.length):inc o (ls.take (k+1))=(inc o (ls.take k)).set (ls.getD k 0).toNat ((inc o (ls.take k)).getD (ls.getD k 0).toNat 0+1):=by
 unfold inc;rw [List.take_add_one,List.foldl_append,List.getD_eq_getElem?_getD,List.getElem?_eq_getElem h];rfl
theorem ZiU (ls:List Int):∀(o:List Int) (j:Nat),ls.Nodup->(∀x∈ls,0<=x/\x<(o.length:Int))->(inc o ls).getD j 0=o.getD j 0+if (j:Int)∈ls then 1 else 0:=by
 induction ls with
 | nil=>intro o j _ _;simp [inc]
 | cons x t ih=>
  intro o j hn hr;obtain⟨h1,h2⟩:=List.nodup_cons.1 hn;have hx:=hr x (List.mem_cons_self ..);have:=ih (o.set x.toNat (o.getD x.toNat 0+1)) j h2 (fun y hy=>by rw [List.length_set];exact hr y (List.mem_cons_of_mem _ hy));show(inc (o.set x.toNat (o.getD x.toNat 0+1)) t).getD j 0=_;rw [this,Zc3 _ _ _ _ (by omega)];by_cases e:j=x.toNat
  ·have ej:(j:Int)=x:=by omega
   rw [if_pos e,ej,if_neg h1,if_pos (List.mem_cons_self ..),e];omega
  ·have ej:¬(j:Int)=x:=by omega
   rw [if_neg e];by_cases hm:(j:Int)∈t
   ·rw [if_pos hm,if_pos (List.mem_cons_of_mem _ hm)]
   ·rw [if_neg hm,if_neg (fun h=>by rcases List.mem_cons.1 h with h|h;exact ej h;exact hm h)]
theorem Zfn (ls:List Int):∀(o:List Int) (j:Nat),o.getD j 0<=(inc o ls).getD j 0/\(inc o ls).getD j 0<=o.getD j 0+(ls.length:Int):=by
 induction ls with
 | nil=>intro o j;simp [inc]
 | cons x t ih=>
  intro o j;have:=ih (o.set x.toNat (o.getD x.toNat 0+1)) j
  have h2:o.getD j 0<=(o.set x.toNat (o.getD x.toNat 0+1)).getD j 0/\(o.set x.toNat (o.getD x.toNat 0+1)).getD j 0<=o.getD j 0+1:=by
   by_cases hi:x.toNat<o.length
   ·rw [Zc3 _ _ _ _ hi];split
    ·rename_i e;subst e;omega
    ·omega
   ·rw [List.set_eq_of_length_le (by omega)];omega
  show o.getD j 0<=(inc (o.set x.toNat (o.getD x.toNat 0+1)) t).getD j 0/\(inc (o.set x.toNat (o.getD x.toNat 0+1)) t).getD j 0<=_;simp only [List.length_cons];omega
theorem ZaQ {α:Type}:∀(l:List α) (i:Nat) (h:i<l.length),(l[i]::l.eraseIdx i).Perm l
 | x::t,0,h=>List.Perm.refl _
 | x::t,i+1,h=>by
  have hi:i<t.length:=by simpa using h
  have ih:=ZaQ t i hi;show(t[i]::x::t.eraseIdx i).Perm (x::t);exact(List.Perm.swap _ _ _).trans (ih.cons x)
def trs (ts:List T3):List Tr:=ts.map (·.1)
def lvs (ts:List T3):List Int:=ts.flatMap (·.2)
structure DS (w:List Int) (d:Nat->Nat) (ts:List T3) (o:List Int) (K:Nat):Prop where
 run0:Run w.length (ini w) d
 run:Run K (trs ts) d
 dis:Dis (trs ts)
 low:∀t∈ts,t.1.2<K
 lv:(lvs ts).Perm ((List.range w.length).map (fun i:Nat=>(i:Int)))
 ol:o.length=w.length
 od:∀t∈ts,∀x∈t.2,o.getD x.toNat 0+(d t.1.2:Int)=(d x.toNat:Int)
 tot:sumN wt (trs ts)=sumN wt (ini w)
 cnt:ts.length+K=2*w.length
theorem Zcz (n:Nat):((List.range n).map (fun i:Nat=>(i:Int))).Nodup:=by
 unfold List.Nodup;rw [List.pairwise_map];exact List.pairwise_lt_range.imp (fun h=>by omega)
theorem DS.mem {w:List Int} {d:Nat->Nat} {ts:List T3} {o:List Int} {K:Nat} (h:DS w d ts o K) {x:Int}:x∈lvs ts↔0<=x/\x<(w.length:Int):=by
 rw [h.lv.mem_iff,List.mem_map];constructor
 ·rintro⟨i,hi,rfl⟩;have:=List.mem_range.1 hi;omega
 ·rintro⟨h1,h2⟩;exact⟨x.toNat,List.mem_range.2 (by omega),by omega⟩
theorem DS.near {w:List Int} {d:Nat->Nat} {ts:List T3} {o:List Int} {K:Nat} (h:DS w d ts o K) {i:Nat} (hi:i<w.length):-((ts.length:Nat):Int)<=o.getD i 0/\o.getD i 0<=(w.length:Int):=by
 have hm:(i:Int)∈lvs ts:=h.mem.2 ⟨by omega,by omega⟩;obtain⟨t,ht,hx⟩:=List.mem_flatMap.1 hm;have h1:=h.od t ht _ hx;rw [Int.toNat_natCast] at h1;have h2:=h.run0.short _ (Zgj hi);have h3:=h.run.short t.1 (List.mem_map.2 ⟨t,ht,rfl⟩);rw [ZbN] at h2;simp only [trs,List.length_map] at h3;simp only at h2;omega
theorem DS.step {w:List Int} {d:Nat->Nat} {ts:List T3} {o:List Int} {K:Nat} (h:DS w d ts o K) {a b:Nat} {x y:T3} (ha:a<ts.length) (hx:ts[a]?=some x) (hna:Za5 ts a ts.length)
  (hb:b<(ts.eraseIdx a).length) (hy:(ts.eraseIdx a)[b]?=some y) (hnb:Za5 (ts.eraseIdx a) b (ts.eraseIdx a).length) :
  DS w d ((ts.eraseIdx a).eraseIdx b++[((x.1.1+y.1.1,K),x.2++y.2)]) (inc o (x.2++y.2)) (K+1)/\x.1.1+y.1.1<=sumN wt (ini w)/\(∀z∈x.2++y.2,0<=z/\z<(w.length:Int))/\(x.2++y.2).length<=w.length:=by
 obtain⟨run0,run,dis,low,lv,ol,od,tot,cnt⟩:=h;have hx':ts[a]=x:=by rw [List.getElem?_eq_getElem ha] at hx;exact Option.some.inj hx
 have hy':(ts.eraseIdx a)[b]=y:=by rw [List.getElem?_eq_getElem hb] at hy;exact Option.some.inj hy
 have p1:(x::ts.eraseIdx a).Perm ts:=by rw [<-hx'];exact ZaQ ts a ha
 have p2:(y::(ts.eraseIdx a).eraseIdx b).Perm (ts.eraseIdx a):=by rw [<-hy'];exact ZaQ _ b hb
 have p:ts.Perm (x::y::(ts.eraseIdx a).eraseIdx b):=(p1.symm).trans (p2.symm.cons x)
 have l1:∀t∈ts.eraseIdx a,lt x.1 t.1:=fun t ht=>by
  have hd:=(List.pairwise_cons.1 (dis.perm (show(trs ts).Perm (trs (x::ts.eraseIdx a)) from(p1.symm).map _))).1 t.1 (List.mem_map.2 ⟨t,ht,rfl⟩);obtain⟨j,hj,hjt⟩:=List.mem_iff_getElem.1 (p1.mem_iff.1 (List.mem_cons_of_mem _ ht));have:=hna j t x hj (by rw [List.getElem?_eq_getElem hj,hjt]) hx;rcases Zii x.1 t.1 hd with h|h
  ·exact h
  ·exact absurd h this
 have dis1:Dis (trs (ts.eraseIdx a)):=(List.pairwise_cons.1 (dis.perm (show(trs ts).Perm (trs (x::ts.eraseIdx a)) from(p1.symm).map _))).2
 have l2:∀t∈(ts.eraseIdx a).eraseIdx b,lt y.1 t.1:=fun t ht=>by
  have hd:=(List.pairwise_cons.1 (dis1.perm (show(trs (ts.eraseIdx a)).Perm (trs (y::(ts.eraseIdx a).eraseIdx b)) from(p2.symm).map _))).1 t.1 (List.mem_map.2 ⟨t,ht,rfl⟩);obtain⟨j,hj,hjt⟩:=List.mem_iff_getElem.1 (p2.mem_iff.1 (List.mem_cons_of_mem _ ht));have:=hnb j t y hj (by rw [List.getElem?_eq_getElem hj,hjt]) hy;rcases Zii y.1 t.1 hd with h|h
  ·exact h
  ·exact absurd h this
 have hym:y∈ts.eraseIdx a:=p2.mem_iff.1 (List.mem_cons_self ..);have hxm:x∈ts:=p1.mem_iff.1 (List.mem_cons_self ..);have hyt:y∈ts:=p1.mem_iff.1 (List.mem_cons_of_mem _ hym);have hrest:∀t∈(ts.eraseIdx a).eraseIdx b,t∈ts:=fun t ht=>p.mem_iff.2 (List.mem_cons_of_mem _ (List.mem_cons_of_mem _ ht))
 obtain⟨run',dx,dy⟩:=run.next (show(trs ts).Perm (x.1::y.1::trs ((ts.eraseIdx a).eraseIdx b)) from p.map _) (l1 y hym) (fun t ht=>by
  obtain⟨t',ht',rfl⟩:=List.mem_map.1 ht;exact l2 t' ht')
 have plv:(lvs ts).Perm (x.2++(y.2++lvs ((ts.eraseIdx a).eraseIdx b))):=p.flatMap_right _;have hnd:(x.2++(y.2++lvs ((ts.eraseIdx a).eraseIdx b))).Nodup:=plv.nodup_iff.1 (lv.nodup_iff.2 (Zcz _));rw [<-List.append_assoc] at hnd plv;obtain⟨n1,n2,n3⟩:=List.nodup_append.1 hnd
 have hall:∀z∈lvs ts,0<=z/\z<(w.length:Int):=fun z hz=>by
  obtain⟨i,hi,rfl⟩:=List.mem_map.1 (lv.mem_iff.1 hz);have:=List.mem_range.1 hi;omega
 have hz:∀z∈x.2++y.2,0<=z/\z<(w.length:Int):=fun z hz=>hall z (plv.mem_iff.2 (List.mem_append_left _ hz))
 have hinc:∀j,(inc o (x.2++y.2)).getD j 0=o.getD j 0+if (j:Int)∈x.2++y.2 then 1 else 0:=fun j=>ZiU _ o j n1 (fun z h=>by rw [ol];exact hz z h)
 have hsum:sumN wt (trs ts)=x.1.1+(y.1.1+sumN wt (trs ((ts.eraseIdx a).eraseIdx b))):=by
  rw [Zcf wt (show(trs ts).Perm (x.1::y.1::trs ((ts.eraseIdx a).eraseIdx b)) from p.map _)];rfl
 have hlen:=p.length_eq;simp only [List.length_cons] at hlen;refine⟨⟨run0,?_,?_,fun t ht=>?_,?_,by rw [Zef,ol],fun t ht z hzt=>?_,?_,by simp;omega⟩,by omega,hz,?_⟩
 ·refine run'.perm ?_;unfold trs;rw [List.map_append];exact(List.perm_append_singleton _ _).symm
 ·unfold trs;rw [List.map_append];have hd2:=(List.pairwise_cons.1 (List.pairwise_cons.1 (dis.perm (show(trs ts).Perm (x.1::y.1::trs ((ts.eraseIdx a).eraseIdx b)) from p.map _))).2).2;refine List.pairwise_append.2 ⟨hd2,List.pairwise_singleton _ _,fun t ht u hu=>?_⟩;simp only [List.map_cons,List.map_nil,List.mem_singleton] at hu;subst hu;obtain⟨t',ht',rfl⟩:=List.mem_map.1 ht;have:=low t' (hrest t' ht');simp only;omega
 ·rcases List.mem_append.1 ht with ht|ht
  ·have:=low t (hrest t ht);omega
  ·rw [List.mem_singleton] at ht;subst ht;simp only;omega
 ·have e:lvs ((ts.eraseIdx a).eraseIdx b++[((x.1.1+y.1.1,K),x.2++y.2)])=lvs ((ts.eraseIdx a).eraseIdx b)++(x.2++y.2):=by unfold lvs;simp
  rw [e];exact(List.perm_append_comm.trans plv.symm).trans lv
 ·have ezn:∀z:Int,z∈lvs ts->((z.toNat:Nat):Int)=z:=fun z hz=>by have:=hall z hz;omega
  rw [hinc];rcases List.mem_append.1 ht with ht|ht
  ·have hzl:z∈lvs ((ts.eraseIdx a).eraseIdx b):=List.mem_flatMap.2 ⟨t,ht,hzt⟩;have hzall:z∈lvs ts:=plv.mem_iff.2 (List.mem_append_right _ hzl);have hno:z∉x.2++y.2:=fun h=>n3 z h z hzl rfl
   rw [ezn z hzall,if_neg hno,Int.add_zero];exact od t (hrest t ht) z hzt
  ·rw [List.mem_singleton] at ht;subst ht;simp only at hzt ⊢;have hzall:z∈lvs ts:=plv.mem_iff.2 (List.mem_append_left _ hzt);rw [ezn z hzall,if_pos hzt];rcases List.mem_append.1 hzt with h|h
   ·have:=od x hxm z h;rw [dx] at this;omega
   ·have:=od y hyt z h;rw [dy] at this;omega
 ·unfold trs;rw [List.map_append,Za6,<-tot,hsum];simp only [List.map_cons,List.map_nil,sumN,wt];unfold trs;omega
 ·have:=(plv.symm.trans lv).length_eq;rw [List.length_append] at this;simp only [List.length_map,List.length_range] at this;omega
theorem DS.end_ {w:List Int} {d:Nat->Nat} {ts:List T3} {o:List Int} {K:Nat} (h:DS w d ts o K) (h1:ts.length=1):DepP w o:=by
 obtain⟨t,rfl⟩:=List.length_eq_one_iff.1 h1;have h0:=h.run.end_;refine⟨d,h.run0,?_⟩;apply List.ext_getElem
 ·simp [h.ol]
 ·intro i h2 h3;have hi:i<w.length:=by rw [<-h.ol];exact h2
  have hm:(i:Int)∈lvs [t]:=h.mem.2 ⟨by omega,by omega⟩;obtain⟨t',ht',hx⟩:=List.mem_flatMap.1 hm;rw [List.mem_singleton] at ht';subst ht';have:=h.od t' (List.mem_singleton.2 rfl) _ hx;rw [h0,Int.toNat_natCast,List.getD_eq_getElem?_getD,List.getElem?_eq_getElem h2] at this;simp only [Option.getD_some] at this;rw [List.getElem_map,List.getElem_range];omega
def sgl (w:List Int) (k:Nat):List T3:=(List.range k).map fun i=>(((w.getD i 0).toNat,i),[(i:Int)])
theorem Zc4 (w:List Int) (k:Nat):sgl w (k+1)=sgl w k++[(((w.getD k 0).toNat,k),[(k:Int)])]:=by
 unfold sgl;rw [List.range_succ,List.map_append];rfl
theorem ZbI (w:List Int) (k:Nat):(sgl w k).length=k:=by simp [sgl]
theorem DS.start {w:List Int} (h1:1<=w.length):∃d,DS w d (sgl w w.length) (List.replicate w.length 0) w.length:=by
 obtain⟨d,hd⟩:=Run.exists (w.length-1) w.length (ini w) (by rw [ZbN];omega) (ZdB w) (fun t ht=>(ZbO ht).1);have e:trs (sgl w w.length)=ini w:=by unfold trs sgl ini;rw [List.map_map];rfl
 refine⟨d,⟨hd,by rw [e];exact hd,by rw [e];exact ZdB w,fun t ht=>?_,?_,by simp,fun t ht x hx=>?_,by rw [e],by rw [ZbI];omega⟩⟩
 ·obtain⟨i,hi,rfl⟩:=List.mem_map.1 ht;exact List.mem_range.1 hi
 ·have e2:∀k,lvs (sgl w k)=(List.range k).map (fun i:Nat=>(i:Int)):=by
   intro k
   induction k with
   | zero=>rfl
   | succ k ih=>
    rw [Zc4,List.range_succ,List.map_append,<-ih];unfold lvs;simp
  rw [e2]
 ·obtain⟨i,hi,rfl⟩:=List.mem_map.1 ht;simp only [List.mem_singleton] at hx;subst hx;have hi':=List.mem_range.1 hi;rw [Int.toNat_natCast,List.getD_eq_getElem?_getD,List.getElem?_replicate,if_pos hi'];simp
end HufM
end
section
open Go.RowKit HufM
def vlen:Value->Nat
 | .slice _ n _=>n
 | _=>0
theorem ZgN (W:World) (c:Int):OwnI (W.alloc (.cells #[.int .i64 c] 3)) W.heap.size (.slice (some ⟨W.heap.size,0,none⟩) 1 1) [c]:=
 ⟨rfl,Or.inr ⟨W.heap.size,1,_,rfl,Nat.le_refl _,heap_alloc_new W _,Nat.le_refl _,by simp [maxLen],rfl,rfl⟩⟩
theorem ZcA (v:Value) (zs:List Int) (w:World) (hv:IsInts w v zs) (h1:1<=zs.length) (hz:zs.length<=300) (hw:∀z∈zs,0<=z/\z<=1099511627777) :
  Calls Tryz.prog 179 #[v] w fun e w'=>∃(r:Value) (ds:List Int),e=.returned r/\IsInts w' r ds/\DepP zs ds/\Below w.heap.size w w'/\(∀k,r.ownBlock=some k->w.heap.size<=k):=by
 have HV:=zh hv;have HW:=zh hw;obtain⟨a,cap,rfl,_⟩:=hv;obtain⟨n,hn⟩:∃n,zs.length=n:=⟨_,rfl⟩
 have HN:=zh hn;rw [hn] at h1 hz ⊢;clear hw hn;go_enter Tryz.func179,Tryz.ntmps179;go_wp2_with fail
 go_loopw [4,20] (fun vl vi wr=>∃(k:Nat) (l:Value),vi=.int .i64 k/\k<=n/\l=vl/\OwnT 0 wr w.heap.size l (sgl zs k)/\Below w.heap.size w wr) (fun _ vi _=>n-(intOf vi).toNat)
 case atStart=>exact⟨0,_,rfl,by omega,rfl,OwnT.nil w _,Below.refl _ _⟩
 case round=>
  obtain⟨k,l,rfl,hk,rfl,hO,hB⟩:=hrel;have HO:=zh hO;have HB:=zh hB;obtain⟨oa,oc,rfl⟩:=hO.slice;rw [ZbI] at HO ⊢;clear hO hB;by_cases hlk:k<n
  ·have hki:(k:Int)<(n:Int):=by omega
   obtain⟨b1,o1,k1,he1,c1⟩:=HV.out.cell (show k<zs.length by rw [HN.out];exact hlk);rw [HN.out] at he1;simp only [Value.slice.injEq] at he1;obtain⟨rfl,_,rfl⟩:=he1;have c1:=(HB.out.cell (ZaE c1)).trans c1;have hx2:=HW.out _ (getD_mem (show k<zs.length by rw [HN.out];exact hlk));have hs:=Zc4 zs k;obtain⟨X,hX⟩:∃X:Nat,zs.getD k 0=(X:Int):=⟨(zs.getD k 0).toNat,by omega⟩
   rw [hX] at c1 hx2 hs;rw [Int.toNat_natCast] at hs;have HS:=zh hs;have W0:Hid (Below wr.heap.size wr (wr.alloc (.cells #[.int .i64 (k:Int)] 3))):=zh ((Below.refl _ wr).alloc (Nat.le_refl _) _);have HO2:Hid (OwnT 0 (wr.alloc (.cells #[.int .i64 (k:Int)] 3)) w.heap.size (.slice oa k oc) (sgl zs k)):=zh (HO.out.below W0.out);have HU2:Hid (OwnI (wr.alloc (.cells #[.int .i64 (k:Int)] 3)) 0 (.slice (some ⟨wr.heap.size,0,none⟩) 1 1) [(k:Int)]):=zh ((ZgN wr k).lower (Nat.zero_le _));have hpos:0<w.heap.size:=by have:=ZaE ((HV.out.cell (show k<zs.length by rw [HN.out];exact hlk)).choose_spec.choose_spec.choose_spec.2);omega
   have HB2:=HB.out.size;clear hs hX
   have hbase:Hid (w.heap.size<=(wr.alloc (.cells #[.int .i64 (k:Int)] 3)).heap.size):=zh (by
    have:(wr.alloc (.cells #[.int .i64 (k:Int)] 3)).heap.size=wr.heap.size+1:=by simp
    omega)
   have hux:Hid ((Value.slice (some ⟨wr.heap.size,0,none⟩) 1 1).ownBlock≠some 0):=zh (fun e=>by simp only [Value.ownBlock,Option.some.injEq] at e;omega);have hgs:Hid ((wr.alloc (.cells #[.int .i64 (k:Int)] 3)).heap.size=wr.heap.size+1):=zh (by simp);have hll:Hid ((sgl zs k).length+1<=1000000):=zh (by rw [ZbI];omega);go_wp2_with (at_builtin;go_loud (refine Zbe (wr.alloc (.cells #[.int .i64 (k:Int)] 3)) rfl _ _ rfl w.heap.size (wr.heap.size+1) hgs.out (.slice oa k oc) (sgl zs k) ((X,k),[(k:Int)]) (.slice (some ⟨wr.heap.size,0,none⟩) 1 1) HO2.out HU2.out hux.out rfl rfl hll.out hbase.out ?_));intro v' w' hown hb;have HOWN:=zh hown;have HBB:Hid (Below w.heap.size w w'):=zh ((HB.out.alloc HB.out.size _).trans hb);clear hown hb;go_wp2_with fail;go_roundw
   case rel=>exact⟨k+1,_,by go_num,by omega,rfl,by rw [HS.out];exact HOWN.out,HBB.out⟩
   case measure=>simp [intOf];omega
  ·have hki:¬(k:Int)<(n:Int):=by omega
   obtain rfl:n=k:=by omega
   obtain⟨g,hg⟩:∃g,wr.heap.size=g:=⟨_,rfl⟩
   have hmk:=ZbS n (by omega) wr;have HR0:=zh (RowI.made wr n);have W0:Hid (Below wr.heap.size wr (wr.alloc (.cells (madeCells #[Value.int .i64 0] n) 3))):=zh ((Below.refl _ wr).alloc (Nat.le_refl _) _);have HO2:Hid (OwnT g (wr.alloc (.cells (madeCells #[Value.int .i64 0] n) 3)) w.heap.size (.slice oa n oc) (sgl zs n)):=zh ((HO.out.new (by omega)).below W0.out);have HB2:Hid (Below w.heap.size w (wr.alloc (.cells (madeCells #[Value.int .i64 0] n) 3))):=zh (HB.out.alloc HB.out.size _);have hgw:Hid (w.heap.size<=g):=zh (by rw [<-hg];exact HB.out.size);rw [hg] at hmk HR0;obtain⟨d,hds⟩:=DS.start (w:=zs) (by rw [HN.out];exact h1);rw [HN.out] at hds;have HDS:=zh hds
   have hT:Hid (sumN wt (ini zs)<=1099511627777*300):=zh (by
    have:=ZdA (f:=wt) (l:=ini zs) (c:=1099511627777) (fun t ht=>by
     obtain⟨h3,h4⟩:=ZbO ht;have h5:=(HW.out (zs.getD t.2 0) (getD_mem h3)).2;show t.1<=_;omega)
    rw [ZbN,HN.out] at this;exact Nat.le_trans this (Nat.mul_le_mul_left _ hz))
   clear hg hds;go_wp2_with fail;generalize wr.alloc (.cells (madeCells #[Value.int .i64 0] n) 3)=w2 at *;clear hmk;go_wp2_with fail
   go_loopw [4,8,9,10,11,12,13] (fun vl vx _ _ _ _ _ wr=>∃(ts:List T3) (o:List Int) (K:Nat) (l:Value) (base:Nat),l=vl/\vx=.int .i64 K/\OwnT g wr base l ts/\DS zs d ts o K/\RowI wr g o/\1<=ts.length/\Below w.heap.size w wr) (fun vl _ _ _ _ _ _ _=>vlen vl)
   case atStart=>exact⟨_,_,n,_,_,rfl,rfl,HO2.out,HDS.out,HR0.out,by rw [ZbI];exact h1,HB2.out⟩
   case round=>
    obtain⟨ts,o,K,l,base,rfl,rfl,hO,hD,hR,hl1,hB⟩:=hrel;obtain⟨la,lc,rfl⟩:=hO.slice;obtain⟨m,hm⟩:∃m,ts.length=m:=⟨_,rfl⟩
    have HO:=zh hO;have HD:=zh hD;have HR:=zh hR;have HB:=zh hB;have HM:=zh hm;have hcnt:=hD.cnt;rw [HN.out,hm] at hcnt;rw [hm] at HO hl1 ⊢;clear hO hD hR hB hm;by_cases hm2:1<m
    ·have hm2i:(1:Int)<(m:Int):=by omega
     go_wp2_with fail;refine(Zby _ ts _ base HO.out (by rw [HM.out];omega) (by rw [HM.out];omega)).mono ?_;rintro e w3 ⟨ia,rfl,hia,hna,hb3⟩;rw [HM.out] at hia;obtain⟨x,hx⟩:∃x,ts[ia]?=some x:=⟨_,List.getElem?_eq_getElem (by rw [HM.out];exact hia)⟩
     have HO3:=zh (HO.out.below hb3);have HR3:=zh (HR.out.below hb3);have HB3:=zh (HB.out.trans (hb3.mono HB.out.size));obtain⟨gx,cx,ux,he,hgx,x0,x1,x2,hox,hoxx⟩:=HO3.out.at hx;rw [HM.out] at he;simp only [Value.slice.injEq] at he;obtain⟨rfl,_,rfl⟩:=he;obtain⟨xa,xc,rfl⟩:=hox.slice;have HX:=zh hx;have HNA:=zh hna;have HOX:=zh hox;have hiai:(ia:Int)<(m:Int):=by omega
     have hia3:ia*3<3000:=by omega
     clear hx hna hb3 hox;obtain⟨w4,hw4⟩:∃w4,w3.alloc (.cells #[.int .i64 (x.1.1:Int),.int .i64 (x.1.2:Int),.slice xa x.2.length xc] 257)=w4:=⟨_,rfl⟩
     have b34:Below w3.heap.size w3 w4:=by rw [<-hw4];exact(Below.refl _ w3).alloc (Nat.le_refl _) _
     have hX4:Hid (w4.heap[w3.heap.size]?=some (.cells #[.int .i64 (x.1.1:Int),.int .i64 (x.1.2:Int),.slice xa x.2.length xc] 257 (0,0))):=zh (by rw [<-hw4];exact heap_alloc_new w3 _);have HO4:=zh (HO3.out.below b34);have HR4:=zh (HR3.out.below b34);have HB4:=zh (HB3.out.trans (b34.mono HB3.out.size));have HOX4:=zh (HOX.out.below b34);obtain⟨px,hpx⟩:∃px,w3.heap.size=px:=⟨_,rfl⟩
     rw [hpx] at hX4;have hpx4:Hid (px<w4.heap.size):=zh (Array.getElem?_eq_some_iff.1 hX4.out).1;have HPX:=zh hpx;clear b34;go_wp2_with fail;clear hw4 hpx;refine(ZaW _ ts ia w4 base HO4.out (by rw [HM.out];exact hia) (by rw [HM.out];omega)).mono ?_;rintro e w5 ⟨r5,rfl,ho5,hb5⟩;have hl5:(ts.eraseIdx ia).length=m-1:=by rw [List.length_eraseIdx_of_lt (by rw [HM.out];exact hia),HM.out]
     obtain⟨l5a,l5c,rfl⟩:=ho5.slice;have HL5:=zh hl5;rw [hl5] at ho5 ⊢;obtain⟨m5,hm5⟩:∃m5,m-1=m5:=⟨_,rfl⟩
     rw [hm5] at ho5 HL5 ⊢;have hm51:1<=m5:=by omega
     have hm52:m5+1=m:=by omega
     have HM5:=zh hm52;have hm5b:m5<=1000:=by omega
     have HO5:=zh ho5;have HR5:=zh (HR4.out.below hb5);have HB5:=zh (HB4.out.trans (hb5.mono HB4.out.size));have HOX5:=zh (HOX4.out.below hb5);have hX5:Hid (w5.heap[px]?=some (.cells #[.int .i64 (x.1.1:Int),.int .i64 (x.1.2:Int),.slice xa x.2.length xc] 257 (0,0))):=zh ((hb5.block px hpx4.out).trans hX4.out);clear ho5 hb5 hl5 hm5 hm52 x0 x1 x2;go_wp2_with fail;refine(Zby _ (ts.eraseIdx ia) _ _ HO5.out (by rw [HL5.out];omega) (by rw [HL5.out];omega)).mono ?_;rintro e w6 ⟨ib,rfl,hib,hnb,hb6⟩;rw [HL5.out] at hib;obtain⟨y,hy⟩:∃y,(ts.eraseIdx ia)[ib]?=some y:=⟨_,List.getElem?_eq_getElem (by rw [HL5.out];exact hib)⟩
     have HO6:=zh (HO5.out.below hb6);have HR6:=zh (HR5.out.below hb6);have HB6:=zh (HB5.out.trans (hb6.mono HB5.out.size));have HOX6:=zh (HOX5.out.below hb6);have hX6:Hid (w6.heap[px]?=some (.cells #[.int .i64 (x.1.1:Int),.int .i64 (x.1.2:Int),.slice xa x.2.length xc] 257 (0,0))):=zh ((hb6.block px ((Array.getElem?_eq_some_iff.1 hX5.out).1)).trans hX5.out);obtain⟨gy,cy,uy,he,hgy,y0,y1,y2,hoy,hoyx⟩:=HO6.out.at hy;rw [HL5.out] at he;simp only [Value.slice.injEq] at he;obtain⟨rfl,_,rfl⟩:=he;obtain⟨ya,yc,rfl⟩:=hoy.slice;have HY:=zh hy;have HNB:=zh hnb;have HOY:=zh hoy;have hibi:(ib:Int)<(m5:Int):=by omega
     have hib3:ib*3<3000:=by omega
     clear hy hnb hb6 hoy;obtain⟨w7,hw7⟩:∃w7,w6.alloc (.cells #[.int .i64 (y.1.1:Int),.int .i64 (y.1.2:Int),.slice ya y.2.length yc] 257)=w7:=⟨_,rfl⟩
     have b67:Below w6.heap.size w6 w7:=by rw [<-hw7];exact(Below.refl _ w6).alloc (Nat.le_refl _) _
     have hY7:Hid (w7.heap[w6.heap.size]?=some (.cells #[.int .i64 (y.1.1:Int),.int .i64 (y.1.2:Int),.slice ya y.2.length yc] 257 (0,0))):=zh (by rw [<-hw7];exact heap_alloc_new w6 _);have HO7:=zh (HO6.out.below b67);have HR7:=zh (HR6.out.below b67);have HB7:=zh (HB6.out.trans (b67.mono HB6.out.size));have HOX7:=zh (HOX6.out.below b67);have HOY7:=zh (HOY.out.below b67);have hX7:Hid (w7.heap[px]?=some (.cells #[.int .i64 (x.1.1:Int),.int .i64 (x.1.2:Int),.slice xa x.2.length xc] 257 (0,0))):=zh ((b67.block px ((Array.getElem?_eq_some_iff.1 hX6.out).1)).trans hX6.out);obtain⟨py,hpy⟩:∃py,w6.heap.size=py:=⟨_,rfl⟩
     rw [hpy] at hY7;have HPY:=zh hpy;clear b67;go_wp2_with fail;clear hw7 hpy;refine(ZaW _ (ts.eraseIdx ia) ib w7 _ HO7.out (by rw [HL5.out];exact hib) (by rw [HL5.out];omega)).mono ?_;rintro e w8 ⟨r8,rfl,ho8,hb8⟩;have hl8:((ts.eraseIdx ia).eraseIdx ib).length=m5-1:=by rw [List.length_eraseIdx_of_lt (by rw [HL5.out];exact hib),HL5.out]
     obtain⟨l8a,l8c,rfl⟩:=ho8.slice;have HL8:=zh hl8;rw [hl8] at ho8 ⊢;obtain⟨m8,hm8⟩:∃m8,m5-1=m8:=⟨_,rfl⟩
     rw [hm8] at ho8 HL8 ⊢;have hm82:m8+1=m5:=by omega
     have HM8:=zh hm82;have hm8b:m8<=1000:=by omega
     have hg7:Hid (g<w7.heap.size):=zh HR7.out.lt;have HO8:=zh ho8;have HR8:=zh (HR7.out.below hb8);have HB8:=zh (HB7.out.trans (hb8.mono HB7.out.size));have HOX8:=zh (HOX7.out.below hb8);have HOY8:=zh (HOY7.out.below hb8);have hX8:Hid (w8.heap[px]?=some (.cells #[.int .i64 (x.1.1:Int),.int .i64 (x.1.2:Int),.slice xa x.2.length xc] 257 (0,0))):=zh ((hb8.block px ((Array.getElem?_eq_some_iff.1 hX7.out).1)).trans hX7.out);have hY8:Hid (w8.heap[py]?=some (.cells #[.int .i64 (y.1.1:Int),.int .i64 (y.1.2:Int),.slice ya y.2.length yc] 257 (0,0))):=zh ((hb8.block py ((Array.getElem?_eq_some_iff.1 hY7.out).1)).trans hY7.out);have hsz8:Hid (w7.heap.size<=w8.heap.size):=zh hb8.size;obtain⟨hDS2,hsum,hzr,hzl⟩:=HD.out.step (by rw [HM.out];exact hia) HX.out HNA.out (by rw [HL5.out];exact hib) HY.out HNB.out;have x2:w8.cell? ⟨px,2,none⟩=some (.slice xa x.2.length xc):=by rw [cell_of_row _ _ _ _ _ _ hX8.out];rfl
     have y2':w8.cell? ⟨py,2,none⟩=some (.slice ya y.2.length yc):=by rw [cell_of_row _ _ _ _ _ _ hY8.out];rfl
     have HDS2:=zh hDS2;have HZR:=zh hzr;rw [List.length_append,HN.out] at hzl;have hsumb:x.1.1+y.1.1<=400000000000000:=by have:=hT.out;omega
     clear ho8 hb8 hl8 hm8 hm82 y0 y1 y2 hDS2 hzr hsum;go_wp2_with (at_builtin;go_loud (refine ZaF w8 rfl _ _ rfl w8.heap.size (.slice none 0 0) [] 0 (.slice xa x.2.length xc) x.2 (OwnI.nil w8 _) HOX8.out rfl rfl (by simp;omega) (Nat.le_refl _) ?_));intro v9 w9 hown9 hb9;have HOWN9:Hid (OwnI w9 w8.heap.size v9 x.2):=zh hown9;obtain⟨a9,c9,rfl⟩:=hown9.slice;have hOX9:=HOY8.out.below hb9;have hY9:w9.heap[py]?=some (.cells #[.int .i64 (y.1.1:Int),.int .i64 (y.1.2:Int),.slice ya y.2.length yc] 257 (0,0)):=(hb9.block py ((Array.getElem?_eq_some_iff.1 hY8.out).1)).trans hY8.out;have y2:w9.cell? ⟨py,2,none⟩=some (.slice ya y.2.length yc):=by rw [cell_of_row _ _ _ _ _ _ hY9];rfl
     have HOY9:=zh hOX9;have HB89:=zh hb9;have hs89:=hb9.size;clear hown9 hb9 hOX9 hY9 y2' x2;go_wp2_with (at_builtin;go_loud (refine ZaF w9 rfl _ _ rfl w8.heap.size (.slice a9 x.2.length c9) x.2 0 (.slice ya y.2.length yc) y.2 HOWN9.out HOY9.out rfl rfl (by omega) hs89 ?_));intro v10 w10 hown10 hb10;have b810:Below w8.heap.size w8 w10:=HB89.out.trans hb10;obtain⟨L,hL⟩:∃L,x.2++y.2=L:=⟨_,rfl⟩
     rw [hL] at hown10 HDS2 HZR;have hLn:L.length<=n:=by rw [<-hL,List.length_append];exact hzl
     have HLL:=zh hL;have HOWN10:Hid (OwnI w10 w8.heap.size v10 L):=zh hown10;obtain⟨a10,c10,rfl⟩:=hown10.slice;have HO10:=zh (HO8.out.below b810);have HR10:=zh (HR8.out.below b810);have HB10:Hid (Below w.heap.size w w10):=zh (HB8.out.trans (b810.mono HB8.out.size));have hX10:Hid (w10.heap[px]?=some (.cells #[.int .i64 (x.1.1:Int),.int .i64 (x.1.2:Int),.slice xa x.2.length xc] 257 (0,0))):=zh ((b810.block px ((Array.getElem?_eq_some_iff.1 hX8.out).1)).trans hX8.out);have hY10:Hid (w10.heap[py]?=some (.cells #[.int .i64 (y.1.1:Int),.int .i64 (y.1.2:Int),.slice ya y.2.length yc] 257 (0,0))):=zh ((b810.block py ((Array.getElem?_eq_some_iff.1 hY8.out).1)).trans hY8.out);have hg8:Hid (g<w8.heap.size):=zh HR8.out.lt;have hs810:Hid (w8.heap.size<=w10.heap.size):=zh b810.size
     have hpxg:Hid (px≠g):=zh (fun e=>by
      have h1:=hX10.out;have h2:=HR10.out;subst e;unfold RowI at h2;rw [h1] at h2;simp at h2)
     have hpyg:Hid (py≠g):=zh (fun e=>by
      have h1:=hY10.out;have h2:=HR10.out;subst e;unfold RowI at h2;rw [h1] at h2;simp at h2)
     clear hown10 hb10 b810 hL y2 hs89 hzl;go_wp2_with fail
     go_loopw [68] (fun vi wr=>∃k:Nat,vi=.int .i64 k/\k<=L.length/\RowI wr g (inc o (L.take k))/\Touch (·=g) w10 wr) (fun vi _=>L.length-(intOf vi).toNat)
     case atStart=>exact⟨0,rfl,by omega,HR10.out,Touch.refl _ _⟩
     case round=>
      obtain⟨k,rfl,hk,hR,hT⟩:=hrel;have HRK:=zh hR;have HTK:=zh hT
      have HLK:Hid (OwnI wr w8.heap.size (.slice a10 L.length c10) L):=zh (HOWN10.out.same (fun j hj=>hT.block j (World.ownsRow.lt HOWN10.out j hj).2 (fun e=>by
       have e':j=g:=e;have:=(World.ownsRow.lt HOWN10.out j hj).1;have:=hg8.out;omega)))
      clear hR hT;by_cases hlk:k<L.length
      ·have hki:(k:Int)<(L.length:Int):=by omega
       obtain⟨b1,o1,k1,he1,c1⟩:=HLK.out.ints.cell hlk;simp only [Value.slice.injEq] at he1;obtain⟨rfl,_,rfl⟩:=he1;have hzk:=HZR.out _ (getD_mem hlk);rw [HN.out] at hzk;have hit:=Zfm o L hlk;obtain⟨z,hz2⟩:∃z:Nat,L.getD k 0=(z:Int):=⟨(L.getD k 0).toNat,by omega⟩
       rw [hz2] at c1 hzk hit;rw [Int.toNat_natCast] at hit;have hzn:z<n:=by omega
       have hzni:(z:Int)<(n:Int):=by omega
       have hol:(inc o (L.take k)).length=n:=by rw [Zef,HD.out.ol,HN.out]
       obtain⟨c2,f2,hset⟩:=RowI.cell HRK.out (i:=z) (by rw [hol];exact hzn);have hnear:=Zfn (L.take k) o z;have hnear2:=HD.out.near (i:=z) (by rw [HN.out];exact hzn);rw [List.length_take] at hnear;rw [HN.out,HM.out] at hnear2;obtain⟨V,hV⟩:∃V,(inc o (L.take k)).getD z 0=V:=⟨_,rfl⟩
       rw [hV] at c2 hit hnear;have hVb:V<=2000:=by omega
       have hVb2:-2000<=V:=by omega
       have HNEXT:Hid (RowI (wr.setCell ⟨g,z,none⟩ (.int .i64 (V+1))) g (inc o (L.take (k+1)))):=zh (by rw [hit];exact hset (V+1));have HTN:Hid (Touch (·=g) w10 (wr.setCell ⟨g,z,none⟩ (.int .i64 (V+1)))):=zh (Zae HTK.out);clear hz2 hit hset hnear hnear2 hV hol;go_wp2_with fail;go_roundw
       case rel=>exact⟨k+1,by go_num,by omega,HNEXT.out,HTN.out⟩
       case measure=>simp [intOf];omega
      ·have hki:¬(k:Int)<(L.length:Int):=by omega
       have hRL:Hid (RowI wr g (inc o L)):=zh (by have:=HRK.out;rw [List.take_of_length_le (by omega)] at this;exact this);have HOL:Hid (OwnT g wr w7.heap.size (.slice l8a m8 l8c) ((ts.eraseIdx ia).eraseIdx ib)):=zh (HO10.out.set HR10.out HTK.out);have hXL:wr.heap[px]?=some (.cells #[.int .i64 (x.1.1:Int),.int .i64 (x.1.2:Int),.slice xa x.2.length xc] 257 (0,0)):=(HTK.out.block px ((Array.getElem?_eq_some_iff.1 hX10.out).1) hpxg.out).trans hX10.out;have hYL:wr.heap[py]?=some (.cells #[.int .i64 (y.1.1:Int),.int .i64 (y.1.2:Int),.slice ya y.2.length yc] 257 (0,0)):=(HTK.out.block py ((Array.getElem?_eq_some_iff.1 hY10.out).1) hpyg.out).trans hY10.out;have q1:wr.cell? ⟨px,0,none⟩=some (.int .i64 (x.1.1:Int)):=by rw [cell_of_row _ _ _ _ _ _ hXL];rfl
       have q2:wr.cell? ⟨py,0,none⟩=some (.int .i64 (y.1.1:Int)):=by rw [cell_of_row _ _ _ _ _ _ hYL];rfl
       obtain⟨S,hS⟩:∃S,x.1.1+y.1.1=S:=⟨_,rfl⟩
       have hSI:(x.1.1:Int)+(y.1.1:Int)=(S:Int):=by omega
       have hSb:S<=400000000000000:=by omega
       have HDS3:Hid (DS zs d ((ts.eraseIdx ia).eraseIdx ib++[((S,K),L)]) (inc o L) (K+1)):=zh (by rw [<-hS];exact HDS2.out)
       have hux:Hid ((Value.slice a10 L.length c10).ownBlock≠some g):=zh (fun e=>by
        have:=(World.ownsRow.lt HOWN10.out g e).1;have:=hg8.out;omega)
       have HUL:Hid (OwnI wr 0 (.slice a10 L.length c10) L):=zh (HLK.out.lower (Nat.zero_le _));have hbase:Hid (w7.heap.size<=wr.heap.size):=zh (by have:=HTK.out.size;have:=hs810.out;have:=hsz8.out;omega);have HBL:Hid (Below w.heap.size w wr):=zh (HB10.out.trans (HTK.out.below (B:=w.heap.size) HB10.out.size (fun i hi=>by have e:i=g:=hi;have:=hgw.out;omega)));have hll:Hid (((ts.eraseIdx ia).eraseIdx ib).length+1<=1000000):=zh (by rw [HL8.out];omega);have HSS:=zh hS;have hw7w:Hid (w.heap.size<=w7.heap.size):=zh (by have:=hgw.out;have:=hg7.out;omega);clear hXL hYL hS;go_wp2_with (at_builtin;go_loud (refine Zbe wr rfl _ _ rfl w7.heap.size wr.heap.size rfl (.slice l8a m8 l8c) ((ts.eraseIdx ia).eraseIdx ib) ((S,K),L) (.slice a10 L.length c10) HOL.out HUL.out hux.out rfl rfl hll.out hbase.out ?_));intro v12 w12 hown12 hb12;have HOWN12:=zh hown12;have HR12:Hid (RowI w12 g (inc o L)):=zh ((hb12.block g hg7.out).trans hRL.out);have HB12:Hid (Below w.heap.size w w12):=zh (HBL.out.trans (hb12.mono hw7w.out))
       have hv12:Hid (vlen v12=m8+1):=zh (by
        obtain⟨a12,c12,rfl⟩:=hown12.slice;show((ts.eraseIdx ia).eraseIdx ib++[((S,K),L)]).length=m8+1;rw [List.length_append,HL8.out];rfl)
       clear hown12 hb12;go_wp2_with fail;go_roundw
       case rel=>exact⟨_,_,K+1,_,w7.heap.size,rfl,by go_num,HOWN12.out,HDS3.out,HR12.out,by simp,HB12.out⟩
       case measure=>
        rw [hv12.out];show m8+1<m;have:=HM8.out;have:=HM5.out;omega
    ·have hm2i:¬(1:Int)<(m:Int):=by omega
     have hdep:Hid (DepP zs o):=zh (HD.out.end_ (by rw [HM.out];omega));have hIo:Hid (IsInts wr (.slice (some ⟨g,0,none⟩) n n) o):=zh (HR.out.ints n n (by rw [HD.out.ol,HN.out]));go_wp2_with fail;go_ret
     have hloc:∀k,(Value.slice (some ⟨g,0,none⟩) n n).ownBlock=some k->w.heap.size<=k:=fun k hk=>by
      simp only [Value.ownBlock,Option.some.injEq] at hk;have:=hgw.out;omega
     first
      | exact⟨_,o,rfl,hIo.out,hdep.out,HB.out,hloc⟩
      | exact⟨_,rfl,o,hIo.out,hdep.out,HB.out,hloc⟩
theorem ZcB (v:Value) (zs:List Int) (w:World) (hv:IsInts w v zs) (hz:zs.length<=1000000) (hb:∀z∈zs,z<=9223372036854775807) :
  Calls Tryz.prog 181 #[v] w fun e w'=>∃r,e=.returned r/\IsInts w' r (hvs zs)/\Below w.heap.size w w':=by
 have HV:=zh hv;have HBD:=zh hb;obtain⟨a,cap,rfl,_⟩:=hv;obtain⟨N,hN⟩:∃N,zs.length=N:=⟨_,rfl⟩
 have HN:=zh hN;rw [hN] at hz ⊢;clear hb hN;go_enter Tryz.func181,Tryz.ntmps181;go_wp2_with fail
 go_loopw [3,5,8] (fun vo _ vi wr=>∃(k:Nat) (o:Value),vi=.int .i64 k/\k<=N/\o=vo/\OwnI wr w.heap.size o (hvs (zs.take k))/\Below w.heap.size w wr) (fun _ _ vi _=>N-(intOf vi).toNat)
 case atStart=>exact⟨0,_,rfl,by omega,rfl,OwnI.nil _ _,Below.refl _ _⟩
 case round=>
  obtain⟨k,o,rfl,hk,rfl,hO,hB⟩:=hrel;have HO:=zh hO;have HB:=zh hB;have HBS:=hB.size;obtain⟨oa,oc,rfl⟩:=hO.slice;have hlen:(hvs (zs.take k)).length=k:=by rw [Zck,List.length_take,HN.out];omega
  rw [hlen] at HO ⊢;by_cases hlk:k<N
  ·have hki:(k:Int)<(N:Int):=by omega
   have hlz:k<zs.length:=by rw [HN.out];exact hlk
   obtain⟨b1,o1,k1,he1,c1⟩:=HV.out.cell hlz;rw [HN.out] at he1;simp only [Value.slice.injEq] at he1;obtain⟨rfl,_,rfl⟩:=he1;have c1:=(HB.out.cell (ZaE c1)).trans c1;obtain⟨x,hx⟩:∃x,zs.getD k 0=x:=⟨_,rfl⟩
   rw [hx] at c1;have hxb:x<=9223372036854775807:=by rw [<-hx];exact HBD.out _ (getD_mem hlz)
   have h3:Hid (hvs (zs.take (k+1))=hvs (zs.take k)++[hv x]):=zh (by
    unfold hvs;rw [List.take_add_one,List.map_append,List.getElem?_eq_getElem hlz];have hx2:zs[k]=x:=by rw [<-hx,List.getD_eq_getElem?_getD,List.getElem?_eq_getElem hlz];rfl
    simp only [Option.toList_some,List.map_cons,List.map_nil,hx2])
   have HLEN:=zh hlen;clear hO hB hx hlen hlz;by_cases hx0:x<0
   ·have hz0:Hid (hv x=1):=zh (by unfold hv;rw [if_pos hx0];rfl);have hq:IntKind.i64.wrap (0 / 2)=0:=by decide
    go_wp2_with (at_builtin;go_loud (refine Zaf wr rfl _ _ rfl w.heap.size (.slice oa k oc) (hvs (zs.take k)) 1 HO.out rfl rfl (by rw [HLEN.out];omega) HBS ?_));intro v' w' hown hb;have HOWN:=zh hown;have HBB:=zh (HB.out.trans hb);clear hown hb;go_wp2_with fail;go_roundw
    case rel=>exact⟨k+1,_,by go_num,by omega,rfl,by rw [h3.out,hz0.out];exact HOWN.out,HBB.out⟩
    case measure=>simp [intOf];omega
   ·have hz0:Hid (hv x=x / 2+1):=zh (by unfold hv;rw [if_neg hx0]);have hx1:0<=x:=by omega
    have hq:IntKind.i64.wrap (x / 2)=x / 2:=IntWalk.i64_in _ (by omega);go_wp2_with (at_builtin;go_loud (refine Zaf wr rfl _ _ rfl w.heap.size (.slice oa k oc) (hvs (zs.take k)) (x / 2+1) HO.out rfl rfl (by rw [HLEN.out];omega) HBS ?_));intro v' w' hown hb;have HOWN:=zh hown;have HBB:=zh (HB.out.trans hb);clear hown hb;go_wp2_with fail;go_roundw
    case rel=>exact⟨k+1,_,by go_num,by omega,rfl,by rw [h3.out,hz0.out];exact HOWN.out,HBB.out⟩
    case measure=>simp [intOf];omega
  ·have hki:¬(k:Int)<(N:Int):=by omega
   obtain rfl:N=k:=by omega
   have e:hvs (zs.take N)=hvs zs:=by rw [List.take_of_length_le (Nat.le_of_eq HN.out)]
   rw [e] at HO;clear e hO hB hlen;go_wp2_with fail;go_ret;exact⟨_,rfl,HO.out.ints,HB.out⟩
theorem Zfo (v:Value) (zs rs:List Int) (m0:Nat) (w:World) (hv:IsInts w v zs) (h3:3<=zs.length) (hz:zs.length<=258) (hw:Within 0 1099511627776 zs) (hm0:m0<=40) (hof:OfR m0 (ups zs) rs) :
  Calls Tryz.prog 152 #[v] w fun e w'=>∃r,e=.returned r/\IsInts w' r rs/\Below w.heap.size w w'/\(∀k,r.ownBlock=some k->w.heap.size<=k):=by
 have HV:=zh hv;have HW:=zh hw;have HOF:=zh hof;obtain⟨a,cap,rfl,_⟩:=hv;obtain⟨N,hN⟩:∃N,zs.length=N:=⟨_,rfl⟩
 have HN:=zh hN;rw [hN] at hz h3 ⊢;clear hw hof hN;go_enter Tryz.func152,Tryz.ntmps152;go_wp2_with fail
 go_loopw [3,5,9] (fun vo _ vi wr=>∃(k:Nat) (o:Value),vi=.int .i64 k/\k<=N/\o=vo/\OwnI wr w.heap.size o (ups (zs.take k))/\Below w.heap.size w wr) (fun _ _ vi _=>N-(intOf vi).toNat)
 case atStart=>exact⟨0,_,rfl,by omega,rfl,OwnI.nil _ _,Below.refl _ _⟩
 case round=>
  obtain⟨k,o,rfl,hk,rfl,hO,hB⟩:=hrel;have HO:=zh hO;have HB:=zh hB;have HBS:=hB.size;obtain⟨oa,oc,rfl⟩:=hO.slice;have hlen:(ups (zs.take k)).length=k:=by rw [Zcd,List.length_take,HN.out];omega
  rw [hlen] at HO ⊢;by_cases hlk:k<N
  ·have hki:(k:Int)<(N:Int):=by omega
   have hlz:k<zs.length:=by rw [HN.out];exact hlk
   obtain⟨b1,o1,k1,he1,c1⟩:=HV.out.cell hlz;rw [HN.out] at he1;simp only [Value.slice.injEq] at he1;obtain⟨rfl,_,rfl⟩:=he1;have c1:=(HB.out.cell (ZaE c1)).trans c1;obtain⟨x,hx⟩:∃x,zs.getD k 0=x:=⟨_,rfl⟩
   rw [hx] at c1;have hx2:=HW.out _ (getD_mem hlz);rw [hx] at hx2
   have h3:Hid (ups (zs.take (k+1))=ups (zs.take k)++[if x<1 then 1 else x]):=zh (by
    unfold ups;rw [List.take_add_one,List.map_append,List.getElem?_eq_getElem hlz];have hx2:zs[k]=x:=by rw [<-hx,List.getD_eq_getElem?_getD,List.getElem?_eq_getElem hlz];rfl
    simp only [Option.toList_some,List.map_cons,List.map_nil,hx2])
   have HLEN:=zh hlen;clear hO hB hx hlen hlz;by_cases hx0:x=0
   ·have hz0:Hid ((if x<1 then 1 else x)=1):=zh (if_pos (by omega));have hxe:(x==0)=true:=by rw [beq_iff_eq];exact hx0
    clear hx0;go_wp2_with (at_builtin;go_loud (refine Zaf wr rfl _ _ rfl w.heap.size (.slice oa k oc) (ups (zs.take k)) 1 HO.out rfl rfl (by rw [HLEN.out];omega) HBS ?_));intro v' w' hown hb;have HOWN:=zh hown;have HBB:=zh (HB.out.trans hb);clear hown hb;go_wp2_with fail;go_roundw
    case rel=>exact⟨k+1,_,by go_num,by omega,rfl,by rw [h3.out,hz0.out];exact HOWN.out,HBB.out⟩
    case measure=>simp [intOf];omega
   ·have hz0:Hid ((if x<1 then 1 else x)=x):=zh (if_neg (by omega));have hxe:(x==0)=false:=by rw [beq_eq_false_iff_ne];exact hx0
    clear hx0;go_wp2_with (at_builtin;go_loud (refine Zaf wr rfl _ _ rfl w.heap.size (.slice oa k oc) (ups (zs.take k)) x HO.out rfl rfl (by rw [HLEN.out];omega) HBS ?_));intro v' w' hown hb;have HOWN:=zh hown;have HBB:=zh (HB.out.trans hb);clear hown hb;go_wp2_with fail;go_roundw
    case rel=>exact⟨k+1,_,by go_num,by omega,rfl,by rw [h3.out,hz0.out];exact HOWN.out,HBB.out⟩
    case measure=>simp [intOf];omega
  ·have hki:¬(k:Int)<(N:Int):=by omega
   obtain rfl:N=k:=by omega
   have e:ups (zs.take N)=ups zs:=by rw [List.take_of_length_le (Nat.le_of_eq HN.out)]
   rw [e] at HO;have hul:Hid ((ups zs).length=N):=zh (by rw [Zcd,HN.out])
   have hub:Hid (∀z∈ups zs,0<=z/\z<=1099511627776):=zh (fun z hz=>by
    obtain⟨x,hx,rfl⟩:=List.mem_map.1 hz;have:=HW.out x hx;split<;>omega)
   clear e hO hB hlen;go_wp2_with fail
   go_loopg [3,6,20] m0 (fun gk vw _ vi wr=>∃(ws:List Int) (k:Nat),vi=.int .i64 k/\k+gk<=40/\IsInts wr vw ws/\ws.length=N/\(∀z∈ws,0<=z/\z<=1099511627776)/\OfR gk ws rs/\Below w.heap.size w wr)
   case atStart=>exact⟨ups zs,0,rfl,by omega,HO.out.ints,hul.out,hub.out,HOF.out,HB.out⟩
   case round=>
    obtain⟨ws,k,rfl,hkg,hws,hwl,hwb,hor,hB4⟩:=hrel;have HWS:=zh hws;have HWL:=zh hwl;have HWB:=zh hwb;have HOR:=zh hor;have HB4:=zh hB4;obtain⟨a1,cap1,rfl,_⟩:=hws;rw [hwl] at HWS ⊢;have hk100:(k:Int)<100:=by omega
    clear hwl hwb hor hB4;go_wp2_with fail;refine(ZcA _ ws wr HWS.out (by rw [HWL.out];omega) (by rw [HWL.out];omega) (fun z hz=>by have:=HWB.out z hz;omega)).mono ?_;rintro e w5 ⟨r5,ds,rfl,hi5,hd5,hb5,ho5⟩;have HO5:Hid (∀k,r5.ownBlock=some k->w.heap.size<=k):=zh (fun k hk=>Nat.le_trans HB4.out.size (ho5 k hk));clear ho5;have HI5:=zh hi5;have HD5:=zh hd5;have HB5:=zh (HB4.out.trans (hb5.mono HB4.out.size));have HW5:=zh (HWS.out.below hb5);have hdl:ds.length=N:=by rw [hd5.len,HWL.out]
    have hdb:∀z∈ds,1<=z:=fun z hz=>(hd5.bound (by rw [HWL.out];omega) z hz).1
    obtain⟨a5,cap5,rfl,_⟩:=hi5;by_cases hgt:∀y∈ds,y<=20
    ·have HM:=zh (Zd1 _ ds 1 20 true w5 HI5.out ⟨fun _=>fun z hz=>⟨hdb z hz,hgt z hz⟩,fun _=>rfl⟩ (by omega))
     have hrs:Hid (rs=ds):=zh (by
      cases HOR.out with
      | now _ _ k1 k2=>exact k1.same HD5.out
      | later n _ ys _ k1 k2 k3=>exact absurd (by rw [<-HD5.out.same k1];exact hgt) k2)
     rw [hdl] at HI5 HM HO5 ⊢;clear hd5 hb5 hdl hdb hgt;go_wp2_with fail;refine HM.out.mono ?_;rintro e w6 ⟨rfl,rfl⟩;go_wp2_with fail;go_ret;exact⟨_,rfl,by rw [hrs.out];exact HI5.out,HB5.out,HO5.out⟩
    ·have HM:=zh (Zd1 _ ds 1 20 false w5 HI5.out ⟨fun h=>(by cases h),fun h=>absurd (fun z hz=>(h z hz).2) hgt⟩ (by omega))
     obtain⟨j,hj,hor2⟩:∃j,gk=j+1/\OfR j (hvs ws) rs:=by
      cases HOR.out with
      | now _ _ k1 k2=>exact absurd (by rw [HD5.out.same k1];exact k2) hgt
      | later n _ ys _ k1 k2 k3=>exact⟨n,rfl,k3⟩
     have HOR2:=zh hor2;have HJ:=zh hj;rw [hdl] at HI5 HM ⊢;clear hd5 hb5 hdl hdb hgt hor2 hj;go_wp2_with fail;refine HM.out.mono ?_;rintro e w6 ⟨rfl,rfl⟩;go_wp2_with fail;refine(ZcB _ ws w6 HW5.out (by rw [HWL.out];omega) (fun z hz=>by have:=HWB.out z hz;omega)).mono ?_;rintro e w7 ⟨r7,rfl,hi7,hb7⟩;have HI7:=zh hi7;have HB7:=zh (HB5.out.trans (hb7.mono HB5.out.size));clear hi7 hb7;go_wp2_with fail
     go_roundg j
     case rel=>exact⟨hvs ws,k+1,by go_num,by have:=HJ.out;omega,HI7.out,by rw [Zck,HWL.out],ZdJ (fun z hz=>by have:=HWB.out z hz;omega),HOR2.out,HB7.out⟩
     case measure=>have:=HJ.out;omega
end
section
open Go.RowKit TabM FreqM HufM
theorem Zeg (zs:List Int) (q i:Nat) (h:i<q):rw_ (grps zs q) i=grp zs i:=by
 unfold rw_;rw [List.getD_eq_getElem?_getD,List.getElem?_eq_getElem (by rw [Zaz];exact h),Ze5];rfl
theorem Zeh (zs:List Int) (rows:List (List Int)) (q i:Nat) (h:i<q):(picksM zs rows q).getD i 0=(pickM (grp zs i) rows:Int):=by
 rw [List.getD_eq_getElem?_getD,List.getElem?_eq_getElem (by rw [ZaC];exact h)];simp [picksM]
def RfI (H C BG bG:Nat) (w wr:World) (zs:List Int) (N i:Nat) (vL vP vG:Value):Prop:=
 wr.heap[H]?=some (.cells #[.slice none 0 0,.slice none 0 0] 167 (0,0))/\wr.heap[C]?=some (.cells #[vL,vP] 167 (0,0))/\IsRR wr vL (rnd zs N i)/\Below H w wr /\
 (1<=i->Kept (C+1) wr vL vP (rnd zs N i) (picksM zs (rnd zs N (i-1)) (ng zs.length)))/\OwnRI wr BG bG vG (grps zs (ng zs.length))/\H<C/\C<BG
theorem Zei (a:Option Addr) (len c:Nat) (zs:List Int) (N:Nat) (w:World) (hI:IsInts w (.slice a len c) zs) (hlen:zs.length=len) (hz:len<=1000)
  (hsy:Syms zs (N:Int)) (h1:1<=len) (h3:3<=N) (h258:N<=258) :
  Calls Tryz.prog 112 #[.slice a len c,.int .i64 (N:Int)] w fun e w'=>∃(vL vP:Value),e=.returned (.agg #[vL,vP])/\IsRR w' vL (rnd zs N 4)/\IsInts w' vP (picksM zs (rnd zs N 3) (ng zs.length))/\Below w.heap.size w w':=by
 have h0:=heap_alloc_new w (.cells #[.slice none 0 0,.slice none 0 0] 167);have hB1:=(Below.refl w.heap.size w).alloc (Nat.le_refl _) (.cells #[.slice none 0 0,.slice none 0 0] 167);have hI1:=hI.below hB1;have HCN:=zh (Zbc _ zs N _ hI1 (by omega) (by omega));have HB1:=zh hB1;have HSY:=zh hsy;have hi:=Zfk;have hu:=Tryz.underlying167;have HLEN:=zh hlen;have HCC:Hid (Nums (counts zs N)/\(counts zs N).length=N):=zh ⟨fun x hx=>by have:=ZdV zs N x hx;omega,Zaq zs N⟩;have HRO:Hid (∀i,TabOk N (rnd zs N i)):=zh (fun i=>Zjv h3 h258 (by omega) i);have HRL:Hid (∀i,(rnd zs N i).length=nTab (len:Int)):=zh (fun i=>by rw [ZeQ,hlen]);have htb:=Zc8 (len:Int);obtain⟨T,hT⟩:∃T,nTab (len:Int)=T:=⟨_,rfl⟩
 rw [hT] at HRL htb;obtain⟨hT2,hT6⟩:=htb;have HTT:=zh hT;have hng:ng len<=20:=by unfold ng;omega
 obtain⟨Q,hQ⟩:∃Q,ng len=Q:=⟨_,rfl⟩
 have HQ:Hid (ng zs.length=Q):=zh (by rw [hlen,hQ]);have HQ2:Hid (∀m,m<Q->50*m<len):=zh (fun m hm=>by rw [<-hQ] at hm;unfold ng at hm;omega);rw [hQ] at hng;have HTK:Hid (∀p q rows,(took zs rows p q).length<=1000):=zh (fun p q rows=>by have:=ZbV zs rows p q;omega);have HCO:Hid (∀p q rows,OfOk (counts (took zs rows p q) N)):=zh (fun p q rows=>Zir h3 h258 (by have:=ZbV zs rows p q;omega))
 have HRM:Hid (∀rows p,p<rows.length->(roundM zs N rows).take (p+1)=(roundM zs N rows).take p++[lensF (counts (took zs rows p Q) N)]):=zh (fun rows p hp=>by
  rw [List.take_succ_eq_append_getElem (by rw [Za1];omega)];unfold roundM;simp only [List.getElem_map,List.getElem_range];rw [hlen,hQ])
 have hs1:(w.alloc (.cells #[.slice none 0 0,.slice none 0 0] 167)).heap.size=w.heap.size+1:=by simp
 have HS1:=zh hs1;have HI0:=zh hI;clear hB1 hI1 hs1 hlen hsy hQ hI hT;go_enter Tryz.func112,Tryz.ntmps112;go_wp2_with fail;generalize hw1:w.alloc (.cells #[.slice none 0 0,.slice none 0 0] 167)=w1 at *;clear hw1;refine HCN.out.mono ?_;rintro e w2 ⟨u,rfl,hI2,hB2⟩;have hg2:w2.heap[w.heap.size]?=some (.cells #[.slice none 0 0,.slice none 0 0] 167 (0,0)):=(hB2.block _ (by rw [HS1.out];omega)).trans h0;have HG2:=zh hg2;have HB2:Hid (Below w.heap.size w w2):=zh (HB1.out.trans (hB2.mono HB1.out.size));have HF:=zh (Zdl u (counts zs N) (len:Int) w2 hI2 HCC.out.1 (by rw [HCC.out.2];exact h258) (by omega) (by omega));obtain⟨au,cu,rfl,_⟩:=hI2;rw [HCC.out.2] at HF ⊢;clear hB2 h0 HCN hg2 HB1;go_wp2_with fail;refine HF.out.mono ?_;rintro e w4 ⟨vL0,rfl,hR4,hB4⟩;have hR4':=hR4;obtain⟨aL,cL,rfl,_⟩:=hR4'
 have hR5:IsRR w4 (.slice aL (firstM (counts zs N) (len:Int)).length cL) (rnd zs N 0):=by
  unfold rnd;rw [HLEN.out];exact hR4
 have hT:(firstM (counts zs N) (len:Int)).length=T:=by rw [firstM,Zca];exact HTT.out
 rw [hT] at hR5 ⊢;obtain⟨C,hC⟩:∃C,w4.heap.size=C:=⟨_,rfl⟩
 obtain⟨H,hH⟩:∃H,w.heap.size=H:=⟨_,rfl⟩
 have hHC:H<C:=by
  have h5:=(Array.getElem?_eq_some_iff.1 HG2.out).1;have h6:=hB4.size;omega
 have hB14:Below w.heap.size w (w4.alloc (.cells #[.slice aL T cL,.slice none 0 0] 167)):=(HB2.out.trans (hB4.mono HB2.out.size)).alloc (by have:=HB2.out.size;have:=hB4.size;omega) _;have HGR:=zh (Zcy (.slice a len c) zs _ (HI0.out.below hB14) (by rw [HLEN.out];omega));rw [HQ.out] at HGR;have hs5:(w4.alloc (.cells #[.slice aL T cL,.slice none 0 0] 167)).heap.size=C+1:=by rw [<-hC];simp
 have HS:Hid ((w4.alloc (.cells #[.slice aL T cL,.slice none 0 0] 167)).heap[H]?=some (.cells #[.slice none 0 0,.slice none 0 0] 167 (0,0))/\(w4.alloc (.cells #[.slice aL T cL,.slice none 0 0] 167)).heap[C]?=some (.cells #[.slice aL T cL,.slice none 0 0] 167 (0,0))/\IsRR (w4.alloc (.cells #[.slice aL T cL,.slice none 0 0] 167)) (.slice aL T cL) (rnd zs N 0)/\Below H w (w4.alloc (.cells #[.slice aL T cL,.slice none 0 0] 167))):=zh (by
  have h5:=(Array.getElem?_eq_some_iff.1 HG2.out).1;refine⟨?_,?_,hR5.below ((Below.refl _ _).alloc (Nat.le_refl _) _),?_⟩
  ·rw [<-hH];exact(Zam (by omega)).trans ((hB4.block _ h5).trans HG2.out)
  ·rw [<-hC];exact heap_alloc_new w4 _
  ·rw [<-hH];exact hB14)
 have HHH:=zh hH;have HCX:=zh hC;have HS5:=zh hs5;clear hR4 hR5 hB4 hT hC hH HG2 HB2 HF hB14 hs5;go_wp2_with fail;rw [HCX.out];generalize w4.alloc (.cells #[.slice aL T cL,.slice none 0 0] 167)=w5 at *;refine HGR.out.mono ?_;rintro e w6 ⟨vG,bG,rfl,hG6,hB6⟩
 have HG0:Hid (RfI H C w5.heap.size bG w w6 zs N 0 (.slice aL T cL) (.slice none 0 0) vG):=zh (by
  obtain⟨k1,k2,k3,k4⟩:=HS.out;exact⟨(hB6.block _ (by rw [HS5.out];omega)).trans k1,(hB6.block _ (by rw [HS5.out];omega)).trans k2,k3.below hB6,k4.trans (hB6.mono (by rw [HS5.out];omega)),fun h=>by omega,by rw [HQ.out];exact hG6,hHC,by rw [HS5.out];omega⟩)
 obtain⟨aG,cG,rfl⟩:=hG6.slice;rw [Zaz] at HG0 ⊢;generalize w5.heap.size=BG at *;clear hG6 hB6 HS HGR HS5;go_wp2_with fail
 try rw [HHH.out]
 go_loopw [24] (fun vi wr=>∃(i:Nat) (vL vP:Value),vi=.int .i64 (i:Int)/\i<=4/\RfI H C BG bG w wr zs N i vL vP (.slice aG Q cG)) (fun vi _=>4-(intOf vi).toNat)
 case atStart=>exact⟨0,_,_,rfl,by omega,HG0.out⟩
 case round=>
  clear HG0;obtain⟨i,vL,vP,rfl,hi4,hO⟩:=hrel;have HO:=zh hO;obtain⟨k1,k2,k3,k4,k5,k6,k7,k8⟩:=hO;have hCl:=(Array.getElem?_eq_some_iff.1 k2).1;by_cases hlt:i<4
  ·have hii:(i:Int)<4:=by omega
   obtain⟨wa,rfl⟩:∃wa:World,wa=wr:=⟨_,rfl⟩
   obtain⟨aL2,cL2,rfl,_⟩:=id k3;rw [HRL.out] at HO k2 k3;have HOKR:=zh (HRO.out i);have HNXR:Hid (rnd zs N (i+1)=roundM zs N (rnd zs N i)):=zh rfl;have HLR:=zh (HRL.out i);obtain⟨rows,hrows⟩:∃rows,rnd zs N i=rows:=⟨_,rfl⟩
   have HROWS:=zh hrows;rw [hrows] at HOKR HNXR HLR k3
   have HX:Hid (∀W,Below wa.heap.size wa W->W.cell? ⟨C,0,none⟩=some (.slice aL2 T cL2)/\IsRR W (.slice aL2 T cL2) rows/\IsRR W (.slice aG Q cG) (grps zs Q)):=zh (fun W hW=>by
    refine⟨?_,k3.below hW,?_⟩
    ·rw [cell_of_row _ _ _ _ _ _ ((hW.block C hCl).trans k2)];rfl
    ·have h5:=(k6.rr).below hW;rw [HQ.out] at h5;exact h5)
   have hrm:(roundM zs N rows).length=T:=by rw [Za1,HLR.out]
   have HRML:=zh hrm;have HRMR:=zh (fun p hp=>HRM.out rows p hp);rw [HLR.out] at HRMR;have HRT:=zh (HX.out wa (Below.refl _ _)).1;clear k1 k2 k3 k4 k5 k6 hrows hrm;go_wp2_with fail
   go_loopw [7,28] (fun vp vj wr=>∃(j:Nat) (u:Value),vj=.int .i64 (j:Int)/\u=vp/\j<=Q/\OwnI wr wa.heap.size u (picksM zs rows j)/\Below wa.heap.size wa wr) (fun _ vj _=>Q-(intOf vj).toNat)
   case atStart=>exact⟨0,_,rfl,rfl,by omega,OwnI.nil _ _,Below.refl _ _⟩
   case round=>
    obtain⟨j,u,rfl,rfl,hj,hU,hB⟩:=hrel;have HU:=zh hU;have HB:=zh hB;clear hU hB;obtain⟨r0,hRR,hGG⟩:=HX.out wr HB.out;have HRR:=zh hRR;have HGG:=zh hGG;clear hRR hGG;by_cases hjQ:j<Q
    ·have hji:(j:Int)<(Q:Int):=by omega
     obtain⟨b,off,cap,ug,he,c1,hIg⟩:=HGG.out.at_ (show j<(grps zs Q).length by rw [Zaz];exact hjQ);rw [Zeg zs Q j hjQ] at hIg;rw [Zaz] at he;simp only [Value.slice.injEq] at he;obtain⟨rfl,he2,rfl⟩:=he;clear he2;have HPK:=zh (Zee ug (.slice aL2 T cL2) (grp zs j) rows N wr hIg HRR.out (Zf8 HSY.out j) HOKR.out (by have:=Zc7 zs j;omega) h258);have HPS:Hid (picksM zs rows (j+1)=picksM zs rows j++[(pickM (grp zs j) rows:Int)]):=zh (ZdW zs rows j);have HPL:=zh (ZaC zs rows j);obtain⟨P,hP⟩:∃P,pickM (grp zs j) rows=P:=⟨_,rfl⟩
     rw [hP] at HPK HPS;obtain⟨ag,cg,hug,_⟩:=hIg;obtain⟨n1,hn1⟩:∃n,(grp zs j).length=n:=⟨_,rfl⟩
     rw [hn1] at hug;subst hug;clear hP hn1;go_wp2_with fail;refine HPK.out.mono ?_;rintro e w7 ⟨rfl,hB7⟩;have HU7:=zh (HU.out.below hB7);have HB7:Hid (Below wa.heap.size wa w7):=zh (HB.out.trans (hB7.mono HB.out.size));have hs7:wa.heap.size<=w7.heap.size:=HB7.out.size;clear hB7 HU HB;obtain⟨au,cu,rfl⟩:=HU7.out.slice;rw [HPL.out] at HU7 ⊢;go_wp2_with (at_builtin;go_loud (refine Zaf w7 rfl _ _ rfl wa.heap.size _ (picksM zs rows j) (P:Int) HU7.out rfl rfl (by rw [HPL.out];omega) hs7 ?_));intro v8 w8 hO8 hB8;have HO8:Hid (OwnI w8 wa.heap.size v8 (picksM zs rows (j+1))):=zh (by rw [HPS.out];exact hO8);have HB8:=zh (HB7.out.trans hB8);clear hO8 hB8;go_wp2_with fail;go_roundw
     case rel=>exact⟨j+1,_,by go_num,rfl,by omega,HO8.out,HB8.out⟩
     case measure=>simp [intOf];omega
    ·obtain rfl:j=Q:=by omega
     have hji:¬(j:Int)<(j:Int):=by omega
     obtain⟨aP,cP,rfl⟩:=HU.out.slice;rw [ZaC] at HU ⊢;obtain⟨wb,rfl⟩:∃wb:World,wb=wr:=⟨_,rfl⟩
     have HAB:=zh HB.out;have HUB:=zh HU.out;clear HU HB HRR HGG;go_wp2_with fail
     go_loopw [10,43] (fun vt vp wr=>∃(p bn:Nat) (u:Value),vp=.int .i64 (p:Int)/\u=vt/\p<=T/\OwnRI wr wb.heap.size bn u ((roundM zs N rows).take p)/\Below wb.heap.size wb wr) (fun _ vp _=>T-(intOf vp).toNat)
     case atStart=>exact⟨0,wb.heap.size,_,rfl,rfl,by omega,OwnRI.nil _ _ (Nat.le_refl _),Below.refl _ _⟩
     case round=>
      obtain⟨p,bn,u,rfl,rfl,hp,hR,hB⟩:=hrel;have HR:=zh hR;have HB:=zh hB;have hbn:bn<=wr.heap.size:=hR.2.1;clear hR hB;by_cases hpT:p<T
      ·have hpi:(p:Int)<(T:Int):=by omega
       have HRS:=zh (HRMR.out p hpT);have HCOP:=zh (HCO.out p j rows);have HTKP:=zh (fun q=>HTK.out p q rows);obtain⟨wc,rfl⟩:∃wc:World,wc=wr:=⟨_,rfl⟩
       go_wp2_with fail
       go_loopw [12,48] (fun va vm wr=>∃(m:Nat) (u2:Value),vm=.int .i64 (m:Int)/\u2=va/\m<=j/\OwnI wr wc.heap.size u2 (took zs rows p m)/\Below wc.heap.size wc wr) (fun _ vm _=>j-(intOf vm).toNat)
       case atStart=>exact⟨0,_,rfl,rfl,by omega,OwnI.nil _ _,Below.refl _ _⟩
       case round=>
        obtain⟨m,u2,rfl,rfl,hm,hA,hBC⟩:=hrel;have HA:=zh hA;have HBC:=zh hBC;clear hA hBC;have HBB:Hid (Below wb.heap.size wb wr):=zh (HB.out.trans (HBC.out.mono HB.out.size));have HBA:Hid (Below wa.heap.size wa wr):=zh (HAB.out.trans (HBB.out.mono HAB.out.size));obtain⟨r1,_,hGG⟩:=HX.out wr HBA.out;have HGG:=zh hGG;clear hGG;by_cases hmQ:m<j
        ·have hmi:(m:Int)<(j:Int):=by omega
         obtain⟨b,off,cap,ug,he,c1,hIg⟩:=HGG.out.at_ (show m<(grps zs j).length by rw [Zaz];exact hmQ);rw [Zeg zs j m hmQ] at hIg;rw [Zaz] at he;simp only [Value.slice.injEq] at he;obtain⟨rfl,he2,rfl⟩:=he;clear he2;have HPI:Hid (IsInts wr (.slice aP j cP) (picksM zs rows j)):=zh (HUB.out.ints.below HBB.out);obtain⟨b1,o1,k1,he1,c2⟩:=HPI.out.cell (show m<(picksM zs rows j).length by rw [ZaC];exact hmQ);rw [ZaC] at he1;rw [Zeh zs rows j m hmQ] at c2;simp only [Value.slice.injEq] at he1;obtain⟨rfl,he1b,rfl⟩:=he1;clear he1b;have hgl:50*m<len:=HQ2.out m hmQ;have hgn:=Zc7 zs m;rw [HLEN.out] at hgn;have HGI:=zh hIg;obtain⟨b3,o3,k3,he3,_⟩:=hIg.cell (k:=0) (by omega);subst he3;have HTS:Hid (took zs rows p (m+1)=took zs rows p m++(if pickM (grp zs m) rows=p then grp zs m else[])):=zh rfl;obtain⟨P,hP⟩:∃P,pickM (grp zs m) rows=P:=⟨_,rfl⟩
         rw [hP] at c2 HTS;obtain⟨n1,hn1⟩:∃n,(grp zs m).length=n:=⟨_,rfl⟩
         rw [hn1] at c1 HGI hgn;have HTL:Hid ((took zs rows p m).length+(grp zs m).length<=17592186044416):=zh (by have:=HTKP.out m;omega);have hsc:wc.heap.size<=wr.heap.size:=HBC.out.size;have hn50:n1<=50:=by omega
         clear hP hn1 hIg hgl hgn r1;obtain⟨aU,cU,rfl⟩:=HA.out.slice;obtain⟨L2,hL2⟩:∃L,(took zs rows p m).length=L:=⟨_,rfl⟩
         rw [hL2] at HA ⊢;clear hL2;by_cases hPp:P=p
         ·have hPb:((P:Int)==(p:Int))=true:=by rw [beq_iff_eq];omega
          have HTS2:Hid (took zs rows p (m+1)=took zs rows p m++grp zs m):=zh (by rw [HTS.out,if_pos hPp]);clear HTS hPp;go_wp2_with (at_builtin;go_loud (refine Zf1 wr rfl _ _ rfl wc.heap.size _ (took zs rows p m) b3 o3 n1 k3 (grp zs m) HA.out HGI.out rfl rfl HTL.out hsc ?_));intro v8 w8 hO8 hB8;have HO8:Hid (OwnI w8 wc.heap.size v8 (took zs rows p (m+1))):=zh (by rw [HTS2.out];exact hO8);have HB8:=zh (HBC.out.trans hB8);clear hO8 hB8;go_wp2_with fail;go_roundw
          case rel=>exact⟨m+1,_,by go_num,rfl,by omega,HO8.out,HB8.out⟩
          case measure=>simp [intOf];omega
         ·have hPb:((P:Int)==(p:Int))=false:=by rw [beq_eq_false_iff_ne];omega
          have HO8:Hid (OwnI wr wc.heap.size (.slice aU L2 cU) (took zs rows p (m+1))):=zh (by rw [HTS.out,if_neg hPp,List.append_nil];exact HA.out);clear HTS hPp;go_wp2_with fail;go_roundw
          case rel=>exact⟨m+1,_,by go_num,rfl,by omega,HO8.out,HBC.out⟩
          case measure=>simp [intOf];omega
        ·obtain rfl:m=j:=by omega
         have hmi:¬(m:Int)<(m:Int):=by omega
         have HRC:=zh (Zbc u2 (took zs rows p m) N wr HA.out.ints (by have:=HTKP.out m;omega) (by omega));have HR2:=zh (HR.out.below (HBC.out.mono hbn));obtain⟨n0,hn0,hof⟩:=ZeF HCOP.out;have HOF:=zh hof;have hlw:=(Zcl HCOP.out).1;rw [Zaq] at hlw;have HLW:=zh hlw;have HCB:Hid (Within 0 1099511627776 (counts (took zs rows p m) N)/\(counts (took zs rows p m) N).length=N):=zh ⟨HCOP.out.2.2,Zaq _ _⟩;obtain⟨aU,cU,rfl⟩:=HA.out.slice;obtain⟨L2,hL2⟩:∃L,(took zs rows p m).length=L:=⟨_,rfl⟩
         rw [hL2] at HRC ⊢;have hbs:bn<=wr.heap.size:=Nat.le_trans hbn HBC.out.size;have hrl:((roundM zs N rows).take p).length=p:=by rw [List.length_take,HRML.out];omega
         have HRLL:=zh hrl;obtain⟨aR,cR,rfl⟩:=HR2.out.slice;rw [hrl] at HR2 ⊢;clear hL2 hof hlw r1 HA HGG hrl;go_wp2_with fail;refine HRC.out.mono ?_;rintro e w8 ⟨uc,rfl,hI8,hB8⟩;have HO9:=zh (Zfo uc (counts (took zs rows p m) N) (lensF (counts (took zs rows p m) N)) n0 w8 hI8 (by rw [HCB.out.2];exact h3) (by rw [HCB.out.2];exact h258) HCB.out.1 hn0 HOF.out);obtain⟨ac,cc,rfl,_⟩:=hI8;rw [HCB.out.2] at HO9 ⊢;have HB8:=zh hB8;have hs8:wr.heap.size<=w8.heap.size:=hB8.size;clear hB8 HRC;go_wp2_with fail;refine HO9.out.mono ?_;rintro e w9 ⟨r,rfl,hI9,hB9,hr9⟩;have hs9:w8.heap.size<=w9.heap.size:=hB9.size;have HI9:=zh hI9
         have HUL:Hid (∀k,r.ownBlock=some k->bn<=k/\k<w9.heap.size):=zh (fun k hk=>by
          have h5:=hr9 k hk;refine⟨by omega,?_⟩;obtain⟨b5,o5,c5,he5,hc5⟩:=hI9.cell (k:=0) (by rw [HLW.out];omega);rw [he5] at hk;cases hk;exact ZaE hc5)
         have HB9:Hid (Below wr.heap.size wr w9):=zh (HB8.out.trans (hB9.mono hs8));have HR9:=zh (HR2.out.below (HB9.out.mono hbs));have HBB9:=zh (HBB.out.trans (HB9.out.mono HBB.out.size));obtain⟨a9,c9,rfl,_⟩:=hI9;rw [HLW.out] at HI9 HUL ⊢;clear hB9 hr9 HO9 HR2;go_wp2_with (at_builtin;go_loud (refine Zbp w9 rfl _ _ rfl wb.heap.size bn _ ((roundM zs N rows).take p) _ (lensF (counts (took zs rows p m) N)) HR9.out HI9.out HUL.out rfl rfl (by rw [HRLL.out];omega) ?_));intro v3 w3 hR3 hB3 _ _;rw [<-HRS.out] at hR3;have HR3:=zh hR3;have HB3:Hid (Below wb.heap.size wb w3):=zh (HBB9.out.trans hB3);clear hR3 hB3;go_wp2_with fail;go_roundw
         case rel=>exact⟨p+1,w3.heap.size,_,by go_num,rfl,by omega,HR3.out,HB3.out⟩
         case measure=>simp [intOf];omega
      ·obtain rfl:p=T:=by omega
       have hpi:¬(p:Int)<(p:Int):=by omega
       have HRA:Hid (OwnRI wr wb.heap.size bn u (roundM zs N rows)):=zh (by have h:=HR.out;rw [List.take_of_length_le (by rw [HRML.out];exact Nat.le_refl _)] at h;exact h);have HUA:=zh (HUB.out.below HB.out);have HBA:Hid (Below wa.heap.size wa wr):=zh (HAB.out.trans (HB.out.mono HAB.out.size));obtain⟨aR,cR,rfl⟩:=HRA.out.slice;rw [HRML.out] at HRA ⊢;obtain⟨k1,k2,k3,k4,k5,k6,k7,k8⟩:=HO.out;have hg6:=(HBA.out.block C hCl).trans k2;have hHl:=(Array.getElem?_eq_some_iff.1 k1).1
       have HNX:Hid (RfI H C BG bG w (wr.setRow C #[.slice aR p cR,.slice aP j cP]) zs N (i+1) (.slice aR p cR) (.slice aP j cP) (.slice aG j cG)):=zh (by
        have hke:Kept (C+1) (wr.setRow C #[.slice aR p cR,.slice aP j cP]) (.slice aR p cR) (.slice aP j cP) (rnd zs N (i+1)) (picksM zs (rnd zs N i) (ng zs.length)):=fun W hW hs=>by
         rw [Zat] at hW hs;have hsame:∀k,C+1<=k->k<wr.heap.size->W.heap[k]?=wr.heap[k]?:=fun k h1 h2=>(hW k h1 h2).trans (setRow_other wr C k _ (by omega))
         rw [HNXR.out,HROWS.out,HQ.out];have hab:=HAB.out.size;refine⟨(HRA.out.same (fun k h1 h2=>hsame k (by omega) (by omega)) hs).rr,(HUA.out.same (fun k hk=>?_)).ints⟩;have h5:=HUA.out.lt k hk;exact hsame k (by omega) (by omega)
        have hgk:OwnRI (wr.setRow C #[.slice aR p cR,.slice aP j cP]) BG bG (.slice aG j cG) (grps zs (ng zs.length)):=by
         have h5:=k6.below (HBA.out.mono k6.2.1);exact h5.same (fun k h1 h2=>setRow_other wr C k _ (by omega)) (by rw [Zat];exact Nat.le_refl _)
        exact⟨(setRow_other wr C H _ (by omega)).trans ((HBA.out.block H hHl).trans k1),setRow_heap wr C _ _ _ (0,0) hg6,hke.now.1,Zal (k4.trans (HBA.out.mono (by omega))) (by omega) _,fun _=>hke,hgk,k7,k8⟩)
       clear k1 k2 k3 k4 k5 k6;go_wp2_with (refine wpList_store_row rfl 167 _ _ rfl C #[.slice aR p cR,.slice aP j cP] rfl rfl 167 _ hg6 hi rfl (Zfq _ _ _ _ _ _) ?_);go_roundw
       case rel=>exact⟨i+1,_,_,by go_num,by omega,HNX.out⟩
       case measure=>simp [intOf];omega
  ·obtain rfl:i=4:=by omega
   have k9:=k5 (by omega);obtain⟨hR4,hP4⟩:=k9.now;obtain⟨aL6,cL6,rfl,_⟩:=hR4;obtain⟨aP6,cP6,rfl,_⟩:=hP4;obtain⟨M1,hM1⟩:∃M,(rnd zs N 4).length=M:=⟨_,rfl⟩
   obtain⟨M2,hM2⟩:∃M,(picksM zs (rnd zs N (4-1)) (ng zs.length)).length=M:=⟨_,rfl⟩
   rw [hM1,hM2] at k2 k9;have HF:Hid (IsRR (wr.setRow H #[.slice aL6 M1 cL6,.slice aP6 M2 cP6]) (.slice aL6 M1 cL6) (rnd zs N 4)/\IsInts (wr.setRow H #[.slice aL6 M1 cL6,.slice aP6 M2 cP6]) (.slice aP6 M2 cP6) (picksM zs (rnd zs N 3) (ng zs.length))):=zh (k9 _ (fun k hk _=>setRow_other wr H k _ (by omega)) (by rw [Zat];exact Nat.le_refl _));have HBB:Hid (Below H w (wr.setRow H #[.slice aL6 M1 cL6,.slice aP6 M2 cP6])):=zh (Zal k4 (Nat.le_refl _) _);clear k3 k4 k5 k6 k9 hM1 hM2 HO;go_wp2_with (first|(refine wpList_load_row rfl 167 _ rfl C rfl 167 #[.slice aL6 M1 cL6,.slice aP6 M2 cP6] (0,0) _ k2 hu rfl hi ?_)|(refine wpList_store_row rfl 167 _ _ rfl H #[.slice aL6 M1 cL6,.slice aP6 M2 cP6] rfl rfl 167 _ k1 hi rfl (Zfq _ _ _ _ _ _) ?_));exact bodyPost_ret (v:=.agg #[.slice aL6 M1 cL6,.slice aP6 M2 cP6]) (results_cell_row rfl _ _ H 167 _ (0,0) _ rfl (setRow_heap _ _ _ _ _ _ k1) hu rfl hi) rfl ⟨_,_,rfl,HF.out.1,HF.out.2,by rw [HHH.out];exact HBB.out⟩
end
section
open Go.RowKit BitM HufM CanM CodM TabM FreqM
def rowV (N b:Nat):Value:=.slice (some ⟨b,0,none⟩) N N
def SCodes (w:World) (base N:Nat) (v:Value) (gs:List (List Int)):Prop:=
 ∃bs:List Nat,w.ownsRow base 171 1 v bs.length (bs.map (rowV N))/\bs.length=gs.length/\base<=w.heap.size/\∀i,i<gs.length->RowS w (bs.getD i 0) N (fun j=>txt (code (gs.getD i []) j))/\base<=bs.getD i 0/\v.ownBlock≠some (bs.getD i 0)
theorem SCodes.nil (w:World) (base N:Nat) (h:base<=w.heap.size):SCodes w base N (.slice none 0 0) []:=⟨[],World.ownsRow_nil _ _ _ _,rfl,h,fun i hi=>absurd hi (Nat.not_lt_zero _)⟩
theorem SCodes.below {w w':World} {base N:Nat} {v:Value} {gs:List (List Int)} (h:SCodes w base N v gs) (hb:Below w.heap.size w w'):SCodes w' base N v gs:=by
 obtain⟨bs,h1,h2,h3,h4⟩:=h;exact⟨bs,Zag h1 (fun k hk=>hb.block k (World.ownsRow.lt h1 k hk).2),h2,Nat.le_trans h3 hb.size,fun i hi=>⟨(h4 i hi).1.below hb,(h4 i hi).2⟩⟩
theorem SCodes.slice {w:World} {base N:Nat} {v:Value} {gs:List (List Int)} (h:SCodes w base N v gs):∃a cap,v=.slice a gs.length cap:=by
 obtain⟨bs,h1,h2,_⟩:=h;obtain⟨a,c,e⟩:=Zao h1;exact⟨a,c,by rw [e,h2]⟩
theorem SCodes.at_ {w:World} {base N:Nat} {v:Value} {gs:List (List Int)} (h:SCodes w base N v gs) {i:Nat} (hi:i<gs.length):∃g cap b,v=.slice (some ⟨g,0,none⟩) gs.length cap/\w.cell? ⟨g,i,none⟩=some (.slice (some ⟨b,0,none⟩) N N)/\RowS w b N (fun j=>txt (code (gs.getD i []) j)):=by
 obtain⟨bs,h1,h2,h3,h4⟩:=h;have hib:i<bs.length:=by omega
 rcases h1.2 with⟨rfl,h0⟩|⟨g,cap,cur,rfl,_,hg,_⟩
 ·omega
 ·have h5:=World.ownsRow.cells h1 (g:=g) rfl i (rowV N (bs.getD i 0)) (by rw [List.getElem?_map,List.getElem?_eq_getElem hib,List.getD_eq_getElem?_getD,List.getElem?_eq_getElem hib];rfl);rw [Addr.add_lit,Nat.zero_add] at h5;exact⟨g,cap,bs.getD i 0,by rw [h2],h5,(h4 i hi).1⟩
theorem ZgO:(Tryz.prog.info? 171).map (fun i=>(i.zero,i.size,i.bytes))=some (some (.slice none 0 0),1,24):=by kernel_rfl
theorem ZgP {ops:Array Oper} {rest:List Oper} {o:Oper} {a:Act} {Q:Exit->Act->World->Prop} (W:World) (hgd:o.guard=none) (s x:Operand)
  (ho:o.op=.call { callee:=.builtin .append,args:=#[s,x],argTypes:=#[169,169] })
  (base N:Nat) (v:Value) (gs:List (List Int)) (ls:List Int) (cb:Nat) (hown:SCodes W base N v gs) (hrow:RowS W cb N (fun j=>txt (code ls j))) (hcb:base<=cb) (hcv:v.ownBlock≠some cb) (hs:a.eval s=v) (hx:a.eval x=.slice (some ⟨W.heap.size,0,none⟩) 1 1)
  (hlen:gs.length+1<=1000000)
  (h:∀v' w',SCodes w' base N v' (gs++[ls])->Below base W w'->wpList Tryz.prog ops Q rest (a.put o.dst v') w') :
  wpList Tryz.prog ops Q (o::rest) a (W.alloc (.cells #[.slice (some ⟨cb,0,none⟩) N N] 171)):=by
 obtain⟨bs,h1,h2,h3,h4⟩:=hown;obtain⟨i0,hi,hz0,hz1,hz2⟩:=info_parts ZgO;refine Zai hgd s x 169 ho base 171 i0 (.slice none 0 0) 1 24 Tryz.underlying169 hi hz0 hz1 hz2 rfl (by decide) v bs.length (bs.map (rowV N)) (World.ownsRow.alloc h1 _) hs ⟨W.heap.size,0,none⟩ 1 1 [rowV N cb] hx rfl ?_ ?_ ?_ ?_ ?_ ?_
 ·exact ZaB _ _ _ _ rfl
 ·intro u hu;simp at hu;subst hu;rfl
 ·unfold maxLen;omega
 ·omega
 ·simp;omega
 ·intro v' w' hown' hg hv;have hBW:Below base W w':=Below.grown ((Below.refl base W).alloc h3 _) hg (by simp;omega) (fun j hj=>(World.ownsRow.lt h1 j hj).1);have keep:∀k,k<W.heap.size->v.ownBlock≠some k->w'.heap[k]?=W.heap[k]?:=fun k hk hne=>(hg.block k (by simp;omega) (fun e=>hne e.symm)).trans (Zam hk)
  have hvv:∀k,v'.ownBlock=some k->v.ownBlock=some k\/W.heap.size<=k:=fun k hk=>(hv k hk).imp id (fun h=>by simp at h;omega)
  have hT:Touch (fun j=>v.ownBlock=some j) W w':=⟨hBW.os,hBW.tape,hBW.output,hBW.size,fun j hj hn=>keep j hj hn⟩
  refine h v' w' ⟨bs++[cb],?_,by rw [List.length_append,List.length_append,h2];rfl,Nat.le_trans h3 hBW.size,fun i hi2=>?_⟩ hBW
  ·rw [List.length_append,List.map_append];exact hown'
  ·rw [List.length_append] at hi2;have hi3:i<gs.length+1:=hi2;by_cases h5:i<gs.length
   ·rw [ZbL bs cb 0 (by omega),ZbL gs ls [] h5];obtain⟨a1,a2,a3⟩:=h4 i h5
    exact⟨a1.other hT a3,a2,fun e=>by
     rcases hvv _ e with e2|e2
     ·exact a3 e2
     ·have:=a1.lt;omega⟩
   ·rw [ZbM bs cb 0 (by omega),ZbM gs ls [] (by omega)]
    exact⟨hrow.other hT hcv,hcb,fun e=>by
     rcases hvv _ e with e2|e2
     ·exact hcv e2
     ·have:=hrow.lt;omega⟩
theorem SCodes.old {w:World} {base N:Nat} {v:Value} {gs:List (List Int)} (h:SCodes w base N v gs):∀k,v.ownBlock=some k->k<w.heap.size:=fun k hk=>by
 obtain⟨bs,h1,_⟩:=h;exact(World.ownsRow.lt h1 k hk).2
theorem Zej:(Tryz.prog.info? 167).map (·.size)=some 2:=by kernel_rfl
theorem ZcC (a:Option Addr) (len c:Nat) (zs:List Int) (N:Nat) (w:World) (hI:IsInts w (.slice a len c) zs) (hlen:zs.length=len) (hz:len<=1000) (hm:May14 zs (N:Int)) :
  Calls Tryz.prog 73 #[.slice a len c,.int .i64 (N:Int)] w fun e w'=>e=.returned (.string (txt (allC (rnd zs N 4) (pks zs N) zs)))/\Below w.heap.size w w':=by
 have h3:3<=N:=by have:=hm.1;omega
 have h258:N<=258:=by have:=hm.2.1;omega
 have hz2:zs.length<=1000:=by omega
 have HC:=zh (Zei a len c zs N w hI hlen hz hm.2.2.2.1 (by have:=hm.2.2.1;omega) h3 h258);have HPK:=zh (hm.pk hz2);have HWH:=zh (hm.whs hz2);have HTB:=zh (hm.tbs hz2);have HSY:Hid (Syms zs (N:Int)):=zh hm.2.2.2.1;have hT6:(rnd zs N 4).length<=6:=HPK.out.2.1;have hpl:(pks zs N).length<=32767:=HPK.out.2.2.2.1
 have hpb:(PkM.allB (pks zs N) (rnd zs N 4).length).length<=200000:=by
  rw [PkM.allB_length,<-PkM.encK_all _ _ (Nat.le_refl _)];have:=PkM.encK_len (pks zs N) hT6 (fun x hx=>Zhc x hx) _ (Nat.le_refl _);omega
 rw [Ziw] at HC;have HI:=zh hI;have HLEN:=zh hlen;clear hI hm;generalize rnd zs N 4=gs at *;generalize hps:pks zs N=ps at *;clear hps
 have HSL:Hid (∀i,i<=len->(symB gs ps zs i).length<=20000):=zh (fun i hi=>by
  have:=(ZeR HTB.out (zs.take i) 0 (fun x hx=>HSY.out x (List.mem_of_mem_take hx)) (by rw [List.length_take];omega)).2;rw [List.length_take] at this;unfold symB;omega)
 have HGL:Hid (∀k,(gsB (gs.take k)).length<=60600):=zh (fun k=>by
  have:=ZfD h3 h258 (gs.take k) (fun g hg=>HWH.out g (List.mem_of_mem_take hg));rw [List.length_take] at this;omega)
 have HGB:Hid (∀k,k<gs.length->gsB (gs.take (k+1))=gsB (gs.take k)++DelM.allB (rw_ gs k)/\DelM.May (rw_ gs k)/\(rw_ gs k).length=N/\WholeP (rw_ gs k)/\gs.take (k+1)=gs.take k++[rw_ gs k]):=zh (fun k hk=>by
  have hmem:rw_ gs k∈gs:=by unfold rw_;rw [List.getD_eq_getElem?_getD,List.getElem?_eq_getElem hk];exact List.getElem_mem hk
  obtain⟨k1,k2⟩:=HWH.out _ hmem;refine⟨Zha gs hk,⟨by omega,by omega,k2.1⟩,k1,k2,?_⟩;rw [List.take_succ_eq_append_getElem hk];unfold rw_;rw [List.getD_eq_getElem?_getD,List.getElem?_eq_getElem hk];rfl)
 go_enter Tryz.func73,Tryz.ntmps73;go_wp2_with fail;refine HC.out.mono ?_;rintro e w1 ⟨vL,vP,rfl,hL,hP,hb⟩;have hB2:=(Below.refl w1.heap.size w1).alloc (Nat.le_refl _) (.cells #[vL,vP] 167);have HB2:=zh hB2;have HL:=zh (hL.below hB2);have HP:=zh (hP.below hB2);have HBW:=zh (hb.alloc hb.size (.cells #[vL,vP] 167));have HBX:=zh (heap_alloc_new w1 (.cells #[vL,vP] 167));obtain⟨aL,cL,rfl,_⟩:=hL;obtain⟨aP,cP,rfl,_⟩:=hP;obtain⟨T,hT⟩:∃T,gs.length=T:=⟨_,rfl⟩
 obtain⟨M,hM⟩:∃M,(PkM.toI ps).length=M:=⟨_,rfl⟩
 have HT:=zh hT;have HM:=zh hM;rw [hT,hM] at HBX HL HP HBW HB2;rw [hT] at hT6 hpb;obtain⟨B,hBB⟩:∃B,w1.heap.size=B:=⟨_,rfl⟩
 rw [hBB] at HBX HB2;rw [hT,hM];have hsz2:(w1.alloc (.cells #[.slice aL T cL,.slice aP M cP] 167)).heap.size=B+1:=by simp [hBB]
 have HSZ2:=zh hsz2;have HPB:=zh (Zcw (.slice aP M cP) ps T (w1.alloc (.cells #[.slice aL T cL,.slice aP M cP] 167)) HP.out (by rw [<-HT.out];exact HPK.out));have c0:(w1.alloc (.cells #[.slice aL T cL,.slice aP M cP] 167)).cell? ⟨B,0,none⟩=some (.slice aL T cL):=by rw [cell_of_row _ _ _ _ _ _ HBX.out];rfl
 have c1:(w1.alloc (.cells #[.slice aL T cL,.slice aP M cP] 167)).cell? ⟨B,1,none⟩=some (.slice aP M cP):=by rw [cell_of_row _ _ _ _ _ _ HBX.out];rfl
 have hi:=Zej;clear hsz2 hb hB2 HC hM;go_wp2_with fail;refine HPB.out.mono ?_;rintro e w3 ⟨rfl,nq,rfl⟩;have c0:=c0;generalize w1.alloc (.cells #[.slice aL T cL,.slice aP M cP] 167)=w2 at *;clear HPB;obtain⟨q1,hq1⟩:∃q1,PkM.allB ps T=q1:=⟨_,rfl⟩
 have HQ1:=zh hq1;rw [hq1] at hpb ⊢;clear hq1;have d0:(w2.drewN nq).cell? ⟨B,0,none⟩=some (.slice aL T cL):=c0;go_wp2_with fail
 go_loopw [6,7,24] (fun vo vc vk wr=>∃(k:Nat),vk=.int .i64 (k:Int)/\k<=T/\vo=.string (txt (q1++gsB (gs.take k)))/\SCodes wr (B+1) N vc (gs.take k)/\Below (B+1) w2 wr) (fun _ _ vk _=>T-(intOf vk).toNat)
 case atStart=>exact⟨0,rfl,by omega,by simp [gsB],SCodes.nil _ _ _ (by have:=HSZ2.out;simp;omega),⟨rfl,rfl,rfl,Nat.le_refl _,fun _ _=>rfl⟩⟩
 case round=>
  clear c0 c1 d0;obtain⟨k,rfl,hk,rfl,hsc,hbr⟩:=hrel;by_cases hkT:k<T
  ·have hki:(k:Int)<(T:Int):=by omega
   obtain⟨hg3,hmay,hN,hwp,htk⟩:=HGB.out k (by rw [hT];exact hkT);have hbr2:Below w2.heap.size w2 wr:=by rw [HSZ2.out];exact hbr
   obtain⟨b2,o2,cap2,u,he2,d2,hu⟩:=(HL.out.below hbr2).at_ (show k<gs.length by rw [hT];exact hkT);rw [hT] at he2;simp only [Value.slice.injEq] at he2;obtain⟨rfl,he2b,rfl⟩:=he2;have HRB:=zh (Zcx u (rw_ gs k) wr hu hmay);have HCO:=zh (Zed u (rw_ gs k) wr hu (by omega) hwp);rw [hN] at HCO;have HSC:=zh hsc;have HBR:=zh hbr;have HG3:=zh hg3;have HTK:=zh htk;obtain⟨aC,cC,eC⟩:=hsc.slice;have htl:(gs.take k).length=k:=by rw [List.length_take];omega
   rw [htl] at eC;subst eC;have hs2:B+1<=wr.heap.size:=by have:=hbr.size;have:=HSZ2.out;omega
   obtain⟨S1,hS1⟩:∃S,txt (q1++gsB (gs.take k))=S:=⟨_,rfl⟩
   obtain⟨S2,hS2⟩:∃S,txt (DelM.allB (rw_ gs k))=S:=⟨_,rfl⟩
   have HSS:Hid (S1++S2=txt (q1++gsB (gs.take (k+1)))):=zh (by rw [<-hS1,<-hS2,HG3.out,<-List.append_assoc,Zab]);have hs1z:S1.size<=300000:=by rw [<-hS1,Zac,List.length_append];have:=HGL.out k;omega
   have hs2z:S2.size<=60600:=by
    have h:=HGL.out (k+1);rw [HG3.out,List.length_append] at h;rw [<-hS2,Zac];omega
   rw [hS2] at HRB;rw [hS1];clear hS1 hS2;have hkl:(gs.take k).length+1<=1000000:=by rw [List.length_take];omega
   clear hg3 hmay hN hwp htk hbr2 he2b hu hsc hbr;go_wp2_with fail;refine HRB.out.mono ?_;rintro e w4 ⟨rfl,rfl⟩;go_wp2_with fail;refine HCO.out.mono ?_;rintro e w5 ⟨rfl,hrs,hb5⟩;have HRS:=zh hrs;have HB5:=zh hb5;have HSC5:=zh (HSC.out.below hb5);obtain⟨cb,hcb⟩:∃cb,w4.heap.size=cb:=⟨_,rfl⟩
   have HCBB:=zh hcb;rw [hcb] at HRS hs2 ⊢;have hcv:Hid ((Value.slice aC k cC).ownBlock≠some cb):=zh (fun e=>by have:=HSC.out.old cb e;omega);clear hrs hb5 hcb;go_wp2_with (at_builtin;refine ZgP w5 rfl _ _ rfl (B+1) N _ (gs.take k) (rw_ gs k) cb HSC5.out HRS.out hs2 hcv.out rfl rfl hkl ?_);intro v6 w6 hsc6 hb6;have HF:Hid (SCodes w6 (B+1) N v6 (gs.take (k+1))/\Below (B+1) w2 w6):=zh ⟨by rw [HTK.out];exact hsc6,(HBR.out.trans (HB5.out.mono (by rw [HCBB.out];exact hs2))).trans hb6⟩;clear hsc6 hb6;go_wp2_with fail;go_roundw
   case rel=>exact⟨k+1,by go_num,by omega,by rw [HSS.out],HF.out.1,HF.out.2⟩
   case measure=>simp [intOf];omega
  ·obtain rfl:k=T:=by omega
   have hki:¬(k:Int)<(k:Int):=by omega
   have htk:gs.take k=gs:=by rw [<-hT,List.take_length]
   rw [htk] at hsc ⊢;have HSC:=zh hsc;have HBR:=zh hbr;obtain⟨q2,hq2⟩:∃q2,q1++gsB gs=q2:=⟨_,rfl⟩
   have HQ2:=zh hq2;rw [hq2];obtain⟨w5,rfl⟩:∃wz:World,wz=wr:=⟨_,rfl⟩
   clear htk hsc hbr hq2;go_wp2_with fail
   go_loopw [6,40] (fun vo vk wr=>∃(i:Nat),vk=.int .i64 (i:Int)/\i<=len/\vo=.string (txt (q2++symB gs ps zs i))/\Below w5.heap.size w5 wr) (fun _ vk _=>len-(intOf vk).toNat)
   case atStart=>exact⟨0,rfl,by omega,by simp [symB,symT],⟨rfl,rfl,rfl,Nat.le_refl _,fun _ _=>rfl⟩⟩
   case round=>
    obtain⟨i,rfl,hil,rfl,hbr⟩:=hrel;have HBRR:=zh hbr
    have hB2r:Below w2.heap.size w2 wr:=by
     rw [HSZ2.out];exact HBR.out.trans (hbr.mono (by have:=HBR.out.size;have:=HSZ2.out;omega))
    have HBF:Hid (Below w.heap.size w wr):=zh (HBW.out.trans (hB2r.mono HBW.out.size));by_cases hilt:i<len
    ·have hii:(i:Int)<(len:Int):=by omega
     obtain⟨b1,o1,k1,he1,d1⟩:=(HI.out.below HBF.out).cell (show i<zs.length by rw [HLEN.out];exact hilt);rw [HLEN.out] at he1;simp only [Value.slice.injEq] at he1;obtain⟨rfl,he1b,rfl⟩:=he1;have hsy:=HSY.out _ (FreqM.getD_mem zs i (by rw [HLEN.out];exact hilt));have hiH:Hid (i<zs.length):=zh (by rw [HLEN.out];exact hilt);obtain⟨z,hz⟩:∃z:Nat,zs.getD i 0=(z:Int):=⟨(zs.getD i 0).toNat,by omega⟩
     rw [hz] at d1 hsy;have HZ:=zh hz
     have c1:wr.cell? ⟨B,1,none⟩=some (.slice aP M cP):=by
      rw [cell_of_row _ _ _ _ _ _ ((hB2r.block B (by rw [HSZ2.out];omega)).trans HBX.out)];rfl
     obtain⟨htb1,htb2,htb3⟩:=HTB.out i hiH.out;obtain⟨b3,o3,k3,he3,d3⟩:=(HP.out.below hB2r).cell (show i / 50<(PkM.toI ps).length by rw [PkM.toI_length];exact htb1);rw [HM.out] at he3;simp only [Value.slice.injEq] at he3;obtain⟨rfl,he3b,rfl⟩:=he3;rw [PkM.toI_getD] at d3;obtain⟨P,hP⟩:∃P,ps.getD (i / 50) 0=P:=⟨_,rfl⟩
     rw [hP] at d3
     have hPlt:P<gs.length:=by
      rw [<-hP,List.getD_eq_getElem?_getD,List.getElem?_eq_getElem htb1];exact HPK.out.2.2.2.2 _ (List.getElem_mem htb1)
     obtain⟨cg,cC,cb,eC,d4,hrs⟩:=(HSC.out.below hbr).at_ hPlt;subst eC;rw [hT];obtain⟨G,hG⟩:∃G,i / 50=G:=⟨_,rfl⟩
     rw [hG] at d3;have htbi:CodM.tb gs ps i=gs.getD P []:=by unfold CodM.tb;rw [hP]
     rw [<-htbi] at hrs;have hzN:z<N:=by omega
     have d5:=(hrs.cell hzN).1;have hgi0:(0:Int)<=(i:Int) / 50:=by omega
     have hgi2:((i:Int) / 50).toNat=G:=by omega
     have hgi1:(i:Int) / 50<(M:Int):=by
      have:=HM.out;rw [PkM.toI_length] at this;omega
     have hPi:(P:Int)<(k:Int):=by rw [hT] at hPlt;omega
     have hzi:(z:Int)<(N:Int):=by omega
     have HNX:Hid (txt (q2++symB gs ps zs i)++txt (code (CodM.tb gs ps i) z)=txt (q2++symB gs ps zs (i+1))):=zh (by
      rw [Zab,ZcS gs ps zs hiH.out,HZ.out,Int.toNat_natCast,List.append_assoc])
     obtain⟨S1,hS1⟩:∃S,txt (q2++symB gs ps zs i)=S:=⟨_,rfl⟩
     obtain⟨S2,hS2⟩:∃S,txt (code (CodM.tb gs ps i) z)=S:=⟨_,rfl⟩
     have hs1z:S1.size<=400000:=by
      have h1:=HSL.out i hil;have h2:=HGL.out gs.length;rw [List.take_length] at h2;rw [<-hS1,Zac,List.length_append,<-HQ2.out,List.length_append];omega
     have hs2z:S2.size<=20000:=by
      have h1:=HSL.out (i+1) (by omega);rw [ZcS gs ps zs hiH.out,HZ.out,Int.toNat_natCast,List.length_append] at h1;rw [<-hS2,Zac];omega
     rw [hS2] at d5;rw [hS1,hS2] at HNX;rw [hS1];clear hbr hB2r he1b htb1 htb2 htb3 he3b hP hPlt hrs hsy hz htbi hS1 hS2;go_wp2_with fail;go_roundw
     case rel=>exact⟨i+1,by go_num,by omega,by rw [HNX.out],HBRR.out⟩
     case measure=>simp [intOf];omega
    ·obtain rfl:i=len:=by omega
     have hii:¬(i:Int)<(i:Int):=by omega
     have e:Hid (allC gs ps zs=q2++symB gs ps zs i):=zh (by
      unfold allC;rw [<-HQ2.out,<-HQ1.out,HT.out,HLEN.out])
     clear hbr hB2r;go_wp2_with fail;go_ret;exact⟨by rw [e.out];rfl,HBF.out⟩
end
end Go.Proofs.YtlfpbcadcfaboaaGreatDoor

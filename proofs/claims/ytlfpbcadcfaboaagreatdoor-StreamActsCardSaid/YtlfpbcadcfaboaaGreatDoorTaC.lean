import Derived.Test.YtlfpbcadcfaboaaGreatDoorTaA
import Derived.Test.YtlfpbcadcfaboaaGreatDoorTcA
import Derived.Test.YtlfpbcadcfaboaaGreatDoorTcC
import Derived.Test.YtlfpbcadcfaboaaGreatDoorTcD
import Derived.Test.YtlfpbcadcfaboaaGreatDoorTcE
import Derived.Test.YtlfpbcadcfaboaaGreatDoorTcF
import Derived.Test.YtlfpbcadcfaboaaGreatDoorTcG
import Derived.Test.YtlfpbcadcfaboaaGreatDoorTcH
import Derived.Test.YtlfpbcadcfaboaaGreatDoorTcI
import Derived.Test.YtlfpbcadcfaboaaGreatDoorTcJ
import Derived.BigRegion
import Derived.BigQuiet
import Derived.Shelf.Abstract
import Derived.Laws.CopyRow
import Derived.Deep.Cut
import Derived.Lib.SliceRun
import Derived.IntWalk
import Derived.Deep.LoopGhost
import Derived.Laws.BitsAllLaws
import Derived.StillTailTactics
import Derived.Deep.RegionHeld3
import Derived.Deep.AppendSrc
import Derived.Deep.Upon
set_option linter.unusedVariables false
set_option linter.unusedSimpArgs false
set_option maxHeartbeats 8000000
set_option maxRecDepth 100000
namespace Go.Proofs.YtlfpbcadcfaboaaGreatDoor
section
open Go.RowKit TabM FreqM HufM
theorem Zfk:(Tryz.prog.info? 167).map (·.size)=some 2:=by kernel_rfl
end
section
open Go.RowKit HufM
abbrev T3:=Tr×List Int
def tcells (t:T3) (u:Value):List Value:=[.int .i64 (t.1.1:Int),.int .i64 (t.1.2:Int),u]
def tflat:List T3->List Value->List Value
 | t::ts,u::us=>tcells t u++tflat ts us
 | _,_=>[]
theorem ZaV:∀(ts:List T3) (us:List Value) (t:T3) (u:Value),us.length=ts.length->tflat (ts++[t]) (us++[u])=tflat ts us++tcells t u
 | [],[],t,u,_=>by simp [tflat]
 | x::ts,y::us,t,u,h=>by
  simp only [List.cons_append,tflat];rw [ZaV ts us t u (by simpa using h),List.append_assoc]
 | [],y::us,t,u,h=>by simp at h
 | x::ts,[],t,u,h=>by simp at h
theorem Zc2:∀(ts:List T3) (us:List Value) (k:Nat) (t:T3) (u:Value),us.length=ts.length->ts[k]?=some t->us[k]?=some u ->
  (tflat ts us)[k*3]?=some (.int .i64 (t.1.1:Int))/\(tflat ts us)[k*3+1]?=some (.int .i64 (t.1.2:Int))/\(tflat ts us)[k*3+2]?=some u
 | [],_,k,t,u,_,h,_=>by simp at h
 | x::ts,[],k,t,u,hl,_,_=>by simp at hl
 | x::ts,y::us,0,t,u,_,h,h2=>by
  have e1:x=t:=by simpa using h
  have e2:y=u:=by simpa using h2
  subst e1 e2;exact⟨rfl,rfl,rfl⟩
 | x::ts,y::us,k+1,t,u,hl,h,h2=>by
  have ih:=Zc2 ts us k t u (by simpa using hl) (by simpa using h) (by simpa using h2);simp only [tflat];have e:(tcells x y).length=3:=rfl;rw [List.getElem?_append_right (by rw [e];omega),List.getElem?_append_right (by rw [e];omega),List.getElem?_append_right (by rw [e];omega),e];rw [show(k+1)*3-3=k*3 from by omega,show(k+1)*3+1-3=k*3+1 from by omega,show(k+1)*3+2-3=k*3+2 from by omega];exact ih
variable {X : Nat}
def OwnT (X:Nat) (W:World) (base:Nat) (v:Value) (ts:List T3):Prop:=
 ∃us:List Value,us.length=ts.length/\W.ownsRow base 257 3 v ts.length (tflat ts us)/\∀(i:Nat) (t:T3) (u:Value),ts[i]?=some t->us[i]?=some u->OwnI W 0 u t.2/\u.ownBlock≠some X
theorem OwnT.nil (W:World) (base:Nat):OwnT X W base (.slice none 0 0) []:=⟨[],rfl,World.ownsRow_nil _ _ _ _,fun i t u h=>by simp at h⟩
theorem OwnT.slice {W:World} {base:Nat} {v:Value} {ts:List T3} (h:OwnT X W base v ts):∃a cap,v=.slice a ts.length cap:=by
 obtain⟨us,h1,h2,h3⟩:=h;exact Zao h2
theorem OwnT.below {W W':World} {base:Nat} {v:Value} {ts:List T3} (h:OwnT X W base v ts) (hb:Below W.heap.size W W'):OwnT X W' base v ts:=by
 obtain⟨us,h1,h2,h3⟩:=h;exact⟨us,h1,Zag h2 (fun k hk=>hb.block k (World.ownsRow.lt h2 k hk).2),fun i t u ht hu=>⟨(h3 i t u ht hu).1.below hb,(h3 i t u ht hu).2⟩⟩
theorem OwnT.at {W:World} {base:Nat} {v:Value} {ts:List T3} (h:OwnT X W base v ts) {k:Nat} {t:T3} (ht:ts[k]?=some t) :
  ∃g cap u,v=.slice (some ⟨g,0,none⟩) ts.length cap/\g<W.heap.size/\W.cell? ⟨g,k*3,none⟩=some (.int .i64 (t.1.1:Int))/\W.cell? ⟨g,k*3+1,none⟩=some (.int .i64 (t.1.2:Int))/\W.cell? ⟨g,k*3+2,none⟩=some u/\OwnI W 0 u t.2/\u.ownBlock≠some X:=by
 obtain⟨us,h1,h2,h3⟩:=h;have hk:=(List.getElem?_eq_some_iff.1 ht).1;have hc:=h2;rcases h2.2 with⟨rfl,h0⟩|⟨g,cap,cur,rfl,hB,hg,hr⟩
 ·omega
 ·have hu:us[k]?=some (us[k]'(by omega)):=List.getElem?_eq_getElem (by omega);obtain⟨f1,f2,f3⟩:=Zc2 ts us k t _ h1 ht hu;refine⟨g,cap,_,rfl,(Array.getElem?_eq_some_iff.1 hg).1,?_,?_,?_,h3 k t _ ht hu⟩
  ·have:=hc.cells (g:=g) rfl _ _ f1
   rwa [Addr.add_lit,Nat.zero_add] at this
  ·have:=hc.cells (g:=g) rfl _ _ f2
   rwa [Addr.add_lit,Nat.zero_add] at this
  ·have:=hc.cells (g:=g) rfl _ _ f3
   rwa [Addr.add_lit,Nat.zero_add] at this
theorem OwnT.new {W:World} {base Y:Nat} {v:Value} {ts:List T3} (h:OwnT X W base v ts) (hY:W.heap.size<=Y):OwnT Y W base v ts:=by
 obtain⟨us,h1,h2,h3⟩:=h;refine⟨us,h1,h2,fun i t u ht hu=>⟨(h3 i t u ht hu).1,fun e=>?_⟩⟩;have:=(World.ownsRow.lt (h3 i t u ht hu).1 Y e).2;omega
theorem OwnT.set {W W':World} {base:Nat} {v:Value} {ts:List T3} (h:OwnT X W base v ts) {zs:List Int} (hX:RowI W X zs) (ht:Touch (·=X) W W'):OwnT X W' base v ts:=by
 obtain⟨us,h1,h2,h3⟩:=h
 have hlt:∀k,v.ownBlock=some k->k≠X:=fun k hk e=>by
  rcases h2.2 with⟨rfl,_⟩|⟨g,cap,cur,rfl,_,hgc,_⟩
  ·simp [Value.ownBlock] at hk
  ·simp [Value.ownBlock] at hk;subst hk e;unfold RowI at hX;rw [hgc] at hX;simp at hX
 refine⟨us,h1,Zag h2 (fun k hk=>ht.block k (World.ownsRow.lt h2 k hk).2 (hlt k hk)),fun i t u hti hu=>⟨?_,(h3 i t u hti hu).2⟩⟩;have ho:=(h3 i t u hti hu).1
 exact ho.same (fun k hk=>ht.block k (World.ownsRow.lt ho k hk).2 (fun e=>by
  have e':k=X:=e;subst e';exact(h3 i t u hti hu).2 hk))
theorem Zfl:(Tryz.prog.info? 257).map (fun i=>(i.zero,i.size,i.bytes))=some (some (.agg #[.int .i64 0,.int .i64 0,.slice none 0 0]),3,40):=by kernel_rfl
theorem Zbe {ops:Array Oper} {rest:List Oper} {o:Oper} {a:Act} {Q:Exit->Act->World->Prop} (W:World) (hgd:o.guard=none) (s x:Operand)
  (ho:o.op=.call { callee:=.builtin .append,args:=#[s,x],argTypes:=#[255,255] })
  (B G:Nat) (hG:W.heap.size=G) (v:Value) (ts:List T3) (t:T3) (u:Value) (hown:OwnT X W B v ts) (hu:OwnI W 0 u t.2) (hux:u.ownBlock≠some X) (hs:a.eval s=v) (hx:a.eval x=.slice (some ⟨G,0,none⟩) 1 1)
  (hlen:ts.length+1<=1000000) (hB:B<=W.heap.size)
  (h:∀v' w',OwnT X w' B v' (ts++[t])->Below B W w'->wpList Tryz.prog ops Q rest (a.put o.dst v') w') :
  wpList Tryz.prog ops Q (o::rest) a (W.alloc (.cells #[.int .i64 (t.1.1:Int),.int .i64 (t.1.2:Int),u] 257)):=by
 subst hG;obtain⟨i0,hi,hz0,hz1,hz2⟩:=info_parts Zfl;obtain⟨us,h1,h5,h6⟩:=hown;refine Zai hgd s x 255 ho B 257 i0 (.agg #[.int .i64 0,.int .i64 0,.slice none 0 0]) 3 40 Tryz.underlying255 hi hz0 hz1 hz2 rfl (by decide) v ts.length (tflat ts us) (World.ownsRow.alloc h5 _) hs ⟨W.heap.size,0,none⟩ 1 1 (tcells t u) hx rfl ?_ ?_ ?_ ?_ ?_ ?_
 ·exact ZaB _ _ _ _ rfl
 ·intro y hy;obtain⟨a1,c1,rfl⟩:=hu.slice;simp only [tcells,List.mem_cons,List.not_mem_nil,or_false] at hy;rcases hy with rfl|rfl|rfl<;>rfl
 ·unfold maxLen;omega
 ·omega
 ·simp;omega
 ·intro v' w' hown' hg hv;have hBW:Below B W w':=Below.grown ((Below.refl B W).alloc hB _) hg (by simp;omega) (fun j hj=>(World.ownsRow.lt h5 j hj).1)
  have leaf:∀(y:Value) (zs:List Int),OwnI W 0 y zs->OwnI w' 0 y zs:=fun y zs hy=>hy.same (fun k hk=>by
   have hlt:=(World.ownsRow.lt hy k hk).2;refine(hg.block k (by simp;omega) (fun e=>?_)).trans (Zam hlt);rcases h5.2 with⟨rfl,_⟩|⟨g,cap,cur,rfl,_,hgc,_⟩
   ·simp [Value.ownBlock] at e
   ·simp [Value.ownBlock] at e;rcases hy.2 with⟨rfl,_⟩|⟨g2,cap2,cur2,rfl,_,hgc2,_⟩
    ·simp [Value.ownBlock] at hk
    ·simp [Value.ownBlock] at hk;subst e hk;rw [hgc] at hgc2;simp at hgc2)
  refine h v' w' ⟨us++[u],by simp [h1],by rw [List.length_append,ZaV ts us t u h1];exact hown',fun i y z hy hz=>?_⟩ hBW;rw [List.getElem?_append] at hy hz;by_cases hlt:i<ts.length
  ·rw [if_pos hlt] at hy;rw [if_pos (by omega)] at hz;exact⟨leaf _ _ (h6 i y z hy hz).1,(h6 i y z hy hz).2⟩
  ·rw [if_neg hlt] at hy;rw [if_neg (by omega)] at hz
   have hi0:i-ts.length=0:=by
    by_cases h0:i-ts.length=0
    ·exact h0
    ·rw [List.getElem?_eq_none (by simp;omega)] at hy;cases hy
   rw [hi0] at hy;rw [h1,hi0] at hz;simp at hy hz;subst hy hz;exact⟨leaf _ _ hu,hux⟩
def tv (t:T3) (u:Value):Value:=.agg #[.int .i64 (t.1.1:Int),.int .i64 (t.1.2:Int),u]
theorem Zb6 (s t:T3) (u v:Value) (r:Bool) (w:World) (hr:r=true↔lt s.1 t.1) :
  Calls Tryz.prog 221 #[tv s u,tv t v] w fun e w'=>e=.returned (.bool r)/\Below w.heap.size w w':=by
 obtain⟨⟨a,b⟩,l⟩:=s;obtain⟨⟨c,d⟩,m⟩:=t;unfold lt at hr;simp only at hr;have HR:=zh hr;have HB:Hid (∀o o',Below w.heap.size w ((w.alloc o).alloc o')):=zh (fun o o'=>((Below.refl _ w).alloc (Nat.le_refl _) o).alloc (by simp) o');clear hr;unfold tv;simp only;by_cases h1:a<c
 ·have h1i:(a:Int)<(c:Int):=by omega
  obtain rfl:r=true:=HR.out.2 (Or.inl h1);go_enter Tryz.func221,Tryz.ntmps221;go_wp2_with fail;go_ret;exact⟨rfl,HB.out _ _⟩
 ·have h1i:decide ((a:Int)<(c:Int))=false:=by simp only [decide_eq_false_iff_not];omega
  by_cases h2:a=c
  ·have h2i:((a:Int)==(c:Int))=true:=by rw [beq_iff_eq];omega
   have h2n:a<=c:=by omega
   by_cases h3:b<d
   ·have h3i:(b:Int)<(d:Int):=by omega
    obtain rfl:r=true:=HR.out.2 (Or.inr ⟨h2,h3⟩);clear h2;go_enter Tryz.func221,Tryz.ntmps221;go_wp2_with fail;go_ret;exact⟨rfl,HB.out _ _⟩
   ·have h3i:decide ((b:Int)<(d:Int))=false:=by simp only [decide_eq_false_iff_not];omega
    obtain rfl:r=false:=by
     rw [Bool.eq_false_iff,Ne,HR.out];omega
    clear h2;go_enter Tryz.func221,Tryz.ntmps221;go_wp2_with fail;go_ret;exact⟨rfl,HB.out _ _⟩
  ·have h2i:((a:Int)==(c:Int))=false:=by rw [beq_eq_false_iff_ne];omega
   obtain rfl:r=false:=by
    rw [Bool.eq_false_iff,Ne,HR.out];omega
   go_enter Tryz.func221,Tryz.ntmps221;go_wp2_with fail;go_ret;exact⟨rfl,HB.out _ _⟩
def Za5 (ts:List T3) (m k:Nat):Prop:=∀(j:Nat) (t y:T3),j<k->ts[j]?=some t->ts[m]?=some y->¬lt t.1 y.1
theorem Zby (v:Value) (ts:List T3) (w:World) (base:Nat) (hv:OwnT X w base v ts) (h1:1<=ts.length) (hn:ts.length<=1000) :
  Calls Tryz.prog 207 #[v] w fun e w'=>∃at_:Nat,e=.returned (.int .i64 (at_:Int))/\at_<ts.length/\Za5 ts at_ ts.length/\Below w.heap.size w w':=by
 have HV:=zh hv;obtain⟨a0,cap0,rfl⟩:=hv.slice;clear hv;go_enter Tryz.func207,Tryz.ntmps207;go_wp2_with fail
 go_loopw [3,8] (fun va vi wr=>∃k m:Nat,vi=.int .i64 k/\k<=ts.length/\va=.int .i64 m/\m<ts.length/\Za5 ts m k/\Below w.heap.size w wr) (fun _ vi _=>ts.length-(intOf vi).toNat)
 case atStart=>exact⟨0,0,rfl,by omega,rfl,by omega,fun j t y hj=>by omega,Below.refl _ _⟩
 case round=>
  obtain⟨k,m,rfl,hk,rfl,hm,hA,hB⟩:=hrel;have HA:=zh hA;have HB:=zh hB;have HVW:=zh (HV.out.below hB);clear hA hB;by_cases hlk:k<ts.length
  ·have hki:(k:Int)<(ts.length:Int):=by omega
   have hmi:(m:Int)<(ts.length:Int):=by omega
   obtain⟨t,ht⟩:∃t,ts[k]?=some t:=⟨_,List.getElem?_eq_getElem hlk⟩
   obtain⟨y,hy⟩:∃y,ts[m]?=some y:=⟨_,List.getElem?_eq_getElem hm⟩
   obtain⟨g,cap,u,he,hg,c0,c1,c2,ho,hox⟩:=HVW.out.at ht;obtain⟨g2,cap2,u2,he2,hg2,d0,d1,d2,ho2,hox2⟩:=HVW.out.at hy;simp only [Value.slice.injEq] at he he2;obtain⟨rfl,_,rfl⟩:=he;simp only [Option.some.injEq,Addr.mk.injEq] at he2;obtain⟨⟨rfl,_⟩,_,rfl⟩:=he2;obtain⟨ua,uc,rfl⟩:=ho.slice;obtain⟨va,vc,rfl⟩:=ho2.slice;have HT:=zh ht;have HY:=zh hy;have hkn:k*3<3000:=by omega
   have hmn:m*3<3000:=by omega
   have W1:Hid (Below w.heap.size w (wr.alloc (.cells #[.int .i64 (t.1.1:Int),.int .i64 (t.1.2:Int),.slice ua t.2.length uc] 257))):=zh (HB.out.alloc HB.out.size _);have W0:Below wr.heap.size wr (wr.alloc (.cells #[.int .i64 (t.1.1:Int),.int .i64 (t.1.2:Int),.slice ua t.2.length uc] 257)):=(Below.refl _ wr).alloc (Nat.le_refl _) _;have d0':=(W0.cell (p:=⟨g,m*3,none⟩) hg).trans d0;have d1':=(W0.cell (p:=⟨g,m*3+1,none⟩) hg).trans d1;have d2':=(W0.cell (p:=⟨g,m*3+2,none⟩) hg).trans d2;have hnew:(wr.alloc (.cells #[.int .i64 (t.1.1:Int),.int .i64 (t.1.2:Int),.slice ua t.2.length uc] 257)).heap[wr.heap.size]?=some (.cells #[.int .i64 (t.1.1:Int),.int .i64 (t.1.2:Int),.slice ua t.2.length uc] 257 (0,0)):=heap_alloc_new wr _;have n0:(wr.alloc (.cells #[.int .i64 (t.1.1:Int),.int .i64 (t.1.2:Int),.slice ua t.2.length uc] 257)).cell? ⟨wr.heap.size,0,none⟩=some (.int .i64 (t.1.1:Int)):=by rw [cell_of_row _ _ _ _ _ _ hnew];rfl
   have n1:(wr.alloc (.cells #[.int .i64 (t.1.1:Int),.int .i64 (t.1.2:Int),.slice ua t.2.length uc] 257)).cell? ⟨wr.heap.size,1,none⟩=some (.int .i64 (t.1.2:Int)):=by rw [cell_of_row _ _ _ _ _ _ hnew];rfl
   have n2:(wr.alloc (.cells #[.int .i64 (t.1.1:Int),.int .i64 (t.1.2:Int),.slice ua t.2.length uc] 257)).cell? ⟨wr.heap.size,2,none⟩=some (.slice ua t.2.length uc):=by rw [cell_of_row _ _ _ _ _ _ hnew];rfl
   clear ht hy ho ho2 W0 hnew hox hox2;by_cases hlt:lt t.1 y.1
   ·have HL:=zh hlt;have HC:Hid (∀q,Calls Tryz.prog 221 #[tv t (.slice ua t.2.length uc),tv y (.slice va y.2.length vc)] q fun e w'=>e=.returned (.bool true)/\Below q.heap.size q w'):=zh (fun q=>Zb6 t y _ _ true q ⟨fun _=>hlt,fun _=>rfl⟩);clear hlt;go_wp2_with fail;generalize (wr.alloc (.cells #[.int .i64 (t.1.1:Int),.int .i64 (t.1.2:Int),.slice ua t.2.length uc] 257))=w2 at *
    go_still_tail 5,(by kernel_rfl)
    change wpList _ _ _ _ _ (w2.drewN 1);go_wp2_with fail;refine(HC.out _).mono ?_;rintro e w3 ⟨rfl,hb⟩;have HB3:Hid (Below w.heap.size w w3):=zh (W1.out.trans (((Zas w2 1).trans hb).mono W1.out.size));clear hb;go_wp2_with fail;go_roundw
    case rel=>exact⟨k+1,k,by go_num,by omega,rfl,hlk,fun j s z hj hs hz=>by
     rw [HT.out] at hz;cases hz;by_cases e:j=k
     ·subst e;rw [HT.out] at hs;cases hs;exact fun h=>ZdU h h
     ·intro h;exact HA.out j s y (by omega) hs HY.out (lt_trans h HL.out),HB3.out⟩
    case measure=>simp [intOf];omega
   ·have HL:=zh hlt;have HC:Hid (∀q,Calls Tryz.prog 221 #[tv t (.slice ua t.2.length uc),tv y (.slice va y.2.length vc)] q fun e w'=>e=.returned (.bool false)/\Below q.heap.size q w'):=zh (fun q=>Zb6 t y _ _ false q ⟨fun h=>(by cases h),fun h=>absurd h hlt⟩);clear hlt;go_wp2_with fail;generalize (wr.alloc (.cells #[.int .i64 (t.1.1:Int),.int .i64 (t.1.2:Int),.slice ua t.2.length uc] 257))=w2 at *
    go_still_tail 5,(by kernel_rfl)
    change wpList _ _ _ _ _ (w2.drewN 1);go_wp2_with fail;refine(HC.out _).mono ?_;rintro e w3 ⟨rfl,hb⟩;have HB3:Hid (Below w.heap.size w w3):=zh (W1.out.trans (((Zas w2 1).trans hb).mono W1.out.size));clear hb;go_wp2_with fail;go_roundw
    case rel=>exact⟨k+1,m,by go_num,by omega,rfl,hm,fun j s z hj hs hz=>by
     by_cases e:j=k
     ·subst e;rw [HT.out] at hs;rw [HY.out] at hz;cases hs;cases hz;exact HL.out
     ·exact HA.out j s z (by omega) hs hz,HB3.out⟩
    case measure=>simp [intOf];omega
  ·have hki:¬(k:Int)<(ts.length:Int):=by omega
   go_wp2_with fail;go_ret;exact⟨m,rfl,hm,fun j s z hj hs hz=>HA.out j s z (by omega) hs hz,HB.out⟩
def wo (ts:List T3) (m k:Nat):List T3:=(ts.take k).eraseIdx m
theorem ZgL {ts:List T3} {m k:Nat} {t:T3} (ht:ts[k]?=some t) (hne:k≠m):wo ts m (k+1)=wo ts m k++[t]:=by
 have hk:=(List.getElem?_eq_some_iff.1 ht).1;have hl:(ts.take k).length=k:=by rw [List.length_take];omega
 unfold wo;rw [List.take_add_one,ht];show(ts.take k++[t]).eraseIdx m=_;by_cases h:m<k
 ·rw [List.eraseIdx_append_of_lt_length (by omega)]
 ·rw [List.eraseIdx_append_of_length_le (by omega),hl,List.eraseIdx_of_length_le (l:=[t]) (by simp;omega),List.eraseIdx_of_length_le (l:=ts.take k) (by omega)]
theorem ZgM {ts:List T3} {m:Nat} (hm:m<ts.length):wo ts m (m+1)=wo ts m m:=by
 have hl:(ts.take m).length=m:=by rw [List.length_take];omega
 unfold wo;rw [List.take_add_one,List.getElem?_eq_getElem hm];show(ts.take m++[ts[m]]).eraseIdx m=_;rw [List.eraseIdx_append_of_length_le (by omega),hl,List.eraseIdx_of_length_le (l:=ts.take m) (by omega),Nat.sub_self];simp
theorem ZiT (ts:List T3) (m k:Nat):(wo ts m k).length<=ts.length:=by
 unfold wo;have:=List.length_eraseIdx_le (ts.take k) m;rw [List.length_take] at this;omega
theorem ZaW (v:Value) (ts:List T3) (m:Nat) (w:World) (base:Nat) (hv:OwnT X w base v ts) (hm:m<ts.length) (hn:ts.length<=1000) :
  Calls Tryz.prog 208 #[v,.int .i64 (m:Int)] w fun e w'=>∃r,e=.returned r/\OwnT X w' w.heap.size r (ts.eraseIdx m)/\Below w.heap.size w w':=by
 have HV:=zh hv;obtain⟨a0,cap0,rfl⟩:=hv.slice;clear hv;go_enter Tryz.func208,Tryz.ntmps208;go_wp2_with fail
 go_loopw [5,10] (fun vo vi wr=>∃(k:Nat) (o:Value),vi=.int .i64 k/\k<=ts.length/\o=vo/\OwnT X wr w.heap.size o (wo ts m k)/\Below w.heap.size w wr) (fun _ vi _=>ts.length-(intOf vi).toNat)
 case atStart=>exact⟨0,_,rfl,by omega,rfl,by simpa [wo] using OwnT.nil w w.heap.size,Below.refl _ _⟩
 case round=>
  obtain⟨k,o,rfl,hk,rfl,hO,hB⟩:=hrel;have HO:=zh hO;have HB:=zh hB;have HVW:=zh (HV.out.below hB);obtain⟨oa,oc,rfl⟩:=hO.slice;have hol:=ZiT ts m k;obtain⟨OL,hOL⟩:∃OL,(wo ts m k).length=OL:=⟨_,rfl⟩
  rw [hOL] at HO hol ⊢;have HOL:=zh hOL;clear hO hB hOL;by_cases hlk:k<ts.length
  ·have hki:(k:Int)<(ts.length:Int):=by omega
   obtain⟨t,ht⟩:∃t,ts[k]?=some t:=⟨_,List.getElem?_eq_getElem hlk⟩
   obtain⟨g,cap,u,he,hg,c0,c1,c2,ho,hox⟩:=HVW.out.at ht;simp only [Value.slice.injEq] at he;obtain⟨rfl,_,rfl⟩:=he;obtain⟨ua,uc,rfl⟩:=ho.slice;have HT:=zh ht;have hkn:k*3<3000:=by omega
   have W0:Hid (Below wr.heap.size wr (wr.alloc (.cells #[.int .i64 (t.1.1:Int),.int .i64 (t.1.2:Int),.slice ua t.2.length uc] 257))):=zh ((Below.refl _ wr).alloc (Nat.le_refl _) _);have W1:Hid (Below w.heap.size w (wr.alloc (.cells #[.int .i64 (t.1.1:Int),.int .i64 (t.1.2:Int),.slice ua t.2.length uc] 257))):=zh (HB.out.alloc HB.out.size _);have HO2:Hid (OwnT X (wr.alloc (.cells #[.int .i64 (t.1.1:Int),.int .i64 (t.1.2:Int),.slice ua t.2.length uc] 257)) w.heap.size (.slice oa OL oc) (wo ts m k)):=zh (HO.out.below W0.out);have HU2:Hid (OwnI (wr.alloc (.cells #[.int .i64 (t.1.1:Int),.int .i64 (t.1.2:Int),.slice ua t.2.length uc] 257)) 0 (.slice ua t.2.length uc) t.2):=zh (ho.below W0.out);have hnew:(wr.alloc (.cells #[.int .i64 (t.1.1:Int),.int .i64 (t.1.2:Int),.slice ua t.2.length uc] 257)).heap[wr.heap.size]?=some (.cells #[.int .i64 (t.1.1:Int),.int .i64 (t.1.2:Int),.slice ua t.2.length uc] 257 (0,0)):=heap_alloc_new wr _;have n0:(wr.alloc (.cells #[.int .i64 (t.1.1:Int),.int .i64 (t.1.2:Int),.slice ua t.2.length uc] 257)).cell? ⟨wr.heap.size,0,none⟩=some (.int .i64 (t.1.1:Int)):=by rw [cell_of_row _ _ _ _ _ _ hnew];rfl
   have n1:(wr.alloc (.cells #[.int .i64 (t.1.1:Int),.int .i64 (t.1.2:Int),.slice ua t.2.length uc] 257)).cell? ⟨wr.heap.size,1,none⟩=some (.int .i64 (t.1.2:Int)):=by rw [cell_of_row _ _ _ _ _ _ hnew];rfl
   have n2:(wr.alloc (.cells #[.int .i64 (t.1.1:Int),.int .i64 (t.1.2:Int),.slice ua t.2.length uc] 257)).cell? ⟨wr.heap.size,2,none⟩=some (.slice ua t.2.length uc):=by rw [cell_of_row _ _ _ _ _ _ hnew];rfl
   have HOX:=zh hox;clear ht ho hnew hox;by_cases hkm:k=m
   ·have hne:((k:Int) != (m:Int))=false:=by rw [bne_eq_false_iff_eq];omega
    have HKM:=zh hkm;clear hkm;go_wp2_with fail;go_roundw
    case rel=>exact⟨k+1,_,by go_num,by omega,rfl,by
     have:=HKM.out;subst this;rw [ZgM hm];exact HO2.out,W1.out⟩
    case measure=>simp [intOf];omega
   ·have hne:((k:Int) != (m:Int))=true:=by rw [bne_iff_ne];omega
    have HKM:=zh hkm;clear hkm;have HS1:=W1.out.size;go_wp2_with (at_builtin;go_loud (refine Zbe (wr.alloc (.cells #[.int .i64 (t.1.1:Int),.int .i64 (t.1.2:Int),.slice ua t.2.length uc] 257)) rfl _ _ rfl w.heap.size (wr.heap.size+1) (by simp) (.slice oa OL oc) (wo ts m k) t (.slice ua t.2.length uc) HO2.out HU2.out HOX.out rfl rfl (by rw [HOL.out];omega) HS1 ?_));intro v' w' hown hb;have HOWN:=zh hown;have HBB:Hid (Below w.heap.size w w'):=zh (W1.out.trans hb);clear hown hb;go_wp2_with fail;go_roundw
    case rel=>exact⟨k+1,_,by go_num,by omega,rfl,by rw [ZgL HT.out HKM.out];exact HOWN.out,HBB.out⟩
    case measure=>simp [intOf];omega
  ·have hki:¬(k:Int)<(ts.length:Int):=by omega
   have e:wo ts m k=ts.eraseIdx m:=by unfold wo;rw [List.take_of_length_le (by omega)]
   rw [e] at HO;clear e;go_wp2_with fail;go_ret;exact⟨_,rfl,HO.out,HB.out⟩
end
section
namespace HufM
open Go.RowKit
def inc (o:List Int) (ls:List Int):List Int:=ls.foldl (fun o x=>o.set x.toNat (o.getD x.toNat 0+1)) o
theorem Zef (ls:List Int):∀o:List Int,(inc o ls).length=o.length:=by
 induction ls with
 | nil=>intro o;rfl
 | cons x t ih=>intro o;exact(ih _).trans (by simp)
theorem Zc3 (o:List Int) (i j:Nat) (v:Int) (hi:i<o.length):(o.set i v).getD j 0=if j=i then v else o.getD j 0:=by
 rw [List.getD_eq_getElem?_getD,List.getD_eq_getElem?_getD,List.getElem?_set];by_cases e:i=j
 ·subst e;simp [hi]
 ·have:¬j=i:=fun h=>e h.symm
  simp [e,this]
theorem Zfm (o ls:List Int) {k:Nat} (h:k<ls.length):inc o (ls.take (k+1))=(inc o (ls.take k)).set (ls.getD k 0).toNat ((inc o (ls.take k)).getD (ls.getD k 0).toNat 0+1):=by
 unfold inc;rw [List.take_add_one,List.foldl_append,List.getD_eq_getElem?_getD,List.getElem?_eq_getElem h];rfl
theorem ZiU (ls:List Int):∀(o:List Int) (j:Nat),ls.Nodup->(∀x∈ls,0<=x/\x<(o.length:Int))->(inc o ls).getD j 0=o.getD j 0+if (j:Int)∈ls then 1 else 0:=by
 induction ls with
 | nil=>intro o j _ _;simp [inc]
 | cons x t ih=>
  intro o j hn hr;obtain⟨h1,h2⟩:=List.nodup_cons.1 hn;have hx:=hr x (List.mem_cons_self ..);have:=ih (o.set x.toNat (o.getD x.toNat 0+1)) j h2 (fun y hy=>by rw [List.length_set];exact hr y (List.mem_cons_of_mem _ hy));show(inc (o.set x.toNat (o.getD x.toNat 0+1)) t).getD j 0=_;rw [this,Zc3 _ _ _ _ (by omega)];by_cases e:j=x.toNat
  ·have ej:(j:Int)=x:=by omega
   rw [if_pos e,ej,if_neg h1,if_pos (List.mem_cons_self ..),e];omega
  ·have ej:¬(j:Int)=x:=by omega
   rw [if_neg e];by_cases hm:(j:Int)∈t
   ·rw [if_pos hm,if_pos (List.mem_cons_of_mem _ hm)]
   ·rw [if_neg hm,if_neg (fun h=>by rcases List.mem_cons.1 h with h|h;exact ej h;exact hm h)]
theorem Zfn (ls:List Int):∀(o:List Int) (j:Nat),o.getD j 0<=(inc o ls).getD j 0/\(inc o ls).getD j 0<=o.getD j 0+(ls.length:Int):=by
 induction ls with
 | nil=>intro o j;simp [inc]
 | cons x t ih=>
  intro o j;have:=ih (o.set x.toNat (o.getD x.toNat 0+1)) j
  have h2:o.getD j 0<=(o.set x.toNat (o.getD x.toNat 0+1)).getD j 0/\(o.set x.toNat (o.getD x.toNat 0+1)).getD j 0<=o.getD j 0+1:=by
   by_cases hi:x.toNat<o.length
   ·rw [Zc3 _ _ _ _ hi];split
    ·rename_i e;subst e;omega
    ·omega
   ·rw [List.set_eq_of_length_le (by omega)];omega
  show o.getD j 0<=(inc (o.set x.toNat (o.getD x.toNat 0+1)) t).getD j 0/\(inc (o.set x.toNat (o.getD x.toNat 0+1)) t).getD j 0<=_;simp only [List.length_cons];omega
theorem ZaQ {α:Type}:∀(l:List α) (i:Nat) (h:i<l.length),(l[i]::l.eraseIdx i).Perm l
 | x::t,0,h=>List.Perm.refl _
 | x::t,i+1,h=>by
  have hi:i<t.length:=by simpa using h
  have ih:=ZaQ t i hi;show(t[i]::x::t.eraseIdx i).Perm (x::t);exact(List.Perm.swap _ _ _).trans (ih.cons x)
def trs (ts:List T3):List Tr:=ts.map (·.1)
def lvs (ts:List T3):List Int:=ts.flatMap (·.2)
structure DS (w:List Int) (d:Nat->Nat) (ts:List T3) (o:List Int) (K:Nat):Prop where
 run0:Run w.length (ini w) d
 run:Run K (trs ts) d
 dis:Dis (trs ts)
 low:∀t∈ts,t.1.2<K
 lv:(lvs ts).Perm ((List.range w.length).map (fun i:Nat=>(i:Int)))
 ol:o.length=w.length
 od:∀t∈ts,∀x∈t.2,o.getD x.toNat 0+(d t.1.2:Int)=(d x.toNat:Int)
 tot:sumN wt (trs ts)=sumN wt (ini w)
 cnt:ts.length+K=2*w.length
theorem Zcz (n:Nat):((List.range n).map (fun i:Nat=>(i:Int))).Nodup:=by
 unfold List.Nodup;rw [List.pairwise_map];exact List.pairwise_lt_range.imp (fun h=>by omega)
theorem DS.mem {w:List Int} {d:Nat->Nat} {ts:List T3} {o:List Int} {K:Nat} (h:DS w d ts o K) {x:Int}:x∈lvs ts↔0<=x/\x<(w.length:Int):=by
 rw [h.lv.mem_iff,List.mem_map];constructor
 ·rintro⟨i,hi,rfl⟩;have:=List.mem_range.1 hi;omega
 ·rintro⟨h1,h2⟩;exact⟨x.toNat,List.mem_range.2 (by omega),by omega⟩
theorem DS.near {w:List Int} {d:Nat->Nat} {ts:List T3} {o:List Int} {K:Nat} (h:DS w d ts o K) {i:Nat} (hi:i<w.length):-((ts.length:Nat):Int)<=o.getD i 0/\o.getD i 0<=(w.length:Int):=by
 have hm:(i:Int)∈lvs ts:=h.mem.2 ⟨by omega,by omega⟩;obtain⟨t,ht,hx⟩:=List.mem_flatMap.1 hm;have h1:=h.od t ht _ hx;rw [Int.toNat_natCast] at h1;have h2:=h.run0.short _ (Zgj hi);have h3:=h.run.short t.1 (List.mem_map.2 ⟨t,ht,rfl⟩);rw [ZbN] at h2;simp only [trs,List.length_map] at h3;simp only at h2;omega
theorem DS.step {w:List Int} {d:Nat->Nat} {ts:List T3} {o:List Int} {K:Nat} (h:DS w d ts o K) {a b:Nat} {x y:T3} (ha:a<ts.length) (hx:ts[a]?=some x) (hna:Za5 ts a ts.length)
  (hb:b<(ts.eraseIdx a).length) (hy:(ts.eraseIdx a)[b]?=some y) (hnb:Za5 (ts.eraseIdx a) b (ts.eraseIdx a).length) :
  DS w d ((ts.eraseIdx a).eraseIdx b++[((x.1.1+y.1.1,K),x.2++y.2)]) (inc o (x.2++y.2)) (K+1)/\x.1.1+y.1.1<=sumN wt (ini w)/\(∀z∈x.2++y.2,0<=z/\z<(w.length:Int))/\(x.2++y.2).length<=w.length:=by
 obtain⟨run0,run,dis,low,lv,ol,od,tot,cnt⟩:=h;have hx':ts[a]=x:=by rw [List.getElem?_eq_getElem ha] at hx;exact Option.some.inj hx
 have hy':(ts.eraseIdx a)[b]=y:=by rw [List.getElem?_eq_getElem hb] at hy;exact Option.some.inj hy
 have p1:(x::ts.eraseIdx a).Perm ts:=by rw [<-hx'];exact ZaQ ts a ha
 have p2:(y::(ts.eraseIdx a).eraseIdx b).Perm (ts.eraseIdx a):=by rw [<-hy'];exact ZaQ _ b hb
 have p:ts.Perm (x::y::(ts.eraseIdx a).eraseIdx b):=(p1.symm).trans (p2.symm.cons x)
 have l1:∀t∈ts.eraseIdx a,lt x.1 t.1:=fun t ht=>by
  have hd:=(List.pairwise_cons.1 (dis.perm (show(trs ts).Perm (trs (x::ts.eraseIdx a)) from(p1.symm).map _))).1 t.1 (List.mem_map.2 ⟨t,ht,rfl⟩);obtain⟨j,hj,hjt⟩:=List.mem_iff_getElem.1 (p1.mem_iff.1 (List.mem_cons_of_mem _ ht));have:=hna j t x hj (by rw [List.getElem?_eq_getElem hj,hjt]) hx;rcases Zii x.1 t.1 hd with h|h
  ·exact h
  ·exact absurd h this
 have dis1:Dis (trs (ts.eraseIdx a)):=(List.pairwise_cons.1 (dis.perm (show(trs ts).Perm (trs (x::ts.eraseIdx a)) from(p1.symm).map _))).2
 have l2:∀t∈(ts.eraseIdx a).eraseIdx b,lt y.1 t.1:=fun t ht=>by
  have hd:=(List.pairwise_cons.1 (dis1.perm (show(trs (ts.eraseIdx a)).Perm (trs (y::(ts.eraseIdx a).eraseIdx b)) from(p2.symm).map _))).1 t.1 (List.mem_map.2 ⟨t,ht,rfl⟩);obtain⟨j,hj,hjt⟩:=List.mem_iff_getElem.1 (p2.mem_iff.1 (List.mem_cons_of_mem _ ht));have:=hnb j t y hj (by rw [List.getElem?_eq_getElem hj,hjt]) hy;rcases Zii y.1 t.1 hd with h|h
  ·exact h
  ·exact absurd h this
 have hym:y∈ts.eraseIdx a:=p2.mem_iff.1 (List.mem_cons_self ..);have hxm:x∈ts:=p1.mem_iff.1 (List.mem_cons_self ..);have hyt:y∈ts:=p1.mem_iff.1 (List.mem_cons_of_mem _ hym);have hrest:∀t∈(ts.eraseIdx a).eraseIdx b,t∈ts:=fun t ht=>p.mem_iff.2 (List.mem_cons_of_mem _ (List.mem_cons_of_mem _ ht))
 obtain⟨run',dx,dy⟩:=run.next (show(trs ts).Perm (x.1::y.1::trs ((ts.eraseIdx a).eraseIdx b)) from p.map _) (l1 y hym) (fun t ht=>by
  obtain⟨t',ht',rfl⟩:=List.mem_map.1 ht;exact l2 t' ht')
 have plv:(lvs ts).Perm (x.2++(y.2++lvs ((ts.eraseIdx a).eraseIdx b))):=p.flatMap_right _;have hnd:(x.2++(y.2++lvs ((ts.eraseIdx a).eraseIdx b))).Nodup:=plv.nodup_iff.1 (lv.nodup_iff.2 (Zcz _));rw [<-List.append_assoc] at hnd plv;obtain⟨n1,n2,n3⟩:=List.nodup_append.1 hnd
 have hall:∀z∈lvs ts,0<=z/\z<(w.length:Int):=fun z hz=>by
  obtain⟨i,hi,rfl⟩:=List.mem_map.1 (lv.mem_iff.1 hz);have:=List.mem_range.1 hi;omega
 have hz:∀z∈x.2++y.2,0<=z/\z<(w.length:Int):=fun z hz=>hall z (plv.mem_iff.2 (List.mem_append_left _ hz))
 have hinc:∀j,(inc o (x.2++y.2)).getD j 0=o.getD j 0+if (j:Int)∈x.2++y.2 then 1 else 0:=fun j=>ZiU _ o j n1 (fun z h=>by rw [ol];exact hz z h)
 have hsum:sumN wt (trs ts)=x.1.1+(y.1.1+sumN wt (trs ((ts.eraseIdx a).eraseIdx b))):=by
  rw [Zcf wt (show(trs ts).Perm (x.1::y.1::trs ((ts.eraseIdx a).eraseIdx b)) from p.map _)];rfl
 have hlen:=p.length_eq;simp only [List.length_cons] at hlen;refine⟨⟨run0,?_,?_,fun t ht=>?_,?_,by rw [Zef,ol],fun t ht z hzt=>?_,?_,by simp;omega⟩,by omega,hz,?_⟩
 ·refine run'.perm ?_;unfold trs;rw [List.map_append];exact(List.perm_append_singleton _ _).symm
 ·unfold trs;rw [List.map_append];have hd2:=(List.pairwise_cons.1 (List.pairwise_cons.1 (dis.perm (show(trs ts).Perm (x.1::y.1::trs ((ts.eraseIdx a).eraseIdx b)) from p.map _))).2).2;refine List.pairwise_append.2 ⟨hd2,List.pairwise_singleton _ _,fun t ht u hu=>?_⟩;simp only [List.map_cons,List.map_nil,List.mem_singleton] at hu;subst hu;obtain⟨t',ht',rfl⟩:=List.mem_map.1 ht;have:=low t' (hrest t' ht');simp only;omega
 ·rcases List.mem_append.1 ht with ht|ht
  ·have:=low t (hrest t ht);omega
  ·rw [List.mem_singleton] at ht;subst ht;simp only;omega
 ·have e:lvs ((ts.eraseIdx a).eraseIdx b++[((x.1.1+y.1.1,K),x.2++y.2)])=lvs ((ts.eraseIdx a).eraseIdx b)++(x.2++y.2):=by unfold lvs;simp
  rw [e];exact(List.perm_append_comm.trans plv.symm).trans lv
 ·have ezn:∀z:Int,z∈lvs ts->((z.toNat:Nat):Int)=z:=fun z hz=>by have:=hall z hz;omega
  rw [hinc];rcases List.mem_append.1 ht with ht|ht
  ·have hzl:z∈lvs ((ts.eraseIdx a).eraseIdx b):=List.mem_flatMap.2 ⟨t,ht,hzt⟩;have hzall:z∈lvs ts:=plv.mem_iff.2 (List.mem_append_right _ hzl);have hno:z∉x.2++y.2:=fun h=>n3 z h z hzl rfl
   rw [ezn z hzall,if_neg hno,Int.add_zero];exact od t (hrest t ht) z hzt
  ·rw [List.mem_singleton] at ht;subst ht;simp only at hzt ⊢;have hzall:z∈lvs ts:=plv.mem_iff.2 (List.mem_append_left _ hzt);rw [ezn z hzall,if_pos hzt];rcases List.mem_append.1 hzt with h|h
   ·have:=od x hxm z h;rw [dx] at this;omega
   ·have:=od y hyt z h;rw [dy] at this;omega
 ·unfold trs;rw [List.map_append,Za6,<-tot,hsum];simp only [List.map_cons,List.map_nil,sumN,wt];unfold trs;omega
 ·have:=(plv.symm.trans lv).length_eq;rw [List.length_append] at this;simp only [List.length_map,List.length_range] at this;omega
theorem DS.end_ {w:List Int} {d:Nat->Nat} {ts:List T3} {o:List Int} {K:Nat} (h:DS w d ts o K) (h1:ts.length=1):DepP w o:=by
 obtain⟨t,rfl⟩:=List.length_eq_one_iff.1 h1;have h0:=h.run.end_;refine⟨d,h.run0,?_⟩;apply List.ext_getElem
 ·simp [h.ol]
 ·intro i h2 h3;have hi:i<w.length:=by rw [<-h.ol];exact h2
  have hm:(i:Int)∈lvs [t]:=h.mem.2 ⟨by omega,by omega⟩;obtain⟨t',ht',hx⟩:=List.mem_flatMap.1 hm;rw [List.mem_singleton] at ht';subst ht';have:=h.od t' (List.mem_singleton.2 rfl) _ hx;rw [h0,Int.toNat_natCast,List.getD_eq_getElem?_getD,List.getElem?_eq_getElem h2] at this;simp only [Option.getD_some] at this;rw [List.getElem_map,List.getElem_range];omega
def sgl (w:List Int) (k:Nat):List T3:=(List.range k).map fun i=>(((w.getD i 0).toNat,i),[(i:Int)])
theorem Zc4 (w:List Int) (k:Nat):sgl w (k+1)=sgl w k++[(((w.getD k 0).toNat,k),[(k:Int)])]:=by
 unfold sgl;rw [List.range_succ,List.map_append];rfl
theorem ZbI (w:List Int) (k:Nat):(sgl w k).length=k:=by simp [sgl]
theorem DS.start {w:List Int} (h1:1<=w.length):∃d,DS w d (sgl w w.length) (List.replicate w.length 0) w.length:=by
 obtain⟨d,hd⟩:=Run.exists (w.length-1) w.length (ini w) (by rw [ZbN];omega) (ZdB w) (fun t ht=>(ZbO ht).1);have e:trs (sgl w w.length)=ini w:=by unfold trs sgl ini;rw [List.map_map];rfl
 refine⟨d,⟨hd,by rw [e];exact hd,by rw [e];exact ZdB w,fun t ht=>?_,?_,by simp,fun t ht x hx=>?_,by rw [e],by rw [ZbI];omega⟩⟩
 ·obtain⟨i,hi,rfl⟩:=List.mem_map.1 ht;exact List.mem_range.1 hi
 ·have e2:∀k,lvs (sgl w k)=(List.range k).map (fun i:Nat=>(i:Int)):=by
   intro k
   induction k with
   | zero=>rfl
   | succ k ih=>
    rw [Zc4,List.range_succ,List.map_append,<-ih];unfold lvs;simp
  rw [e2]
 ·obtain⟨i,hi,rfl⟩:=List.mem_map.1 ht;simp only [List.mem_singleton] at hx;subst hx;have hi':=List.mem_range.1 hi;rw [Int.toNat_natCast,List.getD_eq_getElem?_getD,List.getElem?_replicate,if_pos hi'];simp
end HufM
end
section
open Go.RowKit HufM
def vlen:Value->Nat
 | .slice _ n _=>n
 | _=>0
theorem ZgN (W:World) (c:Int):OwnI (W.alloc (.cells #[.int .i64 c] 3)) W.heap.size (.slice (some ⟨W.heap.size,0,none⟩) 1 1) [c]:=
 ⟨rfl,Or.inr ⟨W.heap.size,1,_,rfl,Nat.le_refl _,heap_alloc_new W _,Nat.le_refl _,by simp [maxLen],rfl,rfl⟩⟩
theorem ZcA (v:Value) (zs:List Int) (w:World) (hv:IsInts w v zs) (h1:1<=zs.length) (hz:zs.length<=300) (hw:∀z∈zs,0<=z/\z<=1099511627777) :
  Calls Tryz.prog 179 #[v] w fun e w'=>∃(r:Value) (ds:List Int),e=.returned r/\IsInts w' r ds/\DepP zs ds/\Below w.heap.size w w'/\(∀k,r.ownBlock=some k->w.heap.size<=k):=by
 have HV:=zh hv;have HW:=zh hw;obtain⟨a,cap,rfl,_⟩:=hv;obtain⟨n,hn⟩:∃n,zs.length=n:=⟨_,rfl⟩
 have HN:=zh hn;rw [hn] at h1 hz ⊢;clear hw hn;go_enter Tryz.func179,Tryz.ntmps179;go_wp2_with fail
 go_loopw [4,20] (fun vl vi wr=>∃(k:Nat) (l:Value),vi=.int .i64 k/\k<=n/\l=vl/\OwnT 0 wr w.heap.size l (sgl zs k)/\Below w.heap.size w wr) (fun _ vi _=>n-(intOf vi).toNat)
 case atStart=>exact⟨0,_,rfl,by omega,rfl,OwnT.nil w _,Below.refl _ _⟩
 case round=>
  obtain⟨k,l,rfl,hk,rfl,hO,hB⟩:=hrel;have HO:=zh hO;have HB:=zh hB;obtain⟨oa,oc,rfl⟩:=hO.slice;rw [ZbI] at HO ⊢;clear hO hB;by_cases hlk:k<n
  ·have hki:(k:Int)<(n:Int):=by omega
   obtain⟨b1,o1,k1,he1,c1⟩:=HV.out.cell (show k<zs.length by rw [HN.out];exact hlk);rw [HN.out] at he1;simp only [Value.slice.injEq] at he1;obtain⟨rfl,_,rfl⟩:=he1;have c1:=(HB.out.cell (ZaE c1)).trans c1;have hx2:=HW.out _ (getD_mem (show k<zs.length by rw [HN.out];exact hlk));have hs:=Zc4 zs k;obtain⟨X,hX⟩:∃X:Nat,zs.getD k 0=(X:Int):=⟨(zs.getD k 0).toNat,by omega⟩
   rw [hX] at c1 hx2 hs;rw [Int.toNat_natCast] at hs;have HS:=zh hs;have W0:Hid (Below wr.heap.size wr (wr.alloc (.cells #[.int .i64 (k:Int)] 3))):=zh ((Below.refl _ wr).alloc (Nat.le_refl _) _);have HO2:Hid (OwnT 0 (wr.alloc (.cells #[.int .i64 (k:Int)] 3)) w.heap.size (.slice oa k oc) (sgl zs k)):=zh (HO.out.below W0.out);have HU2:Hid (OwnI (wr.alloc (.cells #[.int .i64 (k:Int)] 3)) 0 (.slice (some ⟨wr.heap.size,0,none⟩) 1 1) [(k:Int)]):=zh ((ZgN wr k).lower (Nat.zero_le _));have hpos:0<w.heap.size:=by have:=ZaE ((HV.out.cell (show k<zs.length by rw [HN.out];exact hlk)).choose_spec.choose_spec.choose_spec.2);omega
   have HB2:=HB.out.size;clear hs hX
   have hbase:Hid (w.heap.size<=(wr.alloc (.cells #[.int .i64 (k:Int)] 3)).heap.size):=zh (by
    have:(wr.alloc (.cells #[.int .i64 (k:Int)] 3)).heap.size=wr.heap.size+1:=by simp
    omega)
   have hux:Hid ((Value.slice (some ⟨wr.heap.size,0,none⟩) 1 1).ownBlock≠some 0):=zh (fun e=>by simp only [Value.ownBlock,Option.some.injEq] at e;omega);have hgs:Hid ((wr.alloc (.cells #[.int .i64 (k:Int)] 3)).heap.size=wr.heap.size+1):=zh (by simp);have hll:Hid ((sgl zs k).length+1<=1000000):=zh (by rw [ZbI];omega);go_wp2_with (at_builtin;go_loud (refine Zbe (wr.alloc (.cells #[.int .i64 (k:Int)] 3)) rfl _ _ rfl w.heap.size (wr.heap.size+1) hgs.out (.slice oa k oc) (sgl zs k) ((X,k),[(k:Int)]) (.slice (some ⟨wr.heap.size,0,none⟩) 1 1) HO2.out HU2.out hux.out rfl rfl hll.out hbase.out ?_));intro v' w' hown hb;have HOWN:=zh hown;have HBB:Hid (Below w.heap.size w w'):=zh ((HB.out.alloc HB.out.size _).trans hb);clear hown hb;go_wp2_with fail;go_roundw
   case rel=>exact⟨k+1,_,by go_num,by omega,rfl,by rw [HS.out];exact HOWN.out,HBB.out⟩
   case measure=>simp [intOf];omega
  ·have hki:¬(k:Int)<(n:Int):=by omega
   obtain rfl:n=k:=by omega
   obtain⟨g,hg⟩:∃g,wr.heap.size=g:=⟨_,rfl⟩
   have hmk:=ZbS n (by omega) wr;have HR0:=zh (RowI.made wr n);have W0:Hid (Below wr.heap.size wr (wr.alloc (.cells (madeCells #[Value.int .i64 0] n) 3))):=zh ((Below.refl _ wr).alloc (Nat.le_refl _) _);have HO2:Hid (OwnT g (wr.alloc (.cells (madeCells #[Value.int .i64 0] n) 3)) w.heap.size (.slice oa n oc) (sgl zs n)):=zh ((HO.out.new (by omega)).below W0.out);have HB2:Hid (Below w.heap.size w (wr.alloc (.cells (madeCells #[Value.int .i64 0] n) 3))):=zh (HB.out.alloc HB.out.size _);have hgw:Hid (w.heap.size<=g):=zh (by rw [<-hg];exact HB.out.size);rw [hg] at hmk HR0;obtain⟨d,hds⟩:=DS.start (w:=zs) (by rw [HN.out];exact h1);rw [HN.out] at hds;have HDS:=zh hds
   have hT:Hid (sumN wt (ini zs)<=1099511627777*300):=zh (by
    have:=ZdA (f:=wt) (l:=ini zs) (c:=1099511627777) (fun t ht=>by
     obtain⟨h3,h4⟩:=ZbO ht;have h5:=(HW.out (zs.getD t.2 0) (getD_mem h3)).2;show t.1<=_;omega)
    rw [ZbN,HN.out] at this;exact Nat.le_trans this (Nat.mul_le_mul_left _ hz))
   clear hg hds;go_wp2_with fail;generalize wr.alloc (.cells (madeCells #[Value.int .i64 0] n) 3)=w2 at *;clear hmk;go_wp2_with fail
   go_loopw [4,8,9,10,11,12,13] (fun vl vx _ _ _ _ _ wr=>∃(ts:List T3) (o:List Int) (K:Nat) (l:Value) (base:Nat),l=vl/\vx=.int .i64 K/\OwnT g wr base l ts/\DS zs d ts o K/\RowI wr g o/\1<=ts.length/\Below w.heap.size w wr) (fun vl _ _ _ _ _ _ _=>vlen vl)
   case atStart=>exact⟨_,_,n,_,_,rfl,rfl,HO2.out,HDS.out,HR0.out,by rw [ZbI];exact h1,HB2.out⟩
   case round=>
    obtain⟨ts,o,K,l,base,rfl,rfl,hO,hD,hR,hl1,hB⟩:=hrel;obtain⟨la,lc,rfl⟩:=hO.slice;obtain⟨m,hm⟩:∃m,ts.length=m:=⟨_,rfl⟩
    have HO:=zh hO;have HD:=zh hD;have HR:=zh hR;have HB:=zh hB;have HM:=zh hm;have hcnt:=hD.cnt;rw [HN.out,hm] at hcnt;rw [hm] at HO hl1 ⊢;clear hO hD hR hB hm;by_cases hm2:1<m
    ·have hm2i:(1:Int)<(m:Int):=by omega
     go_wp2_with fail;refine(Zby _ ts _ base HO.out (by rw [HM.out];omega) (by rw [HM.out];omega)).mono ?_;rintro e w3 ⟨ia,rfl,hia,hna,hb3⟩;rw [HM.out] at hia;obtain⟨x,hx⟩:∃x,ts[ia]?=some x:=⟨_,List.getElem?_eq_getElem (by rw [HM.out];exact hia)⟩
     have HO3:=zh (HO.out.below hb3);have HR3:=zh (HR.out.below hb3);have HB3:=zh (HB.out.trans (hb3.mono HB.out.size));obtain⟨gx,cx,ux,he,hgx,x0,x1,x2,hox,hoxx⟩:=HO3.out.at hx;rw [HM.out] at he;simp only [Value.slice.injEq] at he;obtain⟨rfl,_,rfl⟩:=he;obtain⟨xa,xc,rfl⟩:=hox.slice;have HX:=zh hx;have HNA:=zh hna;have HOX:=zh hox;have hiai:(ia:Int)<(m:Int):=by omega
     have hia3:ia*3<3000:=by omega
     clear hx hna hb3 hox;obtain⟨w4,hw4⟩:∃w4,w3.alloc (.cells #[.int .i64 (x.1.1:Int),.int .i64 (x.1.2:Int),.slice xa x.2.length xc] 257)=w4:=⟨_,rfl⟩
     have b34:Below w3.heap.size w3 w4:=by rw [<-hw4];exact(Below.refl _ w3).alloc (Nat.le_refl _) _
     have hX4:Hid (w4.heap[w3.heap.size]?=some (.cells #[.int .i64 (x.1.1:Int),.int .i64 (x.1.2:Int),.slice xa x.2.length xc] 257 (0,0))):=zh (by rw [<-hw4];exact heap_alloc_new w3 _);have HO4:=zh (HO3.out.below b34);have HR4:=zh (HR3.out.below b34);have HB4:=zh (HB3.out.trans (b34.mono HB3.out.size));have HOX4:=zh (HOX.out.below b34);obtain⟨px,hpx⟩:∃px,w3.heap.size=px:=⟨_,rfl⟩
     rw [hpx] at hX4;have hpx4:Hid (px<w4.heap.size):=zh (Array.getElem?_eq_some_iff.1 hX4.out).1;have HPX:=zh hpx;clear b34;go_wp2_with fail;clear hw4 hpx;refine(ZaW _ ts ia w4 base HO4.out (by rw [HM.out];exact hia) (by rw [HM.out];omega)).mono ?_;rintro e w5 ⟨r5,rfl,ho5,hb5⟩;have hl5:(ts.eraseIdx ia).length=m-1:=by rw [List.length_eraseIdx_of_lt (by rw [HM.out];exact hia),HM.out]
     obtain⟨l5a,l5c,rfl⟩:=ho5.slice;have HL5:=zh hl5;rw [hl5] at ho5 ⊢;obtain⟨m5,hm5⟩:∃m5,m-1=m5:=⟨_,rfl⟩
     rw [hm5] at ho5 HL5 ⊢;have hm51:1<=m5:=by omega
     have hm52:m5+1=m:=by omega
     have HM5:=zh hm52;have hm5b:m5<=1000:=by omega
     have HO5:=zh ho5;have HR5:=zh (HR4.out.below hb5);have HB5:=zh (HB4.out.trans (hb5.mono HB4.out.size));have HOX5:=zh (HOX4.out.below hb5);have hX5:Hid (w5.heap[px]?=some (.cells #[.int .i64 (x.1.1:Int),.int .i64 (x.1.2:Int),.slice xa x.2.length xc] 257 (0,0))):=zh ((hb5.block px hpx4.out).trans hX4.out);clear ho5 hb5 hl5 hm5 hm52 x0 x1 x2;go_wp2_with fail;refine(Zby _ (ts.eraseIdx ia) _ _ HO5.out (by rw [HL5.out];omega) (by rw [HL5.out];omega)).mono ?_;rintro e w6 ⟨ib,rfl,hib,hnb,hb6⟩;rw [HL5.out] at hib;obtain⟨y,hy⟩:∃y,(ts.eraseIdx ia)[ib]?=some y:=⟨_,List.getElem?_eq_getElem (by rw [HL5.out];exact hib)⟩
     have HO6:=zh (HO5.out.below hb6);have HR6:=zh (HR5.out.below hb6);have HB6:=zh (HB5.out.trans (hb6.mono HB5.out.size));have HOX6:=zh (HOX5.out.below hb6);have hX6:Hid (w6.heap[px]?=some (.cells #[.int .i64 (x.1.1:Int),.int .i64 (x.1.2:Int),.slice xa x.2.length xc] 257 (0,0))):=zh ((hb6.block px ((Array.getElem?_eq_some_iff.1 hX5.out).1)).trans hX5.out);obtain⟨gy,cy,uy,he,hgy,y0,y1,y2,hoy,hoyx⟩:=HO6.out.at hy;rw [HL5.out] at he;simp only [Value.slice.injEq] at he;obtain⟨rfl,_,rfl⟩:=he;obtain⟨ya,yc,rfl⟩:=hoy.slice;have HY:=zh hy;have HNB:=zh hnb;have HOY:=zh hoy;have hibi:(ib:Int)<(m5:Int):=by omega
     have hib3:ib*3<3000:=by omega
     clear hy hnb hb6 hoy;obtain⟨w7,hw7⟩:∃w7,w6.alloc (.cells #[.int .i64 (y.1.1:Int),.int .i64 (y.1.2:Int),.slice ya y.2.length yc] 257)=w7:=⟨_,rfl⟩
     have b67:Below w6.heap.size w6 w7:=by rw [<-hw7];exact(Below.refl _ w6).alloc (Nat.le_refl _) _
     have hY7:Hid (w7.heap[w6.heap.size]?=some (.cells #[.int .i64 (y.1.1:Int),.int .i64 (y.1.2:Int),.slice ya y.2.length yc] 257 (0,0))):=zh (by rw [<-hw7];exact heap_alloc_new w6 _);have HO7:=zh (HO6.out.below b67);have HR7:=zh (HR6.out.below b67);have HB7:=zh (HB6.out.trans (b67.mono HB6.out.size));have HOX7:=zh (HOX6.out.below b67);have HOY7:=zh (HOY.out.below b67);have hX7:Hid (w7.heap[px]?=some (.cells #[.int .i64 (x.1.1:Int),.int .i64 (x.1.2:Int),.slice xa x.2.length xc] 257 (0,0))):=zh ((b67.block px ((Array.getElem?_eq_some_iff.1 hX6.out).1)).trans hX6.out);obtain⟨py,hpy⟩:∃py,w6.heap.size=py:=⟨_,rfl⟩
     rw [hpy] at hY7;have HPY:=zh hpy;clear b67;go_wp2_with fail;clear hw7 hpy;refine(ZaW _ (ts.eraseIdx ia) ib w7 _ HO7.out (by rw [HL5.out];exact hib) (by rw [HL5.out];omega)).mono ?_;rintro e w8 ⟨r8,rfl,ho8,hb8⟩;have hl8:((ts.eraseIdx ia).eraseIdx ib).length=m5-1:=by rw [List.length_eraseIdx_of_lt (by rw [HL5.out];exact hib),HL5.out]
     obtain⟨l8a,l8c,rfl⟩:=ho8.slice;have HL8:=zh hl8;rw [hl8] at ho8 ⊢;obtain⟨m8,hm8⟩:∃m8,m5-1=m8:=⟨_,rfl⟩
     rw [hm8] at ho8 HL8 ⊢;have hm82:m8+1=m5:=by omega
     have HM8:=zh hm82;have hm8b:m8<=1000:=by omega
     have hg7:Hid (g<w7.heap.size):=zh HR7.out.lt;have HO8:=zh ho8;have HR8:=zh (HR7.out.below hb8);have HB8:=zh (HB7.out.trans (hb8.mono HB7.out.size));have HOX8:=zh (HOX7.out.below hb8);have HOY8:=zh (HOY7.out.below hb8);have hX8:Hid (w8.heap[px]?=some (.cells #[.int .i64 (x.1.1:Int),.int .i64 (x.1.2:Int),.slice xa x.2.length xc] 257 (0,0))):=zh ((hb8.block px ((Array.getElem?_eq_some_iff.1 hX7.out).1)).trans hX7.out);have hY8:Hid (w8.heap[py]?=some (.cells #[.int .i64 (y.1.1:Int),.int .i64 (y.1.2:Int),.slice ya y.2.length yc] 257 (0,0))):=zh ((hb8.block py ((Array.getElem?_eq_some_iff.1 hY7.out).1)).trans hY7.out);have hsz8:Hid (w7.heap.size<=w8.heap.size):=zh hb8.size;obtain⟨hDS2,hsum,hzr,hzl⟩:=HD.out.step (by rw [HM.out];exact hia) HX.out HNA.out (by rw [HL5.out];exact hib) HY.out HNB.out;have x2:w8.cell? ⟨px,2,none⟩=some (.slice xa x.2.length xc):=by rw [cell_of_row _ _ _ _ _ _ hX8.out];rfl
     have y2':w8.cell? ⟨py,2,none⟩=some (.slice ya y.2.length yc):=by rw [cell_of_row _ _ _ _ _ _ hY8.out];rfl
     have HDS2:=zh hDS2;have HZR:=zh hzr;rw [List.length_append,HN.out] at hzl;have hsumb:x.1.1+y.1.1<=400000000000000:=by have:=hT.out;omega
     clear ho8 hb8 hl8 hm8 hm82 y0 y1 y2 hDS2 hzr hsum;go_wp2_with (at_builtin;go_loud (refine ZaF w8 rfl _ _ rfl w8.heap.size (.slice none 0 0) [] 0 (.slice xa x.2.length xc) x.2 (OwnI.nil w8 _) HOX8.out rfl rfl (by simp;omega) (Nat.le_refl _) ?_));intro v9 w9 hown9 hb9;have HOWN9:Hid (OwnI w9 w8.heap.size v9 x.2):=zh hown9;obtain⟨a9,c9,rfl⟩:=hown9.slice;have hOX9:=HOY8.out.below hb9;have hY9:w9.heap[py]?=some (.cells #[.int .i64 (y.1.1:Int),.int .i64 (y.1.2:Int),.slice ya y.2.length yc] 257 (0,0)):=(hb9.block py ((Array.getElem?_eq_some_iff.1 hY8.out).1)).trans hY8.out;have y2:w9.cell? ⟨py,2,none⟩=some (.slice ya y.2.length yc):=by rw [cell_of_row _ _ _ _ _ _ hY9];rfl
     have HOY9:=zh hOX9;have HB89:=zh hb9;have hs89:=hb9.size;clear hown9 hb9 hOX9 hY9 y2' x2;go_wp2_with (at_builtin;go_loud (refine ZaF w9 rfl _ _ rfl w8.heap.size (.slice a9 x.2.length c9) x.2 0 (.slice ya y.2.length yc) y.2 HOWN9.out HOY9.out rfl rfl (by omega) hs89 ?_));intro v10 w10 hown10 hb10;have b810:Below w8.heap.size w8 w10:=HB89.out.trans hb10;obtain⟨L,hL⟩:∃L,x.2++y.2=L:=⟨_,rfl⟩
     rw [hL] at hown10 HDS2 HZR;have hLn:L.length<=n:=by rw [<-hL,List.length_append];exact hzl
     have HLL:=zh hL;have HOWN10:Hid (OwnI w10 w8.heap.size v10 L):=zh hown10;obtain⟨a10,c10,rfl⟩:=hown10.slice;have HO10:=zh (HO8.out.below b810);have HR10:=zh (HR8.out.below b810);have HB10:Hid (Below w.heap.size w w10):=zh (HB8.out.trans (b810.mono HB8.out.size));have hX10:Hid (w10.heap[px]?=some (.cells #[.int .i64 (x.1.1:Int),.int .i64 (x.1.2:Int),.slice xa x.2.length xc] 257 (0,0))):=zh ((b810.block px ((Array.getElem?_eq_some_iff.1 hX8.out).1)).trans hX8.out);have hY10:Hid (w10.heap[py]?=some (.cells #[.int .i64 (y.1.1:Int),.int .i64 (y.1.2:Int),.slice ya y.2.length yc] 257 (0,0))):=zh ((b810.block py ((Array.getElem?_eq_some_iff.1 hY8.out).1)).trans hY8.out);have hg8:Hid (g<w8.heap.size):=zh HR8.out.lt;have hs810:Hid (w8.heap.size<=w10.heap.size):=zh b810.size
     have hpxg:Hid (px≠g):=zh (fun e=>by
      have h1:=hX10.out;have h2:=HR10.out;subst e;unfold RowI at h2;rw [h1] at h2;simp at h2)
     have hpyg:Hid (py≠g):=zh (fun e=>by
      have h1:=hY10.out;have h2:=HR10.out;subst e;unfold RowI at h2;rw [h1] at h2;simp at h2)
     clear hown10 hb10 b810 hL y2 hs89 hzl;go_wp2_with fail
     go_loopw [68] (fun vi wr=>∃k:Nat,vi=.int .i64 k/\k<=L.length/\RowI wr g (inc o (L.take k))/\Touch (·=g) w10 wr) (fun vi _=>L.length-(intOf vi).toNat)
     case atStart=>exact⟨0,rfl,by omega,HR10.out,Touch.refl _ _⟩
     case round=>
      obtain⟨k,rfl,hk,hR,hT⟩:=hrel;have HRK:=zh hR;have HTK:=zh hT
      have HLK:Hid (OwnI wr w8.heap.size (.slice a10 L.length c10) L):=zh (HOWN10.out.same (fun j hj=>hT.block j (World.ownsRow.lt HOWN10.out j hj).2 (fun e=>by
       have e':j=g:=e;have:=(World.ownsRow.lt HOWN10.out j hj).1;have:=hg8.out;omega)))
      clear hR hT;by_cases hlk:k<L.length
      ·have hki:(k:Int)<(L.length:Int):=by omega
       obtain⟨b1,o1,k1,he1,c1⟩:=HLK.out.ints.cell hlk;simp only [Value.slice.injEq] at he1;obtain⟨rfl,_,rfl⟩:=he1;have hzk:=HZR.out _ (getD_mem hlk);rw [HN.out] at hzk;have hit:=Zfm o L hlk;obtain⟨z,hz2⟩:∃z:Nat,L.getD k 0=(z:Int):=⟨(L.getD k 0).toNat,by omega⟩
       rw [hz2] at c1 hzk hit;rw [Int.toNat_natCast] at hit;have hzn:z<n:=by omega
       have hzni:(z:Int)<(n:Int):=by omega
       have hol:(inc o (L.take k)).length=n:=by rw [Zef,HD.out.ol,HN.out]
       obtain⟨c2,f2,hset⟩:=RowI.cell HRK.out (i:=z) (by rw [hol];exact hzn);have hnear:=Zfn (L.take k) o z;have hnear2:=HD.out.near (i:=z) (by rw [HN.out];exact hzn);rw [List.length_take] at hnear;rw [HN.out,HM.out] at hnear2;obtain⟨V,hV⟩:∃V,(inc o (L.take k)).getD z 0=V:=⟨_,rfl⟩
       rw [hV] at c2 hit hnear;have hVb:V<=2000:=by omega
       have hVb2:-2000<=V:=by omega
       have HNEXT:Hid (RowI (wr.setCell ⟨g,z,none⟩ (.int .i64 (V+1))) g (inc o (L.take (k+1)))):=zh (by rw [hit];exact hset (V+1));have HTN:Hid (Touch (·=g) w10 (wr.setCell ⟨g,z,none⟩ (.int .i64 (V+1)))):=zh (Zae HTK.out);clear hz2 hit hset hnear hnear2 hV hol;go_wp2_with fail;go_roundw
       case rel=>exact⟨k+1,by go_num,by omega,HNEXT.out,HTN.out⟩
       case measure=>simp [intOf];omega
      ·have hki:¬(k:Int)<(L.length:Int):=by omega
       have hRL:Hid (RowI wr g (inc o L)):=zh (by have:=HRK.out;rw [List.take_of_length_le (by omega)] at this;exact this);have HOL:Hid (OwnT g wr w7.heap.size (.slice l8a m8 l8c) ((ts.eraseIdx ia).eraseIdx ib)):=zh (HO10.out.set HR10.out HTK.out);have hXL:wr.heap[px]?=some (.cells #[.int .i64 (x.1.1:Int),.int .i64 (x.1.2:Int),.slice xa x.2.length xc] 257 (0,0)):=(HTK.out.block px ((Array.getElem?_eq_some_iff.1 hX10.out).1) hpxg.out).trans hX10.out;have hYL:wr.heap[py]?=some (.cells #[.int .i64 (y.1.1:Int),.int .i64 (y.1.2:Int),.slice ya y.2.length yc] 257 (0,0)):=(HTK.out.block py ((Array.getElem?_eq_some_iff.1 hY10.out).1) hpyg.out).trans hY10.out;have q1:wr.cell? ⟨px,0,none⟩=some (.int .i64 (x.1.1:Int)):=by rw [cell_of_row _ _ _ _ _ _ hXL];rfl
       have q2:wr.cell? ⟨py,0,none⟩=some (.int .i64 (y.1.1:Int)):=by rw [cell_of_row _ _ _ _ _ _ hYL];rfl
       obtain⟨S,hS⟩:∃S,x.1.1+y.1.1=S:=⟨_,rfl⟩
       have hSI:(x.1.1:Int)+(y.1.1:Int)=(S:Int):=by omega
       have hSb:S<=400000000000000:=by omega
       have HDS3:Hid (DS zs d ((ts.eraseIdx ia).eraseIdx ib++[((S,K),L)]) (inc o L) (K+1)):=zh (by rw [<-hS];exact HDS2.out)
       have hux:Hid ((Value.slice a10 L.length c10).ownBlock≠some g):=zh (fun e=>by
        have:=(World.ownsRow.lt HOWN10.out g e).1;have:=hg8.out;omega)
       have HUL:Hid (OwnI wr 0 (.slice a10 L.length c10) L):=zh (HLK.out.lower (Nat.zero_le _));have hbase:Hid (w7.heap.size<=wr.heap.size):=zh (by have:=HTK.out.size;have:=hs810.out;have:=hsz8.out;omega);have HBL:Hid (Below w.heap.size w wr):=zh (HB10.out.trans (HTK.out.below (B:=w.heap.size) HB10.out.size (fun i hi=>by have e:i=g:=hi;have:=hgw.out;omega)));have hll:Hid (((ts.eraseIdx ia).eraseIdx ib).length+1<=1000000):=zh (by rw [HL8.out];omega);have HSS:=zh hS;have hw7w:Hid (w.heap.size<=w7.heap.size):=zh (by have:=hgw.out;have:=hg7.out;omega);clear hXL hYL hS;go_wp2_with (at_builtin;go_loud (refine Zbe wr rfl _ _ rfl w7.heap.size wr.heap.size rfl (.slice l8a m8 l8c) ((ts.eraseIdx ia).eraseIdx ib) ((S,K),L) (.slice a10 L.length c10) HOL.out HUL.out hux.out rfl rfl hll.out hbase.out ?_));intro v12 w12 hown12 hb12;have HOWN12:=zh hown12;have HR12:Hid (RowI w12 g (inc o L)):=zh ((hb12.block g hg7.out).trans hRL.out);have HB12:Hid (Below w.heap.size w w12):=zh (HBL.out.trans (hb12.mono hw7w.out))
       have hv12:Hid (vlen v12=m8+1):=zh (by
        obtain⟨a12,c12,rfl⟩:=hown12.slice;show((ts.eraseIdx ia).eraseIdx ib++[((S,K),L)]).length=m8+1;rw [List.length_append,HL8.out];rfl)
       clear hown12 hb12;go_wp2_with fail;go_roundw
       case rel=>exact⟨_,_,K+1,_,w7.heap.size,rfl,by go_num,HOWN12.out,HDS3.out,HR12.out,by simp,HB12.out⟩
       case measure=>
        rw [hv12.out];show m8+1<m;have:=HM8.out;have:=HM5.out;omega
    ·have hm2i:¬(1:Int)<(m:Int):=by omega
     have hdep:Hid (DepP zs o):=zh (HD.out.end_ (by rw [HM.out];omega));have hIo:Hid (IsInts wr (.slice (some ⟨g,0,none⟩) n n) o):=zh (HR.out.ints n n (by rw [HD.out.ol,HN.out]));go_wp2_with fail;go_ret
     have hloc:∀k,(Value.slice (some ⟨g,0,none⟩) n n).ownBlock=some k->w.heap.size<=k:=fun k hk=>by
      simp only [Value.ownBlock,Option.some.injEq] at hk;have:=hgw.out;omega
     first
      | exact⟨_,o,rfl,hIo.out,hdep.out,HB.out,hloc⟩
      | exact⟨_,rfl,o,hIo.out,hdep.out,HB.out,hloc⟩
theorem ZcB (v:Value) (zs:List Int) (w:World) (hv:IsInts w v zs) (hz:zs.length<=1000000) (hb:∀z∈zs,z<=9223372036854775807) :
  Calls Tryz.prog 181 #[v] w fun e w'=>∃r,e=.returned r/\IsInts w' r (hvs zs)/\Below w.heap.size w w':=by
 have HV:=zh hv;have HBD:=zh hb;obtain⟨a,cap,rfl,_⟩:=hv;obtain⟨N,hN⟩:∃N,zs.length=N:=⟨_,rfl⟩
 have HN:=zh hN;rw [hN] at hz ⊢;clear hb hN;go_enter Tryz.func181,Tryz.ntmps181;go_wp2_with fail
 go_loopw [3,5,8] (fun vo _ vi wr=>∃(k:Nat) (o:Value),vi=.int .i64 k/\k<=N/\o=vo/\OwnI wr w.heap.size o (hvs (zs.take k))/\Below w.heap.size w wr) (fun _ _ vi _=>N-(intOf vi).toNat)
 case atStart=>exact⟨0,_,rfl,by omega,rfl,OwnI.nil _ _,Below.refl _ _⟩
 case round=>
  obtain⟨k,o,rfl,hk,rfl,hO,hB⟩:=hrel;have HO:=zh hO;have HB:=zh hB;have HBS:=hB.size;obtain⟨oa,oc,rfl⟩:=hO.slice;have hlen:(hvs (zs.take k)).length=k:=by rw [Zck,List.length_take,HN.out];omega
  rw [hlen] at HO ⊢;by_cases hlk:k<N
  ·have hki:(k:Int)<(N:Int):=by omega
   have hlz:k<zs.length:=by rw [HN.out];exact hlk
   obtain⟨b1,o1,k1,he1,c1⟩:=HV.out.cell hlz;rw [HN.out] at he1;simp only [Value.slice.injEq] at he1;obtain⟨rfl,_,rfl⟩:=he1;have c1:=(HB.out.cell (ZaE c1)).trans c1;obtain⟨x,hx⟩:∃x,zs.getD k 0=x:=⟨_,rfl⟩
   rw [hx] at c1;have hxb:x<=9223372036854775807:=by rw [<-hx];exact HBD.out _ (getD_mem hlz)
   have h3:Hid (hvs (zs.take (k+1))=hvs (zs.take k)++[hv x]):=zh (by
    unfold hvs;rw [List.take_add_one,List.map_append,List.getElem?_eq_getElem hlz];have hx2:zs[k]=x:=by rw [<-hx,List.getD_eq_getElem?_getD,List.getElem?_eq_getElem hlz];rfl
    simp only [Option.toList_some,List.map_cons,List.map_nil,hx2])
   have HLEN:=zh hlen;clear hO hB hx hlen hlz;by_cases hx0:x<0
   ·have hz0:Hid (hv x=1):=zh (by unfold hv;rw [if_pos hx0];rfl);have hq:IntKind.i64.wrap (0 / 2)=0:=by decide
    go_wp2_with (at_builtin;go_loud (refine Zaf wr rfl _ _ rfl w.heap.size (.slice oa k oc) (hvs (zs.take k)) 1 HO.out rfl rfl (by rw [HLEN.out];omega) HBS ?_));intro v' w' hown hb;have HOWN:=zh hown;have HBB:=zh (HB.out.trans hb);clear hown hb;go_wp2_with fail;go_roundw
    case rel=>exact⟨k+1,_,by go_num,by omega,rfl,by rw [h3.out,hz0.out];exact HOWN.out,HBB.out⟩
    case measure=>simp [intOf];omega
   ·have hz0:Hid (hv x=x / 2+1):=zh (by unfold hv;rw [if_neg hx0]);have hx1:0<=x:=by omega
    have hq:IntKind.i64.wrap (x / 2)=x / 2:=IntWalk.i64_in _ (by omega);go_wp2_with (at_builtin;go_loud (refine Zaf wr rfl _ _ rfl w.heap.size (.slice oa k oc) (hvs (zs.take k)) (x / 2+1) HO.out rfl rfl (by rw [HLEN.out];omega) HBS ?_));intro v' w' hown hb;have HOWN:=zh hown;have HBB:=zh (HB.out.trans hb);clear hown hb;go_wp2_with fail;go_roundw
    case rel=>exact⟨k+1,_,by go_num,by omega,rfl,by rw [h3.out,hz0.out];exact HOWN.out,HBB.out⟩
    case measure=>simp [intOf];omega
  ·have hki:¬(k:Int)<(N:Int):=by omega
   obtain rfl:N=k:=by omega
   have e:hvs (zs.take N)=hvs zs:=by rw [List.take_of_length_le (Nat.le_of_eq HN.out)]
   rw [e] at HO;clear e hO hB hlen;go_wp2_with fail;go_ret;exact⟨_,rfl,HO.out.ints,HB.out⟩
theorem Zfo (v:Value) (zs rs:List Int) (m0:Nat) (w:World) (hv:IsInts w v zs) (h3:3<=zs.length) (hz:zs.length<=258) (hw:Within 0 1099511627776 zs) (hm0:m0<=40) (hof:OfR m0 (ups zs) rs) :
  Calls Tryz.prog 152 #[v] w fun e w'=>∃r,e=.returned r/\IsInts w' r rs/\Below w.heap.size w w'/\(∀k,r.ownBlock=some k->w.heap.size<=k):=by
 have HV:=zh hv;have HW:=zh hw;have HOF:=zh hof;obtain⟨a,cap,rfl,_⟩:=hv;obtain⟨N,hN⟩:∃N,zs.length=N:=⟨_,rfl⟩
 have HN:=zh hN;rw [hN] at hz h3 ⊢;clear hw hof hN;go_enter Tryz.func152,Tryz.ntmps152;go_wp2_with fail
 go_loopw [3,5,9] (fun vo _ vi wr=>∃(k:Nat) (o:Value),vi=.int .i64 k/\k<=N/\o=vo/\OwnI wr w.heap.size o (ups (zs.take k))/\Below w.heap.size w wr) (fun _ _ vi _=>N-(intOf vi).toNat)
 case atStart=>exact⟨0,_,rfl,by omega,rfl,OwnI.nil _ _,Below.refl _ _⟩
 case round=>
  obtain⟨k,o,rfl,hk,rfl,hO,hB⟩:=hrel;have HO:=zh hO;have HB:=zh hB;have HBS:=hB.size;obtain⟨oa,oc,rfl⟩:=hO.slice;have hlen:(ups (zs.take k)).length=k:=by rw [Zcd,List.length_take,HN.out];omega
  rw [hlen] at HO ⊢;by_cases hlk:k<N
  ·have hki:(k:Int)<(N:Int):=by omega
   have hlz:k<zs.length:=by rw [HN.out];exact hlk
   obtain⟨b1,o1,k1,he1,c1⟩:=HV.out.cell hlz;rw [HN.out] at he1;simp only [Value.slice.injEq] at he1;obtain⟨rfl,_,rfl⟩:=he1;have c1:=(HB.out.cell (ZaE c1)).trans c1;obtain⟨x,hx⟩:∃x,zs.getD k 0=x:=⟨_,rfl⟩
   rw [hx] at c1;have hx2:=HW.out _ (getD_mem hlz);rw [hx] at hx2
   have h3:Hid (ups (zs.take (k+1))=ups (zs.take k)++[if x<1 then 1 else x]):=zh (by
    unfold ups;rw [List.take_add_one,List.map_append,List.getElem?_eq_getElem hlz];have hx2:zs[k]=x:=by rw [<-hx,List.getD_eq_getElem?_getD,List.getElem?_eq_getElem hlz];rfl
    simp only [Option.toList_some,List.map_cons,List.map_nil,hx2])
   have HLEN:=zh hlen;clear hO hB hx hlen hlz;by_cases hx0:x=0
   ·have hz0:Hid ((if x<1 then 1 else x)=1):=zh (if_pos (by omega));have hxe:(x==0)=true:=by rw [beq_iff_eq];exact hx0
    clear hx0;go_wp2_with (at_builtin;go_loud (refine Zaf wr rfl _ _ rfl w.heap.size (.slice oa k oc) (ups (zs.take k)) 1 HO.out rfl rfl (by rw [HLEN.out];omega) HBS ?_));intro v' w' hown hb;have HOWN:=zh hown;have HBB:=zh (HB.out.trans hb);clear hown hb;go_wp2_with fail;go_roundw
    case rel=>exact⟨k+1,_,by go_num,by omega,rfl,by rw [h3.out,hz0.out];exact HOWN.out,HBB.out⟩
    case measure=>simp [intOf];omega
   ·have hz0:Hid ((if x<1 then 1 else x)=x):=zh (if_neg (by omega));have hxe:(x==0)=false:=by rw [beq_eq_false_iff_ne];exact hx0
    clear hx0;go_wp2_with (at_builtin;go_loud (refine Zaf wr rfl _ _ rfl w.heap.size (.slice oa k oc) (ups (zs.take k)) x HO.out rfl rfl (by rw [HLEN.out];omega) HBS ?_));intro v' w' hown hb;have HOWN:=zh hown;have HBB:=zh (HB.out.trans hb);clear hown hb;go_wp2_with fail;go_roundw
    case rel=>exact⟨k+1,_,by go_num,by omega,rfl,by rw [h3.out,hz0.out];exact HOWN.out,HBB.out⟩
    case measure=>simp [intOf];omega
  ·have hki:¬(k:Int)<(N:Int):=by omega
   obtain rfl:N=k:=by omega
   have e:ups (zs.take N)=ups zs:=by rw [List.take_of_length_le (Nat.le_of_eq HN.out)]
   rw [e] at HO;have hul:Hid ((ups zs).length=N):=zh (by rw [Zcd,HN.out])
   have hub:Hid (∀z∈ups zs,0<=z/\z<=1099511627776):=zh (fun z hz=>by
    obtain⟨x,hx,rfl⟩:=List.mem_map.1 hz;have:=HW.out x hx;split<;>omega)
   clear e hO hB hlen;go_wp2_with fail
   go_loopg [3,6,20] m0 (fun gk vw _ vi wr=>∃(ws:List Int) (k:Nat),vi=.int .i64 k/\k+gk<=40/\IsInts wr vw ws/\ws.length=N/\(∀z∈ws,0<=z/\z<=1099511627776)/\OfR gk ws rs/\Below w.heap.size w wr)
   case atStart=>exact⟨ups zs,0,rfl,by omega,HO.out.ints,hul.out,hub.out,HOF.out,HB.out⟩
   case round=>
    obtain⟨ws,k,rfl,hkg,hws,hwl,hwb,hor,hB4⟩:=hrel;have HWS:=zh hws;have HWL:=zh hwl;have HWB:=zh hwb;have HOR:=zh hor;have HB4:=zh hB4;obtain⟨a1,cap1,rfl,_⟩:=hws;rw [hwl] at HWS ⊢;have hk100:(k:Int)<100:=by omega
    clear hwl hwb hor hB4;go_wp2_with fail;refine(ZcA _ ws wr HWS.out (by rw [HWL.out];omega) (by rw [HWL.out];omega) (fun z hz=>by have:=HWB.out z hz;omega)).mono ?_;rintro e w5 ⟨r5,ds,rfl,hi5,hd5,hb5,ho5⟩;have HO5:Hid (∀k,r5.ownBlock=some k->w.heap.size<=k):=zh (fun k hk=>Nat.le_trans HB4.out.size (ho5 k hk));clear ho5;have HI5:=zh hi5;have HD5:=zh hd5;have HB5:=zh (HB4.out.trans (hb5.mono HB4.out.size));have HW5:=zh (HWS.out.below hb5);have hdl:ds.length=N:=by rw [hd5.len,HWL.out]
    have hdb:∀z∈ds,1<=z:=fun z hz=>(hd5.bound (by rw [HWL.out];omega) z hz).1
    obtain⟨a5,cap5,rfl,_⟩:=hi5;by_cases hgt:∀y∈ds,y<=20
    ·have HM:=zh (Zd1 _ ds 1 20 true w5 HI5.out ⟨fun _=>fun z hz=>⟨hdb z hz,hgt z hz⟩,fun _=>rfl⟩ (by omega))
     have hrs:Hid (rs=ds):=zh (by
      cases HOR.out with
      | now _ _ k1 k2=>exact k1.same HD5.out
      | later n _ ys _ k1 k2 k3=>exact absurd (by rw [<-HD5.out.same k1];exact hgt) k2)
     rw [hdl] at HI5 HM HO5 ⊢;clear hd5 hb5 hdl hdb hgt;go_wp2_with fail;refine HM.out.mono ?_;rintro e w6 ⟨rfl,rfl⟩;go_wp2_with fail;go_ret;exact⟨_,rfl,by rw [hrs.out];exact HI5.out,HB5.out,HO5.out⟩
    ·have HM:=zh (Zd1 _ ds 1 20 false w5 HI5.out ⟨fun h=>(by cases h),fun h=>absurd (fun z hz=>(h z hz).2) hgt⟩ (by omega))
     obtain⟨j,hj,hor2⟩:∃j,gk=j+1/\OfR j (hvs ws) rs:=by
      cases HOR.out with
      | now _ _ k1 k2=>exact absurd (by rw [HD5.out.same k1];exact k2) hgt
      | later n _ ys _ k1 k2 k3=>exact⟨n,rfl,k3⟩
     have HOR2:=zh hor2;have HJ:=zh hj;rw [hdl] at HI5 HM ⊢;clear hd5 hb5 hdl hdb hgt hor2 hj;go_wp2_with fail;refine HM.out.mono ?_;rintro e w6 ⟨rfl,rfl⟩;go_wp2_with fail;refine(ZcB _ ws w6 HW5.out (by rw [HWL.out];omega) (fun z hz=>by have:=HWB.out z hz;omega)).mono ?_;rintro e w7 ⟨r7,rfl,hi7,hb7⟩;have HI7:=zh hi7;have HB7:=zh (HB5.out.trans (hb7.mono HB5.out.size));clear hi7 hb7;go_wp2_with fail
     go_roundg j
     case rel=>exact⟨hvs ws,k+1,by go_num,by have:=HJ.out;omega,HI7.out,by rw [Zck,HWL.out],ZdJ (fun z hz=>by have:=HWB.out z hz;omega),HOR2.out,HB7.out⟩
     case measure=>have:=HJ.out;omega
end
end Go.Proofs.YtlfpbcadcfaboaaGreatDoor

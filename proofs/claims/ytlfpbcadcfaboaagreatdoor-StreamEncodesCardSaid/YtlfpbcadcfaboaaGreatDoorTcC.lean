import Derived.Test.YtlfpbcadcfaboaaGreatDoorTcA
import Derived.Test.YtlfpbcadcfaboaaGreatDoorTcB
import Derived.Deep.AppendSrc
import Derived.Deep.Upon
import Derived.Laws.OwnMore
import Derived.Laws.AppendOwnNone
import Derived.StillTailTactics
import Derived.WalkKit
import Derived.ProofKit
import Derived.OpenShut
import Derived.ShutString
import Derived.ChangeOld
import Derived.Below
import Derived.Lib.Hide
import Derived.Lib.SmallJoins
import Derived.Deep.Slices
import Derived.Lib.BytesEntry
import Derived.Lib.IndexLaws
set_option linter.unusedVariables false
set_option linter.unusedSimpArgs false
set_option maxHeartbeats 8000000
set_option maxRecDepth 100000
namespace Go.Proofs.YtlfpbcadcfaboaaGreatDoor
section
open Go.RowKit BitM
theorem Zgh {S:Nat->Prop} {g:Nat} (hS:S g):∀(vs:List Value) (o:Nat) (w:World),Touch S w (w.setCells g o vs)
 | [],_,w=>Touch.refl S w
 | v::r,o,w=>by
  have h1:Touch S w (w.setCell ⟨g,o,none⟩ v):=(Touch.refl S w).setCell (Or.inl hS) v;exact h1.trans (Zgh hS r (o+1) _) (fun i hi=>Or.inl hi)
theorem Zr2 (m k:Nat) (h:k<m):(Builtin.zeroCells #[Value.int .u8 0] m)[k]?=some (.int .u8 0):=by
 unfold Builtin.zeroCells;rw [Array.getElem?_map,Array.getElem?_range,if_pos (by simpa using h)];simp [Nat.mod_one]
theorem Znf {W:World} {g:Nat} {e:TypeId} (L:List UInt8) (C:Nat) (hC:L.length<=C) (hm:C<=maxLen)
  (hW:W.heap[g]?=some (.cells ((L.map u8v).toArray++Builtin.zeroCells #[Value.int .u8 0] (C-L.length)) e)):IsRowB W (.slice (some ⟨g,0,none⟩) L.length C) L:=by
 refine Or.inr ⟨g,0,C,rfl,(Array.getElem?_eq_some_iff.1 hW).1,hC,hm,fun i x hx=>?_,fun i hi=>?_,fun i hi=>frozen_of_row _ _ _ _ _ hW⟩
 ·have hi:=(List.getElem?_eq_some_iff.1 hx).1;rw [cell_of_row _ _ _ _ _ _ hW,Nat.zero_add,Array.getElem?_append_left (by simpa using hi)];simp [hx]
 ·rw [cell_of_row _ _ _ _ _ _ hW,Nat.zero_add];by_cases hl:i<L.length
  ·rw [Array.getElem?_append_left (by simpa using hl)];exact⟨(L[i].toNat:Int),by simp [hl,u8v]⟩
  ·rw [Array.getElem?_append_right (by simpa using Nat.le_of_not_lt hl)];exact⟨0,Zr2 _ _ (by simp;omega)⟩
theorem Zlu (w:World) (v:Value) (l:List UInt8) (s:ByteArray) (h:IsRowB w v l) (hs:l.length+s.size<=1099511627776) :
  ∃v' w',(Builtin.append_ #[73,9] 73 #[v,.string s]).run Tryz.prog w=.ok v' w'/\IsRowB w' v' (l++s.data.toList)/\Touch (fun k=>v.ownBlock=some k) w w' /\
   (∀k,v'.ownBlock=some k->v.ownBlock=some k\/w.heap.size<=k):=by
 obtain⟨i,hi,h5⟩:=Option.map_eq_some_iff.1 Zqc;simp only [Prod.mk.injEq] at h5;obtain⟨hz,hsize,hby⟩:=h5;have hS:Src Tryz.prog i.size 9 (.string s) s.size (byteCells s) w:=by rw [hsize];exact Src.ofString w Tryz.underlying9 s
 have hbl:=byteCells_length s;have hbc:byteCells s=s.data.toList.map u8v:=rfl;have hlen:(l++s.data.toList).length=l.length+s.size:=by rw [List.length_append];rfl
 by_cases h0:s.size=0
 ·obtain rfl:s=ByteArray.empty:=ByteArray.ext (Array.eq_empty_of_size_eq_zero h0);obtain⟨a,cap,hv,hle,_⟩:=h.slice;refine⟨v,w,?_,by simpa using h,Touch.refl _ _,fun k hk=>Or.inl hk⟩;subst hv;exact run_append_nothing w 73 9 73 5 i Tryz.underlying73 hi a l.length cap hle (.string ByteArray.empty) hS
 ·have grow:∀(base:Option Addr) (cap:Nat),(Builtin.firstCells i.size l.length (.slice base l.length cap)).run Tryz.prog w.drew=.ok (l.map u8v).toArray w.drew->v=.slice base l.length cap->cap<l.length+s.size ->
    ∃v' w',(Builtin.append_ #[73,9] 73 #[v,.string s]).run Tryz.prog w=.ok v' w'/\IsRowB w' v' (l++s.data.toList)/\Touch (fun k=>v.ownBlock=some k) w w' /\
     (∀k,v'.ownBlock=some k->v.ownBlock=some k\/w.heap.size<=k):=by
   intro base cap hold hv hg;subst hv
   have hr:=run_append_grow_src (P:=Tryz.prog) w 73 9 73 5 i (.int .u8 0) Tryz.underlying73 hi hz base l.length cap (l.map u8v) hold (.string s) s.size (byteCells s) hS hg (by omega)
    (growslice_fits hg (by rw [hby];omega))
   refine⟨_,_,hr,?_,(Touch.refl _ _).drew.alloc _,fun k hk=>Or.inr (by simp [Value.ownBlock] at hk;omega)⟩;have hge:=grownCap_ge w (l.length+s.size) cap 5;have hle:=grownCap_le_maxLen w (l.length+s.size) cap 5 (by unfold maxLen;omega)
   have hfr:=Znf (W:=w.drew.alloc (.cells ((l.map u8v++byteCells s).toArray++Builtin.zeroCells (Value.int .u8 0).cells (grownCap w (l.length+s.size) cap 5-(l.length+s.size))) 5)) (g:=w.heap.size) (e:=5) (l++s.data.toList) (grownCap w (l.length+s.size) cap 5) (by rw [hlen];exact hge) hle (by
    rw [hlen,List.map_append,hbc];show(w.heap.push _)[_]?=_;simp [Value.cells])
   rw [hlen] at hfr;exact hfr
  rcases h with⟨rfl,rfl⟩|⟨g,off,cap,rfl,hg,hlc,hcm,hc,ha,hf⟩
  ·exact grow none 0 (run_firstCells_none w.drew i.size 0 0 0) rfl (by simp;omega)
  ·by_cases hroom:l.length+s.size<=cap
   ·have e1:off+l.length*i.size=off+l.length:=by rw [hsize,Nat.mul_one]
    have hr:=run_append_room_src (P:=Tryz.prog) w 73 9 73 5 i Tryz.underlying73 hi g off l.length cap (.string s) s.size (byteCells s) hS hroom
     (fun j hj=>by
      rw [e1,Nat.add_assoc];obtain⟨n,hn⟩:=ha (l.length+j) (by omega);rw [hn];rfl)
     (fun j hj=>by rw [e1,Nat.add_assoc];exact hf (l.length+j) (by omega))
    rw [e1] at hr;have ht:Touch (fun k=>(Value.slice (some ⟨g,off,none⟩) l.length cap).ownBlock=some k) w (w.setCells g (off+l.length) (byteCells s)):=Zgh (S:=fun k=>(Value.slice (some ⟨g,off,none⟩) l.length cap).ownBlock=some k) (show(Value.slice (some ⟨g,off,none⟩) l.length cap).ownBlock=some g from rfl) _ _ _
    have hin:∀j,(hj:j<(byteCells s).length)->(w.setCells g (off+l.length) (byteCells s)).cell? ⟨g,off+l.length+j,none⟩=some (byteCells s)[j]:=fun j hj=>
     World.cell?_setCells_in g (byteCells s) (off+l.length) w (fun j hj=>by
      rw [Nat.add_assoc];obtain⟨n,hn⟩:=ha (l.length+j) (by omega);rw [hn];rfl) j hj
    have hout:∀j,j<l.length\/l.length+s.size<=j->(w.setCells g (off+l.length) (byteCells s)).cell? ⟨g,off+j,none⟩=w.cell? ⟨g,off+j,none⟩:=fun j hj=>
     World.cell?_setCells_out g (byteCells s) (off+l.length) w ⟨g,off+j,none⟩ (fun _ _=>by show off+j<off+l.length\/off+l.length+(byteCells s).length<=off+j;omega)
    refine⟨_,_,hr,Or.inr ⟨g,off,cap,by rw [hlen],Nat.lt_of_lt_of_le hg ht.size,by rw [hlen];exact hroom,hcm,fun j x hx=>?_,fun j hj=>?_,fun j hj=>?_⟩,ht,fun k hk=>Or.inl hk⟩
    ·by_cases hj:j<l.length
     ·rw [List.getElem?_append_left hj] at hx;rw [hout j (Or.inl hj)];exact hc j x hx
     ·rw [List.getElem?_append_right (by omega)] at hx;have hj2:=(List.getElem?_eq_some_iff.1 hx).1;have hj3:j-l.length<(byteCells s).length:=by rw [hbl];exact hj2
      have:=hin (j-l.length) hj3;rw [show off+l.length+(j-l.length)=off+j by omega] at this;rw [this];have hx2:=(List.getElem?_eq_some_iff.1 hx).2;rw [<-hx2];simp [byteCells,u8v]
    ·by_cases hj2:j<l.length\/l.length+s.size<=j
     ·rw [hout j hj2];exact ha j hj
     ·have hj3:j-l.length<(byteCells s).length:=by omega
      have:=hin (j-l.length) hj3;rw [show off+l.length+(j-l.length)=off+j by omega] at this;rw [this];exact⟨(s.data.toList[j-l.length]'(by simpa [hbl] using hj3)).toNat,by simp [byteCells]⟩
    ·rw [World.frozen?_setCells];exact hf j hj
   ·refine grow (some ⟨g,off,none⟩) cap ?_ rfl (by omega);refine run_firstCells_some w.drew i.size l.length ⟨g,off,none⟩ l.length cap (l.map u8v) (by rw [hsize];simp) (fun j u hu=>?_);rw [List.getElem?_map] at hu;obtain⟨x,hx,rfl⟩:=Option.map_eq_some_iff.1 hu;rw [show(⟨g,off,none⟩:Addr).add j=⟨g,off+j,none⟩ from Addr.add_lit _ _ _];exact hc j x hx
theorem Zhp {P:Program} {ops:Array Oper} {rest:List Oper} {o:Oper} {a:Act} {w:World} {Q:Exit->Act->World->Prop} (hgd:o.guard=none) (sl x:Operand) (t u:TypeId)
  (ho:o.op=.call { callee:=.builtin .append,args:=#[sl,x],argTypes:=#[t,u] }) (v y:Value) (hs:a.eval sl=v) (hx:a.eval x=y) (v':Value) (w':World)
  (hr:(Builtin.append_ #[t,u] o.type #[v,y]).run P w=.ok v' w') (h:wpList P ops Q rest (a.put o.dst v') w'):wpList P ops Q (o::rest) a w:=by
 refine wpList_plain hgd fun K hK=>?_
 unfold Oper.wp execOp;simp only [ho,resolve,invoke,builtin,Sem.run_bind,Sem.run_pure,Result.andThen_ok,List.map_toArray,List.map_cons,List.map_nil,hs,hx,hr];exact hK _ _ h
theorem IsRowB.drop {w:World} {a:Option Addr} {cap n:Nat} {l:List UInt8} (h:IsRowB w (.slice a l.length cap) l) (hn:n<=l.length) (hc:cap≠n) :
  IsRowB w (.slice (Option.map (fun x=>x.add n) a) (l.length-n) (cap-n)) (l.drop n)/\(Value.slice (Option.map (fun x=>x.add n) a) (l.length-n) (cap-n)).ownBlock=(Value.slice a l.length cap).ownBlock:=by
 rcases h with⟨hv,rfl⟩|⟨g,off,cap',hv,hg,hlc,hcm,hcc,ha,hf⟩
 ·cases hv
  exfalso
  have:n=0:=by simpa using hn
  omega
 ·simp only [Value.slice.injEq,true_and] at hv;obtain⟨rfl,rfl⟩:=hv;have e:Option.map (fun x:Addr=>x.add n) (some ⟨g,off,none⟩)=some ⟨g,off+n,none⟩:=by rw [Option.map_some,Addr.add_lit]
  rw [e];refine⟨Or.inr ⟨g,off+n,cap-n,by rw [List.length_drop],hg,by rw [List.length_drop];omega,by omega,fun i x hx=>?_,fun i hi=>?_,fun i hi=>?_⟩,rfl⟩
  ·rw [List.getElem?_drop] at hx;rw [Nat.add_assoc];exact hcc (n+i) x hx
  ·rw [Nat.add_assoc];exact ha (n+i) (by omega)
  ·rw [Nat.add_assoc];exact hf (n+i) (by omega)
end
section
open Go.RowKit
theorem Zor (w:World) (m n:Nat):(w.drewN m).drewN n=w.drewN (m+n):=by simp [World.drewN,Nat.add_assoc]
theorem Zas (w:World) (n:Nat):Below w.heap.size w (w.drewN n):=⟨rfl,rfl,rfl,Nat.le_refl _,fun _ _=>rfl⟩
def IsInts (w:World) (v:Value) (zs:List Int):Prop:=∃a cap,v=.slice a zs.length cap/\∀i x,zs[i]?=some x->∃b off,a=some ⟨b,off,none⟩/\w.cell? ⟨b,off+i,none⟩=some (.int .i64 x)
theorem ZaE {w:World} {p:Addr} {v:Value} (h:w.cell? p=some v):p.block<w.heap.size:=by
 by_cases hlt:p.block<w.heap.size
 ·exact hlt
 ·exfalso
  unfold World.cell? at h;rw [Array.getElem?_eq_none (by omega)] at h;cases h
theorem IsInts.below {w w':World} {v:Value} {zs:List Int} (h:IsInts w v zs) (hb:Below w.heap.size w w'):IsInts w' v zs:=by
 obtain⟨a,cap,hv,hc⟩:=h;refine⟨a,cap,hv,fun i x hx=>?_⟩;obtain⟨b,off,ha,hcell⟩:=hc i x hx;exact⟨b,off,ha,(hb.cell (ZaE hcell)).trans hcell⟩
theorem IsInts.nil (w:World):IsInts w (.slice none 0 0) []:=⟨none,0,rfl,fun i x hx=>by simp at hx⟩
def iv64 (x:Int):Value:=.int .i64 x
theorem Zgw {w:World} {g N cap:Nat} {zs:List Int} {rest:List Value} {t:TypeId} (h:w.heap[g]?=some (.cells (zs.map iv64++rest).toArray t (0,0))) (hN:N=zs.length):IsInts w (.slice (some ⟨g,0,none⟩) N cap) zs:=by
 subst hN;refine⟨_,cap,rfl,fun i x hx=>⟨g,0,rfl,?_⟩⟩;have hi:=(List.getElem?_eq_some_iff.1 hx).1;rw [cell_of_row _ _ _ _ _ _ h,Nat.zero_add,List.getElem?_toArray,List.getElem?_append_left (by simpa using hi),List.getElem?_map,hx];rfl
theorem Zr3 (n k:Nat) (zs:List Int) (x:Int) (hk:k<n) (hz:zs.length=k):((zs.map iv64++List.replicate (n-k) (iv64 0)).toArray).setIfInBounds k (.int .i64 x)=((zs++[x]).map iv64++List.replicate (n-(k+1)) (iv64 0)).toArray:=by
 apply Array.toList_inj.1;rw [Array.toList_setIfInBounds];have e:n-k=(n-(k+1))+1:=by omega
 show(zs.map iv64++List.replicate (n-k) (iv64 0)).set k (.int .i64 x)=(zs++[x]).map iv64++List.replicate (n-(k+1)) (iv64 0);rw [List.set_append_right _ _ (by simp [hz]),e,List.replicate_succ];simp [hz,iv64]
theorem Zmw (n:Nat):madeCells #[Value.int .i64 0] n=(([]:List Int).map iv64++List.replicate (n-0) (iv64 0)).toArray:=by
 apply Array.toList_inj.1;rw [toList_madeCells_one];rfl
theorem ZbS (n:Nat) (hn:n<=1000000) (W:World):(Instr.makeSlice 106 (.int .i64 (n:Int)) (.int .i64 (n:Int))).run Tryz.prog W=.ok (.slice (some ⟨W.heap.size,0,none⟩) n n) (W.alloc (.cells (madeCells #[Value.int .i64 0] n) 3)):=by
 obtain⟨i0,hi,hz0,hz1,hz2⟩:=info_parts (show(Tryz.prog.info? 3).map (fun i=>(i.zero,i.size,i.bytes))=some (some (.int .i64 0),1,8) by kernel_rfl);have:=run_make (P:=Tryz.prog) W 106 3 i0 (.int .i64 0) Tryz.underlying106 hi hz0 .i64 .i64 (n:Int) (n:Int) (by omega) (by omega) (by rw [hz2];omega) (by omega);rw [hz1] at this;simpa [Value.cells] using this
theorem IsInts.cell {w:World} {v:Value} {zs:List Int} (h:IsInts w v zs) {k:Nat} (hk:k<zs.length):∃b off cap,v=.slice (some ⟨b,off,none⟩) zs.length cap/\w.cell? ⟨b,off+k,none⟩=some (.int .i64 (zs.getD k 0)):=by
 obtain⟨a,cap,rfl,hc⟩:=h;obtain⟨b,off,rfl,hcell⟩:=hc k zs[k] (List.getElem?_eq_getElem hk);refine⟨b,off,cap,rfl,?_⟩;rw [hcell,List.getD_eq_getElem?_getD,List.getElem?_eq_getElem hk];rfl
theorem ZdS {w:World} {base e n:Nat} {v:Value} {zs:List Int} (h:w.ownsRow base e 1 v n (zs.map iv64)):IsInts w v zs:=by
 have hl:zs.length=n:=by simpa using h.1
 rcases h.2 with⟨rfl,h0⟩|⟨g,cap,cur,rfl,_,hg,_⟩
 ·obtain rfl:zs=[]:=List.eq_nil_of_length_eq_zero (by omega);exact IsInts.nil w
 ·subst hl;refine⟨_,cap,rfl,fun i x hx=>⟨g,0,rfl,?_⟩⟩;have hi:=(List.getElem?_eq_some_iff.1 hx).1;rw [Nat.zero_add,h.cellAt i (by omega)];rw [List.getElem?_map,hx];rfl
theorem Zdn:(Tryz.prog.info? 3).map (fun i=>(i.zero,i.size,i.bytes))=some (some (.int .i64 0),1,8):=by kernel_rfl
def OwnI (w:World) (base:Nat) (v:Value) (zs:List Int):Prop:=w.ownsRow base 3 1 v zs.length (zs.map iv64)
theorem OwnI.ints {w:World} {base:Nat} {v:Value} {zs:List Int} (h:OwnI w base v zs):IsInts w v zs:=ZdS h
theorem OwnI.nil (w:World) (base:Nat):OwnI w base (.slice none 0 0) []:=World.ownsRow_nil _ _ _ _
theorem OwnI.slice {w:World} {base:Nat} {v:Value} {zs:List Int} (h:OwnI w base v zs):∃a cap,v=.slice a zs.length cap:=Zao h
theorem OwnI.drewN {w:World} {base:Nat} {v:Value} {zs:List Int} (h:OwnI w base v zs) (n:Nat):OwnI (w.drewN n) base v zs:=h
theorem OwnI.below {w w':World} {base:Nat} {v:Value} {zs:List Int} (h:OwnI w base v zs) (hb:Below w.heap.size w w'):OwnI w' base v zs:=
 Zag h fun k hk=>hb.block k (World.ownsRow.lt h k hk).2
theorem Zaf {ops:Array Oper} {rest:List Oper} {o:Oper} {a:Act} {Q:Exit->Act->World->Prop} (W:World) (hgd:o.guard=none) (s x:Operand)
  (ho:o.op=.call { callee:=.builtin .append,args:=#[s,x],argTypes:=#[106,106] })
  (base:Nat) (v:Value) (zs:List Int) (c:Int) (hown:OwnI W base v zs) (hs:a.eval s=v) (hx:a.eval x=.slice (some ⟨W.heap.size,0,none⟩) 1 1)
  (hlen:zs.length+1<=17592186044416) (hb:base<=W.heap.size)
  (h:∀v' w',OwnI w' base v' (zs++[c])->Below base W w'->wpList Tryz.prog ops Q rest (a.put o.dst v') w') :
  wpList Tryz.prog ops Q (o::rest) a (W.alloc (.cells #[.int .i64 c] 3)):=by
 obtain⟨i0,hi,hz0,hz1,hz2⟩:=info_parts Zdn;refine wpList_append_own _ hgd s x 106 ho base 3 i0 (.int .i64 0) 1 8 Tryz.underlying106 hi hz0 hz1 hz2 rfl (by decide) v zs.length (zs.map iv64) hs (World.ownsRow.alloc hown _) ⟨W.heap.size,0,none⟩ 1 1 [.int .i64 c] hx rfl ?_ ?_ ?_ ?_ ?_ ?_
 ·exact ZaB _ _ _ _ rfl
 ·intro u hu;simp at hu;subst hu;rfl
 ·unfold maxLen;omega
 ·omega
 ·simp;omega
 ·intro v' w' hown' hg _;refine h v' w' ?_ (Below.grown ((Below.refl base W).alloc hb _) hg (by simp;omega) (fun j hj=>(World.ownsRow.lt hown j hj).1));unfold OwnI;rw [List.length_append,List.map_append];exact hown'
def RowI (w:World) (g:Nat) (zs:List Int):Prop:=w.heap[g]?=some (.cells (zs.map iv64).toArray 3 (0,0))
theorem RowI.lt {w:World} {g:Nat} {zs:List Int} (h:RowI w g zs):g<w.heap.size:=(Array.getElem?_eq_some_iff.1 h).1
theorem RowI.below {w w':World} {g:Nat} {zs:List Int} (h:RowI w g zs) (hb:Below w.heap.size w w'):RowI w' g zs:=(hb.block g h.lt).trans h
theorem RowI.other {w w':World} {g:Nat} {zs:List Int} (h:RowI w g zs) {S:Nat->Prop} (ht:Touch S w w') (hS:¬S g):RowI w' g zs:=(ht.block g h.lt hS).trans h
theorem RowI.ints {w:World} {g:Nat} {zs:List Int} (h:RowI w g zs) (N cap:Nat) (hN:N=zs.length):IsInts w (.slice (some ⟨g,0,none⟩) N cap) zs:=
 Zgw (rest:=[]) (by rw [List.append_nil];exact h) hN
theorem RowI.made (w:World) (n:Nat):RowI (w.alloc (.cells (madeCells #[Value.int .i64 0] n) 3)) w.heap.size (List.replicate n 0):=by
 have:=Zmw n;simp only [List.map_nil,List.nil_append,Nat.sub_zero] at this;unfold RowI;rw [List.map_replicate,<-this];exact heap_alloc_new _ _
theorem RowI.cell {w:World} {g:Nat} {zs:List Int} (h:RowI w g zs) {i:Nat} (hi:i<zs.length):w.cell? ⟨g,i,none⟩=some (.int .i64 (zs.getD i 0))/\w.frozen? ⟨g,i,none⟩=false /\
  ∀x:Int,RowI (w.setCell ⟨g,i,none⟩ (.int .i64 x)) g (zs.set i x):=by
 refine⟨?_,frozen_of_row _ _ _ _ _ h,fun x=>?_⟩
 ·rw [cell_of_row _ _ _ _ _ _ h,List.getElem?_toArray,List.getElem?_map,List.getD_eq_getElem?_getD,List.getElem?_eq_getElem hi];rfl
 ·have:=heap_setCell_same w g i _ _ (.int .i64 x) h;unfold RowI;rw [this];congr 2;apply Array.toList_inj.1;rw [Array.toList_setIfInBounds,List.map_set];rfl
theorem Zmx (l:List Int) (m:Nat) (x:Int):(l++List.replicate (m+1) 0).set l.length x=l++[x]++List.replicate m 0:=by
 rw [List.set_append_right _ _ (Nat.le_refl _),Nat.sub_self,List.replicate_succ];simp
theorem Zai {P:Program} {w:World} {ops:Array Oper} {rest:List Oper} {o:Oper} {a:Act} {Q:Exit->Act->World->Prop} (hgd:o.guard=none) (s x:Operand) (t:TypeId)
  (ho:o.op=.call { callee:=.builtin .append,args:=#[s,x],argTypes:=#[t,t] })
  (base:Nat) (e:TypeId) (i:TypeInfo) (z:Value) (size bytes:Nat) (ht:P.underlying t=some (.slice e)) (hi:P.info? e=some i) (hz:i.zero=some z)
  (hsize:i.size=size) (hby:i.bytes=bytes) (hzs:z.cells.size=size) (hsz:0<size)
  (v:Value) (n:Nat) (xs:List Value) (hown:w.ownsRow base e size v n xs) (hs:a.eval s=v)
  (ad:Addr) (m c:Nat) (news:List Value) (hx:a.eval x=.slice (some ad) m c) (hl:news.length=m*size) (hnews:∀j u,news[j]?=some u->w.cell? (ad.add j)=some u) (h1:∀u∈news,u.oneCell'=true)
  (h63:n+m<=maxLen) (hbytes:(n+m)*bytes<=140737488355328) (hbase:base<=w.heap.size)
  (h:∀v' w',w'.ownsRow base e size v' (n+m) (xs++news)->w.grownBy w' v.ownBlock->(∀k,v'.ownBlock=some k->v.ownBlock=some k\/w.heap.size<=k)->wpList P ops Q rest (a.put o.dst v') w'):wpList P ops Q (o::rest) a w:=
 wpList_plain hgd fun _ hK=>by
  obtain⟨v',w',hr,h2,h3,h4⟩:=Zfs (P:=P) w base t o.type e i z size bytes ht hi hz hsize hby hzs hsz v n xs hown ad m c news hl hnews h1 h63 hbytes hbase;unfold Oper.wp execOp;simp only [ho,resolve,invoke,builtin,Sem.run_bind,Sem.run_pure,Result.andThen_ok,List.map_toArray,List.map_cons,List.map_nil,hs,hx,hr];exact hK _ _ (h v' w' h2 h3 h4)
theorem Zam {w:World} {o:Obj} {k:Nat} (hk:k<w.heap.size):(w.alloc o).heap[k]?=w.heap[k]?:=Below.heap_alloc w o k hk
theorem OwnI.lower {w:World} {base b2:Nat} {v:Value} {zs:List Int} (h:OwnI w base v zs) (hb:b2<=base):OwnI w b2 v zs:=by
 refine⟨h.1,?_⟩;rcases h.2 with h2|⟨g,cap,cur,rfl,hb2,r⟩
 ·exact Or.inl h2
 ·exact Or.inr ⟨g,cap,cur,rfl,Nat.le_trans hb hb2,r⟩
theorem OwnI.same {w w':World} {base:Nat} {v:Value} {zs:List Int} (h:OwnI w base v zs) (he:∀k,v.ownBlock=some k->w'.heap[k]?=w.heap[k]?):OwnI w' base v zs:=Zag h he
theorem OwnI.lt {w:World} {base:Nat} {v:Value} {zs:List Int} (h:OwnI w base v zs):∀k,v.ownBlock=some k->base<=k/\k<w.heap.size:=World.ownsRow.lt h
theorem OwnI.lit (w:World) (base:Nat) (hb:base<=w.heap.size):OwnI (w.alloc (.cells #[] 3)) base (.slice (some ⟨w.heap.size,0,none⟩) 0 0) []:=
 World.ownsRow_lit w #[] 0 hb (by decide) rfl
theorem Zf1 {ops:Array Oper} {rest:List Oper} {o:Oper} {a:Act} {Q:Exit->Act->World->Prop} (W:World) (hgd:o.guard=none) (s x:Operand)
  (ho:o.op=.call { callee:=.builtin .append,args:=#[s,x],argTypes:=#[106,106] })
  (base:Nat) (v:Value) (zs:List Int) (b off m c:Nat) (ys:List Int) (hown:OwnI W base v zs) (hsrc:IsInts W (.slice (some ⟨b,off,none⟩) m c) ys) (hs:a.eval s=v) (hx:a.eval x=.slice (some ⟨b,off,none⟩) m c)
  (hlen:zs.length+ys.length<=17592186044416) (hb:base<=W.heap.size)
  (h:∀v' w',OwnI w' base v' (zs++ys)->Below base W w'->wpList Tryz.prog ops Q rest (a.put o.dst v') w') :
  wpList Tryz.prog ops Q (o::rest) a W:=by
 obtain⟨i0,hi,hz0,hz1,hz2⟩:=info_parts Zdn;obtain⟨a1,cap1,he,hc⟩:=hsrc;simp only [Value.slice.injEq] at he;obtain⟨rfl,rfl,rfl⟩:=he;refine wpList_append_own _ hgd s x 106 ho base 3 i0 (.int .i64 0) 1 8 Tryz.underlying106 hi hz0 hz1 hz2 rfl (by decide) v zs.length (zs.map iv64) hs hown ⟨b,off,none⟩ ys.length c (ys.map iv64) hx (by simp) ?_ ?_ ?_ ?_ ?_ ?_
 ·intro j u hu;rw [List.getElem?_map] at hu;cases hj:ys[j]? with
  | none=>rw [hj] at hu;cases hu
  | some y=>
   rw [hj] at hu;cases hu;obtain⟨b',off',e,hcell⟩:=hc j y hj;simp only [Option.some.injEq,Addr.mk.injEq,and_true] at e;obtain⟨rfl,rfl⟩:=e;rw [Addr.add_lit];exact hcell
 ·intro u hu;obtain⟨y,_,rfl⟩:=List.mem_map.1 hu;rfl
 ·unfold maxLen;omega
 ·omega
 ·exact hb
 ·intro v' w' hown' hgr _;refine h v' w' ?_ (Below.grown (Below.refl base W) hgr hb (fun j hj=>(World.ownsRow.lt hown j hj).1));unfold OwnI;rw [List.length_append,List.map_append];exact hown'
theorem IsInts.alloc {w:World} {v:Value} {zs:List Int} (h:IsInts w v zs) (o:Obj):IsInts (w.alloc o) v zs:=h.below ((Below.refl _ _).alloc (Nat.le_refl _) _)
theorem IsInts.part {w:World} {b off m c:Nat} {zs:List Int} (h:IsInts w (.slice (some ⟨b,off,none⟩) m c) zs) (i n c2:Nat) (hn:n<=m-i):IsInts w (.slice (some ⟨b,off+i,none⟩) n c2) ((zs.drop i).take n):=by
 obtain⟨a,cap,he,hc⟩:=h;simp only [Value.slice.injEq] at he;obtain⟨rfl,rfl,rfl⟩:=he;refine⟨_,c2,by rw [List.length_take,List.length_drop,Nat.min_eq_left hn],fun j x hx=>⟨b,off+i,rfl,?_⟩⟩;have hj:=(List.getElem?_eq_some_iff.1 hx).1;rw [List.getElem?_take,List.getElem?_drop] at hx;split at hx
 ·obtain⟨b',off',e,hcell⟩:=hc (i+j) x hx;simp only [Option.some.injEq,Addr.mk.injEq,and_true] at e;obtain⟨rfl,rfl⟩:=e;rw [Nat.add_assoc];exact hcell
 ·cases hx
def upd (F:Nat->Value) (i:Nat) (v:Value):Nat->Value:=fun k=>if k=i then v else F k
theorem ZaO (F:Nat->Value) (i:Nat) (v:Value):upd F i v i=v:=if_pos rfl
theorem Zad (F:Nat->Value) {i k:Nat} (v:Value) (h:k≠i):upd F i v k=F k:=if_neg h
def cellsF (M:Nat) (F:Nat->Value):Array Value:=((List.range M).map F).toArray
theorem Zc6 (M:Nat) (F:Nat->Value) {i:Nat} (hi:i<M):(cellsF M F)[i]?=some (F i):=by
 unfold cellsF;rw [List.getElem?_toArray,List.getElem?_map,List.getElem?_range hi];rfl
theorem ZdG (M:Nat) (F:Nat->Value) (i:Nat) (x:Value):(cellsF M F).setIfInBounds i x=cellsF M (upd F i x):=by
 apply Array.toList_inj.1;rw [Array.toList_setIfInBounds];show((List.range M).map F).set i x=(List.range M).map (fun k=>if k=i then x else F k);apply List.ext_getElem
 ·simp
 ·intro j h1 h2;rw [List.getElem_set];by_cases e:i=j
  ·subst e;simp
  ·rw [if_neg e];have:¬j=i:=fun h=>e h.symm
   simp [this]
theorem Zci {P:Program} {ops:Array Oper} {rest:List Oper} {o:Oper} {a:Act} {w:World} {Q:Exit->Act->World->Prop} (hg:o.guard=none) (t:TypeId) (n:Nat) (y:Operand) (ho:o.op=.build t #[(n,y)]) (v:Value) (hy:a.eval y=v) (Z:Array Value)
  (hb:P.built t [(n,v)]=some Z) (h:wpList P ops Q rest (a.put o.dst (.agg Z)) w):wpList P ops Q (o::rest) a w:=by
 subst hy;refine wpList_build hg t #[(n,y)] ho ?_ ?_
 ·simp [hb]
 ·simpa [hb] using h
theorem Zig {P:Program} {ops:Array Oper} {rest:List Oper} {o:Oper} {a:Act} {w:World} {Q:Exit->Act->World->Prop} (hg:o.guard=none) (t:TypeId) (ho:o.op=.build t #[]) (Z:Array Value)
  (hb:P.built t []=some Z) (h:wpList P ops Q rest (a.put o.dst (.agg Z)) w):wpList P ops Q (o::rest) a w:=by
 refine wpList_build hg t #[] ho ?_ ?_
 ·simp [hb]
 ·simpa [hb] using h
theorem Za0 {P:Program} {ops:Array Oper} {rest:List Oper} {o:Oper} {a:Act} {w:World} {Q:Exit->Act->World->Prop} (hg:o.guard=none) (t:TypeId) (n m k:Nat) (y z x:Operand) (ho:o.op=.build t #[(n,y),(m,z),(k,x)]) (v u r:Value) (hy:a.eval y=v) (hz:a.eval z=u) (hx:a.eval x=r) (Z:Array Value)
  (hb:P.built t [(n,v),(m,u),(k,r)]=some Z) (h:wpList P ops Q rest (a.put o.dst (.agg Z)) w):wpList P ops Q (o::rest) a w:=by
 subst hy hz hx;refine wpList_build hg t #[(n,y),(m,z),(k,x)] ho ?_ ?_
 ·simp [hb]
 ·simpa [hb] using h
end
section
open Go.RowKit RleM
def IsPcs (w:World) (B:Nat) (v:Value) (ps:List Pc):Prop:=
 ∃(a:Option Addr) (cap:Nat),v=.slice a ps.length cap/\∀k p,ps[k]?=some p->∃g,a=some ⟨g,0,none⟩/\B<=g/\g<w.heap.size/\w.cell? ⟨g,k*2,none⟩=some (.int .u8 (p.1.toNat:Int))/\w.cell? ⟨g,k*2+1,none⟩=some (.int .i64 (p.2:Int))
theorem IsPcs.later {w w':World} {B:Nat} {v:Value} {ps:List Pc} (h:IsPcs w B v ps) (hb:Below w.heap.size w w'):IsPcs w' B v ps:=by
 obtain⟨a,cap,rfl,hc⟩:=h;refine⟨a,cap,rfl,fun k p hk=>?_⟩;obtain⟨g,h1,h2,h3,h4,h5⟩:=hc k p hk;have:=hb.size;exact⟨g,h1,h2,by omega,(hb.cell (p:=⟨g,k*2,none⟩) h3).trans h4,(hb.cell (p:=⟨g,k*2+1,none⟩) h3).trans h5⟩
theorem Zbm:∀{ps:List Pc} {p:Pc},RleM.Good ps->p∈ps->1<=p.2/\p.2<=255
 | q::ps,p,h,hm=>by
  rcases List.mem_cons.1 hm with rfl|hm
  ·exact⟨h.1,h.2.1⟩
  ·exact Zbm h.2.2.2 hm
 | [],p,_,hm=>by cases hm
end
section
open Go.RowKit RleM SplM
theorem ZgW (room:Nat) (hr:5<=room) (QS:List Pc):(flat (runS room QS).2).length<=(flat QS).length:=by
 have h:=(rightS room hr QS).all;have e:=congrArg (fun l=>(flat l).length) h;simp only [ZaH,List.length_append] at e;omega
theorem ZjV:∀bs:List (List Pc),(∀b∈bs,b≠[])->bs.length<=bs.flatten.length
 | [],_=>by simp
 | y::ys,hh=>by
  have h1:=ZjV ys (fun b hb=>hh b (List.mem_cons_of_mem _ hb));have h2:=hh y (List.mem_cons_self ..)
  have h3:1<=y.length:=by
   cases y with
   | nil=>exact absurd rfl h2
   | cons a r=>simp
  simp only [List.flatten_cons,List.length_append,List.length_cons];omega
theorem Zf2:∀ps:List Pc,(∀p∈ps,1<=p.2)->ps.length<=(flat ps).length
 | [],_=>by simp
 | y::ys,hh=>by
  have h1:=Zf2 ys (fun b hb=>hh b (List.mem_cons_of_mem _ hb));have h2:=hh y (List.mem_cons_self ..);rw [ZaR,List.length_append,List.length_replicate,List.length_cons];omega
theorem Zih (room:Nat) (h5:5<=room) {QS:List Pc} {N:Nat} (hg:RleM.Good QS) (hs:(flat QS).length<=N):(runS room QS).1.length<=N:=by
 have hR:=rightS room h5 QS;have e1:=ZjV _ (fun b hb=>(hR.full b hb).1);have e2:=congrArg List.length hR.all;rw [List.length_append] at e2;have e3:=Zf2 QS (fun p hp=>(Zbm hg hp).1);omega
end
section
namespace Opn
open Go.ChangeShapes Go.WideShapes Go.ChangeAt Go.RowKit Go.Deep
inductive Kd where
 | int (k:IntKind)
 | bool
 | str
 | sl (e:TypeId)
section
variable (P : Program)
end
section
variable {H : Type} {enc : TypeId × Value -> H} {P : Program} {w : World} {spare : Nat -> Bool}
def CellOk (enc:TypeId×Value->H) (P:Program) (w:World) (spare:Nat->Bool):Kd->Value->Prop
 | .int k,v=>∃n,v=.int k n/\(Lit.int k n).wf=true
 | .bool,v=>∃b,v=.bool b
 | .str,v=>∃s:ByteArray,v=.string s/\s.size<=maxLen
 | .sl e,v=>v=.slice none 0 0\/∃(a:Addr) (len cap n:Nat),v=.slice (some a) len cap/\len<=cap/\cap<=maxLen /\
   ∀i,i<len->∃cs x,w.cells? 0 (a.add (i*P.cellsOf e)) (P.cellsOf e)=some cs/\DataW.trod enc P w 0 spare true n e cs=some x
def AllOk (enc:TypeId×Value->H) (P:Program) (w:World) (spare:Nat->Bool):List Kd->List Value->Prop
 | [],[]=>True
 | k::ks,v::vs=>CellOk enc P w spare k v/\AllOk enc P w spare ks vs
 | _,_=>False
theorem AllOk.append:∀{ks ls:List Kd} {vs us:List Value},AllOk enc P w spare ks vs->AllOk enc P w spare ls us->AllOk enc P w spare (ks++ls) (vs++us)
 | [],_,[],_,_,h=>h
 | _::_,_,_::_,_,h,k=>⟨h.1,AllOk.append h.2 k⟩
 | [],_,_::_,_,h,_=>h.elim
 | _::_,_,[],_,h,_=>h.elim
theorem AllOk.length:∀{ks:List Kd} {vs:List Value},AllOk enc P w spare ks vs->vs.length=ks.length
 | [],[],_=>rfl
 | _::_,_::_,h=>by simpa using AllOk.length h.2
 | [],_::_,h=>h.elim
 | _::_,[],h=>h.elim
end
end Opn
end
section
open Go.RowKit BitM
def Wrote (w:World) (g:Nat) (v:Value) (tk:Nat) (q:List Bool) (w':World):Prop:=
 ∃v1,IsWriter w' g v1 q tk/\Touch (foot g v) w w'/\(∀k,v1.ownBlock=some k->v.ownBlock=some k\/w.heap.size<=k)
theorem Wrote.start {w:World} {g:Nat} {v:Value} {tk:Nat} {q:List Bool} (h:IsWriter w g v q tk):Wrote w g v tk q w:=⟨v,h,Touch.refl _ _,fun k hk=>Or.inl hk⟩
theorem Wrote.put {w w':World} {g:Nat} {v:Value} {tk:Nat} {q:List Bool} (h:Wrote w g v tk q w') (X n:Nat) (hn:n<=32) (hX:X<2^n) (hq:q.length<=1099511627776) :
  Calls Tryz.prog 35 #[.pointer (some ⟨g,0,none⟩),.int .u32 (X:Int),.int .i64 (n:Int)] w' fun e w2=>e=.returned (.int .i64 0)/\Wrote w g v tk (q++field X n) w2:=by
 obtain⟨v1,h1,h2,h3⟩:=h;refine(Zgv g v1 q tk X n w' h1 hn hX hq).mono ?_;rintro e w2 ⟨rfl,v2,k1,k2,k3⟩;refine⟨rfl,v2,k1,h2.trans k2 (fun j hj=>?_),fun k hk=>?_⟩
 ·rcases hj with hj|hj
  ·exact Or.inl (Or.inl hj)
  ·rcases h3 j hj with h|h
   ·exact Or.inl (Or.inr h)
   ·exact Or.inr h
 ·rcases k3 k hk with h|h
  ·exact h3 k h
  ·exact Or.inr (Nat.le_trans h2.size h)
theorem Wrote.touch {w w':World} {g:Nat} {v:Value} {tk:Nat} {q:List Bool} (h:Wrote w g v tk q w'):Touch (foot g v) w w':=by
 obtain⟨v1,h1,h2,h3⟩:=h;exact h2
theorem IsInts.other {w w':World} {v:Value} {zs:List Int} (h:IsInts w v zs) {S:Nat->Prop} (ht:Touch S w w') (hS:∀k,v.ownBlock=some k->¬S k):IsInts w' v zs:=by
 obtain⟨a,cap,rfl,hc⟩:=h;refine⟨a,cap,rfl,fun i x hx=>?_⟩;obtain⟨b,off,ha,hb⟩:=hc i x hx;refine⟨b,off,ha,?_⟩;rw [World.cell?_of_block (w:=w) (a:=⟨b,off+i,none⟩) (ht.block b (ZaE hb) (hS b (by rw [ha];rfl)))];exact hb
theorem Zks (Q:List Bool):∃n,(Q++padding Q).length=8*n/\8*n<=Q.length+7:=by
 have h:(Q++padding Q).length=Q.length+(8-Q.length % 8) % 8:=by
  rw [List.length_append];unfold padding;rw [Zaa]
 exact⟨(Q.length+(8-Q.length % 8) % 8) / 8,by omega,by omega⟩
end
section
namespace PkM
open Go.RowKit BitM
def tch (o:List Nat) (i:Nat):List Nat:=(o.drop i).take 1++o.take i++o.drop (i+1)
theorem ZhZ (o:List Nat) (i:Nat) (h:i<o.length):tch o i=o[i]::(o.take i++o.drop (i+1)):=by
 unfold tch;rw [List.drop_eq_getElem_cons h,List.append_assoc];rfl
theorem Zhr (o:List Nat) (i:Nat) (h:i<o.length):(tch o i).length=o.length:=by
 rw [ZhZ o i h];simp;omega
def enc:List Nat->List Nat->List Bool
 | _,[]=>[]
 | o,p::t=>List.replicate (o.idxOf p) true++false::enc (tch o (o.idxOf p)) t
def ord:List Nat->List Nat->List Nat
 | o,[]=>o
 | o,p::t=>ord (tch o (o.idxOf p)) t
theorem ZoA:∀(o l m:List Nat),enc o (l++m)=enc o l++enc (ord o l) m
 | o,[],m=>rfl
 | o,p::t,m=>by
  rw [List.cons_append,enc,enc,ord,ZoA,List.append_assoc];rfl
theorem ZoB:∀(o l m:List Nat),ord o (l++m)=ord (ord o l) m
 | o,[],m=>rfl
 | o,p::t,m=>by rw [List.cons_append,ord,ord,ZoB]
def Ord (t:Nat) (o:List Nat):Prop:=o.length=6/\∀x,x<t↔x∈o.take t
theorem Ord.start {t:Nat} (h:t<=6):Ord t [0,1,2,3,4,5]:=by
 refine⟨rfl,fun x=>?_⟩;rcases(by omega:t=0\/t=1\/t=2\/t=3\/t=4\/t=5\/t=6) with rfl|rfl|rfl|rfl|rfl|rfl|rfl<;>simp<;>omega
theorem Ord.place {t:Nat} {o:List Nat} (h:Ord t o) (ht:t<=6) {p:Nat} (hp:p<t):o.idxOf p<t/\o[o.idxOf p]?=some p:=by
 have hm:=(h.2 p).1 hp
 have h1:o.idxOf p=(o.take t).idxOf p:=by
  conv=>lhs;rw [<-List.take_append_drop t o]
  rw [List.idxOf_append,if_pos hm]
 have h2:(o.take t).idxOf p<(o.take t).length:=List.idxOf_lt_length_of_mem hm;have h3:(o.take t).length=t:=by rw [List.length_take,h.1];omega
 refine⟨by omega,?_⟩;have h4:p∈o:=List.mem_of_mem_take hm;rw [List.getElem?_eq_getElem (List.idxOf_lt_length_of_mem h4),List.getElem_idxOf]
theorem Ord.tch {t:Nat} {o:List Nat} (h:Ord t o) (ht:t<=6) {i:Nat} (hi:i<t):Ord t (tch o i):=by
 have hl:=h.1;have hio:i<o.length:=by omega
 refine⟨by rw [Zhr o i hio,hl],fun x=>?_⟩;rw [h.2 x,ZhZ o i hio];obtain⟨s,rfl⟩:∃s,t=i+1+s:=⟨t-(i+1),by omega⟩
 have e1:o.take (i+1+s)=o.take i++o[i]::(o.drop (i+1)).take s:=by
  rw [List.take_add,List.take_succ_eq_append_getElem hio,List.append_assoc];rfl
 have e2:(o[i]::(o.take i++o.drop (i+1))).take (i+1+s)=o[i]::(o.take i++(o.drop (i+1)).take s):=by
  rw [show i+1+s=(i+s)+1 by omega,List.take_succ_cons,List.take_append,List.length_take,Nat.min_eq_left (by omega),List.take_of_length_le (by rw [List.length_take];omega),show i+s-i=s by omega]
 rw [e1,e2];simp only [List.mem_append,List.mem_cons];constructor
 ·rintro(h|h|h)
  ·exact Or.inr (Or.inl h)
  ·exact Or.inl h
  ·exact Or.inr (Or.inr h)
 ·rintro(h|h|h)
  ·exact Or.inr (Or.inl h)
  ·exact Or.inl h
  ·exact Or.inr (Or.inr h)
def allB (ps:List Nat) (t:Nat):List Bool:=field t 3++field ps.length 15++enc [0,1,2,3,4,5] ps
def May (ps:List Nat) (t:Nat):Prop:=2<=t/\t<=6/\1<=ps.length/\ps.length<=32767/\∀p∈ps,p<t
theorem allB_length (ps:List Nat) (t:Nat):(allB ps t).length=18+(enc [0,1,2,3,4,5] ps).length:=by
 unfold allB;rw [List.length_append,List.length_append,Zaa,Zaa]
end PkM
end
section
namespace UsedM
open Go.RowKit BitM
def row (S:Nat->Bool) (i:Nat):List Bool:=(List.range 16).map fun k=>S (16*i+k)
theorem ZdH (S:Nat->Bool) (i:Nat):(row S i).length=16:=by simp [row]
theorem row_get (S:Nat->Bool) (i j:Nat) (h:j<16):(row S i)[j]'(by rw [ZdH];exact h)=S (16*i+j):=by simp [row]
def fld (S:Nat->Bool) (i:Nat):Nat:=num (row S i)
theorem Zjh (S:Nat->Bool) (i:Nat):fld S i<65536:=by
 have:=Zbg (row S i);rw [ZdH] at this;exact this
theorem Zlx (l:List Bool) (j:Nat) (h:j<l.length):(num l).testBit (l.length-1-j)=l[j]:=by
 have hm:=Zlq l j 1 (by omega)
 have e1:(l.drop j).take 1=[l[j]]:=by
  rw [List.drop_eq_getElem_cons h];rfl
 rw [e1,show l.length-j-1=l.length-1-j by omega] at hm;have e2:num [l[j]]=bn l[j]:=Nat.zero_add _;rw [e2] at hm;rw [Nat.testBit_eq_decide_div_mod_eq,show num l / 2^(l.length-1-j) % 2=bn l[j] from hm.symm];cases l[j]<;>rfl
theorem ZjY (S:Nat->Bool) (i j:Nat) (h:j<16):(fld S i).testBit (15-j)=S (16*i+j):=by
 have:=Zlx (row S i) j (by rw [ZdH];exact h);rw [row_get S i j h] at this;simp only [ZdH] at this;exact this
theorem ZqC (S:Nat->Bool) (i k:Nat) (h:16<=k):(fld S i).testBit k=false:=by
 apply Nat.testBit_lt_two_pow;exact Nat.lt_of_lt_of_le (Zjh S i) (Nat.pow_le_pow_right (by omega) h:2^16<=2^k)
theorem ZoC (S:Nat->Bool) (i X:Nat) (h:X<65536) (hb:∀j,j<16->X.testBit (15-j)=S (16*i+j)):X=fld S i:=by
 apply Nat.eq_of_testBit_eq;intro k;by_cases hk:k<16
 ·have e:k=15-(15-k):=by omega
  rw [e,hb (15-k) (by omega),ZjY S i (15-k) (by omega)]
 ·rw [ZqC S i k (by omega)];apply Nat.testBit_lt_two_pow;exact Nat.lt_of_lt_of_le h (Nat.pow_le_pow_right (by omega) (by omega):2^16<=2^k)
def put (S:Nat->Bool) (b:Nat):Nat->Bool:=fun x=>S x || x==b
theorem ZhJ (S:Nat->Bool) (i j:Nat) (h:j<16):fld S i ||| 2^(15-j)=fld (put S (16*i+j)) i:=by
 apply ZoC
 ·have h1:=Zjh S i;have h2:2^(15-j)<2^16:=Nat.pow_lt_pow_right (by omega) (by omega);exact Nat.or_lt_two_pow (n:=16) h1 h2
 ·intro j' hj';rw [Nat.testBit_or,ZjY S i j' hj',Nat.testBit_two_pow];unfold put;congr 1;by_cases e:j=j'
  ·subst e;simp
  ·have h1:¬(15-j=15-j'):=by omega
   have h2:¬(j'=j):=fun h=>e h.symm
   simp [h1,h2]
theorem ZoD (S T:Nat->Bool) (i:Nat) (h:∀j,j<16->S (16*i+j)=T (16*i+j)):fld S i=fld T i:=by
 unfold fld row;congr 1;apply List.map_congr_left;intro k hk;exact h k (List.mem_range.1 hk)
theorem ZjZ (S:Nat->Bool) (i b:Nat) (h:b / 16≠i):fld (put S b) i=fld S i:=by
 apply ZoD;intro j hj;unfold put;have:¬(16*i+j=b):=by omega
 simp [this]
theorem Zr6 (S:Nat->Bool) (i j:Nat) (h:j<16):fld S i &&& 2^(15-j)=if S (16*i+j) then 2^(15-j) else 0:=by
 apply Nat.eq_of_testBit_eq;intro k;rw [Nat.testBit_and,Nat.testBit_two_pow];by_cases e:15-j=k
 ·subst e;rw [ZjY S i j h];cases S (16*i+j)<;>simp
 ·cases S (16*i+j)<;>simp [e]
def Zbz (S:Nat->Bool) (i:Nat):Bool:=(row S i).any id
theorem Zg0 (S:Nat->Bool) (i:Nat):fld S i=0↔Zbz S i=false:=by
 constructor
 ·intro h;unfold Zbz row;rw [List.any_eq_false];intro x hx;obtain⟨k,hk,rfl⟩:=List.mem_map.1 hx;rw [<-ZjY S i k (List.mem_range.1 hk),h];simp
 ·intro h
  have:(0:Nat)=fld S i:=by
   apply ZoC
   ·decide
   ·intro j hj;unfold Zbz row at h;rw [List.any_eq_false] at h;have:=h (S (16*i+j)) (List.mem_map.2 ⟨j,List.mem_range.2 hj,rfl⟩);simp at this;simp [this]
  exact this.symm
theorem Zkv (i:Nat):fld (fun _=>false) i=0:=by
 rw [Zg0];unfold Zbz row;rw [List.any_eq_false];intro x hx;obtain⟨k,_,rfl⟩:=List.mem_map.1 hx;simp
def syms (S:Nat->Bool) (n:Nat):List UInt8:=((List.range n).filter S).map UInt8.ofNat
theorem ZoE (S:Nat->Bool):syms S 0=[]:=rfl
theorem ZdT (S:Nat->Bool) (n:Nat):syms S (n+1)=if S n then syms S n++[UInt8.ofNat n] else syms S n:=by
 unfold syms;rw [List.range_succ,List.filter_append,List.map_append];cases h:S n<;>simp [h]
theorem Zgx (S:Nat->Bool) (n:Nat):(syms S n).length<=n:=by
 unfold syms;rw [List.length_map];exact Nat.le_trans (List.length_filter_le _ _) (by simp)
theorem Znj (S T:Nat->Bool) (n:Nat) (h:∀b,b<n->S b=T b):syms S n=syms T n:=by
 unfold syms;congr 1;apply List.filter_congr;intro x hx;exact h x (List.mem_range.1 hx)
theorem Zh0 (S:Nat->Bool) (n:Nat) (hn:n<=256) (x:UInt8):x∈syms S n↔x.toNat<n/\S x.toNat=true:=by
 unfold syms;rw [List.mem_map];constructor
 ·rintro⟨k,hk,rfl⟩;rw [List.mem_filter,List.mem_range] at hk;rw [UInt8.toNat_ofNat',Nat.mod_eq_of_lt (by omega)];exact hk
 ·intro ⟨h1,h2⟩;exact⟨x.toNat,List.mem_filter.2 ⟨List.mem_range.2 h1,h2⟩,by simp⟩
def has (l:List UInt8) (n:Nat):Bool:=l.any fun c=>c.toNat==n
theorem Zfv (l:List UInt8) (x:UInt8):has l x.toNat=true↔x∈l:=by
 unfold has;rw [List.any_eq_true];constructor
 ·rintro⟨c,hc,he⟩;have:c=x:=UInt8.toNat_inj.1 (by simpa using he);exact this▸hc
 ·intro h;exact⟨x,h,by simp⟩
theorem ZoF (l:List UInt8) (n:Nat) (h:256<=n):has l n=false:=by
 unfold has;rw [List.any_eq_false];intro c _;have:=c.toNat_lt;simp only [beq_iff_eq];omega
theorem Zg1 (l:List UInt8) (c:UInt8):has (l++[c])=put (has l) c.toNat:=by
 funext x
 unfold has put;rw [List.any_append];simp only [List.any_cons,List.any_nil,Bool.or_false];congr 1;rw [Bool.eq_iff_iff];simp only [beq_iff_eq];omega
theorem ZmA (S:Nat->Bool) (n:Nat) (h:n<256):has (syms S 256) n=S n:=by
 have e:(UInt8.ofNat n).toNat=n:=by rw [UInt8.toNat_ofNat',Nat.mod_eq_of_lt (by omega)]
 rw [Bool.eq_iff_iff];have h1:=Zfv (syms S 256) (UInt8.ofNat n);rw [e] at h1;rw [h1,Zh0 S 256 (by omega),e];exact⟨fun h=>h.2,fun h'=>⟨h,h'⟩⟩
def Rise (l:List UInt8):Prop:=∀(i:Nat) (x y:UInt8),l[i]?=some x->l[i+1]?=some y->x.toNat<y.toNat
def Sorted (l:List UInt8):Prop:=l.Pairwise fun x y=>x.toNat<y.toNat
theorem Rise.lt {l:List UInt8} (h:Rise l):∀(d i:Nat) (x y:UInt8),l[i]?=some x->l[i+1+d]?=some y->x.toNat<y.toNat
 | 0,i,x,y,hx,hy=>h i x y hx hy
 | d+1,i,x,y,hx,hy=>by
  have hlt:=(List.getElem?_eq_some_iff.1 hy).1;have hz:l[i+1+d]?=some (l[i+1+d]'(by omega)):=List.getElem?_eq_getElem _;have h1:=Rise.lt h d i x _ hx hz;have h2:=h (i+1+d) _ y hz (by rwa [show i+1+d+1=i+1+(d+1) by omega]);omega
theorem Rise.sorted {l:List UInt8} (h:Rise l):Sorted l:=by
 unfold Sorted;rw [List.pairwise_iff_getElem];intro i j hi hj hij;exact h.lt (j-i-1) i _ _ (List.getElem?_eq_getElem hi) (by rw [show i+1+(j-i-1)=j by omega];exact List.getElem?_eq_getElem hj)
theorem Sorted.rise {l:List UInt8} (h:Sorted l):Rise l:=by
 intro i x y hx hy;unfold Sorted at h;rw [List.pairwise_iff_getElem] at h;obtain⟨hi,rfl⟩:=List.getElem?_eq_some_iff.1 hx;obtain⟨hj,rfl⟩:=List.getElem?_eq_some_iff.1 hy;exact h i (i+1) hi hj (by omega)
theorem Zji:∀(l m:List UInt8),Sorted l->Sorted m->(∀x,x∈l↔x∈m)->l=m
 | [],[],_,_,_=>rfl
 | [],b::m,_,_,h=>absurd ((h b).2 (by simp)) (by simp)
 | a::l,[],_,_,h=>absurd ((h a).1 (by simp)) (by simp)
 | a::l,b::m,hl,hm,h=>by
  unfold Sorted at hl hm;rw [List.pairwise_cons] at hl hm
  have hab:a=b:=by
   have h1:=(h a).1 (by simp);have h2:=(h b).2 (by simp);rcases List.mem_cons.1 h1 with e|e
   ·exact e
   ·rcases List.mem_cons.1 h2 with f|f
    ·exact f.symm
    ·have:=hl.1 b f;have:=hm.1 a e;omega
  subst hab
  have:l=m:=Zji l m hl.2 hm.2 (fun x=>by
   constructor
   ·intro hx;rcases List.mem_cons.1 ((h x).1 (List.mem_cons_of_mem _ hx)) with e|e
    ·subst e;have:=hl.1 x hx;omega
    ·exact e
   ·intro hx;rcases List.mem_cons.1 ((h x).2 (List.mem_cons_of_mem _ hx)) with e|e
    ·subst e;have:=hm.1 x hx;omega
    ·exact e)
  rw [this]
theorem Zgy (S:Nat->Bool):∀n,n<=256->Sorted (syms S n)
 | 0,_=>List.Pairwise.nil
 | n+1,h=>by
  rw [ZdT];have ih:=Zgy S n (by omega);cases S n
  ·exact ih
  ·simp only [if_true];unfold Sorted;rw [List.pairwise_append];refine⟨ih,by simp,fun x hx y hy=>?_⟩;have h1:=((Zh0 S n (by omega) x).1 hx).1;rw [List.mem_singleton] at hy;subst hy;rw [UInt8.toNat_ofNat',Nat.mod_eq_of_lt (by omega)];exact h1
theorem Zfw (S:Nat->Bool):Rise (syms S 256):=(Zgy S 256 (Nat.le_refl _)).rise
theorem Zg2 {l:List UInt8} (h:Rise l):syms (has l) 256=l:=
 Zji _ _ (Zgy _ 256 (Nat.le_refl _)) h.sorted (fun x=>by
  rw [Zh0 _ _ (Nat.le_refl _),Zfv];have:=x.toNat_lt;exact⟨fun h=>h.2,fun h=>⟨by omega,h⟩⟩)
def IsSyms (l:List UInt8):Prop:=Rise l/\l≠[]
theorem Zfx {l:List UInt8} (h:IsSyms l):l.length<=256:=by
 have:=Zgx (has l) 256
 rwa [Zg2 h.1] at this
theorem ZqD (S:Nat->Bool):syms S 256=[]↔∀b,b<256->S b=false:=by
 constructor
 ·intro h b hb;have:=ZmA S b hb;rw [h] at this;exact this.symm
 ·intro h;rw [Znj S (fun _=>false) 256 h];unfold syms;simp
theorem Zly (S:Nat->Bool) (h:∃b,b<256/\S b=true):IsSyms (syms S 256):=
 ⟨Zfw S,fun e=>by
  obtain⟨b,hb,hs⟩:=h;rw [(ZqD S).1 e b hb] at hs;simp at hs⟩
def which (S:Nat->Bool):List Bool:=(List.range 16).map (Zbz S)
theorem Zer (S:Nat->Bool):(which S).length=16:=by simp [which]
def rows (S:Nat->Bool) (k:Nat):List Bool:=((List.range k).filter (Zbz S)).flatMap (row S)
theorem ZoG (S:Nat->Bool):rows S 0=[]:=rfl
theorem ZtH (S:Nat->Bool) (k:Nat):rows S (k+1)=if Zbz S k then rows S k++row S k else rows S k:=by
 unfold rows;rw [List.range_succ,List.filter_append,List.flatMap_append];cases h:Zbz S k<;>simp [h]
def cnt (S:Nat->Bool) (k:Nat):Nat:=((List.range k).filter (Zbz S)).length
theorem ZqE (S:Nat->Bool) (k:Nat):cnt S (k+1)=if Zbz S k then cnt S k+1 else cnt S k:=by
 unfold cnt;rw [List.range_succ,List.filter_append,List.length_append];cases h:Zbz S k<;>simp [h]
theorem Zfp (S:Nat->Bool) (k:Nat):cnt S k<=k:=by
 unfold cnt;exact Nat.le_trans (List.length_filter_le _ _) (by simp)
theorem Zcj (S:Nat->Bool):∀k,(rows S k).length=16*cnt S k
 | 0=>rfl
 | k+1=>by
  rw [ZtH,ZqE];have ih:=Zcj S k;cases Zbz S k
  ·exact ih
  ·simp only [if_true,List.length_append,ih,ZdH];omega
def ubits (S:Nat->Bool):List Bool:=which S++rows S 16
theorem ZbT (S:Nat->Bool):(ubits S).length=16+16*cnt S 16:=by
 unfold ubits;rw [List.length_append,Zer,Zcj]
def upto (S:Nat->Bool) (k:Nat):Nat->Bool:=fun i=>decide (i<k) && Zbz S i
theorem ZoH (S:Nat->Bool):upto S 0=fun _=>false:=by funext i;simp [upto]
theorem ZoI (S:Nat->Bool) (k:Nat):upto S (k+1)=if Zbz S k then put (upto S k) k else upto S k:=by
 funext i
 unfold upto put;by_cases e:i=k
 ·subst e;cases h:Zbz S i<;>simp [h]
 ·have h1:(i<k+1)↔(i<k):=by omega
  cases h:Zbz S k<;>simp [h1,e]
theorem ZqF (S:Nat->Bool):fld (upto S 16) 0=num (which S):=by
 unfold fld row which;congr 1
theorem Zlz (S:Nat->Bool):field (num (which S)) 16=which S:=by
 have:=ZhX (which S)
 rwa [Zer] at this
theorem ZoJ (S:Nat->Bool) (i:Nat):field (fld S i) 16=row S i:=by
 have:=ZhX (row S i)
 rwa [ZdH] at this
def cut (S:Nat->Bool) (k:Nat):Nat->Bool:=fun b=>decide (b<16*k) && S b
end UsedM
end
section
namespace MtfM
open Go.RowKit UsedM
def touch (l:List UInt8) (i:Nat):List UInt8:=(l.drop i).take 1++l.take i++l.drop (i+1)
theorem Zfy (l:List UInt8) (i:Nat) (h:i<l.length):(touch l i).length=l.length:=by
 unfold touch;simp only [List.length_append,List.length_take,List.length_drop];omega
theorem Zjj (l:List UInt8) (i:Nat) (h:i<l.length):touch l i=l[i]::(l.take i++l.drop (i+1)):=by
 unfold touch;rw [List.drop_eq_getElem_cons h];rfl
theorem ZoK (l:List UInt8) (i:Nat) (h:i<l.length) (x:UInt8):x∈touch l i↔x∈l:=by
 rw [Zjj l i h]
 conv=>rhs;rw [<-List.take_append_drop i l,List.drop_eq_getElem_cons h]
 simp only [List.mem_cons,List.mem_append];constructor
 ·rintro(h|h|h)
  ·exact Or.inr (Or.inl h)
  ·exact Or.inl h
  ·exact Or.inr (Or.inr h)
 ·rintro(h|h|h)
  ·exact Or.inr (Or.inl h)
  ·exact Or.inl h
  ·exact Or.inr (Or.inr h)
theorem ZtJ {l:List UInt8} {c:UInt8} {k:Nat} (h:l[k]?=some c) (hn:∀j,j<k->l[j]?≠some c):Lib.indexByte l c=(k:Int):=by
 have hge:=Lib.indexByte_ge l c;by_cases h1:Lib.indexByte l c=-1
 ·exact absurd h (Lib.indexByte_none h1 k)
 ·obtain⟨o,ho⟩:∃o:Nat,Lib.indexByte l c=(o:Int):=⟨(Lib.indexByte l c).toNat,by omega⟩
  obtain⟨h2,h3⟩:=Lib.indexByte_some ho;rw [ho];by_cases hlt:o<k
  ·exact absurd h2 (hn o hlt)
  ·by_cases hgt:k<o
   ·exact absurd h (h3 k hgt)
   ·omega
theorem ZbU (l:List UInt8) (c:UInt8):Lib.indexByte l c=-1\/∃o:Nat,Lib.indexByte l c=(o:Int)/\o<l.length/\l[o]?=some c:=by
 have hge:=Lib.indexByte_ge l c;by_cases h1:Lib.indexByte l c=-1
 ·exact Or.inl h1
 ·obtain⟨o,ho⟩:∃o:Nat,Lib.indexByte l c=(o:Int):=⟨(Lib.indexByte l c).toNat,by omega⟩
  obtain⟨h2,_⟩:=Lib.indexByte_some ho;exact Or.inr ⟨o,ho,(List.getElem?_eq_some_iff.1 h2).1,h2⟩
theorem ZoL {l:List UInt8} {c:UInt8} (h:c∈l):∃o:Nat,Lib.indexByte l c=(o:Int)/\o<l.length/\l[o]?=some c:=by
 rcases ZbU l c with h1|h1
 ·obtain⟨i,hi,he⟩:=List.mem_iff_getElem.1 h;exact absurd (by rw [List.getElem?_eq_getElem hi,he]) (Lib.indexByte_none h1 i)
 ·exact h1
end MtfM
end
section
namespace PkM
open Go.RowKit
def toI (ps:List Nat):List Int:=ps.map fun(x:Nat)=>(x:Int)
theorem toI_length (ps:List Nat):(toI ps).length=ps.length:=by simp [toI]
theorem toI_getD (ps:List Nat) (k:Nat):(toI ps).getD k 0=((ps.getD k 0:Nat):Int):=by
 unfold toI;rw [List.getD_eq_getElem?_getD,List.getElem?_map,List.getD_eq_getElem?_getD];cases ps[k]?<;>rfl
end PkM
end
section
namespace PkM
open Go.RowKit BitM
theorem Ord.getD {t:Nat} {o:List Nat} (h:Ord t o) {i:Nat} (hi:i<t) (ht:t<=6):o.getD i 0<t:=by
 have hl:=h.1;have h1:i<o.length:=by omega
 rw [List.getD_eq_getElem?_getD,List.getElem?_eq_getElem h1];refine(h.2 _).2 ?_;have h2:i<(o.take t).length:=by rw [List.length_take];omega
 have:=List.getElem_mem h2;rw [List.getElem_take] at this;exact this
def Six (o:List Nat):Prop:=o.length=6/\∀x∈o,x<6
theorem Six.start:Six [0,1,2,3,4,5]:=⟨rfl,by decide⟩
theorem Six.tch {o:List Nat} (h:Six o) {i:Nat} (hi:i<6):Six (tch o i):=by
 have hl:=h.1;refine⟨by rw [Zhr o i (by omega),hl],fun x hx=>?_⟩;rw [ZhZ o i (by omega)] at hx;simp only [List.mem_cons,List.mem_append] at hx;rcases hx with rfl|hx|hx
 ·exact h.2 _ (List.getElem_mem _)
 ·exact h.2 _ (List.mem_of_mem_take hx)
 ·exact h.2 _ (List.mem_of_mem_drop hx)
theorem Zfz {o:List Nat} {p j:Nat} (hj:j<o.idxOf p):o[j]?≠some p:=by
 intro h;obtain⟨h1,h2⟩:=List.getElem?_eq_some_iff.1 h;have h3:j<o.findIdx (·==p):=hj;have h4:=List.not_of_lt_findIdx h3;simp [h2] at h4
def O6:List Nat:=[0,1,2,3,4,5]
def ordK (ps:List Nat) (k:Nat):List Nat:=ord O6 (ps.take k)
def encK (ps:List Nat) (k:Nat):List Bool:=enc O6 (ps.take k)
theorem Zkw (ps:List Nat) {k:Nat} (h:k<ps.length):ps.take (k+1)=ps.take k++[ps.getD k 0]:=by
 rw [List.take_succ_eq_append_getElem h,List.getD_eq_getElem?_getD,List.getElem?_eq_getElem h];rfl
theorem ZtI (ps:List Nat) {k:Nat} (h:k<ps.length):encK ps (k+1)=encK ps k++(List.replicate ((ordK ps k).idxOf (ps.getD k 0)) true++[false]):=by
 unfold encK ordK;rw [Zkw ps h,ZoA,enc];rfl
theorem Zex (ps:List Nat) {k:Nat} (h:k<ps.length):ordK ps (k+1)=tch (ordK ps k) ((ordK ps k).idxOf (ps.getD k 0)):=by
 unfold ordK;rw [Zkw ps h,ZoB,ord,ord]
theorem ZeP (ps:List Nat) {t:Nat} (ht:t<=6) (hp:∀x∈ps,x<t):∀k,k<=ps.length->Ord t (ordK ps k)/\Six (ordK ps k)
 | 0,_=>⟨Ord.start ht,Six.start⟩
 | k+1,hk=>by
  have ih:=ZeP ps ht hp k (by omega);rw [Zex ps (by omega)]
  have h1:ps.getD k 0<t:=by
   rw [List.getD_eq_getElem?_getD,List.getElem?_eq_getElem (by omega)];exact hp _ (List.getElem_mem _)
  have h2:=(ih.1.place ht h1).1;exact⟨ih.1.tch ht h2,ih.2.tch (by omega)⟩
theorem encK_len (ps:List Nat) {t:Nat} (ht:t<=6) (hp:∀x∈ps,x<t):∀k,k<=ps.length->(encK ps k).length<=6*k
 | 0,_=>Nat.le_refl _
 | k+1,hk=>by
  have ih:=encK_len ps ht hp k (by omega)
  have h1:ps.getD k 0<t:=by
   rw [List.getD_eq_getElem?_getD,List.getElem?_eq_getElem (by omega)];exact hp _ (List.getElem_mem _)
  have h2:=((ZeP ps ht hp k (by omega)).1.place ht h1).1;rw [ZtI ps (by omega),List.length_append,List.length_append,List.length_replicate,List.length_singleton];omega
theorem encK_all (ps:List Nat) (k:Nat) (hk:ps.length<=k):encK ps k=enc [0,1,2,3,4,5] ps:=by
 unfold encK;rw [List.take_of_length_le hk];rfl
def MayI (zs:List Int) (t:Int):Prop:=2<=t/\t<=6/\1<=zs.length/\zs.length<=32767/\∀z∈zs,0<=z/\z<t
theorem May.int {ps:List Nat} {T:Nat} (h:May ps T):MayI (toI ps) (T:Int):=by
 obtain⟨h2,h6,h1,hm,hp⟩:=h;refine⟨by omega,by omega,by rw [toI_length];exact h1,by rw [toI_length];exact hm,fun z hz=>?_⟩;obtain⟨x,hx,rfl⟩:=List.mem_map.1 hz;have:=hp x hx;constructor
 ·show(0:Int)<=(x:Int);omega
 ·show(x:Int)<(T:Int);omega
end PkM
end
section
namespace DelM
open Go.RowKit BitM
def two (b:Bool):Nat->List Bool
 | 0=>[]
 | k+1=>two b k++[true,b]
theorem ZaN (b:Bool):∀k,(two b k).length=2*k
 | 0=>rfl
 | k+1=>by
  rw [two,List.length_append,ZaN b k];show 2*k+2=_;omega
def mv (last x:Int):List Bool:=two false (x-last).toNat++two true (last-x).toNat
theorem Zkx (last x:Int):((mv last x).length:Int)=2*max (x-last) (last-x):=by
 unfold mv;rw [List.length_append,ZaN,ZaN];omega
def prv (zs:List Int) (k:Nat):Int:=zs.getD (k-1) 0
def encK (zs:List Int):Nat->List Bool
 | 0=>[]
 | k+1=>encK zs k++(mv (prv zs k) (zs.getD k 0)++[false])
def allB (zs:List Int):List Bool:=field (zs.getD 0 0).toNat 5++encK zs zs.length
def May (zs:List Int):Prop:=3<=zs.length/\zs.length<=258/\∀z∈zs,1<=z/\z<=20
theorem May.at_ {zs:List Int} (h:May zs) {k:Nat} (hk:k<zs.length):1<=zs.getD k 0/\zs.getD k 0<=20:=
 h.2.2 _ (by rw [List.getD_eq_getElem?_getD,List.getElem?_eq_getElem hk];exact List.getElem_mem hk)
theorem May.prv {zs:List Int} (h:May zs) {k:Nat} (hk:k<=zs.length):1<=prv zs k/\prv zs k<=20:=by
 have h3:=h.1;exact h.at_ (show k-1<zs.length by omega)
theorem encK_le {zs:List Int} (h:May zs):∀{k:Nat},k<=zs.length->(encK zs k).length<=39*k/\k<=(encK zs k).length
 | 0,_=>⟨Nat.le_refl _,Nat.le_refl _⟩
 | k+1,hk=>by
  have h1:=encK_le h (k:=k) (by omega);have h2:=Zkx (prv zs k) (zs.getD k 0);have h3:=h.at_ (show k<zs.length by omega);have h4:=h.prv (show k<=zs.length by omega);rw [encK,List.length_append,List.length_append];show _+(_+1)<=_/\_<=_+(_+1);omega
theorem allB_length (zs:List Int):(allB zs).length=5+(encK zs zs.length).length:=by
 unfold allB;rw [List.length_append,Zaa]
end DelM
end
section
namespace DelM
open Go.RowKit BitM
end DelM
end
section
namespace HufM
open Go.RowKit
def sumN {α:Type} (f:α->Nat):List α->Nat
 | []=>0
 | x::t=>f x+sumN f t
theorem Zcf {α:Type} (f:α->Nat) {a b:List α} (h:a.Perm b):sumN f a=sumN f b:=by
 induction h with
 | nil=>rfl
 | cons x _ ih=>simp only [sumN,ih]
 | swap x y l=>simp only [sumN];omega
 | trans _ _ ih1 ih2=>exact ih1.trans ih2
theorem Zky {α:Type} {P:List α} {p:α} (h:p∈P):∃Q,P.Perm (p::Q):=by
 obtain⟨s,t,rfl⟩:=List.append_of_mem h;exact⟨s++t,List.perm_middle⟩
abbrev Tr:=Nat×Nat
def lt (a b:Tr):Prop:=a.1<b.1\/(a.1=b.1/\a.2<b.2)
theorem Zii (a b:Tr) (h:a.2≠b.2):lt a b\/lt b a:=by unfold lt;omega
theorem ZdU {a b:Tr} (h:lt a b):¬lt b a:=by unfold lt at *;omega
theorem lt_trans {a b c:Tr} (h:lt a b) (k:lt b c):lt a c:=by unfold lt at *;omega
theorem Zi3 {a b:Tr} (h:lt a b):a.1<=b.1:=by unfold lt at h;omega
inductive Run:Nat->List Tr->(Nat->Nat)->Prop
 | one (k:Nat) (t:Tr) (d:Nat->Nat):d t.2=0->Run k [t] d
 | step (k:Nat) (l:List Tr) (x y:Tr) (r:List Tr) (d:Nat->Nat):l.Perm (x::y::r)->lt x y->(∀t∈r,lt y t)->Run (k+1) ((x.1+y.1,k)::r) d->d x.2=d k+1->d y.2=d k+1->Run k l d
theorem Run.perm {k:Nat} {l l2:List Tr} {d:Nat->Nat} (h:Run k l d) (hp:l.Perm l2):Run k l2 d:=by
 cases h with
 | one _ t _ h0=>
  obtain rfl:l2=[t]:=List.perm_singleton.1 hp.symm;exact .one _ _ _ h0
 | step _ _ x y r _ h1 h2 h3 h4 h5 h6=>exact .step _ _ x y r _ (hp.symm.trans h1) h2 h3 h4 h5 h6
theorem Run.whole {k:Nat} {l:List Tr} {d:Nat->Nat} (h:Run k l d):∀K,(∀t∈l,d t.2<=K)->sumN (fun t=>2^(K-d t.2)) l=2^K:=by
 induction h with
 | one k t d h0=>intro K _;simp only [sumN,h0,Nat.sub_zero,Nat.add_zero]
 | step k l x y r d hp hxy hr _ hx hy ih=>
  intro K hK;rw [Zcf _ hp];have h1:=hK x (hp.mem_iff.2 (List.mem_cons_self ..));rw [hx] at h1
  have h2:=ih K (fun t ht=>by
   rcases List.mem_cons.1 ht with rfl|ht
   ·simp only;omega
   ·exact hK t (hp.mem_iff.2 (List.mem_cons_of_mem _ (List.mem_cons_of_mem _ ht))))
  simp only [sumN] at h2 ⊢;rw [hx,hy]
  have e:2^(K-d k)=2^(K-(d k+1))+2^(K-(d k+1)):=by
   rw [show K-d k=K-(d k+1)+1 by omega,Nat.pow_succ];omega
  omega
theorem Run.order {k:Nat} {l:List Tr} {d:Nat->Nat} (h:Run k l d):(∀t∈l,t.2<k) ->
  (∀t∈l,∀u∈l,lt t u->d u.2<=d t.2)/\∀m,(∀t∈l,m<=t.1)->∀u∈l,∀t∈l,lt u t->t.1<=u.1+m->d u.2<=d t.2+1:=by
 induction h with
 | one k t d h0=>
  intro _;refine⟨fun a ha b hb h=>?_,fun m _ a ha b hb h _=>?_⟩
  ·rw [List.mem_singleton] at ha hb;subst ha;subst hb;exact Nat.le_refl _
  ·rw [List.mem_singleton] at ha hb;subst ha;subst hb;exact Nat.le_succ _
 | step k l x y r d hp hxy hr _ hx hy ih=>
  intro hn;have hxl:x∈l:=hp.mem_iff.2 (List.mem_cons_self ..);have hyl:y∈l:=hp.mem_iff.2 (List.mem_cons_of_mem _ (List.mem_cons_self ..));have hrl:∀t∈r,t∈l:=fun t ht=>hp.mem_iff.2 (List.mem_cons_of_mem _ (List.mem_cons_of_mem _ ht))
  have hin:∀t∈l,t=x\/t=y\/t∈r:=fun t ht=>by
   rcases List.mem_cons.1 (hp.mem_iff.1 ht) with h|h
   ·exact Or.inl h
   ·rcases List.mem_cons.1 h with h|h
    ·exact Or.inr (Or.inl h)
    ·exact Or.inr (Or.inr h)
  obtain⟨hA,hB⟩:=ih (fun t ht=>by
   rcases List.mem_cons.1 ht with rfl|ht
   ·exact Nat.lt_succ_self _
   ·exact Nat.lt_succ_of_lt (hn t (hrl t ht)))
  have hzm:((x.1+y.1,k):Tr)∈((x.1+y.1,k):Tr)::r:=List.mem_cons_self ..;have hrm:∀t∈r,t∈((x.1+y.1,k):Tr)::r:=fun t ht=>List.mem_cons_of_mem _ ht
  have hxw:=Zi3 hxy
  have hone:∀u∈r,d u.2<=d k+1:=fun u hu=>by
   have huw:=Zi3 (hr u hu);rcases Zii u (x.1+y.1,k) (by have:=hn u (hrl u hu);simp only;omega) with h|h
   ·have:=hB x.1 (fun t ht=>by
     rcases List.mem_cons.1 ht with rfl|ht
     ·simp only;omega
     ·have:=Zi3 (hr t ht);omega) u (hrm u hu) _ hzm h (by simp only;omega)
    exact this
   ·have:=hA _ hzm u (hrm u hu) h;simp only at this;omega
  refine⟨fun t ht u hu h=>?_,fun m hm u hu t ht h hw=>?_⟩
  ·rcases hin t ht with rfl|rfl|ht
   ·rcases hin u hu with rfl|rfl|hu
    ·exact Nat.le_refl _
    ·rw [hx,hy];exact Nat.le_refl _
    ·rw [hx];exact hone u hu
   ·rcases hin u hu with rfl|rfl|hu
    ·rw [hx,hy];exact Nat.le_refl _
    ·exact Nat.le_refl _
    ·rw [hy];exact hone u hu
   ·rcases hin u hu with rfl|rfl|hu
    ·exact absurd (lt_trans hxy (hr t ht)) (ZdU h)
    ·exact absurd (hr t ht) (ZdU h)
    ·exact hA t (hrm t ht) u (hrm u hu) h
  ·rcases hin u hu with rfl|rfl|hu
   ·rcases hin t ht with rfl|rfl|ht
    ·exact Nat.le_succ _
    ·rw [hx,hy];exact Nat.le_succ _
    ·have hmy:=hm y hyl;have hk:=hn t (hrl t ht);have hlt:lt t (u.1+y.1,k):=by unfold lt;simp only;omega
     have:=hA t (hrm t ht) _ hzm hlt;simp only at this;omega
   ·rcases hin t ht with rfl|rfl|ht
    ·rw [hx,hy];exact Nat.le_succ _
    ·exact Nat.le_succ _
    ·have hmx:=hm x hxl;have hk:=hn t (hrl t ht);have hlt:lt t (x.1+u.1,k):=by unfold lt;simp only;omega
     have:=hA t (hrm t ht) _ hzm hlt;simp only at this;omega
   ·rcases hin t ht with rfl|rfl|ht
    ·exact absurd (lt_trans hxy (hr u hu)) (ZdU h)
    ·exact absurd (hr u hu) (ZdU h)
    ·exact hB m (fun q hq=>by
      rcases List.mem_cons.1 hq with rfl|hq
      ·have:=hm x hxl;simp only;omega
      ·exact hm q (hrl q hq)) u (hrm u hu) t (hrm t ht) h hw
def wt (t:Tr):Nat:=t.1
def grow:Nat->Nat->Nat->Nat
 | 0,a,_=>a
 | D+1,a,m=>grow D (a+m) (max a m)
theorem Zg3:∀(D a b m n:Nat),a<=b->m<=n->grow D a m<=grow D b n
 | 0,a,b,m,n,h,_=>h
 | D+1,a,b,m,n,h,k=>Zg3 D _ _ _ _ (by omega) (by omega)
theorem Run.deep {k:Nat} {l:List Tr} {d:Nat->Nat} (h:Run k l d):∀(t:Tr) (r:List Tr) (m:Nat),l.Perm (t::r)->(∀u∈r,m<=u.1)->grow (d t.2) t.1 m<=sumN wt l:=by
 induction h with
 | one k t d h0=>
  intro u r m hp hm;have:=List.perm_singleton.1 hp.symm;simp only [List.cons.injEq] at this;obtain⟨rfl,rfl⟩:=this;rw [h0];simp [grow,sumN,wt]
 | step k l x y r d hp hxy hr _ hx hy ih=>
  intro t q m hq hm
  have hs:sumN wt l=sumN wt (((x.1+y.1,k):Tr)::r):=by
   rw [Zcf _ hp];simp only [sumN,wt];omega
  have hpq:=hp.symm.trans hq;have hxw:=Zi3 hxy;rw [hs];by_cases htx:t=x
  ·subst htx;have hqq:=hpq.cons_inv;have hmy:=hm y (hqq.mem_iff.1 (List.mem_cons_self ..))
   have h1:=ih (t.1+y.1,k) r (max t.1 m) (List.Perm.refl _) (fun u hu=>by
    have h2:=Zi3 (hr u hu);omega)
   rw [hx];exact Nat.le_trans (Zg3 (d k) (t.1+m) (t.1+y.1) (max t.1 m) (max t.1 m) (by omega) (Nat.le_refl _)) h1
  ·by_cases hty:t=y
   ·subst hty;have hqq:=((List.Perm.swap x t r).trans hpq).cons_inv;have hmx:=hm x (hqq.mem_iff.1 (List.mem_cons_self ..))
    have h1:=ih (x.1+t.1,k) r (max t.1 m) (List.Perm.refl _) (fun u hu=>by
     have h2:=Zi3 (hr u hu);have h3:=hm u (hqq.mem_iff.1 (List.mem_cons_of_mem _ hu));omega)
    rw [hy];have h2:grow (d k) (t.1+m) (max t.1 m)<=grow (d k) (x.1+t.1) (max t.1 m):=Zg3 _ _ _ _ _ (by omega) (Nat.le_refl _);exact Nat.le_trans h2 h1
   ·have htr:t∈r:=by
     have:t∈x::y::r:=hpq.mem_iff.2 (List.mem_cons_self ..);rcases List.mem_cons.1 this with h|h
     ·exact absurd h htx
     ·rcases List.mem_cons.1 h with h|h
      ·exact absurd h hty
      ·exact h
    obtain⟨r2,hr2⟩:=Zky htr
    have hqq:(x::y::r2).Perm q:=by
     have h1:(x::y::r).Perm (t::x::y::r2):=
      ((hr2.cons y).cons x).trans (((List.Perm.swap t y r2).cons x).trans (List.Perm.swap t x (y::r2)))
     exact(h1.symm.trans hpq).cons_inv
    refine ih t (((x.1+y.1,k):Tr)::r2) m ((hr2.cons _).trans (List.Perm.swap _ _ _)) (fun u hu=>?_);rcases List.mem_cons.1 hu with rfl|hu
    ·have:=hm x (hqq.mem_iff.1 (List.mem_cons_self ..));simp only;omega
    ·exact hm u (hqq.mem_iff.1 (List.mem_cons_of_mem _ (List.mem_cons_of_mem _ hu)))
end HufM
end
end Go.Proofs.YtlfpbcadcfaboaaGreatDoor

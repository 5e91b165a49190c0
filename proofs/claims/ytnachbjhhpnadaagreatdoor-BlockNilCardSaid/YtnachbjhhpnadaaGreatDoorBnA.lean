import Derived.Test.YtnachbjhhpnadaaGreatDoorBcA
import Derived.Test.YtnachbjhhpnadaaGreatDoorBcB
import Derived.Test.YtnachbjhhpnadaaGreatDoorBcC
import Derived.Test.YtnachbjhhpnadaaGreatDoorBcD
import Derived.Test.YtnachbjhhpnadaaGreatDoorBcE
import Derived.Test.YtnachbjhhpnadaaGreatDoorBcF
import Derived.Test.YtnachbjhhpnadaaGreatDoorBcG
import Derived.Test.YtnachbjhhpnadaaGreatDoorBcI
import Derived.Test.YtnachbjhhpnadaaGreatDoorBcJ
import Derived.Test.YtnachbjhhpnadaaGreatDoorBcK
import Derived.Test.YtnachbjhhpnadaaGreatDoorBcM
import Derived.Test.YtnachbjhhpnadaaGreatDoorBcN
import Derived.Test.YtnachbjhhpnadaaGreatDoorBcP
import Derived.WalkKit
import Derived.ProofKit
import Derived.OpenShut
import Derived.ShutString
import Derived.ChangeOld
import Derived.Below
import Derived.Lib.Hide
import Derived.Lib.SmallJoins
import Derived.Deep.Slices
import Derived.Test.YtnachbjhhpnadaaGreatDoorRows
import Derived.WalkSpells
import Derived.WalkLawsBesides
import Derived.BigQuiet
import Derived.SliceStrings
import Derived.Laws.CopyRow
import Derived.Laws.BitsAllLaws
import Derived.StillTailTactics
import Derived.Deep.RegionHeld3
import Derived.Laws.OwnMore
import Derived.Laws.AppendOwnNone
import Derived.Laws.EntriesVeiled
import Derived.Lib.BytesEntry
import Derived.Lib.IndexLaws
import Derived.BigRegion
import Derived.IntWalk
import Derived.Deep.RegionLaw
import Derived.Deep.AppendSrc
import Derived.Deep.Upon
import Derived.Shelf.Abstract
import Derived.Deep.Cut
import Derived.Lib.SliceRun
import Derived.Deep.LoopGhost
import Derived.Laws.StandIn
import Derived.Deep.MidRow
import Derived.Outline
set_option linter.unusedVariables false
set_option linter.unusedSimpArgs false
set_option maxHeartbeats 8000000
set_option maxRecDepth 100000
namespace Go.Proofs.YtnachbjhhpnadaaGreatDoor
section
namespace Opn
open Go.ChangeShapes Go.WideShapes Go.ChangeAt Go.RowKit Go.Deep
section
variable (P : Program)
def joined (f:TypeId->Option (List Kd)):Nat->List (Nat×TypeId)->Option (List Kd)
 | _,[]=>some []
 | at_,(o,t)::rest=>
  match f t,joined f (at_+P.cellsOf t) rest with
  | some l,some r=>if o=at_/\l.length=P.cellsOf t then some (l++r) else none
  | _,_=>none
def whole (t:TypeId):Option (List Kd)->Option (List Kd)
 | some l=>if l.length=P.cellsOf t then some l else none
 | none=>none
def kinds:Nat->TypeId->Option (List Kd)
 | 0,_=>none
 | n+1,t=>
  match P.underlying t with
  | some (.int k)=>some [.int k]
  | some .bool=>some [.bool]
  | some .string=>some [.str]
  | some (.slice e)=>some [.sl e]
  | some (.struct fs)=>whole P t (joined P (kinds n) 0 (fs.toList.map fun f=>(f.offset,f.type)))
  | some (.array m e)=>whole P t (joined P (kinds n) 0 ((List.range m).map fun i=>(i*P.cellsOf e,e)))
  | _=>none
end
theorem Zb2 {P:Program} {t:TypeId} {o:Option (List Kd)} {ks:List Kd} (h:whole P t o=some ks):o=some ks/\ks.length=P.cellsOf t:=by
 cases o with
 | none=>cases h
 | some l=>
  unfold whole at h;split at h
  ·rename_i l' e;cases e;split at h
   ·rename_i hl;cases h;exact⟨rfl,hl⟩
   ·cases h
  ·cases h
section
variable {H : Type} {enc : TypeId × Value -> H} {P : Program} {w : World} {spare : Nat -> Bool}
theorem ZbB {n:Nat} (ih:∀t ks cs x,kinds P n t=some ks->(∃m,DataW.trod enc P w 0 spare true m t cs=some x)->AllOk enc P w spare ks cs) :
  ∀(ps:List (Nat×TypeId)) (at_:Nat) (ks:List Kd) (cs:List Value),joined P (kinds P n) at_ ps=some ks->(∀p∈ps,∃m x,DataW.trod enc P w 0 spare true m p.2 ((cs.drop p.1).take (P.cellsOf p.2))=some x) ->
   cs.length=at_+ks.length->AllOk enc P w spare ks (cs.drop at_)
 | [],at_,ks,cs,h,_,hl=>by
  obtain rfl:ks=[]:=by simpa [joined] using h.symm
  rw [List.drop_of_length_le (by simpa using Nat.le_of_eq hl)]
  trivial
 | (o,t)::rest,at_,ks,cs,h,hp,hl=>by
  unfold joined at h;split at h
  ·rename_i l r hf hr;split at h
   ·rename_i hc;obtain⟨rfl,hlen⟩:=hc;obtain rfl:l++r=ks:=by simpa using h
    obtain⟨m,x,hx⟩:=hp (o,t) (by simp);have h1:=ih t l _ x hf ⟨m,hx⟩;have h2:=ZbB ih rest (o+P.cellsOf t) r cs hr (fun p hp'=>hp p (List.mem_cons_of_mem _ hp')) (by simp at hl;omega)
    have:cs.drop o=(cs.drop o).take (P.cellsOf t)++cs.drop (o+P.cellsOf t):=by
     rw [<-List.drop_drop];exact(List.take_append_drop _ _).symm
    rw [this];exact h1.append h2
   ·cases h
  ·cases h
theorem ZaQ:∀(n:Nat) (t:TypeId) (ks:List Kd) (cs:List Value) (x:DataW H×List MemPlace),kinds P n t=some ks->(∃m,DataW.trod enc P w 0 spare true m t cs=some x)->AllOk enc P w spare ks cs
 | 0,_,_,_,_,h,_=>by simp [kinds] at h
 | n+1,t,ks,cs,x,h,⟨m,hx⟩=>by
  unfold kinds at h;split at h
  ·rename_i k hu;obtain rfl:[Kd.int k]=ks:=by simpa using h
   obtain⟨q,rfl,_,hw⟩:=DataW.trod_int hu hx;exact⟨⟨q,rfl,hw⟩,trivial⟩
  ·rename_i hu;obtain rfl:[Kd.bool]=ks:=by simpa using h
   obtain⟨b,rfl,_⟩:=DataW.trod_bool hu hx;exact⟨⟨b,rfl⟩,trivial⟩
  ·rename_i hu;obtain rfl:[Kd.str]=ks:=by simpa using h
   obtain⟨s,rfl,_,hs⟩:=DataW.trod_string hu hx;exact⟨⟨s,rfl,hs⟩,trivial⟩
  ·rename_i e hu;obtain rfl:[Kd.sl e]=ks:=by simpa using h
   rcases open_slice hu hx with⟨rfl,_⟩|⟨a,len,cap,mm,q,D,Pl,rfl,_,hl,hm,hmm,_,hi⟩
   ·exact⟨Or.inl rfl,trivial⟩
   ·refine⟨Or.inr ⟨a,len,cap,q,rfl,hl,hm,fun i hi'=>?_⟩,trivial⟩;obtain⟨cs',h1,h2⟩:=hi i (by rw [hmm];split<;>omega);exact⟨cs',_,h1,h2⟩
  ·rename_i fs hu;obtain⟨xs,q,_,_,hl,hxs,hf⟩:=DataW.trod_struct hu hx;obtain⟨h,hlen⟩:=Zb2 h
   have:=ZbB (cs:=cs) (ZaQ n) (fs.toList.map fun f=>(f.offset,f.type)) 0 ks h (fun p hp=>by
    obtain⟨f,hfm,rfl⟩:=List.mem_map.1 hp;obtain⟨i,hi,hfi⟩:=List.getElem_of_mem hfm
    have hfi':fs[i]?=some f:=by
     rw [<-hfi,Array.getElem_toList];exact Array.getElem?_eq_getElem (by simpa using hi)
    have:=hf i f hfi';have hi2:i<xs.length:=by rw [hxs];simpa using hi
    rw [List.getElem?_eq_getElem hi2] at this;exact⟨q,_,this⟩)
   simpa using this (by rw [hl,hlen,Nat.zero_add])
  ·rename_i m' e hu;obtain⟨xs,q,_,_,hl,hxs,hf⟩:=DataW.trod_array hu hx;obtain⟨h,hlen⟩:=Zb2 h
   have:=ZbB (cs:=cs) (ZaQ n) ((List.range m').map fun i=>(i*P.cellsOf e,e)) 0 ks h (fun p hp=>by
    obtain⟨i,hi,rfl⟩:=List.mem_map.1 hp;have hi':i<m':=List.mem_range.1 hi;have:=hf i hi';rw [List.getElem?_eq_getElem (by omega)] at this;exact⟨q,_,this⟩)
   simpa using this (by rw [hl,hlen,Nat.zero_add])
  ·cases h
theorem ZfH {W:World} {base:Nat} {t:TypeId} {v:Value} {d:DataW H} {p:List MemPlace} (n:Nat) (ks:List Kd) (hk:kinds P n t=some ks) (hu:(match P.underlying t with|some (.struct _)|some (.array _ _)=>true|_=>false)=true)
  (hv:Value.okWide P W .any base t v) (h:DataW.Trod enc P W 0 (fun _=>true) true t v d p):∃cs:Array Value,v=.agg cs/\AllOk enc P W (fun _=>true) ks cs.toList:=by
 obtain⟨fuel,hf⟩:=h;unfold Value.okWide at hv;split at hv
 ·obtain⟨cs,rfl,_,_⟩:=hv;exact⟨cs,rfl,ZaQ n t ks _ _ hk ⟨fuel,hf⟩⟩
 ·obtain⟨cs,rfl,_,_⟩:=hv;exact⟨cs,rfl,ZaQ n t ks _ _ hk ⟨fuel,hf⟩⟩
 ·rename_i h1 h2;split at hu<;>simp_all
end
end Opn
end
section
open Go.ChangeShapes Go.WideShapes Go.ChangeAt Go.RowKit
open Go.ChangeMaps (open_string shut_string)
namespace LawShell
theorem own:ownKnob Tryz.prog.godebug=none:=by kernel_rfl
theorem laidOut:laidOutB Tryz.prog=true:=by kernel_rfl
end LawShell
theorem Beneath.cell {B:Nat} {w:World} {p:Addr} {v:Value} (h:w.cell? p=some v) (hB:p.block<B) (s:Beneath B w):s.val.cell? p=some v:=(s.is.cell hB).trans h
theorem ZaF {P:Program} {id:Nat} {Q:Exit->Act->World->Prop} {a:Act} {w:World} {l:List Oper} (B:Nat) (w0:World) (h0:Below B w0 w) (hm:P.follows .mixedOrders=true) (hB:Region.lexB .any l.toArray=true)
  (h:wpQuiet P l.toArray (fun w'=>∃s:Beneath B w0,w'=s.val) (fun a'=>∀w',(∃s:Beneath B w0,w'=s.val)->Q .normal a' w') l a):(Code.region id l.toArray true).wp P Q a w:=
 wp_region_quiet (C:=fun w'=>∃s:Beneath B w0,w'=s.val) hm hB ⟨⟨w.drew,h0.drew⟩,rfl⟩ (by simpa using h)
theorem Calls.beneath {P:Program} {f:FuncId} {args:Array Value} {B:Nat} {w:World} {v:Value} (s:Beneath B w) (hB:B<=w.heap.size)
  (h:Calls P f args s.val fun e w'=>e=.returned v/\Below s.val.heap.size s.val w'):Calls P f args s.val fun e w''=>e=.returned v/\∃s':Beneath B w,w''=s'.val:=
 h.mono fun _ w' ⟨he,hb⟩=>⟨he,⟨w',s.is.trans (hb.mono (Nat.le_trans hB s.is.size))⟩,rfl⟩
end
section
open Go.RowKit
theorem ZuY {P:Program} {ops:Array Oper} {rest:List Oper} {o:Oper} {a:Act} {w:World} {Q:Exit->Act->World->Prop} (hgd:o.guard=none) (d s:Operand) (t t':TypeId)
  (ho:o.op=.call { callee:=.builtin .copy,args:=#[d,s],argTypes:=#[t,t'] }) (v u:Value) (hd:a.eval d=v) (hs:a.eval s=u) {v':Value} {w':World}
  (hr:(Builtin.copy_ #[t,t'] o.type #[v,u]).run P w=.ok v' w') (h:wpList P ops Q rest (a.put o.dst v') w'):wpList P ops Q (o::rest) a w:=
 wpList_plain hgd fun K hK=>by
  unfold Oper.wp execOp;simp only [ho,resolve,invoke,builtin,Sem.run_bind,Sem.run_pure,Result.andThen_ok,List.map_toArray,List.map_cons,List.map_nil,hd,hs,hr];exact hK _ _ h
end
section
open Go.RowKit BitM HufM CanM CodM PkM
theorem ZvO (w:World):Calls Tryz.prog 75 #[.pointer none] w fun e w'=>e=.returned (.int .i64 0)/\w'=w:=by
 go_enter Tryz.func75,Tryz.ntmps75;go_wp2_with fail;go_ret;exact⟨rfl,rfl⟩
end
section
open Go.RowKit
theorem ZuN (w:World):Calls Tryz.prog 30 #[.pointer none] w fun e w'=>e=.returned (.bool false)/\w'=w:=by
 go_enter Tryz.func30,Tryz.ntmps30;go_wp2_with fail;go_ret;exact⟨rfl,rfl⟩
theorem Zvk (w:World):Calls Tryz.prog 33 #[.pointer none] w fun e w'=>e=.returned (.int .i64 0)/\w'=w:=by
 go_enter Tryz.func33,Tryz.ntmps33;go_wp2_with fail;go_ret;exact⟨rfl,rfl⟩
theorem Zvl (r:Option Addr) (w:World):Calls Tryz.prog 31 #[.pointer none,.pointer r] w fun e w'=>e=.returned (.int .i64 7)/\w'=w:=by
 go_enter Tryz.func31,Tryz.ntmps31;go_wp2_with fail;go_ret;exact⟨rfl,rfl⟩
theorem Zt4 (b:Addr) (w:World):Calls Tryz.prog 31 #[.pointer (some b),.pointer none] w fun e w'=>e=.returned (.int .i64 7)/\w'=w:=by
 go_enter Tryz.func31,Tryz.ntmps31;go_wp2_with fail;go_ret;exact⟨rfl,rfl⟩
theorem ZuJ (last:ByteArray) (o s:Int) (w:World):Calls Tryz.prog 19 #[.pointer none,.string last,.int .i64 o,.int .u32 s] w fun e w'=>e=.returned (.int .i64 7)/\w'=w:=by
 go_enter Tryz.func19,Tryz.ntmps19;go_wp2_with fail;go_ret;exact⟨rfl,rfl⟩
theorem Zvm (r:Int) (w:World):Calls Tryz.prog 24 #[.pointer none,.int .i64 r] w fun e w'=>e=.returned (.tuple #[.agg got0,.int .i64 7])/\Below w.heap.size w w':=by
 have hr0:(w.alloc (.cells #[.string ⟨#[]⟩,.int .i64 0,.int .u32 0] 34)).heap[w.heap.size]?=some (.cells got0 34 (0,0)):=heap_alloc_new _ _;have hi:=ZbI got0 rfl;go_enter Tryz.func24,Tryz.ntmps24;go_wp2_with (first|(refine ZaM rfl 34 rfl got0 ZgC ?_)|(refine wpList_store_row rfl 34 _ _ rfl w.heap.size got0 rfl rfl 34 got0 hr0 hi rfl ZlE ?_));refine bodyPost_ret (v:=.tuple #[.agg got0,.int .i64 7]) (Zbl rfl _ _ w.heap.size got0 34 _ _ rfl rfl (setRow_heap _ _ got0 got0 34 _ hr0) Tryz.underlying34 rfl hi) rfl ⟨rfl,?_⟩;have hb:Below w.heap.size w (w.alloc (.cells #[.string ⟨#[]⟩,.int .i64 0,.int .u32 0] 34)):=(Below.refl _ _).alloc (Nat.le_refl _) _;exact hb.trans ⟨rfl,rfl,rfl,by simp [World.setRow],fun j hj=>setRow_other _ _ j _ (by omega)⟩
theorem ZvD (w:World):Calls Tryz.prog 32 #[.pointer none] w fun e w'=>e=.returned (.agg got0)/\Below w.heap.size w w':=by
 have hr0:(w.alloc (.cells #[.string ⟨#[]⟩,.int .i64 0,.int .u32 0] 34)).heap[w.heap.size]?=some (.cells got0 34 (0,0)):=heap_alloc_new _ _;have hi:=ZbI got0 rfl;have HD:=zh (fun W=>ZuN W);go_enter Tryz.func32,Tryz.ntmps32;go_wp2_with fail;refine(HD.out _).mono ?_;rintro e w1 ⟨rfl,hw⟩;subst hw;go_wp2_with (first|(refine ZaM rfl 34 rfl got0 ZgC ?_)|(refine wpList_store_row rfl 34 _ _ rfl w.heap.size got0 rfl rfl 34 got0 hr0 hi rfl ZlE ?_));refine bodyPost_ret (v:=.agg got0) (ZaT rfl _ _ w.heap.size got0 34 _ rfl (setRow_heap _ _ got0 got0 34 _ hr0) Tryz.underlying34 rfl hi) rfl ⟨rfl,?_⟩;have hb:Below w.heap.size w (w.alloc (.cells #[.string ⟨#[]⟩,.int .i64 0,.int .u32 0] 34)):=(Below.refl _ _).alloc (Nat.le_refl _) _;exact hb.trans ⟨rfl,rfl,rfl,by simp [World.setRow],fun j hj=>setRow_other _ _ j _ (by omega)⟩
end
section
namespace BwtM
open Go.RowKit
theorem Zvz:∀s,lle s s
 | []=>trivial
 | a::s=>Or.inr ⟨rfl,Zvz s⟩
theorem Zu5:∀s t,lle s t->lle t s->s=t
 | [],[],_,_=>rfl
 | [],_::_,_,h=>h.elim
 | _::_,[],h,_=>h.elim
 | a::s,b::t,h,k=>by
  rcases h with h|⟨rfl,h⟩
  ·rcases k with k|⟨rfl,k⟩
   ·omega
   ·omega
  ·rcases k with k|⟨_,k⟩
   ·omega
   ·rw [Zu5 s t h k]
theorem Zu9:∀r s t,lle r s->lle s t->lle r t
 | [],_,_,_,_=>trivial
 | _::_,[],_,h,_=>h.elim
 | _::_,_::_,[],_,h=>h.elim
 | a::r,b::s,c::t,h,k=>by
  rcases h with h|⟨rfl,h⟩
  ·rcases k with k|⟨rfl,k⟩
   ·exact Or.inl (by omega)
   ·exact Or.inl h
  ·rcases k with k|⟨rfl,k⟩
   ·exact Or.inl k
   ·exact Or.inr ⟨rfl,Zu9 r s t h k⟩
theorem Zva:∀s t,lle s t\/lle t s
 | [],_=>Or.inl trivial
 | _::_,[]=>Or.inr trivial
 | a::s,b::t=>by
  rcases Nat.lt_trichotomy a.toNat b.toNat with h|h|h
  ·exact Or.inl (Or.inl h)
  ·have e:a=b:=UInt8.toNat_inj.1 h;rcases Zva s t with k|k
   ·exact Or.inl (Or.inr ⟨e,k⟩)
   ·exact Or.inr (Or.inr ⟨e.symm,k⟩)
  ·exact Or.inr (Or.inl h)
theorem Zeh (T:List UInt8) (i:Nat) (h:i<=T.length):(rot T i).length=T.length:=by
 unfold rot;rw [List.length_append,List.length_drop,List.length_take];omega
theorem Zus {T:List UInt8} {i k:Nat} (h:Ahead T i k):lle (rot T i) (rot T k):=by
 rcases h with h|h
 ·exact h.1
 ·rw [h.1];exact Zvz _
theorem ZvE {T:List UInt8} {i k:Nat} (h:Ahead T i k):¬Ahead T k i:=by
 intro g;have e:=Zu5 _ _ (Zus h) (Zus g);rcases h with h|h
 ·exact h.2 e
 ·rcases g with g|g
  ·exact g.2 e.symm
  ·omega
theorem Zvn {T:List UInt8} {i k m:Nat} (h:Ahead T i k) (g:Ahead T k m):Ahead T i m:=by
 have l:=Zu9 _ _ _ (Zus h) (Zus g);by_cases e:rot T i=rot T m
 ·have e2:rot T i=rot T k:=Zu5 _ _ (Zus h) (by rw [e];exact Zus g);rcases h with h|h
  ·exact absurd e2 h.2
  ·rcases g with g|g
   ·exact absurd (e2.symm.trans e) g.2
   ·exact Or.inr ⟨e,by omega⟩
 ·exact Or.inl ⟨l,e⟩
theorem Zvo {T:List UInt8} {i k:Nat} (h:i≠k):Ahead T i k\/Ahead T k i:=by
 by_cases e:rot T i=rot T k
 ·rcases Nat.lt_or_gt_of_ne h with g|g
  ·exact Or.inl (Or.inr ⟨e,g⟩)
  ·exact Or.inr (Or.inr ⟨e.symm,g⟩)
 ·rcases Zva (rot T i) (rot T k) with g|g
  ·exact Or.inl (Or.inl ⟨g,e⟩)
  ·exact Or.inr (Or.inl ⟨g,fun h=>e h.symm⟩)
theorem Zu1 {α:Type} {R:α->α->Prop} (hR:∀a b,R a b->¬R b a):∀{a b:List α},a.Perm b->a.Pairwise R->b.Pairwise R->a=b
 | [],b,hp,_,_=>by rw [List.nil_perm.1 hp]
 | x::s,[],hp,_,_=>by have:=hp.length_eq;simp at this
 | x::s,y::t,hp,ha,hb=>by
  obtain⟨h1,h2⟩:=List.pairwise_cons.1 ha;obtain⟨h3,h4⟩:=List.pairwise_cons.1 hb
  have e:x=y:=by
   rcases List.mem_cons.1 (hp.mem_iff.1 (List.mem_cons_self ..)) with e|hx
   ·exact e
   ·rcases List.mem_cons.1 (hp.mem_iff.2 (List.mem_cons_self ..)) with e|hy
    ·exact e.symm
    ·exact absurd (h3 x hx) (hR _ _ (h1 y hy))
  subst e;rw [Zu1 hR hp.cons_inv h2 h4]
theorem ZlG.same {T:List UInt8} {P Q:List Nat} (h:ZlG T P) (k:ZlG T Q):P=Q:=Zu1 (fun _ _=>ZvE) (h.1.trans k.1.symm) h.2 k.2
open Classical in
noncomputable def insP (T:List UInt8) (i:Nat):List Nat->List Nat
 | []=>[i]
 | k::t=>if Ahead T i k then i::k::t else k::insP T i t
theorem ZuO (T:List UInt8) (i:Nat):∀l,(insP T i l).Perm (i::l)
 | []=>List.Perm.refl _
 | k::t=>by
  unfold insP;split
  ·exact List.Perm.refl _
  ·exact((ZuO T i t).cons k).trans (List.Perm.swap i k t)
theorem ZuP (T:List UInt8) (i:Nat):∀l,l.Pairwise (Ahead T)->i∉l->(insP T i l).Pairwise (Ahead T)
 | [],_,_=>List.pairwise_singleton _ _
 | k::t,h,hn=>by
  obtain⟨h1,h2⟩:=List.pairwise_cons.1 h;unfold insP;split
  ·rename_i ha
   exact List.pairwise_cons.2 ⟨fun x hx=>by
    rcases List.mem_cons.1 hx with rfl|hx
    ·exact ha
    ·exact Zvn ha (h1 x hx),h⟩
  ·rename_i ha;have hki:Ahead T k i:=(Zvo (fun e=>hn (by rw [e];exact List.mem_cons_self ..))).resolve_left ha;refine List.pairwise_cons.2 ⟨fun x hx=>?_,ZuP T i t h2 (fun h=>hn (List.mem_cons_of_mem _ h))⟩;rcases List.mem_cons.1 ((ZuO T i t).mem_iff.1 hx) with rfl|hx
   ·exact hki
   ·exact h1 x hx
noncomputable def sortP (T:List UInt8):Nat->List Nat
 | 0=>[]
 | k+1=>insP T k (sortP T k)
theorem ZuG (T:List UInt8):∀k,(sortP T k).Perm (List.range k)
 | 0=>List.Perm.refl _
 | k+1=>by
  rw [List.range_succ];exact((ZuO T k _).trans ((ZuG T k).cons k)).trans (List.perm_append_comm (l₁:=[k]) (l₂:=List.range k))
theorem ZuK (T:List UInt8):∀k,(sortP T k).Pairwise (Ahead T)
 | 0=>List.Pairwise.nil
 | k+1=>ZuP T k _ (ZuK T k) (fun h=>by
  have:=List.mem_range.1 ((ZuG T k).mem_iff.1 h);omega)
theorem Zwb (T:List UInt8):ZlG T (sortP T T.length):=⟨ZuG T _,ZuK T _⟩
end BwtM
end
section
namespace BwtM
open Go.RowKit
theorem Zt0 (T:List UInt8) {i:Nat} (h:T.length<=i) (h2:i<2*T.length):bt T i=(T.getD (i-T.length) 0).toNat:=by
 unfold bt;rw [Nat.mod_eq_sub_mod h,Nat.mod_eq_of_lt (by omega)]
theorem Zwr (T:List UInt8) (i t:Nat):bt T (i % T.length+t)=bt T (i+t):=by unfold bt;rw [Nat.mod_add_mod]
theorem ZaU (T:List UInt8) {i j:Nat} (hi:i<=T.length) (hj:j<T.length):((rot T i).getD j 0).toNat=bt T (i+j):=by
 unfold rot;by_cases h:i+j<T.length
 ·rw [ZqX T h,List.getD_eq_getElem?_getD,List.getElem?_append_left (by rw [List.length_drop];omega),List.getElem?_drop,List.getD_eq_getElem?_getD]
 ·rw [Zt0 T (by omega) (by omega),List.getD_eq_getElem?_getD,List.getElem?_append_right (by rw [List.length_drop];omega),List.length_drop,List.getElem?_take_of_lt (by omega),List.getD_eq_getElem?_getD];congr 3;omega
theorem eqH.mono {T:List UInt8} {H G i k:Nat} (h:eqH T H i k) (hg:G<=H):eqH T G i k:=fun t ht=>h t (by omega)
theorem eqH.more {T:List UInt8} {H i k:Nat} (h:eqH T H i k) (e:bt T (i+H)=bt T (k+H)):eqH T (H+1) i k:=fun t ht=>by
 by_cases h1:t<H
 ·exact h t h1
 ·obtain rfl:t=H:=by omega
  exact e
theorem ltH.mono {T:List UInt8} {H G i k:Nat} (h:ltH T H i k) (hg:H<=G):ltH T G i k:=by
 obtain⟨t,h1,h2⟩:=h;exact⟨t,by omega,h2⟩
theorem ltH.noteq {T:List UInt8} {H i k:Nat} (h:ltH T H i k):¬eqH T H i k:=fun e=>by
 obtain⟨t,h1,h2,h3⟩:=h;have:=e t h1;omega
theorem ltH.asym {T:List UInt8} {H i k:Nat} (h:ltH T H i k):¬ltH T H k i:=fun g=>by
 obtain⟨t,h1,h2,h3⟩:=h;obtain⟨u,g1,g2,g3⟩:=g;rcases Nat.lt_trichotomy t u with c|rfl|c
 ·have:=g2 t c;omega
 ·omega
 ·have:=h2 u c;omega
theorem ZuQ (T:List UInt8) (i k:Nat):∀H,ltH T H i k\/eqH T H i k\/ltH T H k i
 | 0=>Or.inr (Or.inl fun t ht=>by omega)
 | H+1=>by
  rcases ZuQ T i k H with h|h|h
  ·exact Or.inl (h.mono (by omega))
  ·rcases Nat.lt_trichotomy (bt T (i+H)) (bt T (k+H)) with c|c|c
   ·exact Or.inl ⟨H,by omega,h,c⟩
   ·exact Or.inr (Or.inl (h.more c))
   ·exact Or.inr (Or.inr ⟨H,by omega,h.symm,c⟩)
  ·exact Or.inr (Or.inr (h.mono (by omega)))
theorem Zwu {T:List UInt8} {i k:Nat} (h:eqH T T.length i k) (t:Nat):bt T (i+t)=bt T (k+t):=by
 by_cases hn:0<T.length
 ·have e:∀x,bt T (x+t)=bt T (x+t % T.length):=fun x=>by unfold bt;rw [Nat.add_mod_mod]
  rw [e i,e k];exact h _ (Nat.mod_lt _ hn)
 ·unfold bt;have:T=[]:=List.eq_nil_of_length_eq_zero (by omega);subst this;rfl
theorem ZwG {T:List UInt8} {H G i k:Nat} (h:eqH T H i k) (hn:T.length<=H):eqH T G i k:=fun t _=>Zwu (h.mono hn) t
theorem Zwc {T:List UInt8} {H i k:Nat} (h:ltH T H i k):ltH T T.length i k:=by
 rcases ZuQ T i k T.length with g|g|g
 ·exact g
 ·exact absurd (ZwG g (Nat.le_refl _)) h.noteq
 ·exfalso
  obtain⟨t,h1,h2,h3⟩:=h;obtain⟨u,g1,g2,g3⟩:=g;rcases Nat.lt_trichotomy t u with c|rfl|c
  ·have:=g2 t c;omega
  ·omega
  ·have:=h2 u c;omega
theorem Zwv {T:List UInt8} {H G i k:Nat}:eqH T (H+G) i k↔eqH T H i k/\eqH T G (i+H) (k+H):=by
 constructor
 ·intro h;exact⟨h.mono (by omega),fun t ht=>by have:=h (H+t) (by omega);rwa [Nat.add_assoc,Nat.add_assoc]⟩
 ·rintro⟨h,g⟩ t ht;by_cases c:t<H
  ·exact h t c
  ·have:=g (t-H) (by omega)
   rwa [Nat.add_assoc,Nat.add_assoc,show H+(t-H)=t by omega] at this
theorem Zww {T:List UInt8} {H G i k:Nat}:ltH T (H+G) i k↔ltH T H i k\/(eqH T H i k/\ltH T G (i+H) (k+H)):=by
 constructor
 ·rintro⟨t,h1,h2,h3⟩;by_cases c:t<H
  ·exact Or.inl ⟨t,c,h2,h3⟩
  ·refine Or.inr ⟨h2.mono (by omega),t-H,by omega,fun u hu=>?_,?_⟩
   ·have:=h2 (H+u) (by omega);rwa [Nat.add_assoc,Nat.add_assoc]
   ·rwa [Nat.add_assoc,Nat.add_assoc,show H+(t-H)=t by omega]
 ·rintro(h|⟨h,t,g1,g2,g3⟩)
  ·exact h.mono (by omega)
  ·refine⟨H+t,by omega,Zwv.2 ⟨h,g2⟩,?_⟩
   rwa [Nat.add_assoc,Nat.add_assoc] at g3
theorem Zwx (T:List UInt8) (H i k:Nat):eqH T H (i % T.length) (k % T.length)↔eqH T H i k:=by
 unfold eqH;simp only [Zwr]
theorem Zwy (T:List UInt8) (H i k:Nat):ltH T H (i % T.length) (k % T.length)↔ltH T H i k:=by
 unfold ltH;simp only [Zwr,Zwx]
theorem Zks:∀(r s:List UInt8),r.length=s.length->((∀t,t<r.length->(r.getD t 0).toNat=(s.getD t 0).toNat)↔r=s)/\((∃t,t<r.length/\(∀u,u<t->(r.getD u 0).toNat=(s.getD u 0).toNat)/\(r.getD t 0).toNat<(s.getD t 0).toNat)↔lle r s/\r≠s)
 | [],[],_=>⟨⟨fun _=>rfl,fun _ t ht=>by simp at ht⟩,⟨fun⟨t,ht,_⟩=>by simp at ht,fun h=>absurd rfl h.2⟩⟩
 | [],_::_,h=>by simp at h
 | _::_,[],h=>by simp at h
 | a::r,b::s,h=>by
  obtain⟨i1,i2⟩:=Zks r s (by simpa using h);have hab:a.toNat=b.toNat↔a=b:=UInt8.toNat_inj;constructor
  ·constructor
   ·intro g;have g0:=g 0 (by simp);rw [(hab.1 (by simpa using g0)),i1.1 (fun t ht=>by simpa using g (t+1) (by simpa using ht))]
   ·rintro⟨rfl,rfl⟩ t _;rfl
  ·constructor
   ·rintro⟨t,ht,g1,g2⟩;cases t with
    | zero=>
     simp at g2;exact⟨Or.inl g2,fun e=>by injection e with e1 _;subst e1;omega⟩
    | succ t=>
     have g0:=hab.1 (by simpa using g1 0 (by omega));obtain⟨j1,j2⟩:=i2.1 ⟨t,by simpa using ht,fun u hu=>by simpa using g1 (u+1) (by omega),by simpa using g2⟩;exact⟨Or.inr ⟨g0,j1⟩,fun e=>by injection e with _ e2;exact j2 e2⟩
   ·rintro⟨g|⟨rfl,g⟩,hne⟩
    ·exact⟨0,by simp,fun u hu=>by omega,by simpa using g⟩
    ·obtain⟨t,ht,g1,g2⟩:=i2.2 ⟨g,fun e=>hne (by rw [e])⟩;refine⟨t+1,by simpa using ht,fun u hu=>?_,by simpa using g2⟩;cases u with
     | zero=>simp
     | succ u=>simpa using g1 u (by omega)
theorem ZsX {T:List UInt8} {i k:Nat} (hi:i<=T.length) (hk:k<=T.length):eqH T T.length i k↔rot T i=rot T k:=by
 have:=(Zks (rot T i) (rot T k) (by rw [Zeh T i hi,Zeh T k hk])).1;rw [<-this,Zeh T i hi];unfold eqH;constructor
 ·intro h t ht;rw [ZaU T hi ht,ZaU T hk ht];exact h t ht
 ·intro h t ht;have:=h t ht;rwa [ZaU T hi ht,ZaU T hk ht] at this
theorem ZsY {T:List UInt8} {i k:Nat} (hi:i<=T.length) (hk:k<=T.length):ltH T T.length i k↔lle (rot T i) (rot T k)/\rot T i≠rot T k:=by
 have:=(Zks (rot T i) (rot T k) (by rw [Zeh T i hi,Zeh T k hk])).2;rw [<-this,Zeh T i hi];unfold ltH eqH;constructor
 ·rintro⟨t,h1,h2,h3⟩;exact⟨t,h1,fun u hu=>by rw [ZaU T hi (by omega),ZaU T hk (by omega)];exact h2 u hu,by rw [ZaU T hi h1,ZaU T hk h1];exact h3⟩
 ·rintro⟨t,h1,h2,h3⟩;exact⟨t,h1,fun u hu=>by have:=h2 u hu;rwa [ZaU T hi (by omega),ZaU T hk (by omega)] at this,by rwa [ZaU T hi h1,ZaU T hk h1] at h3⟩
theorem Zpn {T:List UInt8} {i k:Nat} (hi:i<=T.length) (hk:k<=T.length):Ahead T i k↔ltH T T.length i k\/(eqH T T.length i k/\i<k):=by
 unfold Ahead;rw [ZsY hi hk,ZsX hi hk]
end BwtM
end
section
namespace BwtM
open Go.RowKit
theorem Zum {n:Nat} {P:List Nat} (h:P.Perm (List.range n)):P.length=n:=by rw [h.length_eq,List.length_range]
theorem Zuk {n:Nat} {P:List Nat} (h:P.Perm (List.range n)) {j:Nat} (hj:j<n):P.getD j 0<n:=by
 have hl:=Zum h;have:P.getD j 0∈P:=by rw [List.getD_eq_getElem?_getD,List.getElem?_eq_getElem (by omega)];exact List.getElem_mem _
 exact List.mem_range.1 (h.mem_iff.1 this)
end BwtM
end
section
namespace SrtM
open Go.RowKit BwtM
theorem Zuu {n:Nat} (h:n<2):passS n=1:=by rw [passS];simp [h]
theorem ZuR {n:Nat} (h:2<=n):passS n=1+passS (n / 2)+passS (n-n / 2)+n / 2+n:=by
 conv=>lhs;rw [passS]
 simp [show ¬n<2 by omega]
theorem Zvb (n:Nat):1<=passS n:=by
 by_cases h:n<2
 ·rw [Zuu h];exact Nat.le_refl _
 ·rw [ZuR (by omega)];omega
theorem Zu6:∀(n b:Nat),1<=n->n<=2^b->passS n<=n*(3+3*b)
 | n,0,h1,h2=>by
  obtain rfl:n=1:=by simp at h2;omega
  rw [Zuu (by omega)];decide
 | n,b+1,h1,h2=>by
  by_cases h:n<2
  ·obtain rfl:n=1:=by omega
   rw [Zuu (by omega)];omega
  ·have e:2^(b+1)=2*2^b:=by rw [Nat.pow_succ,Nat.mul_comm]
   rw [e] at h2;have i1:=Zu6 (n / 2) b (by omega) (by omega);have i2:=Zu6 (n-n / 2) b (by omega) (by omega);rw [ZuR (by omega)]
   have e2:n*(3+3*(b+1))=(n / 2)*(3+3*b)+(n-n / 2)*(3+3*b)+3*n:=by
    rw [<-Nat.add_mul,show n / 2+(n-n / 2)=n by omega,show 3+3*(b+1)=(3+3*b)+3 by omega,Nat.mul_add n (3+3*b) 3,Nat.mul_comm n 3]
   rw [e2];omega
theorem ZuS (K:Nat->Nat) (l:List Nat):mrg K l []=l:=by simp [mrg]
theorem Zws {K:Nat->Nat} {a b:Nat} (l r:List Nat) (h:K a<=K b):mrg K (a::l) (b::r)=a::mrg K l (b::r):=by simp [mrg,h]
def Lt (K:Nat->Nat) (x y:Nat):Prop:=K x<K y\/(K x=K y/\x<y)
theorem Lt.le {K:Nat->Nat} {x y:Nat} (h:Lt K x y):K x<=K y:=by rcases h with h|h<;>omega
theorem ZuH (K:Nat->Nat):∀(l r:List Nat),l.Pairwise (Lt K)->r.Pairwise (Lt K)->(∀x∈l,∀y∈r,K x=K y->x<y)->(mrg K l r).Pairwise (Lt K)
 | [],r,_,h,_=>by rw [ZoV];exact h
 | a::l,[],h,_,_=>by rw [ZuS];exact h
 | a::l,b::r,hl,hr,hx=>by
  obtain⟨hl1,hl2⟩:=List.pairwise_cons.1 hl;obtain⟨hr1,hr2⟩:=List.pairwise_cons.1 hr;by_cases h:K a<=K b
  ·rw [Zws l r h];refine List.pairwise_cons.2 ⟨fun y hy=>?_,ZuH K l (b::r) hl2 hr (fun x h1 y h2=>hx x (List.mem_cons_of_mem _ h1) y h2)⟩;rcases List.mem_append.1 ((ZqY K l (b::r)).mem_iff.1 hy) with hy|hy
   ·exact hl1 y hy
   ·have h2:K b<=K y:=by
     rcases List.mem_cons.1 hy with rfl|hy2
     ·exact Nat.le_refl _
     ·exact(hr1 y hy2).le
    by_cases e:K a=K y
    ·exact Or.inr ⟨e,hx a (List.mem_cons_self ..) y hy e⟩
    ·exact Or.inl (by omega)
  ·rw [ZtG l r h];refine List.pairwise_cons.2 ⟨fun y hy=>?_,ZuH K (a::l) r hl hr2 (fun x h1 y h2=>hx x h1 y (List.mem_cons_of_mem _ h2))⟩;rcases List.mem_append.1 ((ZqY K (a::l) r).mem_iff.1 hy) with hy|hy
   ·have h2:K a<=K y:=by
     rcases List.mem_cons.1 hy with rfl|hy2
     ·exact Nat.le_refl _
     ·exact(hl1 y hy2).le
    exact Or.inl (by omega)
   ·exact hr1 y hy
termination_by l r=>l.length+r.length
def msort (K:Nat->Nat) (l:List Nat):List Nat:=if h:l.length<2 then l else mrg K (msort K (l.take (l.length / 2))) (msort K (l.drop (l.length / 2)))
termination_by l.length
decreasing_by
 ·rw [List.length_take];omega
 ·rw [List.length_drop];omega
theorem ZuB {K:Nat->Nat} {l:List Nat} (h:l.length<2):msort K l=l:=by rw [msort];simp [h]
theorem ZuT {K:Nat->Nat} {l:List Nat} (h:2<=l.length):msort K l=mrg K (msort K (l.take (l.length / 2))) (msort K (l.drop (l.length / 2))):=by
 conv=>lhs;rw [msort]
 simp [show ¬l.length<2 by omega]
theorem Zun (K:Nat->Nat):∀(m:Nat) (l:List Nat),l.length<=m->(msort K l).Perm l
 | m,l,hm=>by
  by_cases h:l.length<2
  ·rw [ZuB h]
  ·match m,hm with
   | 0,hm=>omega
   | m+1,hm=>
    rw [ZuT (by omega)];refine(ZqY ..).trans ?_
    conv=>rhs;rw [<-List.take_append_drop (l.length / 2) l]
    exact(Zun K m _ (by rw [List.length_take];omega)).append (Zun K m _ (by rw [List.length_drop];omega))
theorem Zur (K:Nat->Nat) (l:List Nat):(msort K l).length=l.length:=(Zun K _ l (Nat.le_refl _)).length_eq
theorem Zux (K:Nat->Nat):∀(m:Nat) (l:List Nat),l.length<=m->l.Pairwise (fun x y=>K x=K y->x<y)->(msort K l).Pairwise (Lt K)
 | m,l,hm,hp=>by
  by_cases h:l.length<2
  ·rw [ZuB h]
   match l,h with
   | [],_=>exact List.Pairwise.nil
   | [x],_=>exact List.pairwise_singleton _ _
   | _::_::_,h=>simp at h;omega
  ·match m,hm with
   | 0,hm=>omega
   | m+1,hm=>
    rw [ZuT (by omega)];have hp2:=hp;rw [<-List.take_append_drop (l.length / 2) l,List.pairwise_append] at hp2;obtain⟨h1,h2,h3⟩:=hp2;refine ZuH K _ _ (Zux K m _ (by rw [List.length_take];omega) h1) (Zux K m _ (by rw [List.length_drop];omega) h2) (fun x hx y hy=>?_);exact h3 x ((Zun K _ _ (Nat.le_refl _)).mem_iff.1 hx) y ((Zun K _ _ (Nat.le_refl _)).mem_iff.1 hy)
theorem MrgAt.start (K:Nat->Nat) (X Y:List Nat):MrgAt K X Y 0 0:=⟨Nat.zero_le _,Nat.zero_le _,by simp⟩
theorem MrgAt.first {K:Nat->Nat} {X Y:List Nat} {f s:Nat} (h:MrgAt K X Y f s) (hf:f<X.length) (hc:s=Y.length\/K (X.getD f 0)<=K (Y.getD s 0)):(mrg K X Y).getD (f+s) 0=X.getD f 0/\MrgAt K X Y (f+1) s:=by
 have he:=h.eq
 have h2:mrg K (X.drop f) (Y.drop s)=X.getD f 0::mrg K (X.drop (f+1)) (Y.drop s):=by
  rw [ZoX hf];by_cases e:s=Y.length
  ·rw [e,List.drop_length,ZuS,ZuS]
  ·have hs:s<Y.length:=by have:=h.sl;omega
   rw [ZoX hs];exact Zws _ _ (hc.resolve_left e)
 rw [h2] at he;obtain⟨e1,e2⟩:=ZoW he;exact⟨e1,by omega,h.sl,by rw [show f+1+s=f+s+1 by omega];exact e2⟩
def opP (K:Nat->Nat) (p:Part) (A:List Nat):List Nat:=
 A.take p.lo++(if p.begun then mrg K ((A.drop p.lo).take (p.mid-p.lo)) ((A.drop p.mid).take (p.hi-p.mid)) else msort K ((A.drop p.lo).take (p.hi-p.lo)))++A.drop p.hi
theorem ZuU {K:Nat->Nat} {P X Q:List Nat} {lo hi:Nat} (h1:P.length=lo) (h2:lo+X.length=hi):opP K ⟨lo,hi,false⟩ (P++X++Q)=P++msort K X++Q:=by
 unfold opP;simp only [Bool.false_eq_true,if_false];have e1:(P++X++Q).take lo=P:=by rw [List.append_assoc,<-h1,List.take_left]
 have e2:(P++X++Q).drop lo=X++Q:=by rw [List.append_assoc,<-h1,List.drop_left]
 have e3:(P++X++Q).drop hi=Q:=by rw [<-h2,<-h1,<-List.length_append,List.drop_left]
 have e4:(X++Q).take (hi-lo)=X:=by rw [show hi-lo=X.length by omega,List.take_left]
 rw [e1,e2,e3,e4]
theorem Zwd {K:Nat->Nat} {P X Y Q:List Nat} {lo hi:Nat} (h1:P.length=lo) (h2:(⟨lo,hi,true⟩:Part).mid=lo+X.length) (h3:lo+X.length+Y.length=hi):opP K ⟨lo,hi,true⟩ (P++(X++Y)++Q)=P++mrg K X Y++Q:=by
 unfold opP;simp only [if_true,h2];have e1:(P++(X++Y)++Q).take lo=P:=by rw [List.append_assoc,<-h1,List.take_left]
 have e2:(P++(X++Y)++Q).drop lo=X++(Y++Q):=by rw [List.append_assoc,<-h1,List.drop_left,List.append_assoc]
 have e3:(P++(X++Y)++Q).drop hi=Q:=by rw [<-h3,<-h1,show P.length+X.length+Y.length=(P++(X++Y)).length by simp;omega,List.drop_left]
 have e4:(X++(Y++Q)).take (lo+X.length-lo)=X:=by rw [show lo+X.length-lo=X.length by omega,List.take_left]
 have e5:(P++(X++Y)++Q).drop (lo+X.length)=Y++Q:=by rw [<-h1,show P++(X++Y)++Q=(P++X)++(Y++Q) by simp,show P.length+X.length=(P++X).length by simp,List.drop_left]
 have e6:(Y++Q).take (hi-(lo+X.length))=Y:=by rw [show hi-(lo+X.length)=Y.length by omega,List.take_left]
 rw [e1,e2,e3,e4,e5,e6]
theorem Zwe {K:Nat->Nat} {A:List Nat} {lo hi:Nat} (h1:lo<=hi) (h2:hi<=A.length) (h3:hi-lo<2):opP K ⟨lo,hi,false⟩ A=A:=by
 have e:A=A.take lo++(A.drop lo).take (hi-lo)++A.drop hi:=by
  conv=>lhs;rw [<-List.take_append_drop lo A,<-List.take_append_drop (hi-lo) (A.drop lo),List.drop_drop,show lo+(hi-lo)=hi by omega]
  rw [List.append_assoc]
 conv=>lhs;rw [e]
 rw [ZuU (by rw [List.length_take];omega) (by rw [List.length_take,List.length_drop];omega),ZuB (by rw [List.length_take];omega),<-e]
theorem ZuM (lo hi:Nat) (b:Bool) (h:lo<=hi):(⟨lo,hi,b⟩:Part).mid=lo+(hi-lo) / 2:=by
 show(lo+hi) / 2=_;omega
theorem ZvP {K:Nat->Nat} {A:List Nat} {lo hi:Nat} (h1:lo+2<=hi) (h2:hi<=A.length) :
  opP K ⟨lo,hi,true⟩ (opP K ⟨lo+(hi-lo) / 2,hi,false⟩ (opP K ⟨lo,lo+(hi-lo) / 2,false⟩ A))=opP K ⟨lo,hi,false⟩ A:=by
 obtain⟨P,X,Q,rfl,hP,hX⟩:∃P X Q,A=P++X++Q/\P.length=lo/\X.length=hi-lo:=⟨A.take lo,(A.drop lo).take (hi-lo),A.drop hi,by
  conv=>lhs;rw [<-List.take_append_drop lo A,<-List.take_append_drop (hi-lo) (A.drop lo),List.drop_drop,show lo+(hi-lo)=hi by omega]
  rw [List.append_assoc],by rw [List.length_take];omega,by rw [List.length_take,List.length_drop];omega⟩
 have ha:(X.take (X.length / 2)).length=(hi-lo) / 2:=by rw [List.length_take,hX];omega
 have hb:(X.drop (X.length / 2)).length=(hi-lo)-(hi-lo) / 2:=by rw [List.length_drop,hX]
 have e1:opP K ⟨lo,hi,false⟩ (P++X++Q)=P++msort K X++Q:=ZuU hP (by omega)
 have e0:P++X++Q=P++X.take (X.length / 2)++(X.drop (X.length / 2)++Q):=by
  rw [List.append_assoc P (X.take _),<-List.append_assoc (X.take _),List.take_append_drop,List.append_assoc]
 have e2:opP K ⟨lo,lo+(hi-lo) / 2,false⟩ (P++X++Q)=P++msort K (X.take (X.length / 2))++(X.drop (X.length / 2)++Q):=by
  rw [e0];exact ZuU hP (by rw [ha])
 have e3:opP K ⟨lo+(hi-lo) / 2,hi,false⟩ (P++msort K (X.take (X.length / 2))++(X.drop (X.length / 2)++Q))=(P++msort K (X.take (X.length / 2)))++msort K (X.drop (X.length / 2))++Q:=by
  rw [<-List.append_assoc];exact ZuU (by rw [List.length_append,Zur,hP,ha]) (by rw [hb];omega)
 rw [e1,e2,e3,List.append_assoc P];rw [Zwd hP (by rw [ZuM _ _ _ (by omega),Zur,ha]) (by rw [Zur,Zur,ha,hb];omega),ZuT (l:=X) (by omega)]
def runAll (K:Nat->Nat) (stk:List Part) (A:List Nat):List Nat:=stk.foldl (fun A p=>opP K p A) A
theorem Zvp (K:Nat->Nat) (p:Part) (stk:List Part) (A:List Nat):runAll K (p::stk) A=runAll K stk (opP K p A):=rfl
theorem ZvA (K:Nat->Nat) (A:List Nat):opP K ⟨0,A.length,false⟩ A=msort K A:=by
 have:=ZuU (K:=K) (P:=[]) (X:=A) (Q:=[]) (lo:=0) (hi:=A.length) rfl (by omega);simpa using this
end SrtM
end
section
namespace SrtM
open Go.RowKit BwtM
theorem KeyH.eq {T:List UInt8} {H:Nat} {K:Nat->Nat} (h:KeyH T H K) {i k:Nat} (hi:i<T.length) (hk:k<T.length):K i=K k↔eqH T H i k:=by
 have h1:=h i k hi hk;have h2:=h k i hk hi;constructor
 ·intro e;rcases ZuQ T i k H with g|g|g
  ·have:=h1.2 g;omega
  ·exact g
  ·have:=h2.2 g;omega
 ·intro e;have a:¬K i<K k:=fun g=>(h1.1 g).noteq e
  have b:¬K k<K i:=fun g=>(h2.1 g).noteq e.symm
  omega
theorem KeyH.first (T:List UInt8):KeyH T 1 (bt T):=fun i k _ _=>by
 constructor
 ·intro h;exact⟨0,by omega,fun t ht=>by omega,h⟩
 ·rintro⟨t,ht,_,h⟩;obtain rfl:t=0:=by omega
  exact h
def keyC (n h:Nat) (C:Nat->Nat) (i:Nat):Nat:=C i*n+C ((i+h) % n)
theorem Zu2 {a b c n:Nat} (hb:b<n):a<c->a*n+b<c*n:=fun h=>by
 have:=Nat.mul_le_mul_right n (show a+1<=c from h);rw [Nat.add_mul,Nat.one_mul] at this;omega
theorem KeyH.twice {T:List UInt8} {h:Nat} {C:Nat->Nat} (hC:KeyH T h C) (hb:∀i,i<T.length->C i<T.length):KeyH T (h+h) (keyC T.length h C):=fun i k hi hk=>by
 have hn:0<T.length:=by omega
 have h1:=Nat.mod_lt (i+h) hn;have h2:=Nat.mod_lt (k+h) hn;have l1:=hC i k hi hk;have e1:=hC.eq hi hk;have l2:=hC _ _ h1 h2;rw [Zwy] at l2;rw [Zww,<-l1,<-e1,<-l2];unfold keyC;have b1:=hb _ h1;have b2:=hb _ h2;constructor
 ·intro g;rcases Nat.lt_trichotomy (C i) (C k) with c|c|c
  ·exact Or.inl c
  ·rw [c] at g;exact Or.inr ⟨c,by omega⟩
  ·have:=Zu2 b2 c;omega
 ·rintro(c|⟨c,g⟩)
  ·have:=Zu2 b1 c;omega
  ·rw [c];omega
theorem Zwf (n h:Nat) (C:Nat->Nat) (i:Nat):keyC n (h % n) C i=keyC n h C i:=by
 unfold keyC;rw [Nat.add_mod_mod]
theorem ZuC {T:List UInt8} {H:Nat} {P:List Nat} (h:SortH T H P) {i:Nat} (hi:i∈P):i<T.length:=List.mem_range.1 (h.1.mem_iff.1 hi)
theorem Zu3 {T:List UInt8} {G H:Nat} {K:Nat->Nat} {A:List Nat} (hK:KeyH T H K) (hA:A.Perm (List.range T.length)) (hs:A.Pairwise (fun x y=>K x=K y->x<y)):SortH T H (msort K A):=by
 have hp:=Zun K _ A (Nat.le_refl _);have hs2:=Zux K _ A (Nat.le_refl _) hs;refine⟨hp.trans hA,?_⟩;have hm:∀x∈msort K A,x<T.length:=fun x hx=>List.mem_range.1 (hA.mem_iff.1 (hp.mem_iff.1 hx))
 refine List.Pairwise.imp_of_mem (fun {x y} hx hy h=>?_) hs2;rcases h with h|⟨h,h2⟩
 ·exact Or.inl ((hK x y (hm x hx) (hm y hy)).1 h)
 ·exact Or.inr ⟨(hK.eq (hm x hx) (hm y hy)).1 h,h2⟩
theorem Zvc {T:List UInt8} {G H:Nat} {K:Nat->Nat} {A:List Nat} (hA:SortH T G A) (hGH:G<=H) (hK:KeyH T H K):A.Pairwise (fun x y=>K x=K y->x<y):=by
 refine List.Pairwise.imp_of_mem (fun {x y} hx hy h e=>?_) hA.2;have he:=((hK.eq (ZuC hA hx) (ZuC hA hy)).1 e).mono hGH;rcases h with h|h
 ·exact absurd he h.noteq
 ·exact h.2
theorem Zvd {K:Nat->Nat} (n:Nat):(List.range n).Pairwise (fun x y=>K x=K y->x<y):=List.Pairwise.imp (S:=fun x y=>K x=K y->x<y) (fun h _=>h) List.pairwise_lt_range
theorem ZvF {T:List UInt8} {H:Nat} {P:List Nat} (h:SortH T H P) (hd:T.length<=H\/∀i k,i<T.length->k<T.length->i≠k->¬eqH T H i k):ZlG T P:=by
 refine⟨h.1,List.Pairwise.imp_of_mem (fun {x y} hx hy g=>?_) h.2⟩;have hx2:=ZuC h hx;have hy2:=ZuC h hy;rw [Zpn (by omega) (by omega)];rcases g with g|⟨g,g2⟩
 ·exact Or.inl (Zwc g)
 ·rcases hd with hd|hd
  ·exact Or.inr ⟨g.mono hd,g2⟩
  ·exact absurd g (hd x y hx2 hy2 (by omega))
theorem ZvQ (K:Nat->Nat) (P:List Nat):∀j,cN K P j<=j
 | 0=>Nat.le_refl _
 | j+1=>by
  have:=ZvQ K P j;unfold cN;split<;>omega
theorem Zvq (K:Nat->Nat) (P:List Nat) (j:Nat):cN K P j<=cN K P (j+1)/\cN K P (j+1)<=cN K P j+1/\(cN K P j=cN K P (j+1)↔K (P.getD (j+1) 0)=K (P.getD j 0)):=by
 rw [show cN K P (j+1)=if K (P.getD (j+1) 0)=K (P.getD j 0) then cN K P j else cN K P j+1 from rfl];split
 ·exact⟨by omega,by omega,⟨fun _=>by assumption,fun _=>rfl⟩⟩
 ·exact⟨by omega,by omega,⟨fun h=>by omega,fun h=>absurd h (by assumption)⟩⟩
theorem Zvr (K:Nat->Nat) (P:List Nat) (j:Nat):∀d,cN K P j<=cN K P (j+d)
 | 0=>Nat.le_refl _
 | d+1=>Nat.le_trans (Zvr K P j d) (Zvq K P (j+d)).1
theorem Zwz {K:Nat->Nat} {P:List Nat} (h:∀i,i+1<P.length->K (P.getD i 0)<=K (P.getD (i+1) 0)) (j:Nat):∀d,j+d<P.length->K (P.getD j 0)<=K (P.getD (j+d) 0)/\(cN K P j<cN K P (j+d)↔K (P.getD j 0)<K (P.getD (j+d) 0))
 | 0,_=>⟨Nat.le_refl _,by simp⟩
 | d+1,hd=>by
  obtain⟨h1,h2⟩:=Zwz h j d (by omega);have h3:=h (j+d) (by omega);have h4:=Zvq K P (j+d);have h5:=Zvr K P j d;rw [show j+(d+1)=j+d+1 by omega];refine⟨Nat.le_trans h1 h3,?_⟩;by_cases e:K (P.getD (j+d+1) 0)=K (P.getD (j+d) 0)
  ·rw [<-h4.2.2.2 e,e];exact h2
  ·have:cN K P (j+d+1)≠cN K P (j+d):=fun g=>e (h4.2.2.1 g.symm)
   constructor<;>intro _<;>omega
theorem ZwA {K:Nat->Nat} {P:List Nat} (h:∀i,i+1<P.length->K (P.getD i 0)<=K (P.getD (i+1) 0)) {i k:Nat} (hi:i<P.length) (hk:k<P.length):cN K P i<cN K P k↔K (P.getD i 0)<K (P.getD k 0):=by
 by_cases c:i<=k
 ·obtain⟨d,rfl⟩:=Nat.exists_eq_add_of_le c;exact(Zwz h i d hk).2
 ·obtain⟨d,rfl⟩:=Nat.exists_eq_add_of_le (show k<=i by omega);have h1:=(Zwz h k d hi).1;have h2:=Zvr K P k d;constructor<;>intro _<;>omega
theorem ZwH {K:Nat->Nat} {P:List Nat} {n:Nat} (hn:0<n):cN K P (n-1)=n-1↔∀i,i+1<n->K (P.getD (i+1) 0)≠K (P.getD i 0):=by
 have key:∀m,cN K P m=m↔∀i,i<m->K (P.getD (i+1) 0)≠K (P.getD i 0):=fun m=>by
  induction m with
  | zero=>exact⟨fun _ i h=>by omega,fun _=>rfl⟩
  | succ m ih=>
   have h1:=Zvq K P m;have h2:=ZvQ K P m;constructor
   ·intro h i hi;rcases Nat.lt_or_ge i m with g|g
    ·exact ih.1 (by omega) i g
    ·obtain rfl:i=m:=by omega
     intro e;have:=h1.2.2.2 e;omega
   ·intro h;have h3:=ih.2 (fun i hi=>h i (by omega));have h4:cN K P m≠cN K P (m+1):=fun e=>h m (by omega) (h1.2.2.1 e)
    omega
 rw [key];exact⟨fun h i hi=>h i (by omega),fun h i hi=>h i (by omega)⟩
theorem NumAt.start (K:Nat->Nat) (P C:List Nat):NumAt K P C 0:=fun j h=>by omega
theorem NumAt.next {K:Nat->Nat} {P C:List Nat} {m n:Nat} (h:NumAt K P C m) (hP:P.Perm (List.range n)) (hm:m<n) (hC:C.length=n):NumAt K P (C.set (P.getD m 0) (cN K P m)) (m+1):=fun j hj=>by
 have hl:=Zum hP;have hd:P.Nodup:=hP.nodup_iff.2 List.nodup_range;have hg:∀i,i<n->P.getD i 0=P.getD i 0:=fun _ _=>rfl
 rw [List.getD_eq_getElem?_getD,List.getElem?_set];by_cases e:P.getD m 0=P.getD j 0
 ·have ejm:j=m:=by
   have h1:P[m]?=P[j]?:=by
    have hm2:m<P.length:=by omega
    have hj2:j<P.length:=by omega
    rw [List.getElem?_eq_getElem hm2,List.getElem?_eq_getElem hj2];rw [List.getD_eq_getElem?_getD,List.getD_eq_getElem?_getD,List.getElem?_eq_getElem hm2,List.getElem?_eq_getElem hj2] at e;exact congrArg some e
   exact((List.getElem?_inj (by omega) hd).1 h1).symm
  subst ejm;rw [if_pos e,if_pos (by rw [hC];exact Zuk hP (by omega))];rfl
 ·rw [if_neg e,<-List.getD_eq_getElem?_getD]
  exact h j (by
   have:j≠m:=fun g=>e (by rw [g])
   omega)
theorem Zuv {T:List UInt8} {H:Nat} {K:Nat->Nat} {P C:List Nat} (hK:KeyH T H K) (hP:SortH T H P) (hN:NumAt K P C T.length):KeyH T H (fun i=>C.getD i 0)/\∀i,i<T.length->C.getD i 0<T.length:=by
 have hl:=Zum hP.1
 have hle:∀i,i+1<P.length->K (P.getD i 0)<=K (P.getD (i+1) 0):=fun i hi=>by
  have h1:=List.pairwise_iff_getElem.1 hP.2 i (i+1) (by omega) hi (by omega);have g1:P.getD i 0=P[i]'(by omega):=by rw [List.getD_eq_getElem?_getD,List.getElem?_eq_getElem (by omega)];rfl
  have g2:P.getD (i+1) 0=P[i+1]:=by rw [List.getD_eq_getElem?_getD,List.getElem?_eq_getElem hi];rfl
  rw [<-g1,<-g2] at h1;have b1:=Zuk hP.1 (j:=i) (by omega);have b2:=Zuk hP.1 (j:=i+1) (by omega);rcases h1 with h1|h1
  ·exact Nat.le_of_lt ((hK _ _ b1 b2).2 h1)
  ·rw [(hK.eq b1 b2).2 h1.1];exact Nat.le_refl _
 have rank:∀i,i<T.length->∃j,j<P.length/\P.getD j 0=i:=fun i hi=>by
  obtain⟨j,hj,e⟩:=List.getElem_of_mem (hP.1.mem_iff.2 (List.mem_range.2 hi));exact⟨j,hj,by rw [List.getD_eq_getElem?_getD,List.getElem?_eq_getElem hj];exact e⟩
 constructor
 ·intro i k hi hk;obtain⟨j,hj,rfl⟩:=rank i hi;obtain⟨m,hm,rfl⟩:=rank k hk;show C.getD _ 0<C.getD _ 0↔_;rw [hN j (by omega),hN m (by omega),ZwA hle hj hm];exact hK _ _ hi hk
 ·intro i hi;obtain⟨j,hj,rfl⟩:=rank i hi;rw [hN j (by omega)];have:=ZvQ K P j;omega
theorem ZuZ {T:List UInt8} {H:Nat} {K:Nat->Nat} {P C:List Nat} (hK:KeyH T H K) (hP:SortH T H P) (hN:NumAt K P C T.length) (hn:0<T.length) :
  C.getD (P.getD (T.length-1) 0) 0=T.length-1↔∀i k,i<T.length->k<T.length->i≠k->¬eqH T H i k:=by
 have hl:=Zum hP.1;rw [hN _ (by omega),ZwH hn];constructor
 ·intro h;have hcl:=(Zuv hK hP hN).1
  have hlt:∀i d,i+d+1<P.length->K (P.getD i 0)<K (P.getD (i+d+1) 0):=fun i d=>by
   have one:∀j,j+1<P.length->K (P.getD j 0)<K (P.getD (j+1) 0):=fun j hj=>by
    have h1:=List.pairwise_iff_getElem.1 hP.2 j (j+1) (by omega) hj (by omega);have g1:P.getD j 0=P[j]'(by omega):=by rw [List.getD_eq_getElem?_getD,List.getElem?_eq_getElem (by omega)];rfl
    have g2:P.getD (j+1) 0=P[j+1]:=by rw [List.getD_eq_getElem?_getD,List.getElem?_eq_getElem hj];rfl
    rw [<-g1,<-g2] at h1;have b1:=Zuk hP.1 (j:=j) (by omega);have b2:=Zuk hP.1 (j:=j+1) (by omega);rcases h1 with h1|h1
    ·exact(hK _ _ b1 b2).2 h1
    ·exact absurd ((hK.eq b1 b2).2 h1.1).symm (h j (by omega))
   induction d with
   | zero=>intro hd;exact one i hd
   | succ d ih=>intro hd;exact Nat.lt_trans (ih (by omega)) (one (i+d+1) hd)
  intro i k hi hk hne he;obtain⟨j,hj,rfl⟩:=List.getElem_of_mem (hP.1.mem_iff.2 (List.mem_range.2 hi));obtain⟨m,hm,rfl⟩:=List.getElem_of_mem (hP.1.mem_iff.2 (List.mem_range.2 hk));have g1:P.getD j 0=P[j]:=by rw [List.getD_eq_getElem?_getD,List.getElem?_eq_getElem hj];rfl
  have g2:P.getD m 0=P[m]:=by rw [List.getD_eq_getElem?_getD,List.getElem?_eq_getElem hm];rfl
  rw [<-g1,<-g2] at he;rw [<-g1] at hi;rw [<-g2] at hk;have e:=(hK.eq hi hk).2 he;rcases Nat.lt_trichotomy j m with c|c|c
  ·have:=hlt j (m-j-1) (by omega);rw [show j+(m-j-1)+1=m by omega] at this;omega
  ·subst c;exact hne rfl
  ·have:=hlt m (j-m-1) (by omega);rw [show m+(j-m-1)+1=j by omega] at this;omega
 ·intro h i hi e;have hd:P.Nodup:=hP.1.nodup_iff.2 List.nodup_range;have b1:=Zuk hP.1 (j:=i) (by omega);have b2:=Zuk hP.1 (j:=i+1) (by omega);refine h _ _ b2 b1 (fun g=>?_) ((hK.eq b2 b1).1 e)
  have h1:P[i+1]?=P[i]?:=by
   rw [List.getElem?_eq_getElem (by omega),List.getElem?_eq_getElem (show i<P.length by omega)];rw [List.getD_eq_getElem?_getD,List.getD_eq_getElem?_getD,List.getElem?_eq_getElem (show i+1<P.length by omega),List.getElem?_eq_getElem (show i<P.length by omega)] at g;exact congrArg some g
  have:=(List.getElem?_inj (by omega) hd).1 h1;omega
theorem Rem.one {T:List UInt8} {r m k:Nat} (h:Rem T r m):Rem T r k->m=k:=by
 induction h generalizing k with
 | done h=>
  intro g;cases g with
  | done _=>rfl
  | more g _=>exact absurd h g
 | more h _ ih=>
  intro g;cases g with
  | done g=>exact absurd g h
  | more _ g=>rw [ih g]
theorem ZvR (T:List UInt8):∀(d a:Nat),T.length<=2^(a+d)->∃m,m<=d/\Rem T (2^a) m
 | 0,a,h=>⟨0,Nat.le_refl _,.done (Or.inr h)⟩
 | d+1,a,h=>by
  by_cases e:Ends T (2^a)
  ·exact⟨0,by omega,.done e⟩
  ·obtain⟨m,hm,hr⟩:=ZvR T d (a+1) (by rw [show a+1+d=a+(d+1) by omega];exact h);refine⟨m+1,by omega,.more e ?_⟩;have hp:2^a≠0:=by have:=Nat.pow_pos (n:=a) (show 0<2 by omega);omega
   have eb:bytesBy (2^a)=2^(a+1):=by unfold bytesBy;rw [if_neg hp,Nat.pow_succ,Nat.mul_comm]
   rw [eb];exact hr
theorem ZvB (T:List UInt8) (b:Nat) (h:T.length<=2^b):∃m,m<=b+1/\Rem T 0 m:=by
 by_cases e:Ends T 0
 ·exact⟨0,by omega,.done e⟩
 ·obtain⟨m,hm,hr⟩:=ZvR T b 0 (by rw [Nat.zero_add];exact h);exact⟨m+1,by omega,.more e hr⟩
theorem Zwg {n b m:Nat} (h1:1<=n) (h2:n<=2^b) (hm:m<=b+1):each n*(m+1)<=n*(4+3*b)*(b+2):=by
 have h:=Zu6 n b h1 h2;refine Nat.mul_le_mul ?_ (by omega);unfold each;rw [show 4+3*b=(3+3*b)+1 by omega,Nat.mul_add n (3+3*b) 1];omega
end SrtM
end
section
namespace SrtM
open Go.RowKit BwtM
theorem ZwB {K:Nat->Nat} {p:Part} {A:List Nat} (h1:p.lo<=p.hi) (h2:p.hi<=A.length):(opP K p A).Perm A:=by
 obtain⟨lo,hi,b⟩:=p;simp only at h1 h2
 have e:A=A.take lo++(A.drop lo).take (hi-lo)++A.drop hi:=by
  conv=>lhs;rw [<-List.take_append_drop lo A,<-List.take_append_drop (hi-lo) (A.drop lo),List.drop_drop,show lo+(hi-lo)=hi by omega]
  rw [List.append_assoc]
 cases b with
 | false=>
  conv=>rhs;rw [e]
  unfold opP;simp only [Bool.false_eq_true,if_false];exact((Zun K _ _ (Nat.le_refl _)).append_left _).append_right _
 | true=>
  have hm:=ZuM lo hi true h1
  have e2:(A.drop lo).take (hi-lo)=(A.drop lo).take ((⟨lo,hi,true⟩:Part).mid-lo)++(A.drop (⟨lo,hi,true⟩:Part).mid).take (hi-(⟨lo,hi,true⟩:Part).mid):=by
   rw [hm]
   conv=>lhs;rw [<-List.take_append_drop (lo+(hi-lo) / 2-lo) ((A.drop lo).take (hi-lo))]
   rw [List.take_take,List.drop_take,List.drop_drop];congr 2
   ·omega
   ·omega
   ·congr 1;omega
  conv=>rhs;rw [e,e2]
  unfold opP;simp only [if_true];exact((ZqY K _ _).append_left _).append_right _
def TopAt (K:Nat->Nat) (S:SS) (A:List Nat) (p:Part):Prop:=
 (p.begun=false/\S.laid=0/\S.first=0/\S.second=0/\S.ord=A) \/
 (p.begun=true/\MrgAt K (segX A p) (segY A p) S.first S.second/\S.laid<=p.mid-p.lo/\(0<S.first+S.second->S.laid=p.mid-p.lo) /\
  S.ord=A.take p.lo++(mrg K (segX A p) (segY A p)).take (S.first+S.second)++A.drop (p.lo+(S.first+S.second))/\∀i,i<S.laid->S.asd.getD i 0=A.getD (p.lo+i) 0)
def Fits (n:Nat) (p:Part):Prop:=p.lo<=p.hi/\p.hi<=n/\(p.begun=true->p.lo+2<=p.hi)
structure Srt (T:List UInt8) (K:Nat->Nat) (S:SS) (ps:List Part) (p:Part) (A:List Nat) (m R:Nat):Prop where
 stk:S.ps=ps++[p]
 made:S.made=0
 perm:A.Perm (List.range T.length)
 goal:SortH T (bytesBy S.reach) (runAll K (p::ps.reverse) A)
 rem:Rem T S.reach m
 fits:∀q∈ps++[p],Fits T.length q
 top:TopAt K S A p
 left:R+(S.laid+S.first+S.second)=costs (ps++[p])+T.length+each T.length*m
theorem Zu4 (K:Nat->Nat) (ps:List Part) (p q:Part) (A:List Nat):runAll K (p::(ps++[q]).reverse) A=runAll K (q::ps.reverse) (opP K p A):=by rw [List.reverse_append];rfl
theorem Srt.pop {T:List UInt8} {K:Nat->Nat} {S S':SS} {ps:List Part} {p:Part} {A:List Nat} {m R R':Nat} (h:Srt T K S ps p A m R) (hps:S'.ps=ps) (hz:S'.laid=0/\S'.first=0/\S'.second=0) (hr:S'.reach=S.reach) (hm:S'.made=S.made)
  (ho:S'.ord=opP K p A) (hR2:R'=costs ps+T.length+each T.length*m) :
  (∃ps2 q,ps=ps2++[q]/\Srt T K S' ps2 q (opP K p A) m R')\/(ps=[]/\Num T K S' m R'):=by
 obtain⟨z1,z2,z3⟩:=hz;have hf:=h.fits p (by simp);have hpl:(opP K p A).Perm A:=ZwB hf.1 (by rw [Zum h.perm];exact hf.2.1);rcases List.eq_nil_or_concat ps with rfl|⟨ps2,q,rfl⟩
 ·right;refine⟨rfl,hps,⟨z1,z2,z3⟩,?_,?_,?_,by rw [hr];exact h.rem,?_⟩
  ·rw [hr,ho];exact h.goal
  ·rw [hm,h.made];exact NumAt.start _ _ _
  ·rw [hm,h.made];exact Nat.zero_le _
  ·rw [hm,h.made,hR2];simp [costs]
 ·left;rw [List.concat_eq_append] at *;refine⟨ps2,q,rfl,hps,by rw [hm,h.made],hpl.trans h.perm,?_,by rw [hr];exact h.rem,fun x hx=>h.fits x (List.mem_append_left _ hx),?_,?_⟩
  ·rw [hr];have:=h.goal;rw [Zu4] at this;exact this
  ·cases hb:q.begun with
   | false=>exact Or.inl ⟨hb,z1,z2,z3,ho⟩
   | true=>
    refine Or.inr ⟨hb,by rw [z2,z3];exact MrgAt.start _ _ _,by rw [z1];exact Nat.zero_le _,by rw [z2,z3];intro h;omega,?_,by rw [z1];intro i hi;omega⟩;rw [ho,z2,z3];simp
  ·rw [hR2,z1,z2,z3];omega
theorem Srt.small {T:List UInt8} {K:Nat->Nat} {S S':SS} {ps:List Part} {p:Part} {A:List Nat} {m R:Nat} (h:Srt T K S ps p A m R) (hb:p.begun=false) (hs:p.hi-p.lo<2) (hps:S'.ps=ps) (hz:S'.laid=0/\S'.first=0/\S'.second=0) (hr:S'.reach=S.reach) (hm:S'.made=S.made) (ho:S'.ord=S.ord) :
  1<=R/\((∃ps2 q,ps=ps2++[q]/\Srt T K S' ps2 q (opP K p A) m (R-1))\/(ps=[]/\Num T K S' m (R-1))):=by
 have hf:=h.fits p (by simp);have hl:=h.left;rcases h.top with⟨_,h1,h2,h3,h4⟩|⟨h0,_⟩
 ·have hc:p.cost=1:=by unfold Part.cost;rw [hb];simp only [Bool.false_eq_true,if_false];exact Zuu hs
  rw [ZiS,hc,h1,h2,h3] at hl
  have hop:opP K p A=A:=by
   obtain⟨lo,hi,b⟩:=p;simp only at hb hs hf;subst hb;exact Zwe hf.1 (by rw [Zum h.perm];exact hf.2.1) hs
  refine⟨by omega,h.pop hps hz hr hm (by rw [ho,h4,hop]) (by omega)⟩
 ·rw [hb] at h0;cases h0
theorem Srt.halves {T:List UInt8} {K:Nat->Nat} {S S':SS} {ps:List Part} {p:Part} {A:List Nat} {m R:Nat} (h:Srt T K S ps p A m R) (hb:p.begun=false) (hs:2<=p.hi-p.lo) (hps:S'.ps=ps++[⟨p.lo,p.hi,true⟩]++[⟨p.mid,p.hi,false⟩]++[⟨p.lo,p.mid,false⟩]) (hz:S'.laid=S.laid/\S'.first=S.first/\S'.second=S.second) (hr:S'.reach=S.reach) (hm:S'.made=S.made) (ho:S'.ord=S.ord) :
  1<=R/\Srt T K S' (ps++[⟨p.lo,p.hi,true⟩]++[⟨p.mid,p.hi,false⟩]) ⟨p.lo,p.mid,false⟩ A m (R-1):=by
 obtain⟨lo,hi,b⟩:=p;simp only at hb hs hps ⊢;subst hb;have hf:=h.fits ⟨lo,hi,false⟩ (by simp);have hmid:=ZuM lo hi false hf.1;have hf1:lo<=hi:=hf.1;have hf2:hi<=T.length:=hf.2.1;have hl:=h.left;rcases h.top with⟨_,h1,h2,h3,h4⟩|⟨h0,_⟩
 ·have hc:(⟨lo,hi,false⟩:Part).cost=1+passS ((hi-lo) / 2)+passS ((hi-lo)-(hi-lo) / 2)+(hi-lo) / 2+(hi-lo):=by
   unfold Part.cost;simp only [Bool.false_eq_true,if_false];exact ZuR hs
  rw [ZiS,hc,h1,h2,h3] at hl;rw [hmid] at hps ⊢;refine⟨by omega,hps,by rw [hm,h.made],h.perm,?_,by rw [hr];exact h.rem,?_,Or.inl ⟨rfl,by rw [hz.1,h1],by rw [hz.2.1,h2],by rw [hz.2.2,h3],by rw [ho,h4]⟩,?_⟩
  ·rw [hr,Zu4,Zvp,List.reverse_append];show SortH T _ (runAll K ps.reverse (opP K ⟨lo,hi,true⟩ (opP K ⟨lo+(hi-lo) / 2,hi,false⟩ (opP K ⟨lo,lo+(hi-lo) / 2,false⟩ A))));rw [ZvP (by omega) (by rw [Zum h.perm];exact hf2)];exact h.goal
  ·intro q hq;simp only [List.mem_append,List.mem_singleton] at hq;rcases hq with((hq|rfl)|rfl)|rfl
   ·exact h.fits q (List.mem_append_left _ hq)
   ·exact⟨hf1,hf2,fun _=>by show lo+2<=hi;omega⟩
   ·exact⟨by show lo+(hi-lo) / 2<=hi;omega,hf2,fun e=>by cases e⟩
   ·exact⟨by show lo<=lo+(hi-lo) / 2;omega,by show lo+(hi-lo) / 2<=T.length;omega,fun e=>by cases e⟩
  ·rw [hz.1,hz.2.1,hz.2.2,h1,h2,h3,ZiS,ZiS,ZiS];have c1:(⟨lo,hi,true⟩:Part).cost=(hi-lo) / 2+(hi-lo):=rfl;have c2:(⟨lo+(hi-lo) / 2,hi,false⟩:Part).cost=passS ((hi-lo)-(hi-lo) / 2):=by show passS (hi-(lo+(hi-lo) / 2))=_;congr 1;omega
   have c3:(⟨lo,lo+(hi-lo) / 2,false⟩:Part).cost=passS ((hi-lo) / 2):=by show passS (lo+(hi-lo) / 2-lo)=_;congr 1;omega
   rw [c1,c2,c3];omega
 ·cases h0
end SrtM
end
section
namespace SrtM
open Go.RowKit BwtM
theorem ZiT {X:List Nat} {m j:Nat} (h:j<m):(X.take m).getD j 0=X.getD j 0:=by
 rw [List.getD_eq_getElem?_getD,List.getElem?_take_of_lt h,List.getD_eq_getElem?_getD]
theorem Zgc {X Y:List Nat} {j:Nat} (h:X.length<=j):(X++Y).getD j 0=Y.getD (j-X.length) 0:=by
 rw [List.getD_eq_getElem?_getD,List.getElem?_append_right h,List.getD_eq_getElem?_getD]
section
variable {T : List UInt8} {K : Nat -> Nat} {S S' : SS} {ps : List Part} {p : Part} {A : List Nat} {m R : Nat}
theorem Srt.fit (h:Srt T K S ps p A m R):p.lo<=p.mid/\p.mid<=p.hi/\p.hi<=T.length/\p.mid=p.lo+(p.hi-p.lo) / 2/\A.length=T.length:=by
 have hf:=h.fits p (by simp);have hm:p.mid=p.lo+(p.hi-p.lo) / 2:=ZuM p.lo p.hi p.begun hf.1;have:=hf.1;have:=hf.2.1;exact⟨by omega,by omega,hf.2.1,hm,Zum h.perm⟩
theorem Srt.segX_len (h:Srt T K S ps p A m R):(segX A p).length=p.mid-p.lo:=by
 have:=h.fit;unfold segX;rw [List.length_take,List.length_drop];omega
theorem Srt.segY_len (h:Srt T K S ps p A m R):(segY A p).length=p.hi-p.mid:=by
 have:=h.fit;unfold segY;rw [List.length_take,List.length_drop];omega
theorem Srt.segX_get (h:Srt T K S ps p A m R) {i:Nat} (hi:i<p.mid-p.lo):(segX A p).getD i 0=A.getD (p.lo+i) 0:=by
 unfold segX;rw [ZiT hi,ZcK]
theorem Srt.segY_get (h:Srt T K S ps p A m R) {i:Nat} (hi:i<p.hi-p.mid):(segY A p).getD i 0=A.getD (p.mid+i) 0:=by
 unfold segY;rw [ZiT hi,ZcK]
theorem Srt.lt (h:Srt T K S ps p A m R) {i:Nat} (hi:i<T.length):A.getD i 0<T.length:=Zuk h.perm hi
theorem Srt.on (h:Srt T K S ps p A m R) (hb:p.begun=true):MrgAt K (segX A p) (segY A p) S.first S.second/\S.laid<=p.mid-p.lo/\(0<S.first+S.second->S.laid=p.mid-p.lo) /\
  S.ord=A.take p.lo++(mrg K (segX A p) (segY A p)).take (S.first+S.second)++A.drop (p.lo+(S.first+S.second))/\∀i,i<S.laid->S.asd.getD i 0=A.getD (p.lo+i) 0:=by
 rcases h.top with⟨h0,_⟩|⟨_,h1⟩
 ·rw [hb] at h0;cases h0
 ·exact h1
theorem Srt.bounds (h:Srt T K S ps p A m R) (hb:p.begun=true):S.first<=p.mid-p.lo/\S.second<=p.hi-p.mid:=by
 have h1:=(h.on hb).1;have a:=h1.fl;have b:=h1.sl;rw [h.segX_len] at a;rw [h.segY_len] at b;exact⟨a,b⟩
theorem ZfG (h:Srt T K S ps p A m R):(mrg K (segX A p) (segY A p)).length=p.hi-p.lo:=by
 have:=h.fit;rw [ZmM,h.segX_len,h.segY_len];omega
theorem Srt.ord_get (h:Srt T K S ps p A m R) (hb:p.begun=true) {i:Nat} (hi:p.lo+(S.first+S.second)<=i):S.ord.getD i 0=A.getD i 0:=by
 have hf:=h.fit;have hbd:=h.bounds hb;have hl:=ZfG h
 have hle:(A.take p.lo++(mrg K (segX A p) (segY A p)).take (S.first+S.second)).length=p.lo+(S.first+S.second):=by
  rw [List.length_append,List.length_take,List.length_take,hl];omega
 rw [(h.on hb).2.2.2.1,Zgc (by rw [hle];exact hi),hle,ZcK];congr 1;omega
theorem Srt.cost_on (h:Srt T K S ps p A m R) (hb:p.begun=true):p.cost=(p.mid-p.lo)+(p.hi-p.lo):=by
 have:=h.fit;unfold Part.cost;rw [hb];simp only [if_true];omega
theorem Srt.lay (h:Srt T K S ps p A m R) (hb:p.begun=true) (g:Nat) (hg:S.laid+g<=p.mid-p.lo) (hps:S'.ps=S.ps) (hz:S'.laid=S.laid+g/\S'.first=S.first/\S'.second=S.second) (hr:S'.reach=S.reach) (hm:S'.made=S.made) (ho:S'.ord=S.ord)
  (ha:∀i,i<S.laid->S'.asd.getD i 0=S.asd.getD i 0) (hn:∀i,S.laid<=i->i<S.laid+g->S'.asd.getD i 0=S.ord.getD (p.lo+i) 0):g<=R/\Srt T K S' ps p A m (R-g):=by
 obtain⟨h1,h2,h3,h4,h5⟩:=h.on hb;have hbd:=h.bounds hb;have hf:=h.fit;have hl:=h.left;rw [ZiS,h.cost_on hb] at hl;refine⟨by omega,by rw [hps,h.stk],by rw [hm,h.made],h.perm,by rw [hr];exact h.goal,by rw [hr];exact h.rem,h.fits,Or.inr ⟨hb,by rw [hz.2.1,hz.2.2];exact h1,by rw [hz.1];exact hg,?_,by rw [ho,hz.2.1,hz.2.2];exact h4,?_⟩,by rw [hz.1,hz.2.1,hz.2.2,ZiS,h.cost_on hb];omega⟩
 ·rw [hz.1,hz.2.1,hz.2.2];intro hp;have:=h3 hp;omega
 ·rw [hz.1];intro i hi;rcases Nat.lt_or_ge i S.laid with c|c
  ·rw [ha i c,h5 i c]
  ·rw [hn i c hi];refine h.ord_get hb ?_;by_cases e:0<S.first+S.second
   ·have:=h3 e;omega
   ·omega
theorem ZsL {A M:List Nat} {lo j:Nat} (h1:lo+j<A.length) (h2:j<M.length):(A.take lo++M.take j++A.drop (lo+j)).set (lo+j) (M.getD j 0)=A.take lo++M.take (j+1)++A.drop (lo+(j+1)):=by
 have hl:(A.take lo++M.take j).length=lo+j:=by rw [List.length_append,List.length_take,List.length_take];omega
 rw [List.set_append_right _ _ (by rw [hl];exact Nat.le_refl _),hl,Nat.sub_self,List.drop_eq_getElem_cons h1,List.set_cons_zero,List.take_succ_eq_append_getElem h2];rw [List.getD_eq_getElem?_getD,List.getElem?_eq_getElem h2,Nat.add_assoc];show _++M[j]::_=_;rw [List.append_assoc,List.append_assoc,List.append_assoc];rfl
theorem Srt.first (h:Srt T K S ps p A m R) (hb:p.begun=true) (hlaid:S.laid=p.mid-p.lo) (hf1:S.first<p.mid-p.lo) (hc:S.second=p.hi-p.mid\/K (S.asd.getD S.first 0)<=K (S.ord.getD (p.mid+S.second) 0))
  (hps:S'.ps=S.ps) (hz:S'.laid=S.laid/\S'.first=S.first+1/\S'.second=S.second) (hr:S'.reach=S.reach) (hm:S'.made=S.made) (ho:S'.ord=S.ord.set (p.lo+S.first+S.second) (S.asd.getD S.first 0)) (ha:S'.asd=S.asd):1<=R/\Srt T K S' ps p A m (R-1):=by
 obtain⟨h1,h2,h3,h4,h5⟩:=h.on hb;have hbd:=h.bounds hb;have hf:=h.fit;have hl:=h.left;rw [ZiS,h.cost_on hb] at hl;have hx:(segX A p).getD S.first 0=S.asd.getD S.first 0:=by rw [h.segX_get hf1,h5 _ (by omega)]
 have hstep:=h1.first (by rw [h.segX_len];exact hf1) (by
  rw [h.segY_len];by_cases e:S.second=p.hi-p.mid
  ·exact Or.inl e
  ·right;rw [hx,h.segY_get (by omega),<-h.ord_get hb (by omega)];exact hc.resolve_left e)
 have hml:=ZfG h;refine⟨by omega,by rw [hps,h.stk],by rw [hm,h.made],h.perm,by rw [hr];exact h.goal,by rw [hr];exact h.rem,h.fits,Or.inr ⟨hb,by rw [hz.2.1,hz.2.2];exact hstep.2,by rw [hz.1];omega,fun _=>by rw [hz.1];exact hlaid,?_,by rw [hz.1,ha];exact h5⟩,by rw [hz.1,hz.2.1,hz.2.2,ZiS,h.cost_on hb];omega⟩;rw [ho,h4,hz.2.1,hz.2.2,<-hx,<-hstep.1,Nat.add_assoc p.lo,ZsL (by omega) (by omega),show S.first+1+S.second=S.first+S.second+1 by omega]
theorem Srt.second (h:Srt T K S ps p A m R) (hb:p.begun=true) (hlaid:S.laid=p.mid-p.lo) (hs1:S.second<p.hi-p.mid) (hc:S.first=p.mid-p.lo\/¬K (S.asd.getD S.first 0)<=K (S.ord.getD (p.mid+S.second) 0))
  (hps:S'.ps=S.ps) (hz:S'.laid=S.laid/\S'.first=S.first/\S'.second=S.second+1) (hr:S'.reach=S.reach) (hm:S'.made=S.made) (ho:S'.ord=S.ord.set (p.lo+S.first+S.second) (S.ord.getD (p.mid+S.second) 0)) (ha:S'.asd=S.asd):1<=R/\Srt T K S' ps p A m (R-1):=by
 obtain⟨h1,h2,h3,h4,h5⟩:=h.on hb;have hbd:=h.bounds hb;have hf:=h.fit;have hl:=h.left;rw [ZiS,h.cost_on hb] at hl;have hy:(segY A p).getD S.second 0=S.ord.getD (p.mid+S.second) 0:=by rw [h.segY_get hs1,<-h.ord_get hb (by omega)]
 have hstep:=h1.second (by rw [h.segY_len];exact hs1) (by
  rw [h.segX_len];by_cases e:S.first=p.mid-p.lo
  ·exact Or.inl e
  ·right;rw [hy,h.segX_get (by omega),<-h5 _ (by omega)];exact hc.resolve_left e)
 have hml:=ZfG h;refine⟨by omega,by rw [hps,h.stk],by rw [hm,h.made],h.perm,by rw [hr];exact h.goal,by rw [hr];exact h.rem,h.fits,Or.inr ⟨hb,by rw [hz.2.1,hz.2.2];exact hstep.2,by rw [hz.1];omega,fun _=>by rw [hz.1];exact hlaid,?_,by rw [hz.1,ha];exact h5⟩,by rw [hz.1,hz.2.1,hz.2.2,ZiS,h.cost_on hb];omega⟩;rw [ho,h4];rw [<-h4,<-hy,<-hstep.1,h4,hz.2.1,hz.2.2,Nat.add_assoc p.lo,ZsL (by omega) (by omega),show S.first+(S.second+1)=S.first+S.second+1 by omega]
theorem Srt.whole (h:Srt T K S ps p A m R) (hb:p.begun=true) (hw:S.first+S.second=p.hi-p.lo) (hps:S'.ps=ps) (hz:S'.laid=0/\S'.first=0/\S'.second=0) (hr:S'.reach=S.reach) (hm:S'.made=S.made) (ho:S'.ord=S.ord) :
  (∃ps2 q,ps=ps2++[q]/\Srt T K S' ps2 q (opP K p A) m R)\/(ps=[]/\Num T K S' m R):=by
 obtain⟨h1,h2,h3,h4,h5⟩:=h.on hb;have hbd:=h.bounds hb;have hf:=h.fit;have hl:=h.left;have hfits:=h.fits p (by simp);have hbig:=hfits.2.2 hb;have hlaid:=h3 (by omega);rw [ZiS,h.cost_on hb] at hl;refine h.pop hps hz hr hm ?_ (by omega);rw [ho,h4,hw,show p.lo+(p.hi-p.lo)=p.hi by omega,List.take_of_length_le (l:=mrg K (segX A p) (segY A p)) (by rw [ZfG h];exact Nat.le_refl _)];unfold opP;rw [hb];simp only [if_true];rfl
end
theorem Num.next {T:List UInt8} {K:Nat->Nat} {S S':SS} {m R:Nat} (h:Num T K S m R) (hm:S.made<T.length) (hl:S.asd.length=T.length) (hps:S'.ps=S.ps) (hz:S'.laid=S.laid/\S'.first=S.first/\S'.second=S.second) (hr:S'.reach=S.reach) (hmd:S'.made=S.made+1) (ho:S'.ord=S.ord)
  (ha:S'.asd=S.asd.set (S.ord.getD S.made 0) (cN K S.ord S.made)):1<=R/\Num T K S' m (R-1):=by
 have hl2:=h.left;refine⟨by omega,by rw [hps,h.stk],by rw [hz.1,hz.2.1,hz.2.2];exact h.zero,by rw [hr,ho];exact h.ord,?_,by omega,by rw [hr];exact h.rem,by omega⟩;rw [ho,ha,hmd];exact h.num.next h.ord.1 hm hl
theorem Num.done {T:List UInt8} {K:Nat->Nat} {S:SS} {m R:Nat} (h:Num T K S m R) (hm:S.made=T.length) (he:Ends T S.reach):R=0/\ZlG T S.ord:=by
 have hl:=h.left;have hm0:m=0:=Rem.one h.rem (.done he);refine⟨by rw [hm,hm0] at hl;omega,ZvF h.ord ?_⟩;rcases he with he|he
 ·exact Or.inr he
 ·left;unfold bytesBy;split<;>omega
theorem Zvs (r:Nat):0<bytesBy r:=by unfold bytesBy;split<;>omega
theorem ZuV (r:Nat):bytesBy (bytesBy r)=bytesBy r+bytesBy r:=by
 have h:=Zvs r;have e:∀q,q≠0->bytesBy q=2*q:=fun q hq=>by unfold bytesBy;rw [if_neg hq]
 rw [e _ (by omega)];omega
theorem Num.pass {T:List UInt8} {K:Nat->Nat} {S S':SS} {m R:Nat} (h:Num T K S m R) (hK:KeyH T (bytesBy S.reach) K) (hm:S.made=T.length) (he:¬Ends T S.reach) (hps:S'.ps=[⟨0,T.length,false⟩]) (hz:S'.laid=S.laid/\S'.first=S.first/\S'.second=S.second) (hr:S'.reach=bytesBy S.reach) (hmd:S'.made=0) (ho:S'.ord=S.ord) :
  KeyH T (bytesBy S'.reach) (keyC T.length (bytesBy S.reach) (fun i=>S.asd.getD i 0))/\∃m2,Srt T (keyC T.length (bytesBy S.reach) (fun i=>S.asd.getD i 0)) S' [] ⟨0,T.length,false⟩ S.ord m2 R:=by
 have hl:=h.left;have hN:=h.num;rw [hm] at hN;have hck:=Zuv hK h.ord hN
 have hkey:KeyH T (bytesBy S'.reach) (keyC T.length (bytesBy S.reach) (fun i=>S.asd.getD i 0)):=by
  rw [hr,ZuV];exact hck.1.twice hck.2
 refine⟨hkey,?_⟩;have hrem:=h.rem;cases hrem with
 | done e=>exact absurd e he
 | @more _ m2 _ hr2=>
  refine⟨m2,hps,hmd,h.ord.1,?_,by rw [hr];exact hr2,?_,Or.inl ⟨rfl,by rw [hz.1];exact h.zero.1,by rw [hz.2.1];exact h.zero.2.1,by rw [hz.2.2];exact h.zero.2.2,ho⟩,?_⟩
  ·show SortH T _ (opP _ ⟨0,T.length,false⟩ S.ord);rw [<-Zum h.ord.1,ZvA];refine Zu3 (G:=bytesBy S.reach) ?_ h.ord.1 (Zvc h.ord (H:=bytesBy S'.reach) ?_ ?_)
   ·rw [Zum h.ord.1];exact hkey
   ·rw [hr,ZuV];omega
   ·rw [Zum h.ord.1];exact hkey
  ·intro q hq;simp only [List.nil_append,List.mem_singleton] at hq;subst hq;exact⟨Nat.zero_le _,Nat.le_refl _,fun e=>by cases e⟩
  ·rw [hz.1,hz.2.1,hz.2.2,h.zero.1,h.zero.2.1,h.zero.2.2];have hc:costs ([]++[(⟨0,T.length,false⟩:Part)])=passS T.length:=by simp [costs,Part.cost]
   rw [hc];rw [Nat.mul_add,Nat.mul_one] at hl;unfold each at hl ⊢;omega
theorem Srt.start (T:List UInt8) {S:SS} {m:Nat} (hps:S.ps=[⟨0,T.length,false⟩]) (hz:S.laid=0/\S.first=0/\S.second=0) (hr:S.reach=0) (hmd:S.made=0) (ho:S.ord=List.range T.length) (hrem:Rem T 0 m) :
  Srt T (bt T) S [] ⟨0,T.length,false⟩ (List.range T.length) m (each T.length*(m+1)):=by
 refine⟨hps,hmd,List.Perm.refl _,?_,by rw [hr];exact hrem,?_,Or.inl ⟨rfl,hz.1,hz.2.1,hz.2.2,ho⟩,?_⟩
 ·rw [hr];show SortH T 1 (opP _ ⟨0,T.length,false⟩ (List.range T.length));have:=ZvA (bt T) (List.range T.length);rw [List.length_range] at this;rw [this];exact Zu3 (G:=0) (KeyH.first T) (List.Perm.refl _) (Zvd _)
 ·intro q hq;simp only [List.nil_append,List.mem_singleton] at hq;subst hq;exact⟨Nat.zero_le _,Nat.le_refl _,fun e=>by cases e⟩
 ·rw [hz.1,hz.2.1,hz.2.2];have hc:costs ([]++[(⟨0,T.length,false⟩:Part)])=passS T.length:=by simp [costs,Part.cost]
  rw [hc,Nat.mul_add,Nat.mul_one];unfold each;omega
end SrtM
end
end Go.Proofs.YtnachbjhhpnadaaGreatDoor

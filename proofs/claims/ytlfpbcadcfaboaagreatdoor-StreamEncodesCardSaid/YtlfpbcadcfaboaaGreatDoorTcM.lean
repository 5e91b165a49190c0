import Derived.Test.YtlfpbcadcfaboaaGreatDoorTcA
import Derived.Test.YtlfpbcadcfaboaaGreatDoorTcC
import Derived.Test.YtlfpbcadcfaboaaGreatDoorTcI
import Derived.Test.YtlfpbcadcfaboaaGreatDoorTcJ
import Derived.Test.YtlfpbcadcfaboaaGreatDoorTcL
import Derived.Deep.RegionLaw
import Derived.Deep.QuietTactic
import Derived.Outline
import Derived.Shelf.Abstract
import Derived.Deep.RegionHeld3
import Derived.StillTailTactics
import Derived.BigQuiet
import Derived.Laws.EntriesVeiled
set_option linter.unusedVariables false
set_option linter.unusedSimpArgs false
set_option maxHeartbeats 8000000
set_option maxRecDepth 100000
namespace Go.Proofs.YtlfpbcadcfaboaaGreatDoor
section
namespace SrtM
open Go.RowKit BwtM
theorem Zk2 {X:List Nat} {m j:Nat} (h:j<m):(X.take m).getD j 0=X.getD j 0:=by
 rw [List.getD_eq_getElem?_getD,List.getElem?_take_of_lt h,List.getD_eq_getElem?_getD]
theorem ZfL (X:List Nat) (m j:Nat):(X.drop m).getD j 0=X.getD (m+j) 0:=by
 rw [List.getD_eq_getElem?_getD,List.getElem?_drop,List.getD_eq_getElem?_getD]
theorem Zgn {X Y:List Nat} {j:Nat} (h:X.length<=j):(X++Y).getD j 0=Y.getD (j-X.length) 0:=by
 rw [List.getD_eq_getElem?_getD,List.getElem?_append_right h,List.getD_eq_getElem?_getD]
section
variable {T : List UInt8} {K : Nat -> Nat} {S S' : SS} {ps : List Part} {p : Part} {A : List Nat} {m R : Nat}
theorem Srt.fit (h:Srt T K S ps p A m R):p.lo<=p.mid/\p.mid<=p.hi/\p.hi<=T.length/\p.mid=p.lo+(p.hi-p.lo) / 2/\A.length=T.length:=by
 have hf:=h.fits p (by simp);have hm:p.mid=p.lo+(p.hi-p.lo) / 2:=Zh4 p.lo p.hi p.begun hf.1;have:=hf.1;have:=hf.2.1;exact⟨by omega,by omega,hf.2.1,hm,ZcU h.perm⟩
theorem Srt.segX_len (h:Srt T K S ps p A m R):(segX A p).length=p.mid-p.lo:=by
 have:=h.fit;unfold segX;rw [List.length_take,List.length_drop];omega
theorem Srt.segY_len (h:Srt T K S ps p A m R):(segY A p).length=p.hi-p.mid:=by
 have:=h.fit;unfold segY;rw [List.length_take,List.length_drop];omega
theorem Srt.segX_get (h:Srt T K S ps p A m R) {i:Nat} (hi:i<p.mid-p.lo):(segX A p).getD i 0=A.getD (p.lo+i) 0:=by
 unfold segX;rw [Zk2 hi,ZfL]
theorem Srt.segY_get (h:Srt T K S ps p A m R) {i:Nat} (hi:i<p.hi-p.mid):(segY A p).getD i 0=A.getD (p.mid+i) 0:=by
 unfold segY;rw [Zk2 hi,ZfL]
theorem Srt.lt (h:Srt T K S ps p A m R) {i:Nat} (hi:i<T.length):A.getD i 0<T.length:=Zcg h.perm hi
theorem Srt.on (h:Srt T K S ps p A m R) (hb:p.begun=true):MrgAt K (segX A p) (segY A p) S.first S.second/\S.laid<=p.mid-p.lo/\(0<S.first+S.second->S.laid=p.mid-p.lo) /\
  S.ord=A.take p.lo++(mrg K (segX A p) (segY A p)).take (S.first+S.second)++A.drop (p.lo+(S.first+S.second))/\∀i,i<S.laid->S.asd.getD i 0=A.getD (p.lo+i) 0:=by
 rcases h.top with⟨h0,_⟩|⟨_,h1⟩
 ·rw [hb] at h0;cases h0
 ·exact h1
theorem Srt.bounds (h:Srt T K S ps p A m R) (hb:p.begun=true):S.first<=p.mid-p.lo/\S.second<=p.hi-p.mid:=by
 have h1:=(h.on hb).1;have a:=h1.fl;have b:=h1.sl;rw [h.segX_len] at a;rw [h.segY_len] at b;exact⟨a,b⟩
theorem ZeW (h:Srt T K S ps p A m R):(mrg K (segX A p) (segY A p)).length=p.hi-p.lo:=by
 have:=h.fit;rw [ZnL,h.segX_len,h.segY_len];omega
theorem Srt.ord_get (h:Srt T K S ps p A m R) (hb:p.begun=true) {i:Nat} (hi:p.lo+(S.first+S.second)<=i):S.ord.getD i 0=A.getD i 0:=by
 have hf:=h.fit;have hbd:=h.bounds hb;have hl:=ZeW h
 have hle:(A.take p.lo++(mrg K (segX A p) (segY A p)).take (S.first+S.second)).length=p.lo+(S.first+S.second):=by
  rw [List.length_append,List.length_take,List.length_take,hl];omega
 rw [(h.on hb).2.2.2.1,Zgn (by rw [hle];exact hi),hle,ZfL];congr 1;omega
theorem Srt.cost_on (h:Srt T K S ps p A m R) (hb:p.begun=true):p.cost=(p.mid-p.lo)+(p.hi-p.lo):=by
 have:=h.fit;unfold Part.cost;rw [hb];simp only [if_true];omega
theorem Srt.lay (h:Srt T K S ps p A m R) (hb:p.begun=true) (g:Nat) (hg:S.laid+g<=p.mid-p.lo) (hps:S'.ps=S.ps) (hz:S'.laid=S.laid+g/\S'.first=S.first/\S'.second=S.second) (hr:S'.reach=S.reach) (hm:S'.made=S.made) (ho:S'.ord=S.ord)
  (ha:∀i,i<S.laid->S'.asd.getD i 0=S.asd.getD i 0) (hn:∀i,S.laid<=i->i<S.laid+g->S'.asd.getD i 0=S.ord.getD (p.lo+i) 0):g<=R/\Srt T K S' ps p A m (R-g):=by
 obtain⟨h1,h2,h3,h4,h5⟩:=h.on hb;have hbd:=h.bounds hb;have hf:=h.fit;have hl:=h.left;rw [Za7,h.cost_on hb] at hl;refine⟨by omega,by rw [hps,h.stk],by rw [hm,h.made],h.perm,by rw [hr];exact h.goal,by rw [hr];exact h.rem,h.fits,Or.inr ⟨hb,by rw [hz.2.1,hz.2.2];exact h1,by rw [hz.1];exact hg,?_,by rw [ho,hz.2.1,hz.2.2];exact h4,?_⟩,by rw [hz.1,hz.2.1,hz.2.2,Za7,h.cost_on hb];omega⟩
 ·rw [hz.1,hz.2.1,hz.2.2];intro hp;have:=h3 hp;omega
 ·rw [hz.1];intro i hi;rcases Nat.lt_or_ge i S.laid with c|c
  ·rw [ha i c,h5 i c]
  ·rw [hn i c hi];refine h.ord_get hb ?_;by_cases e:0<S.first+S.second
   ·have:=h3 e;omega
   ·omega
theorem ZpF {A M:List Nat} {lo j:Nat} (h1:lo+j<A.length) (h2:j<M.length):(A.take lo++M.take j++A.drop (lo+j)).set (lo+j) (M.getD j 0)=A.take lo++M.take (j+1)++A.drop (lo+(j+1)):=by
 have hl:(A.take lo++M.take j).length=lo+j:=by rw [List.length_append,List.length_take,List.length_take];omega
 rw [List.set_append_right _ _ (by rw [hl];exact Nat.le_refl _),hl,Nat.sub_self,List.drop_eq_getElem_cons h1,List.set_cons_zero,List.take_succ_eq_append_getElem h2];rw [List.getD_eq_getElem?_getD,List.getElem?_eq_getElem h2,Nat.add_assoc];show _++M[j]::_=_;rw [List.append_assoc,List.append_assoc,List.append_assoc];rfl
theorem Srt.first (h:Srt T K S ps p A m R) (hb:p.begun=true) (hlaid:S.laid=p.mid-p.lo) (hf1:S.first<p.mid-p.lo) (hc:S.second=p.hi-p.mid\/K (S.asd.getD S.first 0)<=K (S.ord.getD (p.mid+S.second) 0))
  (hps:S'.ps=S.ps) (hz:S'.laid=S.laid/\S'.first=S.first+1/\S'.second=S.second) (hr:S'.reach=S.reach) (hm:S'.made=S.made) (ho:S'.ord=S.ord.set (p.lo+S.first+S.second) (S.asd.getD S.first 0)) (ha:S'.asd=S.asd):1<=R/\Srt T K S' ps p A m (R-1):=by
 obtain⟨h1,h2,h3,h4,h5⟩:=h.on hb;have hbd:=h.bounds hb;have hf:=h.fit;have hl:=h.left;rw [Za7,h.cost_on hb] at hl;have hx:(segX A p).getD S.first 0=S.asd.getD S.first 0:=by rw [h.segX_get hf1,h5 _ (by omega)]
 have hstep:=h1.first (by rw [h.segX_len];exact hf1) (by
  rw [h.segY_len];by_cases e:S.second=p.hi-p.mid
  ·exact Or.inl e
  ·right;rw [hx,h.segY_get (by omega),<-h.ord_get hb (by omega)];exact hc.resolve_left e)
 have hml:=ZeW h;refine⟨by omega,by rw [hps,h.stk],by rw [hm,h.made],h.perm,by rw [hr];exact h.goal,by rw [hr];exact h.rem,h.fits,Or.inr ⟨hb,by rw [hz.2.1,hz.2.2];exact hstep.2,by rw [hz.1];omega,fun _=>by rw [hz.1];exact hlaid,?_,by rw [hz.1,ha];exact h5⟩,by rw [hz.1,hz.2.1,hz.2.2,Za7,h.cost_on hb];omega⟩;rw [ho,h4,hz.2.1,hz.2.2,<-hx,<-hstep.1,Nat.add_assoc p.lo,ZpF (by omega) (by omega),show S.first+1+S.second=S.first+S.second+1 by omega]
theorem Srt.second (h:Srt T K S ps p A m R) (hb:p.begun=true) (hlaid:S.laid=p.mid-p.lo) (hs1:S.second<p.hi-p.mid) (hc:S.first=p.mid-p.lo\/¬K (S.asd.getD S.first 0)<=K (S.ord.getD (p.mid+S.second) 0))
  (hps:S'.ps=S.ps) (hz:S'.laid=S.laid/\S'.first=S.first/\S'.second=S.second+1) (hr:S'.reach=S.reach) (hm:S'.made=S.made) (ho:S'.ord=S.ord.set (p.lo+S.first+S.second) (S.ord.getD (p.mid+S.second) 0)) (ha:S'.asd=S.asd):1<=R/\Srt T K S' ps p A m (R-1):=by
 obtain⟨h1,h2,h3,h4,h5⟩:=h.on hb;have hbd:=h.bounds hb;have hf:=h.fit;have hl:=h.left;rw [Za7,h.cost_on hb] at hl;have hy:(segY A p).getD S.second 0=S.ord.getD (p.mid+S.second) 0:=by rw [h.segY_get hs1,<-h.ord_get hb (by omega)]
 have hstep:=h1.second (by rw [h.segY_len];exact hs1) (by
  rw [h.segX_len];by_cases e:S.first=p.mid-p.lo
  ·exact Or.inl e
  ·right;rw [hy,h.segX_get (by omega),<-h5 _ (by omega)];exact hc.resolve_left e)
 have hml:=ZeW h;refine⟨by omega,by rw [hps,h.stk],by rw [hm,h.made],h.perm,by rw [hr];exact h.goal,by rw [hr];exact h.rem,h.fits,Or.inr ⟨hb,by rw [hz.2.1,hz.2.2];exact hstep.2,by rw [hz.1];omega,fun _=>by rw [hz.1];exact hlaid,?_,by rw [hz.1,ha];exact h5⟩,by rw [hz.1,hz.2.1,hz.2.2,Za7,h.cost_on hb];omega⟩;rw [ho,h4];rw [<-h4,<-hy,<-hstep.1,h4,hz.2.1,hz.2.2,Nat.add_assoc p.lo,ZpF (by omega) (by omega),show S.first+(S.second+1)=S.first+S.second+1 by omega]
theorem Srt.whole (h:Srt T K S ps p A m R) (hb:p.begun=true) (hw:S.first+S.second=p.hi-p.lo) (hps:S'.ps=ps) (hz:S'.laid=0/\S'.first=0/\S'.second=0) (hr:S'.reach=S.reach) (hm:S'.made=S.made) (ho:S'.ord=S.ord) :
  (∃ps2 q,ps=ps2++[q]/\Srt T K S' ps2 q (opP K p A) m R)\/(ps=[]/\Num T K S' m R):=by
 obtain⟨h1,h2,h3,h4,h5⟩:=h.on hb;have hbd:=h.bounds hb;have hf:=h.fit;have hl:=h.left;have hfits:=h.fits p (by simp);have hbig:=hfits.2.2 hb;have hlaid:=h3 (by omega);rw [Za7,h.cost_on hb] at hl;refine h.pop hps hz hr hm ?_ (by omega);rw [ho,h4,hw,show p.lo+(p.hi-p.lo)=p.hi by omega,List.take_of_length_le (l:=mrg K (segX A p) (segY A p)) (by rw [ZeW h];exact Nat.le_refl _)];unfold opP;rw [hb];simp only [if_true];rfl
end
theorem Num.next {T:List UInt8} {K:Nat->Nat} {S S':SS} {m R:Nat} (h:Num T K S m R) (hm:S.made<T.length) (hl:S.asd.length=T.length) (hps:S'.ps=S.ps) (hz:S'.laid=S.laid/\S'.first=S.first/\S'.second=S.second) (hr:S'.reach=S.reach) (hmd:S'.made=S.made+1) (ho:S'.ord=S.ord)
  (ha:S'.asd=S.asd.set (S.ord.getD S.made 0) (cN K S.ord S.made)):1<=R/\Num T K S' m (R-1):=by
 have hl2:=h.left;refine⟨by omega,by rw [hps,h.stk],by rw [hz.1,hz.2.1,hz.2.2];exact h.zero,by rw [hr,ho];exact h.ord,?_,by omega,by rw [hr];exact h.rem,by omega⟩;rw [ho,ha,hmd];exact h.num.next h.ord.1 hm hl
theorem Num.done {T:List UInt8} {K:Nat->Nat} {S:SS} {m R:Nat} (h:Num T K S m R) (hm:S.made=T.length) (he:Ends T S.reach):R=0/\IsSorted T S.ord:=by
 have hl:=h.left;have hm0:m=0:=Rem.one h.rem (.done he);refine⟨by rw [hm,hm0] at hl;omega,ZnM h.ord ?_⟩;rcases he with he|he
 ·exact Or.inr he
 ·left;unfold bytesBy;split<;>omega
theorem Zl3 (r:Nat):0<bytesBy r:=by unfold bytesBy;split<;>omega
theorem ZiF (r:Nat):bytesBy (bytesBy r)=bytesBy r+bytesBy r:=by
 have h:=Zl3 r;have e:∀q,q≠0->bytesBy q=2*q:=fun q hq=>by unfold bytesBy;rw [if_neg hq]
 rw [e _ (by omega)];omega
theorem Num.pass {T:List UInt8} {K:Nat->Nat} {S S':SS} {m R:Nat} (h:Num T K S m R) (hK:KeyH T (bytesBy S.reach) K) (hm:S.made=T.length) (he:¬Ends T S.reach) (hps:S'.ps=[⟨0,T.length,false⟩]) (hz:S'.laid=S.laid/\S'.first=S.first/\S'.second=S.second) (hr:S'.reach=bytesBy S.reach) (hmd:S'.made=0) (ho:S'.ord=S.ord) :
  KeyH T (bytesBy S'.reach) (keyC T.length (bytesBy S.reach) (fun i=>S.asd.getD i 0))/\∃m2,Srt T (keyC T.length (bytesBy S.reach) (fun i=>S.asd.getD i 0)) S' [] ⟨0,T.length,false⟩ S.ord m2 R:=by
 have hl:=h.left;have hN:=h.num;rw [hm] at hN;have hck:=ZeV hK h.ord hN
 have hkey:KeyH T (bytesBy S'.reach) (keyC T.length (bytesBy S.reach) (fun i=>S.asd.getD i 0)):=by
  rw [hr,ZiF];exact hck.1.twice hck.2
 refine⟨hkey,?_⟩;have hrem:=h.rem;cases hrem with
 | done e=>exact absurd e he
 | @more _ m2 _ hr2=>
  refine⟨m2,hps,hmd,h.ord.1,?_,by rw [hr];exact hr2,?_,Or.inl ⟨rfl,by rw [hz.1];exact h.zero.1,by rw [hz.2.1];exact h.zero.2.1,by rw [hz.2.2];exact h.zero.2.2,ho⟩,?_⟩
  ·show SortH T _ (opP _ ⟨0,T.length,false⟩ S.ord);rw [<-ZcU h.ord.1,ZmX];refine ZjB (G:=bytesBy S.reach) ?_ h.ord.1 (Zk0 h.ord (H:=bytesBy S'.reach) ?_ ?_)
   ·rw [ZcU h.ord.1];exact hkey
   ·rw [hr,ZiF];omega
   ·rw [ZcU h.ord.1];exact hkey
  ·intro q hq;simp only [List.nil_append,List.mem_singleton] at hq;subst hq;exact⟨Nat.zero_le _,Nat.le_refl _,fun e=>by cases e⟩
  ·rw [hz.1,hz.2.1,hz.2.2,h.zero.1,h.zero.2.1,h.zero.2.2];have hc:costs ([]++[(⟨0,T.length,false⟩:Part)])=passS T.length:=by simp [costs,Part.cost]
   rw [hc];rw [Nat.mul_add,Nat.mul_one] at hl;unfold each at hl ⊢;omega
theorem Srt.start (T:List UInt8) {S:SS} {m:Nat} (hps:S.ps=[⟨0,T.length,false⟩]) (hz:S.laid=0/\S.first=0/\S.second=0) (hr:S.reach=0) (hmd:S.made=0) (ho:S.ord=List.range T.length) (hrem:Rem T 0 m) :
  Srt T (bt T) S [] ⟨0,T.length,false⟩ (List.range T.length) m (each T.length*(m+1)):=by
 refine⟨hps,hmd,List.Perm.refl _,?_,by rw [hr];exact hrem,?_,Or.inl ⟨rfl,hz.1,hz.2.1,hz.2.2,ho⟩,?_⟩
 ·rw [hr];show SortH T 1 (opP _ ⟨0,T.length,false⟩ (List.range T.length));have:=ZmX (bt T) (List.range T.length);rw [List.length_range] at this;rw [this];exact ZjB (G:=0) (KeyH.first T) (List.Perm.refl _) (Zk1 _)
 ·intro q hq;simp only [List.nil_append,List.mem_singleton] at hq;subst hq;exact⟨Nat.zero_le _,Nat.le_refl _,fun e=>by cases e⟩
 ·rw [hz.1,hz.2.1,hz.2.2];have hc:costs ([]++[(⟨0,T.length,false⟩:Part)])=passS T.length:=by simp [costs,Part.cost]
  rw [hc,Nat.mul_add,Nat.mul_one];unfold each;omega
end SrtM
end
section
open Go.RowKit BwtM
theorem ZpG (s:ByteArray) {k:Nat} (h:k<s.size):(s[k].toNat:Int)=(bt s.data.toList k:Int):=by
 have hl:k<s.data.toList.length:=by simpa using h
 rw [ZkX _ hl,List.getD_eq_getElem?_getD,List.getElem?_eq_getElem hl];simp [ByteArray.getElem_eq_getElem_data]
theorem Zbr (s:ByteArray):s.data.toList.length=s.size:=by simp
theorem Ztl (T:List UInt8) (i:Nat):bt T i<256:=by unfold bt;exact UInt8.toNat_lt _
def Txt (w:World) (g:Nat) (s:ByteArray):Prop:=w.cell? ⟨g,0,none⟩=some (.string s)
end
section
open Go.RowKit BwtM SrtM PkM
def pcells (p:Part):List Value:=[.int .i64 (p.lo:Int),.int .i64 (p.hi:Int),.bool p.begun]
def pflat (ps:List Part):List Value:=ps.flatMap pcells
theorem ZfM (ps qs:List Part):pflat (ps++qs)=pflat ps++pflat qs:=by unfold pflat;rw [List.flatMap_append]
theorem ZpH (p:Part):pflat [p]=pcells p:=by unfold pflat;simp
theorem Zch:∀(ps:List Part),(pflat ps).length=ps.length*3
 | []=>rfl
 | p::ps=>by
  have h:pflat (p::ps)=pcells p++pflat ps:=rfl;rw [h,List.length_append,Zch ps,List.length_cons];have:(pcells p).length=3:=rfl;omega
theorem Zru {ps:List Part} {p:Part}:(pflat (ps++[p]))[ps.length*3]?=some (.int .i64 (p.lo:Int))/\(pflat (ps++[p]))[ps.length*3+1]?=some (.int .i64 (p.hi:Int))/\(pflat (ps++[p]))[ps.length*3+2]?=some (.bool p.begun):=by
 rw [ZfM,ZpH];refine⟨?_,?_,?_⟩<;>rw [List.getElem?_append_right (by rw [Zch];omega),Zch]
 ·rw [Nat.sub_self];rfl
 ·rw [show ps.length*3+1-ps.length*3=1 by omega];rfl
 ·rw [show ps.length*3+2-ps.length*3=2 by omega];rfl
def SOwnP (W:World) (B:Nat) (v:Value) (ps:List Part):Prop:=W.ownsRow B 246 3 v ps.length (pflat ps)
theorem SOwnP.nil (W:World) (B:Nat):SOwnP W B (.slice none 0 0) []:=World.ownsRow_nil _ _ _ _
theorem SOwnP.slice {W:World} {B:Nat} {v:Value} {ps:List Part} (h:SOwnP W B v ps):∃a cap,v=.slice a ps.length cap:=Zao h
theorem SOwnP.lt {W:World} {B:Nat} {v:Value} {ps:List Part} (h:SOwnP W B v ps):∀k,v.ownBlock=some k->B<=k/\k<W.heap.size:=World.ownsRow.lt h
theorem SOwnP.same {W W':World} {B:Nat} {v:Value} {ps:List Part} (h:SOwnP W B v ps) (he:∀k,v.ownBlock=some k->W'.heap[k]?=W.heap[k]?):SOwnP W' B v ps:=Zag h he
theorem SOwnP.top {W:World} {B:Nat} {v:Value} {ps:List Part} {p:Part} (h:SOwnP W B v (ps++[p])) :
  ∃g cap,v=.slice (some ⟨g,0,none⟩) (ps.length+1) cap/\B<=g/\g<W.heap.size/\ps.length+1<=cap/\W.cell? ⟨g,ps.length*3,none⟩=some (.int .i64 (p.lo:Int))/\W.cell? ⟨g,ps.length*3+1,none⟩=some (.int .i64 (p.hi:Int))/\W.cell? ⟨g,ps.length*3+2,none⟩=some (.bool p.begun) /\
   W.frozen? ⟨g,ps.length*3+2,none⟩=false:=by
 have hc:=h;have hl:(ps++[p]).length=ps.length+1:=by simp
 rcases h.2 with⟨rfl,h0⟩|⟨g,cap,cur,rfl,hB,hg,hnc,hcm,hcs,ht⟩
 ·rw [hl] at h0;omega
 ·obtain⟨f1,f2,f3⟩:=Zru (ps:=ps) (p:=p);refine⟨g,cap,by rw [hl],hB,(Array.getElem?_eq_some_iff.1 hg).1,by omega,?_,?_,?_,frozen_of_row _ _ _ _ _ hg⟩
  ·have:=World.ownsRow.cells hc (g:=g) rfl _ _ f1
   rwa [Addr.add_lit,Nat.zero_add] at this
  ·have:=World.ownsRow.cells hc (g:=g) rfl _ _ f2
   rwa [Addr.add_lit,Nat.zero_add] at this
  ·have:=World.ownsRow.cells hc (g:=g) rfl _ _ f3
   rwa [Addr.add_lit,Nat.zero_add] at this
theorem SOwnP.pop {W:World} {B g cap:Nat} {ps:List Part} {p:Part} (h:SOwnP W B (.slice (some ⟨g,0,none⟩) (ps.length+1) cap) (ps++[p])):SOwnP W B (.slice (some ⟨g,0,none⟩) ps.length cap) ps:=by
 refine⟨Zch ps,?_⟩;rcases h.2 with⟨h0,_⟩|⟨g',cap',cur,he,hB,hg,hnc,hcm,hcs,ht⟩
 ·simp at h0
 ·simp only [Value.slice.injEq,Option.some.injEq,Addr.mk.injEq] at he;obtain⟨⟨rfl,_,_⟩,_,rfl⟩:=he;have hl:(ps++[p]).length=ps.length+1:=by simp
  rw [hl] at ht hnc;refine Or.inr ⟨g,cap,cur,rfl,hB,hg,by omega,hcm,hcs,?_⟩;rw [ZfM] at ht;have h2:=congrArg (List.take (ps.length*3)) ht;rw [List.take_take,List.take_append_of_le_length (by rw [Zch];exact Nat.le_refl _),List.take_of_length_le (l:=pflat ps) (by rw [Zch];exact Nat.le_refl _),show min (ps.length*3) ((ps.length+1)*3)=ps.length*3 by omega] at h2;exact h2
theorem SOwnP.mark {W:World} {B g cap:Nat} {ps:List Part} {p:Part} (h:SOwnP W B (.slice (some ⟨g,0,none⟩) (ps.length+1) cap) (ps++[p])):SOwnP (W.setCell ⟨g,ps.length*3+2,none⟩ (.bool true)) B (.slice (some ⟨g,0,none⟩) (ps.length+1) cap) (ps++[⟨p.lo,p.hi,true⟩]):=by
 have hl:(ps++[p]).length=ps.length+1:=by simp
 have hl2:(ps++[(⟨p.lo,p.hi,true⟩:Part)]).length=ps.length+1:=by simp
 refine⟨Zch _,?_⟩;rcases h.2 with⟨h0,_⟩|⟨g',cap',cur,he,hB,hg,hnc,hcm,hcs,ht⟩
 ·simp at h0
 ·simp only [Value.slice.injEq,Option.some.injEq,Addr.mk.injEq] at he;obtain⟨⟨rfl,_,_⟩,_,rfl⟩:=he;rw [hl] at ht hnc;rw [hl2];refine Or.inr ⟨g,cap,_,rfl,hB,heap_setCell_same _ _ _ _ _ _ hg,hnc,hcm,by rw [Array.size_setIfInBounds];exact hcs,?_⟩;rw [Array.toList_setIfInBounds,List.take_set,ht,ZfM,ZfM,List.set_append_right _ _ (by rw [Zch];omega),Zch,show ps.length*3+2-ps.length*3=2 by omega];rfl
theorem ZpI:(Tryz.prog.info? 246).map (fun i=>(i.zero,i.size,i.bytes))=some (some (.agg #[.int .i64 0,.int .i64 0,.bool false]),3,24):=by kernel_rfl
theorem ZfN {ops:Array Oper} {o:Oper} {a:Act} {K:Act->World->Prop} {Q:Exit->Act->World->Prop} {E:Prop} (W:World) (hg:o.guard=none) (s x:Operand)
  (ho:o.op=.call { callee:=.builtin .append,args:=#[s,x],argTypes:=#[226,226] })
  (B G m:Nat) (v:Value) (ps qs:List Part) (hm:qs.length=m) (hown:SOwnP W B v ps) (hs:a.eval s=v) (hx:a.eval x=.slice (some ⟨G,0,none⟩) m m) (hG:∀j u,(pflat qs)[j]?=some u->W.cell? ⟨G,j,none⟩=some u)
  (hlen:ps.length+m<=1000000) (hb:B<=W.heap.size)
  (h:∀v' w',SOwnP w' B v' (ps++qs)->Below B W w'->(∀k,k<W.heap.size->v.ownBlock≠some k->w'.heap[k]?=W.heap[k]?)->(∀k,v'.ownBlock=some k->v.ownBlock=some k\/W.heap.size<=k)->K (a.put o.dst v') w') :
  if Region.wanted o (yielded ops a.tmps)=true then Oper.wp Tryz.prog o a W K Q else E:=by
 obtain⟨i0,hi,hz0,hz1,hz2⟩:=info_parts ZpI;subst hm;refine Zdz hg s x 226 ho B 246 i0 (.agg #[.int .i64 0,.int .i64 0,.bool false]) 3 24 Tryz.underlying226 hi hz0 hz1 hz2 rfl (by decide) v ps.length (pflat ps) hs hown ⟨G,0,none⟩ qs.length qs.length (pflat qs) hx (Zch qs) ?_ ?_ ?_ ?_ hb ?_
 ·intro j u hu;have:=hG j u hu
  rwa [Addr.add_lit,Nat.zero_add]
 ·intro u hu;obtain⟨p,_,hp⟩:=List.mem_flatMap.1 hu;simp [pcells] at hp;rcases hp with rfl|rfl|rfl<;>rfl
 ·unfold maxLen;omega
 ·omega
 ·intro v' w' hown' hg' hv;refine h v' w' ?_ (Below.grown (Below.refl B W) hg' hb (fun j hj=>(World.ownsRow.lt hown j hj).1)) (fun k hk hne=>hg'.block k hk (fun e=>hne e.symm)) hv;unfold SOwnP;rw [List.length_append,ZfM];exact hown'
def KeyV (w:World) (vk:Value) (kb:List Nat) (bc n:Nat) (C:List Nat) (K:Nat->Nat):Prop:=
 ∃(F:FuncId) (caps:Array Value),vk=.func (.func F) #[] caps/\(∀args w,(callFunc F args).run Tryz.prog w=.ok (.enter F args) w) /\
  ∀w',(∀g∈kb,w'.heap[g]?=w.heap[g]?)->RowI w' bc (toI C)->∀i,i<n->Calls Tryz.prog F (#[.int .i64 (i:Int)]++caps) w' fun e w''=>e=.returned (.int .i64 (K i:Int))/\∃m,w''=w'.drewN m
theorem KeyV.same {w w1:World} {vk:Value} {kb:List Nat} {bc n:Nat} {C:List Nat} {K:Nat->Nat} (h:KeyV w vk kb bc n C K) (he:∀g∈kb,w1.heap[g]?=w.heap[g]?):KeyV w1 vk kb bc n C K:=by
 obtain⟨F,caps,h1,h2,h3⟩:=h;exact⟨F,caps,h1,h2,fun w' h4 h5=>h3 w' (fun g hg=>(h4 g hg).trans (he g hg)) h5⟩
structure SoF (F:Nat->Value) (bo bc ba n:Nat) (vk vw:Value) (S:SS):Prop where
 f0:F 0=.slice (some ⟨bo,0,none⟩) n n
 f1:F 1=.slice (some ⟨bc,0,none⟩) n n
 f2:F 2=.slice (some ⟨ba,0,none⟩) n n
 f3:F 3=.int .i64 (S.reach:Int)
 f4:F 4=vk
 f5:F 5=vw
 f6:F 6=.int .i64 (S.laid:Int)
 f7:F 7=.int .i64 (S.first:Int)
 f8:F 8=.int .i64 (S.second:Int)
 f9:F 9=.int .i64 (S.made:Int)
 f10:F 10=.int .i64 (S.steps:Int)
def SoObj (w:World) (b bo bc ba n:Nat) (vk vw:Value) (S:SS):Prop:=∃F,ObjF 11 228 w b F/\SoF F bo bc ba n vk vw S
structure IsSo (B:Nat) (w:World) (b bo bc ba:Nat) (vk vw:Value) (n:Nat) (kb:List Nat) (S:SS):Prop where
 obj:SoObj w b bo bc ba n vk vw S
 ro:RowI w bo (toI S.ord)
 rc:RowI w bc (toI S.cls)
 ra:RowI w ba (toI S.asd)
 lo:S.ord.length=n
 lc:S.cls.length=n
 la:S.asd.length=n
 wt:SOwnP w B vw S.ps
 apart:b≠bo/\b≠bc/\b≠ba/\bo≠bc/\bo≠ba/\bc≠ba
 wap:∀k,vw.ownBlock=some k->k≠b/\k≠bo/\k≠bc/\k≠ba
 base:B<=b/\B<=bo/\B<=bc/\B<=ba
 kap:∀g∈kb,g<w.heap.size/\g≠b/\g≠bo/\g≠bc/\g≠ba/\vw.ownBlock≠some g
section
variable {B : Nat} {w w' : World} {b bo bc ba n : Nat} {vk vw : Value} {kb : List Nat} {S S' : SS}
theorem SoObj.cells (h:SoObj w b bo bc ba n vk vw S) :
  w.cell? ⟨b,0,none⟩=some (.slice (some ⟨bo,0,none⟩) n n)/\w.cell? ⟨b,1,none⟩=some (.slice (some ⟨bc,0,none⟩) n n)/\w.cell? ⟨b,2,none⟩=some (.slice (some ⟨ba,0,none⟩) n n)/\w.cell? ⟨b,3,none⟩=some (.int .i64 (S.reach:Int)) /\
  w.cell? ⟨b,4,none⟩=some vk/\w.cell? ⟨b,5,none⟩=some vw/\w.cell? ⟨b,6,none⟩=some (.int .i64 (S.laid:Int))/\w.cell? ⟨b,7,none⟩=some (.int .i64 (S.first:Int))/\w.cell? ⟨b,8,none⟩=some (.int .i64 (S.second:Int)) /\
  w.cell? ⟨b,9,none⟩=some (.int .i64 (S.made:Int))/\w.cell? ⟨b,10,none⟩=some (.int .i64 (S.steps:Int)):=by
 obtain⟨F,h1,h2⟩:=h;refine⟨?_,?_,?_,?_,?_,?_,?_,?_,?_,?_,?_⟩
 ·rw [(h1.cell (i:=0) (by omega)).1,h2.f0]
 ·rw [(h1.cell (i:=1) (by omega)).1,h2.f1]
 ·rw [(h1.cell (i:=2) (by omega)).1,h2.f2]
 ·rw [(h1.cell (i:=3) (by omega)).1,h2.f3]
 ·rw [(h1.cell (i:=4) (by omega)).1,h2.f4]
 ·rw [(h1.cell (i:=5) (by omega)).1,h2.f5]
 ·rw [(h1.cell (i:=6) (by omega)).1,h2.f6]
 ·rw [(h1.cell (i:=7) (by omega)).1,h2.f7]
 ·rw [(h1.cell (i:=8) (by omega)).1,h2.f8]
 ·rw [(h1.cell (i:=9) (by omega)).1,h2.f9]
 ·rw [(h1.cell (i:=10) (by omega)).1,h2.f10]
theorem SoObj.frozen (h:SoObj w b bo bc ba n vk vw S) (i:Nat) (hi:i<11):w.frozen? ⟨b,i,none⟩=false:=by
 obtain⟨F,h1,h2⟩:=h;exact(h1.cell hi).2
theorem SoObj.lt (h:SoObj w b bo bc ba n vk vw S):b<w.heap.size:=by
 obtain⟨F,h1,h2⟩:=h;exact h1.lt
theorem SoObj.other (h:SoObj w b bo bc ba n vk vw S) {X:Nat->Prop} (ht:Touch X w w') (hX:¬X b):SoObj w' b bo bc ba n vk vw S:=by
 obtain⟨F,h1,h2⟩:=h;exact⟨F,h1.other ht hX,h2⟩
theorem SoObj.drewN (h:SoObj w b bo bc ba n vk vw S) (m:Nat):SoObj (w.drewN m) b bo bc ba n vk vw S:=h
theorem SoObj.set3 (h:SoObj w b bo bc ba n vk vw S) (x:Nat):SoObj (w.setCell ⟨b,3,none⟩ (.int .i64 (x:Int))) b bo bc ba n vk vw { S with reach:=x }:=by
 obtain⟨F,h1,h2⟩:=h;exact⟨_,h1.set 3 _,(Zad _ _ (by omega)).trans h2.f0,(Zad _ _ (by omega)).trans h2.f1,(Zad _ _ (by omega)).trans h2.f2,ZaO _ _ _,(Zad _ _ (by omega)).trans h2.f4,(Zad _ _ (by omega)).trans h2.f5,(Zad _ _ (by omega)).trans h2.f6,(Zad _ _ (by omega)).trans h2.f7,(Zad _ _ (by omega)).trans h2.f8,(Zad _ _ (by omega)).trans h2.f9,(Zad _ _ (by omega)).trans h2.f10⟩
theorem SoObj.set4 (h:SoObj w b bo bc ba n vk vw S) (x:Value):SoObj (w.setCell ⟨b,4,none⟩ x) b bo bc ba n x vw S:=by
 obtain⟨F,h1,h2⟩:=h;exact⟨_,h1.set 4 _,(Zad _ _ (by omega)).trans h2.f0,(Zad _ _ (by omega)).trans h2.f1,(Zad _ _ (by omega)).trans h2.f2,(Zad _ _ (by omega)).trans h2.f3,ZaO _ _ _,(Zad _ _ (by omega)).trans h2.f5,(Zad _ _ (by omega)).trans h2.f6,(Zad _ _ (by omega)).trans h2.f7,(Zad _ _ (by omega)).trans h2.f8,(Zad _ _ (by omega)).trans h2.f9,(Zad _ _ (by omega)).trans h2.f10⟩
theorem SoObj.set5 (h:SoObj w b bo bc ba n vk vw S) (x:Value) (ps:List Part):SoObj (w.setCell ⟨b,5,none⟩ x) b bo bc ba n vk x { S with ps:=ps }:=by
 obtain⟨F,h1,h2⟩:=h;exact⟨_,h1.set 5 _,(Zad _ _ (by omega)).trans h2.f0,(Zad _ _ (by omega)).trans h2.f1,(Zad _ _ (by omega)).trans h2.f2,(Zad _ _ (by omega)).trans h2.f3,(Zad _ _ (by omega)).trans h2.f4,ZaO _ _ _,(Zad _ _ (by omega)).trans h2.f6,(Zad _ _ (by omega)).trans h2.f7,(Zad _ _ (by omega)).trans h2.f8,(Zad _ _ (by omega)).trans h2.f9,(Zad _ _ (by omega)).trans h2.f10⟩
theorem SoObj.set6 (h:SoObj w b bo bc ba n vk vw S) (x:Nat):SoObj (w.setCell ⟨b,6,none⟩ (.int .i64 (x:Int))) b bo bc ba n vk vw { S with laid:=x }:=by
 obtain⟨F,h1,h2⟩:=h;exact⟨_,h1.set 6 _,(Zad _ _ (by omega)).trans h2.f0,(Zad _ _ (by omega)).trans h2.f1,(Zad _ _ (by omega)).trans h2.f2,(Zad _ _ (by omega)).trans h2.f3,(Zad _ _ (by omega)).trans h2.f4,(Zad _ _ (by omega)).trans h2.f5,ZaO _ _ _,(Zad _ _ (by omega)).trans h2.f7,(Zad _ _ (by omega)).trans h2.f8,(Zad _ _ (by omega)).trans h2.f9,(Zad _ _ (by omega)).trans h2.f10⟩
theorem SoObj.set7 (h:SoObj w b bo bc ba n vk vw S) (x:Nat):SoObj (w.setCell ⟨b,7,none⟩ (.int .i64 (x:Int))) b bo bc ba n vk vw { S with first:=x }:=by
 obtain⟨F,h1,h2⟩:=h;exact⟨_,h1.set 7 _,(Zad _ _ (by omega)).trans h2.f0,(Zad _ _ (by omega)).trans h2.f1,(Zad _ _ (by omega)).trans h2.f2,(Zad _ _ (by omega)).trans h2.f3,(Zad _ _ (by omega)).trans h2.f4,(Zad _ _ (by omega)).trans h2.f5,(Zad _ _ (by omega)).trans h2.f6,ZaO _ _ _,(Zad _ _ (by omega)).trans h2.f8,(Zad _ _ (by omega)).trans h2.f9,(Zad _ _ (by omega)).trans h2.f10⟩
theorem SoObj.set8 (h:SoObj w b bo bc ba n vk vw S) (x:Nat):SoObj (w.setCell ⟨b,8,none⟩ (.int .i64 (x:Int))) b bo bc ba n vk vw { S with second:=x }:=by
 obtain⟨F,h1,h2⟩:=h;exact⟨_,h1.set 8 _,(Zad _ _ (by omega)).trans h2.f0,(Zad _ _ (by omega)).trans h2.f1,(Zad _ _ (by omega)).trans h2.f2,(Zad _ _ (by omega)).trans h2.f3,(Zad _ _ (by omega)).trans h2.f4,(Zad _ _ (by omega)).trans h2.f5,(Zad _ _ (by omega)).trans h2.f6,(Zad _ _ (by omega)).trans h2.f7,ZaO _ _ _,(Zad _ _ (by omega)).trans h2.f9,(Zad _ _ (by omega)).trans h2.f10⟩
theorem SoObj.set9 (h:SoObj w b bo bc ba n vk vw S) (x:Nat):SoObj (w.setCell ⟨b,9,none⟩ (.int .i64 (x:Int))) b bo bc ba n vk vw { S with made:=x }:=by
 obtain⟨F,h1,h2⟩:=h;exact⟨_,h1.set 9 _,(Zad _ _ (by omega)).trans h2.f0,(Zad _ _ (by omega)).trans h2.f1,(Zad _ _ (by omega)).trans h2.f2,(Zad _ _ (by omega)).trans h2.f3,(Zad _ _ (by omega)).trans h2.f4,(Zad _ _ (by omega)).trans h2.f5,(Zad _ _ (by omega)).trans h2.f6,(Zad _ _ (by omega)).trans h2.f7,(Zad _ _ (by omega)).trans h2.f8,ZaO _ _ _,(Zad _ _ (by omega)).trans h2.f10⟩
theorem SoObj.set10 (h:SoObj w b bo bc ba n vk vw S) (x:Nat):SoObj (w.setCell ⟨b,10,none⟩ (.int .i64 (x:Int))) b bo bc ba n vk vw { S with steps:=x }:=by
 obtain⟨F,h1,h2⟩:=h;exact⟨_,h1.set 10 _,(Zad _ _ (by omega)).trans h2.f0,(Zad _ _ (by omega)).trans h2.f1,(Zad _ _ (by omega)).trans h2.f2,(Zad _ _ (by omega)).trans h2.f3,(Zad _ _ (by omega)).trans h2.f4,(Zad _ _ (by omega)).trans h2.f5,(Zad _ _ (by omega)).trans h2.f6,(Zad _ _ (by omega)).trans h2.f7,(Zad _ _ (by omega)).trans h2.f8,(Zad _ _ (by omega)).trans h2.f9,ZaO _ _ _⟩
theorem SoObj.swap (h:SoObj w b bo bc ba n vk vw S):SoObj ((w.setCell ⟨b,1,none⟩ (.slice (some ⟨ba,0,none⟩) n n)).setCell ⟨b,2,none⟩ (.slice (some ⟨bc,0,none⟩) n n)) b bo ba bc n vk vw { S with cls:=S.asd,asd:=S.cls }:=by
 obtain⟨F,h1,h2⟩:=h;refine⟨_,(h1.set 1 _).set 2 _,?_,?_,ZaO _ _ _,?_,?_,?_,?_,?_,?_,?_,?_⟩
 ·exact(Zad _ _ (by omega)).trans ((Zad _ _ (by omega)).trans h2.f0)
 ·exact(Zad _ _ (by omega)).trans (ZaO _ _ _)
 ·exact(Zad _ _ (by omega)).trans ((Zad _ _ (by omega)).trans h2.f3)
 ·exact(Zad _ _ (by omega)).trans ((Zad _ _ (by omega)).trans h2.f4)
 ·exact(Zad _ _ (by omega)).trans ((Zad _ _ (by omega)).trans h2.f5)
 ·exact(Zad _ _ (by omega)).trans ((Zad _ _ (by omega)).trans h2.f6)
 ·exact(Zad _ _ (by omega)).trans ((Zad _ _ (by omega)).trans h2.f7)
 ·exact(Zad _ _ (by omega)).trans ((Zad _ _ (by omega)).trans h2.f8)
 ·exact(Zad _ _ (by omega)).trans ((Zad _ _ (by omega)).trans h2.f9)
 ·exact(Zad _ _ (by omega)).trans ((Zad _ _ (by omega)).trans h2.f10)
theorem IsSo.own (h:IsSo B w b bo bc ba vk vw n kb S) (ht:Touch (·=b) w w') (ho:SoObj w' b bo bc ba n vk vw S') (h1:S'.ord=S.ord) (h2:S'.cls=S.cls) (h3:S'.asd=S.asd) (h4:S'.ps=S.ps):IsSo B w' b bo bc ba vk vw n kb S':=by
 obtain⟨a1,a2,a3,a4,a5,a6⟩:=h.apart
 exact⟨ho,by rw [h1];exact h.ro.other ht (fun e=>a1 e.symm),by rw [h2];exact h.rc.other ht (fun e=>a2 e.symm),by rw [h3];exact h.ra.other ht (fun e=>a3 e.symm),by rw [h1];exact h.lo,by rw [h2];exact h.lc,by rw [h3];exact h.la,
  by rw [h4];exact h.wt.same (fun k hk=>ht.block k (h.wt.lt k hk).2 (h.wap k hk).1),h.apart,h.wap,h.base,fun g hg=>⟨Nat.lt_of_lt_of_le (h.kap g hg).1 ht.size,(h.kap g hg).2⟩⟩
theorem IsSo.below (h:IsSo B w b bo bc ba vk vw n kb S) (ht:Below w.heap.size w w'):IsSo B w' b bo bc ba vk vw n kb S:=by
 have t:=Touch.ofBelow (S:=fun _=>False) ht;exact⟨h.obj.other t (fun e=>e),h.ro.other t (fun e=>e),h.rc.other t (fun e=>e),h.ra.other t (fun e=>e),h.lo,h.lc,h.la,h.wt.same (fun k hk=>t.block k (h.wt.lt k hk).2 (fun e=>e)),h.apart,h.wap,h.base,fun g hg=>⟨Nat.lt_of_lt_of_le (h.kap g hg).1 ht.size,(h.kap g hg).2⟩⟩
theorem IsSo.drewN (h:IsSo B w b bo bc ba vk vw n kb S) (m:Nat):IsSo B (w.drewN m) b bo bc ba vk vw n kb S:=⟨h.obj,h.ro,h.rc,h.ra,h.lo,h.lc,h.la,h.wt,h.apart,h.wap,h.base,h.kap⟩
theorem IsSo.inOrd (h:IsSo B w b bo bc ba vk vw n kb S) (ht:Touch (·=bo) w w') (l:List Nat) (hl:l.length=n) (hr:RowI w' bo (toI l)):IsSo B w' b bo bc ba vk vw n kb { S with ord:=l }:=by
 obtain⟨a1,a2,a3,a4,a5,a6⟩:=h.apart;obtain⟨F,o1,o2⟩:=h.obj
 exact⟨⟨F,o1.other ht (fun e=>a1 e),⟨o2.f0,o2.f1,o2.f2,o2.f3,o2.f4,o2.f5,o2.f6,o2.f7,o2.f8,o2.f9,o2.f10⟩⟩,hr,h.rc.other ht (fun e=>a4 e.symm),h.ra.other ht (fun e=>a5 e.symm),hl,h.lc,h.la,h.wt.same (fun k hk=>ht.block k (h.wt.lt k hk).2 (h.wap k hk).2.1),h.apart,h.wap,h.base,
  fun g hg=>⟨Nat.lt_of_lt_of_le (h.kap g hg).1 ht.size,(h.kap g hg).2⟩⟩
theorem IsSo.inAsd (h:IsSo B w b bo bc ba vk vw n kb S) (ht:Touch (·=ba) w w') (l:List Nat) (hl:l.length=n) (hr:RowI w' ba (toI l)):IsSo B w' b bo bc ba vk vw n kb { S with asd:=l }:=by
 obtain⟨a1,a2,a3,a4,a5,a6⟩:=h.apart;obtain⟨F,o1,o2⟩:=h.obj
 exact⟨⟨F,o1.other ht (fun e=>a3 e),⟨o2.f0,o2.f1,o2.f2,o2.f3,o2.f4,o2.f5,o2.f6,o2.f7,o2.f8,o2.f9,o2.f10⟩⟩,h.ro.other ht (fun e=>a5 e),h.rc.other ht (fun e=>a6 e),hr,h.lo,h.lc,hl,h.wt.same (fun k hk=>ht.block k (h.wt.lt k hk).2 (h.wap k hk).2.2.2),h.apart,h.wap,h.base,
  fun g hg=>⟨Nat.lt_of_lt_of_le (h.kap g hg).1 ht.size,(h.kap g hg).2⟩⟩
def KbSame (w w':World) (kb:List Nat):Prop:=∀g∈kb,w'.heap[g]?=w.heap[g]?
end
end
section
open Go.RowKit BwtM
end
section
open Go.RowKit BwtM SrtM PkM
theorem ZmZ (w:World) (lo hi:Int) (bg:Bool):(w.alloc (.cells #[.int .i64 lo,.int .i64 hi,.bool bg] 246)).cell? ⟨w.heap.size,0,none⟩=some (.int .i64 lo)/\(w.alloc (.cells #[.int .i64 lo,.int .i64 hi,.bool bg] 246)).cell? ⟨w.heap.size,1,none⟩=some (.int .i64 hi)/\(w.alloc (.cells #[.int .i64 lo,.int .i64 hi,.bool bg] 246)).cell? ⟨w.heap.size,2,none⟩=some (.bool bg):=
 ⟨by rw [cell_of_row _ _ 0 _ _ _ (heap_alloc_new _ _)];rfl,by rw [cell_of_row _ _ 1 _ _ _ (heap_alloc_new _ _)];rfl,by rw [cell_of_row _ _ 2 _ _ _ (heap_alloc_new _ _)];rfl⟩
theorem Zhh (lo hi:Nat) (bg:Bool) (w:World) (h:lo<=hi) (hn:hi<=1000000):Calls Tryz.prog 194 #[.agg #[.int .i64 (lo:Int),.int .i64 (hi:Int),.bool bg]] w fun e w'=>e=.returned (.int .i64 ((hi-lo:Nat):Int))/\Below w.heap.size w w':=by
 obtain⟨c0,c1,c2⟩:=ZmZ w lo hi bg;have HB:=zh ((Below.refl w.heap.size w).alloc (Nat.le_refl _) (.cells #[.int .i64 (lo:Int),.int .i64 (hi:Int),.bool bg] 246));obtain⟨d,hd⟩:∃d,hi-lo=d:=⟨_,rfl⟩
 have hdi:(hi:Int)-(lo:Int)=(d:Int):=by omega
 rw [hd];go_enter Tryz.func194,Tryz.ntmps194;go_wp2_with fail;go_ret;exact⟨rfl,HB.out⟩
theorem Zka (lo hi:Nat) (bg:Bool) (w:World) (hl:lo<=1000000) (hn:hi<=1000000):Calls Tryz.prog 214 #[.agg #[.int .i64 (lo:Int),.int .i64 (hi:Int),.bool bg]] w fun e w'=>e=.returned (.int .i64 (((⟨lo,hi,bg⟩:Part).mid:Nat):Int))/\Below w.heap.size w w':=by
 obtain⟨c0,c1,c2⟩:=ZmZ w lo hi bg;have HB:=zh ((Below.refl w.heap.size w).alloc (Nat.le_refl _) (.cells #[.int .i64 (lo:Int),.int .i64 (hi:Int),.bool bg] 246));obtain⟨d,hd⟩:∃d,lo+hi=d:=⟨_,rfl⟩
 have hdi:(lo:Int)+(hi:Int)=(d:Int):=by omega
 have hdd:d<=2000000:=by omega
 have hq:(d:Int) / 2=((d / 2:Nat):Int):=by omega
 have hm:(⟨lo,hi,bg⟩:Part).mid=d / 2:=by show(lo+hi) / 2=_;rw [hd]
 rw [hm];have hqd:d / 2<=d:=Nat.div_le_self _ _;generalize d / 2=q at *;clear hm hd;go_enter Tryz.func214,Tryz.ntmps214;go_wp2_with fail;go_ret;exact⟨rfl,HB.out⟩
theorem ZpJ (w:World):Calls Tryz.prog 128 #[.pointer none] w fun e w'=>e=.returned (.bool false)/\w'=w:=by
 go_enter Tryz.func128,Tryz.ntmps128;go_wp2_with fail;go_ret;exact⟨rfl,rfl⟩
theorem ZpK (k:Int) (w:World):Calls Tryz.prog 127 #[.pointer none,.int .i64 k] w fun e w'=>e=.returned (.int .i64 0)/\w'=w:=by
 go_enter Tryz.func127,Tryz.ntmps127;go_wp2_with fail;go_ret;exact⟨rfl,rfl⟩
section
variable {B : Nat} {b bo bc ba n : Nat} {vk vw : Value} {kb : List Nat} {S : SS}
theorem ZpL (d:Nat) (f:Nat) (xs:Array Value) (W:World):(Op.equalIn (d+1) 58 (.func (.func f) #[] xs) .nilFunc).run Tryz.prog W=.ok false W:=by
 have hu:=Tryz.underlying58;simp [Op.equalIn,run_underlying hu]
theorem ZsI (f:Nat) (xs:Array Value) (W:World):(binOp .eql 58 (.func (.func f) #[] xs) .nilFunc).run Tryz.prog W=.ok (.bool false) W:=by
 simp only [binOp];simp [Op.equal,Op.maxDepth,ZpL 9999 f xs W]
theorem ZpM (d:Nat) (W:World):(Op.equalIn (d+1) 58 .nilFunc .nilFunc).run Tryz.prog W=.ok true W:=by
 have hu:=Tryz.underlying58;simp [Op.equalIn,run_underlying hu]
theorem ZsJ (W:World):(binOp .eql 58 .nilFunc .nilFunc).run Tryz.prog W=.ok (.bool true) W:=by
 simp only [binOp];simp [Op.equal,Op.maxDepth,ZpM 9999 W]
theorem Zrv (f:Nat) (xs:Array Value) (w:World) (h:SoObj w b bo bc ba n (.func (.func f) #[] xs) vw S):Calls Tryz.prog 128 #[.pointer (some ⟨b,0,none⟩)] w fun e w'=>e=.returned (.bool false)/\w'=w:=by
 obtain⟨_,_,_,_,c4,_⟩:=h.cells;have he:=fun W=>ZsI f xs W
 go_enter Tryz.func128,Tryz.ntmps128;go_wp2_with fail;go_ret;exact⟨rfl,rfl⟩
theorem ZpN (w:World) (h:SoObj w b bo bc ba n .nilFunc vw S):Calls Tryz.prog 128 #[.pointer (some ⟨b,0,none⟩)] w fun e w'=>e=.returned (.bool true)/\w'=w:=by
 obtain⟨_,_,_,_,c4,_⟩:=h.cells;have he:=fun W=>ZsJ W
 go_enter Tryz.func128,Tryz.ntmps128;go_wp2_with fail;go_ret;exact⟨rfl,rfl⟩
theorem ZpO (w:World) (h:SoObj w b bo bc ba n vk vw S) (hn:n<=1000000):Calls Tryz.prog 126 #[.pointer (some ⟨b,0,none⟩)] w fun e w'=>e=.returned (.int .i64 ((3*n:Nat):Int))/\∃m,w'=w.drewN m:=by
 obtain⟨c0,c1,c2,_⟩:=h.cells;obtain⟨q,hq⟩:∃q,n+n=q:=⟨_,rfl⟩
 obtain⟨r,hr⟩:∃r,3*n=r:=⟨_,rfl⟩
 have h1:(n:Int)+(n:Int)=(q:Int):=by omega
 have h2:(q:Int)+(n:Int)=(r:Int):=by omega
 have h3:IntKind.i64.wrap (q:Int)=(q:Int):=IntWalk.i64_in _ (by omega);have h4:IntKind.i64.wrap (r:Int)=(r:Int):=IntWalk.i64_in _ (by omega);rw [hr];clear hq hr h;go_enter Tryz.func126,Tryz.ntmps126;go_wp2_with fail
 go_quiet (fail)
 go_wp2_with fail;go_ret;exact⟨rfl,_,rfl⟩
theorem Zl4 (g m cap:Nat) (hm:m<=cap) (hb:m<=1000000) (W:World):(Instr.slice 226 (.slice (some ⟨g,0,none⟩) (m+1) cap) none (some (.int .i64 (m:Int))) none).run Tryz.prog W=.ok (.slice (some ⟨g,0,none⟩) m cap) W:=by
 have hs:(sizeOf (Tryz.prog.elem 226)).run Tryz.prog W=.ok 3 W:=by kernel_rfl
 have e:((m:Int)).toNat=m:=by omega
 rw [run_slice_h W 226 (some ⟨g,0,none⟩) (m+1) cap (by kernel_rfl) .i64 _ (by omega) (by omega),hs];simp [Result.andThen,sliced,Addr.add]
def popS (S:SS) (ps:List Part):SS:={ S with ps:=ps,laid:=0,first:=0,second:=0 }
theorem IsSo.pop {w w':World} {ps:List Part} {g L cap:Nat} (h:IsSo B w b bo bc ba vk (.slice (some ⟨g,0,none⟩) (L+1) cap) n kb S) (ht:Touch (·=b) w w') (ho:SoObj w' b bo bc ba n vk (.slice (some ⟨g,0,none⟩) L cap) (popS S ps)) (hw:SOwnP w B (.slice (some ⟨g,0,none⟩) L cap) ps) :
  IsSo B w' b bo bc ba vk (.slice (some ⟨g,0,none⟩) L cap) n kb (popS S ps):=by
 obtain⟨a1,a2,a3,a4,a5,a6⟩:=h.apart;have hwap:∀k,(Value.slice (some ⟨g,0,none⟩) L cap).ownBlock=some k->k≠b/\k≠bo/\k≠bc/\k≠ba:=fun k hk=>h.wap k hk
 exact⟨ho,h.ro.other ht (fun e=>a1 e.symm),h.rc.other ht (fun e=>a2 e.symm),h.ra.other ht (fun e=>a3 e.symm),h.lo,h.lc,h.la,hw.same (fun k hk=>ht.block k (hw.lt k hk).2 (hwap k hk).1),h.apart,hwap,h.base,fun g' hg=>⟨Nat.lt_of_lt_of_le (h.kap g' hg).1 ht.size,(h.kap g' hg).2⟩⟩
theorem ZiG (w:World) (ps:List Part) (p:Part) (h:IsSo B w b bo bc ba vk vw n kb S) (hps:S.ps=ps++[p]) (hl:ps.length<=1000000):Calls Tryz.prog 195 #[.pointer (some ⟨b,0,none⟩)] w fun e w'=>
  e=.returned (.tuple #[])/\∃vw',IsSo B w' b bo bc ba vk vw' n kb (popS S ps)/\Touch (·=b) w w':=by
 have H:=zh h;have hw:=h.wt;rw [hps] at hw;obtain⟨g,cap,rfl,hBg,hgl,hcap,c0,c1,c2,f2⟩:=hw.top;have HPOP:=zh hw.pop;have HW:=zh hw;obtain⟨_,_,_,_,_,d5,d6,d7,d8,_⟩:=h.obj.cells;have e5:=h.obj.frozen 5 (by omega);have e6:=h.obj.frozen 6 (by omega);have e7:=h.obj.frozen 7 (by omega);have e8:=h.obj.frozen 8 (by omega);have HO:=zh h.obj;have HPS:=zh hps;obtain⟨L,hL⟩:∃L,ps.length=L:=⟨_,rfl⟩
 rw [hL] at HPOP hcap d5 hl H HW HO;have hLi:(((L+1:Nat):Nat):Int)-1=(L:Int):=by omega
 have hLi2:((L:Int)+1)-1=(L:Int):=by omega
 have hLw:IntKind.i64.wrap (L:Int)=(L:Int):=IntWalk.i64_in _ (by omega);have hsl:=fun W=>Zl4 g L cap (by omega) hl W
 have hLw2:IntKind.i64.wrap ((L:Int)+1-1)=(L:Int):=by rw [hLi2];exact hLw
 clear h hw hps hL c0 c1 c2 f2;go_enter Tryz.func195,Tryz.ntmps195;go_wp2_with fail
 go_still_tail 14,(by kernel_rfl)
 change wpList _ _ _ _ _ (w.drewN 1);have HF:Hid (SoObj (((((w.drewN 1).setCell ⟨b,5,none⟩ (.slice (some ⟨g,0,none⟩) L cap)).setCell ⟨b,6,none⟩ (.int .i64 0)).setCell ⟨b,7,none⟩ (.int .i64 0)).setCell ⟨b,8,none⟩ (.int .i64 0)) b bo bc ba n vk (.slice (some ⟨g,0,none⟩) L cap) (popS S ps)):=zh ((((HO.out.drewN 1).set5 _ ps).set6 0).set7 0 |>.set8 0);have HT:Hid (Touch (·=b) w (((((w.drewN 1).setCell ⟨b,5,none⟩ (.slice (some ⟨g,0,none⟩) L cap)).setCell ⟨b,6,none⟩ (.int .i64 0)).setCell ⟨b,7,none⟩ (.int .i64 0)).setCell ⟨b,8,none⟩ (.int .i64 0))):=zh (Zae (Zae (Zae (Zae (Zan _ _ _)))));have HR:Hid (IsSo B (((((w.drewN 1).setCell ⟨b,5,none⟩ (.slice (some ⟨g,0,none⟩) L cap)).setCell ⟨b,6,none⟩ (.int .i64 0)).setCell ⟨b,7,none⟩ (.int .i64 0)).setCell ⟨b,8,none⟩ (.int .i64 0)) b bo bc ba vk (.slice (some ⟨g,0,none⟩) L cap) n kb (popS S ps)):=zh (H.out.pop HT.out HF.out HPOP.out);clear HF;go_wp2_with fail;refine bodyPost_end (results_none rfl _ _ _) rfl ?_;exact⟨rfl,_,HR.out,HT.out⟩
end
end
section
open Go.RowKit BwtM SrtM PkM
section
variable {B : Nat} {b bo bc ba n : Nat} {vk vw : Value} {kb : List Nat} {S : SS}
def passSS (S:SS) (r:Nat) (ps:List Part):SS:={ S with reach:=r,ps:=ps }
structure Pushed (w w':World) (v v':Value):Prop where
 os:w'.os=w.os
 tape:w'.tape=w.tape
 output:w'.output=w.output
 size:w.heap.size<=w'.heap.size
 block:∀k,k<w.heap.size->v.ownBlock≠some k->w'.heap[k]?=w.heap[k]?
 own:∀k,v'.ownBlock=some k->v.ownBlock=some k\/w.heap.size<=k
theorem IsSo.grown {w w':World} {vw':Value} {ps:List Part} {S':SS} (h:IsSo B w b bo bc ba vk vw n kb S) (ht:Pushed w w' vw vw') (hw:SOwnP w' B vw' ps) (x:Nat) (hp:SoObj w' b bo bc ba n vk vw S->True)
  (hS:S'={ S with ps:=ps }):IsSo B (w'.setCell ⟨b,5,none⟩ vw') b bo bc ba vk vw' n kb S':=by
 subst hS;obtain⟨a1,a2,a3,a4,a5,a6⟩:=h.apart;have tt:Touch (fun k=>vw.ownBlock=some k) w w':=⟨ht.os,ht.tape,ht.output,ht.size,fun k hk hn=>ht.block k hk hn⟩
 have hob:SoObj w' b bo bc ba n vk vw S:=h.obj.other tt (fun e=>(h.wap b e).1 rfl);have hro:=h.ro.other tt (fun e=>(h.wap bo e).2.1 rfl);have hrc:=h.rc.other tt (fun e=>(h.wap bc e).2.2.1 rfl);have hra:=h.ra.other tt (fun e=>(h.wap ba e).2.2.2 rfl)
 have hwap:∀k,vw'.ownBlock=some k->k≠b/\k≠bo/\k≠bc/\k≠ba:=fun k hk=>by
  rcases ht.own k hk with e|e
  ·exact h.wap k e
  ·have l1:=h.obj.lt;have l2:=h.ro.lt;have l3:=h.rc.lt;have l4:=h.ra.lt;exact⟨by omega,by omega,by omega,by omega⟩
 have t2:Touch (·=b) w' (w'.setCell ⟨b,5,none⟩ vw'):=Zae (Touch.refl _ _)
 exact⟨hob.set5 vw' ps,hro.other t2 (fun e=>a1 e.symm),hrc.other t2 (fun e=>a2 e.symm),hra.other t2 (fun e=>a3 e.symm),h.lo,h.lc,h.la,hw.same (fun k hk=>t2.block k (hw.lt k hk).2 (hwap k hk).1),h.apart,hwap,h.base,
  fun g hg=>⟨Nat.lt_of_lt_of_le (h.kap g hg).1 (Nat.le_trans ht.size t2.size),(h.kap g hg).2.1,(h.kap g hg).2.2.1,(h.kap g hg).2.2.2.1,(h.kap g hg).2.2.2.2.1,fun e=>by
   rcases ht.own g e with e2|e2
   ·exact(h.kap g hg).2.2.2.2.2 e2
   ·have:=(h.kap g hg).1;omega⟩⟩
end
section
variable {B : Nat} {b bo bc ba n : Nat} {vk vw : Value} {kb : List Nat} {S : SS}
theorem ZnN {W:World} {v v':Value} {w':World} (o:Obj) (hB:Below B (W.alloc o) w') (h1:∀k,k<(W.alloc o).heap.size->v.ownBlock≠some k->w'.heap[k]?=(W.alloc o).heap[k]?) (h2:∀k,v'.ownBlock=some k->v.ownBlock=some k\/(W.alloc o).heap.size<=k):Pushed W w' v v':=by
 have hs:(W.alloc o).heap.size=W.heap.size+1:=by simp
 exact⟨hB.os,hB.tape,hB.output,by have:=hB.size;omega,fun k hk hn=>(h1 k (by omega) hn).trans (Zam hk),fun k hk=>(h2 k hk).imp id (fun h=>by omega)⟩
def PassP (B:Nat) (w w':World) (b bo bc ba n:Nat) (vk:Value) (kb:List Nat) (S':SS) (e:Ending):Prop:=
 e=.returned (.tuple #[])/\∃vw',IsSo B w' b bo bc ba vk vw' n kb S'/\Below B w w'/\KbSame w w' kb
theorem Zdt (w:World) (r f:Nat) (xs:Array Value) (h:IsSo B w b bo bc ba vk vw n kb S) (hps:S.ps=[]) (hb:B<=w.heap.size) (hn:n<=1000000) :
  Calls Tryz.prog 158 #[.pointer (some ⟨b,0,none⟩),.int .i64 (r:Int),.func (.func f) #[] xs] w fun e w'=>
  PassP B w w' b bo bc ba n (.func (.func f) #[] xs) kb (passSS S r [⟨0,n,false⟩]) e:=by
 have H:=zh h;have hw:=h.wt;rw [hps] at hw;have HPS:=zh hps;obtain⟨d0,_,_,d3,d4,d5,_⟩:=h.obj.cells;have e3:=h.obj.frozen 3 (by omega);have e4:=h.obj.frozen 4 (by omega);obtain⟨wa,wc,hwe⟩:=hw.slice;have hwe:vw=.slice wa 0 wc:=hwe;subst hwe
 have HO1:Hid (IsSo B ((w.setCell ⟨b,3,none⟩ (.int .i64 (r:Int))).setCell ⟨b,4,none⟩ (.func (.func f) #[] xs)) b bo bc ba (.func (.func f) #[] xs) (.slice wa 0 wc) n kb { S with reach:=r }):=zh (by
  have t:Touch (·=b) w ((w.setCell ⟨b,3,none⟩ (.int .i64 (r:Int))).setCell ⟨b,4,none⟩ (.func (.func f) #[] xs)):=Zae (Zae (Touch.refl _ _));have o:=(h.obj.set3 r).set4 (.func (.func f) #[] xs);obtain⟨a1,a2,a3,a4,a5,a6⟩:=h.apart;exact⟨o,h.ro.other t (fun e=>a1 e.symm),h.rc.other t (fun e=>a2 e.symm),h.ra.other t (fun e=>a3 e.symm),h.lo,h.lc,h.la,h.wt.same (fun k hk=>t.block k (h.wt.lt k hk).2 (h.wap k hk).1),h.apart,h.wap,h.base,fun g hg=>⟨Nat.lt_of_lt_of_le (h.kap g hg).1 t.size,(h.kap g hg).2⟩⟩)
 have HT1:Hid (Touch (·=b) w ((w.setCell ⟨b,3,none⟩ (.int .i64 (r:Int))).setCell ⟨b,4,none⟩ (.func (.func f) #[] xs))):=zh (Zae (Zae (Touch.refl _ _)));clear h hw hps;go_enter Tryz.func158,Tryz.ntmps158;go_wp2_with fail;generalize (w.setCell ⟨b,3,none⟩ (.int .i64 (r:Int))).setCell ⟨b,4,none⟩ (.func (.func f) #[] xs)=w1 at *;clear d0 d3 d4 d5 e3 e4;obtain⟨d0,_,_,_,_,d5,_⟩:=HO1.out.obj.cells;have HO2:=zh (HO1.out.drewN 1);have HBS:Hid (B<=(w1.drewN 1).heap.size):=zh (Nat.le_trans hb HT1.out.size);have HT2:Hid (Touch (·=b) w (w1.drewN 1)):=zh (HT1.out.trans (Zan (·=b) w1 1) (fun _ h=>Or.inl h))
 have HBX:Hid (∀j u,(pflat [⟨0,n,false⟩])[j]?=some u->((w1.drewN 1).alloc (.cells #[.int .i64 0,.int .i64 (n:Int),.bool false] 246)).cell? ⟨w1.heap.size,j,none⟩=some u):=zh (fun j u hu=>by
  have hh:=heap_alloc_new (w1.drewN 1) (.cells #[.int .i64 0,.int .i64 (n:Int),.bool false] 246);have e:=cell_of_row ((w1.drewN 1).alloc (.cells #[.int .i64 0,.int .i64 (n:Int),.bool false] 246)) w1.heap.size j _ _ _ hh;rw [e,<-hu];simp [pflat,pcells])
 have HAL:Hid (B<=((w1.drewN 1).alloc (.cells #[.int .i64 0,.int .i64 (n:Int),.bool false] 246)).heap.size):=zh (by have:=HBS.out;simp at this ⊢;omega)
 have HOWA:Hid (SOwnP ((w1.drewN 1).alloc (.cells #[.int .i64 0,.int .i64 (n:Int),.bool false] 246)) B (.slice wa 0 wc) []):=zh (by
  have h0:=HO2.out.wt;rw [show({ S with reach:=r }:SS).ps=[] from HPS.out] at h0;exact World.ownsRow.alloc h0 _)
 have dA5:((w1.alloc (.cells #[.int .i64 0,.int .i64 (n:Int),.bool false] 246)).drew).cell? ⟨b,5,none⟩=some (.slice wa 0 wc):=(World.cell?_alloc_some w1 _ _ (by rw [d5];rfl)).trans d5;have dA0:((w1.alloc (.cells #[.int .i64 0,.int .i64 (n:Int),.bool false] 246)).drew).cell? ⟨b,0,none⟩=some (.slice (some ⟨bo,0,none⟩) n n):=(World.cell?_alloc_some w1 _ _ (by rw [d0];rfl)).trans d0
 go_region_law (first
  | (refine ZfN ((w1.drewN 1).alloc (.cells #[.int .i64 0,.int .i64 (n:Int),.bool false] 246)) (by rfl) _ _ (by rfl) B w1.heap.size 1 (.slice wa 0 wc) [] [⟨0,n,false⟩] (by rfl) HOWA.out (by rfl) (by rfl) HBX.out (by simp) HAL.out ?_;intro v' w3 hO3 hB3 hk3 hf3;have hb3:w3.heap[b]?=w1.heap[b]?:=((hk3 b (by have:=HO2.out.obj.lt;simp at this ⊢;omega) (fun e=>(HO2.out.wap b e).1 rfl)).trans (Zam HO2.out.obj.lt));have f5:w3.cell? ⟨b,5,none⟩=some (.slice wa 0 wc):=((World.cell?_of_block (w:=w1) (a:=⟨b,5,none⟩) hb3).trans d5);have g5:w3.frozen? ⟨b,5,none⟩=false:=((World.frozen?_of_block (w:=w1) (a:=⟨b,5,none⟩) hb3).trans (HO2.out.obj.frozen 5 (by omega)));obtain⟨va,vc,rfl⟩:=hO3.slice;have HO3:=zh hO3;have HB3:=zh hB3;have HK3:=zh hk3;have HF3:=zh hf3;clear hO3 hB3 hk3 hf3 hb3))
 all_goals
  have HG:Hid (IsSo B (w3.setCell ⟨b,5,none⟩ (.slice va ([]++[(⟨0,n,false⟩:Part)]).length vc)) b bo bc ba (.func (.func f) #[] xs) (.slice va ([]++[(⟨0,n,false⟩:Part)]).length vc) n kb (passSS S r [⟨0,n,false⟩])):=zh (HO2.out.grown (ZnN _ HB3.out HK3.out HF3.out) HO3.out 0 (fun _=>trivial) rfl);have HBB:Hid (Below B w (w3.setCell ⟨b,5,none⟩ (.slice va ([]++[(⟨0,n,false⟩:Part)]).length vc))):=zh (((HT2.out.below hb (fun k hk=>by have:=HO2.out.base.1;have e:k=b:=hk;omega)).trans (((Below.refl B (w1.drewN 1)).alloc HBS.out _).trans HB3.out)).setCell (p:=⟨b,5,none⟩) HO2.out.base.1 _)
  have HKB:Hid (KbSame w (w3.setCell ⟨b,5,none⟩ (.slice va ([]++[(⟨0,n,false⟩:Part)]).length vc)) kb):=zh (fun g hg=>by
   obtain⟨k1,k2,k3,k4,k5,k6⟩:=HO2.out.kap g hg;rw [heap_setCell_other _ _ _ _ (by exact k2)];have hsz:((w1.drewN 1).alloc (.cells #[.int .i64 0,.int .i64 (n:Int),.bool false] 246)).heap.size=(w1.drewN 1).heap.size+1:=by simp
   rw [HK3.out g (by omega) (fun e=>k6 e),Zam k1];exact HT2.out.block g (by have:=(H.out.kap g hg).1;exact this) k2)
  clear f5 g5;go_wp2_with fail;refine bodyPost_end (results_none rfl _ _ _) rfl ?_;exact⟨rfl,_,HG.out,HBB.out,HKB.out⟩
end
end
section
open Go.RowKit
section
variable {P : Program} {ops : Array Oper} {Q : Exit -> Act -> World -> Prop} {md : Region.Mode} {S : World -> Prop} {m : Nat}
def wpAnyK (P:Program) (md:Region.Mode) (ops:Array Oper) (Q:Exit->Act->World->Prop) (S:World->Prop) (m:Nat):Nat->Array Bool->Act->World->Prop
 | 0,listed,a,w=>Region.ready md ops listed=[]/\Q .normal a w
 | fuel+1,listed,a,w=>(Region.ready md ops listed=[]->Q .normal a w)/\∀i∈Region.ready md ops listed,wpOp P ops Q i (fun a' w'=>(i≠m->S w')/\wpAnyK P md ops Q S m fuel (listed.setIfInBounds i true) a' w') a w
theorem ZjD:∀(fuel:Nat) (listed:Array Bool) (a:Act) (w:World),wpAnyK P md ops Q S m fuel listed a w->wpAny P md ops Q fuel listed a w
 | 0,_,_,_,h=>h
 | fuel+1,_,_,_,h=>⟨h.1,fun i hi=>wpOp_mono (fun a' w' h'=>ZjD fuel _ a' w' h'.2) (h.2 i hi)⟩
def waitsB (md:Region.Mode) (ops:Array Oper) (m i:Nat):Bool:=((ops[m]?).map (fun o=>o.after.any fun e=>Region.binds md e && e.on==i)).getD false
theorem ZsK {i:Nat} {listed:Array Bool} (hw:waitsB md ops m i=true) (hi:i∈Region.ready md ops listed):m∉Region.ready md ops listed:=fun hm=>by
 obtain⟨_,o,ho,hall⟩:=mem_ready.1 hm;have h0:=(mem_ready.1 hi).1;unfold waitsB at hw;rw [ho] at hw;simp only [Option.map_some,Option.getD_some,Array.any_eq_true,Bool.and_eq_true,beq_iff_eq] at hw;obtain⟨k,hk,hb,hon⟩:=hw;have h1:=hall _ (Array.getElem_mem hk) hb;rw [hon] at h1;rcases Nat.lt_or_ge i listed.size with c|c
 ·rw [Array.getD_eq_getD_getElem?,Array.getElem?_eq_getElem c] at h0 h1;simp at h0 h1;rw [h0] at h1;cases h1
 ·rw [Array.getD_eq_getD_getElem?,Array.getElem?_eq_none c] at h1;cases h1
theorem Zk3 {i:Nat} {oi:Oper} {v:Value} (hi:ops[i]?=some oi) (hsel:∀(j:Nat) (o:Oper) cs b,ops[j]?=some o->o.op≠.select cs b)
  (hQ:∀c a w,Q (.panic c) (a.put oi.dst v) w->Q (.panic c) a w) (hwait:waitsB md ops m i=true) :
  ∀(fuel:Nat) (listed:Array Bool) (a:Act) (w:World),
   (∀j oj,ops[j]?=some oj->j≠i->listed.getD j true=false->(∀e∈oj.after,Region.binds md e=true->e.on≠i)->oi.apart ops oj=true) ->
   i∈Region.ready md ops listed->YieldsIf P ops S oi v a->S w ->
   wpAnyK P md ops Q S m fuel (listed.setIfInBounds i true) (a.put oi.dst v) w->wpAnyK P md ops Q S m (fuel+1) listed a w:=fun fuel=>by
 induction fuel with
 | zero=>
  intro listed a w _ hr hy hS H;refine⟨fun h=>absurd (h▸hr) (by simp),fun j hj=>?_⟩;by_cases e:j=i
  ·subst e;exact hy.wpOp hi hS ⟨fun _=>hS,H⟩
  ·exact absurd (H.1▸ready_mono hj e) (by simp)
 | succ fuel ih=>
  intro listed a w hfree hr hy hS H;refine⟨fun h=>absurd (h▸hr) (by simp),fun j hj=>?_⟩;by_cases e:j=i
  ·subst e;exact hy.wpOp hi hS ⟨fun _=>hS,H⟩
  ·have hjm:j≠m:=fun g=>ZsK hwait hr (g▸hj)
   obtain⟨hun,oj,hoj,hall⟩:=mem_ready.1 hj
   have hno:∀d∈oj.after,Region.binds md d=true->d.on≠i:=fun d hd hb g=>by
    have h1:=hall d hd hb;have h0:=(mem_ready.1 hr).1;rw [g] at h1;rcases Nat.lt_or_ge i listed.size with c|c
    ·rw [Array.getD_eq_getD_getElem?,Array.getElem?_eq_getElem c] at h0 h1;simp at h0 h1;rw [h0] at h1;cases h1
    ·rw [Array.getD_eq_getD_getElem?,Array.getElem?_eq_none c] at h1;cases h1
   have h2:=wpOp_putIf hoj (hfree j oj hoj e hun hno) (fun cs b=>hsel i oi cs b hi) (fun cs b=>hsel j oj cs b hoj) hQ hy (H.2 j (ready_mono hj e));refine wpOp_mono (fun a' w' h3=>⟨h3.2.1,ih (listed.setIfInBounds j true) a' w' (fun k ok hk hki hu hn=>hfree k ok hk hki ?_ hn) (ready_mono hr (fun g=>e g.symm)) h3.1 (h3.2.1 hjm) ?_⟩) h2
   ·by_cases g:j=k
    ·rw [<-g];exact hun
    ·rw [getD_set_ne true g] at hu;exact hu
   ·rw [Array.setIfInBounds_comm _ _ e];exact h3.2.2
theorem Zah {i:Nat} {oi:Oper} {v:Value} {fuel:Nat} {listed:Array Bool} {a:Act} {w:World} (hi:ops[i]?=some oi)
  (hs:Region.noSelect ops=true) (hf:Region.free md ops listed i=true) (hr:(Region.ready md ops listed).contains i=true) (hwait:waitsB md ops m i=true)
  (hQ:∀c a w,Q (.panic c) (a.put oi.dst v) w->Q (.panic c) a w) (hy:YieldsIf P ops S oi v a) (hS:S w)
  (h:wpAnyK P md ops Q S m fuel (listed.setIfInBounds i true) (a.put oi.dst v) w):wpAnyK P md ops Q S m (fuel+1) listed a w:=
 Zk3 hi (Region.noSelect_spec hs) hQ hwait fuel listed a w (Region.free_spec hi hf) (by simpa using hr) hy hS h
theorem Zau {rs:List Nat} {fuel:Nat} {listed:Array Bool} {a:Act} {w:World} (hr:Region.ready md ops listed=rs) (hne:rs≠[])
  (h:∀i∈rs,wpOp P ops Q i (fun a' w'=>(i≠m->S w')/\wpAnyK P md ops Q S m fuel (listed.setIfInBounds i true) a' w') a w):wpAnyK P md ops Q S m (fuel+1) listed a w:=⟨fun h0=>absurd (hr▸h0) hne,hr▸h⟩
theorem Zbj {i:Nat} {o:Oper} {a:Act} {w:World} {K:Act->World->Prop} (hi:ops[i]?=some o) (h:∀K':Act->World->Prop,(∀a w,K a w->K' a w)->if Region.wanted o (yielded ops a.tmps)=true then Oper.wp P o a w K' Q else K' (a.put o.dst undef) w):wpOp P ops Q i K a w:=by
 have h2:=h K (fun _ _ h=>h);unfold wpOp;simp only [hi];split
 ·rename_i hw;rw [if_pos hw] at h2;exact Or.inl h2
 ·rename_i hw;rw [if_neg hw] at h2;exact h2
theorem ZeX {listed:Array Bool} {a:Act} {w:World} (hr:Region.ready md ops listed=[]) (h:Q .normal a w):∀fuel,wpAnyK P md ops Q S m fuel listed a w
 | 0=>⟨hr,h⟩
 | _+1=>⟨fun _=>h,fun i hi=>by rw [hr] at hi;cases hi⟩
theorem ZeY {id:Nat} {l:List Oper} {a:Act} {w:World} (m:Nat) (S:World->Prop) (hm:P.follows .mixedOrders=true)
  (h:wpAnyK P .any l.toArray Q S m l.length (Array.replicate l.length false) a w.drew):(Code.region id l.toArray true).wp P Q a w:=by
 have hs:l.toArray.size=l.length:=by simp
 exact wp_region_any hm (ZjD (S:=S) (m:=m) _ _ _ _ (by rw [hs];exact h))
end
end
end Go.Proofs.YtlfpbcadcfaboaaGreatDoor

import Derived.Test.YtnachbjhhpnadaaGreatDoorBcA
import Derived.Test.YtnachbjhhpnadaaGreatDoorBcB
import Derived.Test.YtnachbjhhpnadaaGreatDoorBcC
import Derived.Test.YtnachbjhhpnadaaGreatDoorBcD
import Derived.Test.YtnachbjhhpnadaaGreatDoorBcE
import Derived.Test.YtnachbjhhpnadaaGreatDoorBcF
import Derived.Test.YtnachbjhhpnadaaGreatDoorBcG
import Derived.Test.YtnachbjhhpnadaaGreatDoorBcI
import Derived.Test.YtnachbjhhpnadaaGreatDoorBcJ
import Derived.Test.YtnachbjhhpnadaaGreatDoorBcM
import Derived.Test.YtnachbjhhpnadaaGreatDoorBcN
import Derived.Test.YtnachbjhhpnadaaGreatDoorBsA
import Derived.Test.YtnachbjhhpnadaaGreatDoorBsB
import Derived.Laws.StandIn
import Derived.Laws.CopyRow
import Derived.StillTailTactics
import Derived.Lib.SliceRun
import Derived.Deep.AppendSrc
import Derived.Deep.Upon
import Derived.Deep.MidRow
import Derived.Laws.BitsAllLaws
import Derived.Deep.RegionHeld3
import Derived.Test.YtnachbjhhpnadaaGreatDoorCards
import Derived.Test.YtnachbjhhpnadaaGreatDoorTie
import Derived.LaidMore
import Derived.Stop.Joined
import Derived.BigRegion
import Derived.BigQuiet
import Derived.Shelf.Abstract
import Derived.Deep.Cut
import Derived.IntWalk
import Derived.Deep.LoopGhost
import Derived.WalkKit
set_option linter.unusedVariables false
set_option linter.unusedSimpArgs false
set_option maxHeartbeats 8000000
set_option maxRecDepth 100000
namespace Go.Proofs.YtnachbjhhpnadaaGreatDoor
section
namespace CodM
open Go.RowKit BitM HufM CanM
theorem Zl3 {gs:List (List Int)} {ps:List Nat} {N m1 m2:Nat} (hw:∀n,n / 50<ps.length->WholeP (tb gs ps n)):∀(f:Nat) (q:List Bool) (l:List Int),l.length+q.length<m1->l.length+q.length<m2->rdS gs ps N m1 f q l=rdS gs ps N m2 f q l
 | 0,q,l,_,_=>by rw [rdS,rdS]
 | f+1,q,l,h1,h2=>by
  rw [rdS,rdS];by_cases hp:ps.length<=l.length / 50
  ·rw [if_pos hp,if_pos hp]
  ·rw [if_neg hp,if_neg hp];have hwh:=hw l.length (by omega);cases hg:getM (tb gs ps l.length) q with
   | none=>rfl
   | some i=>
    obtain⟨k1,k2⟩:=Zd1 hg;have k3:=Zc8 hwh.1 k1;have k4:ln (tb gs ps l.length) i<=q.length:=k2.1;show(if l.length=m1 then _ else if i+1=N then _ else(rdS gs ps N m1 f (q.drop (ln (tb gs ps l.length) i)) (l++[(i:Int)])).skip (ln (tb gs ps l.length) i))=(if l.length=m2 then _ else if i+1=N then _ else(rdS gs ps N m2 f (q.drop (ln (tb gs ps l.length) i)) (l++[(i:Int)])).skip (ln (tb gs ps l.length) i));rw [if_neg (show ¬l.length=m1 by omega),if_neg (show ¬l.length=m2 by omega)];have e:=Zl3 (N:=N) (m1:=m1) (m2:=m2) hw f (q.drop (ln (tb gs ps l.length) i)) (l++[(i:Int)]) (by rw [List.length_append,List.length_drop];simp;omega) (by rw [List.length_append,List.length_drop];simp;omega);rw [e]
theorem Zl4 {Q:List Bool} {ps:List Nat} {N t m1 m2:Nat} (hh:Hd Q ps t):∀(k:Nat) (q:List Bool) (gs:List (List Int)),Whs N gs->gs.length+k=t->q.length<m1->q.length<m2->rdT ps N m1 k q gs=rdT ps N m2 k q gs
 | 0,q,gs,hW,hg,h1,h2=>by
  rw [rdT,rdT];exact Zl3 (fun n hn=>(hW.tb hh (by omega) (n:=n) hn).2.2) _ _ _ (by simpa using h1) (by simpa using h2)
 | k+1,q,gs,hW,hg,h1,h2=>by
  cases hd:DelM.rd q N with
  | short=>rw [ZdB hd,ZdB hd]
  | table=>rw [ZdC hd,ZdC hd]
  | ok ls n=>
   by_cases hl:WholeP ls
   ·rw [Zid hd hl,Zid hd hl]
    have e:=Zl4 (N:=N) (m1:=m1) (m2:=m2) hh k (q.drop n) (gs++[ls]) (fun g hm=>by
     rcases List.mem_append.1 hm with hm|hm
     ·exact hW g hm
     ·rw [List.mem_singleton] at hm;subst hm;exact⟨DelM.rd_len hd,hl⟩) (by rw [List.length_append];simp;omega) (by rw [List.length_drop];omega) (by rw [List.length_drop];omega)
    rw [e]
   ·rw [Zhb hd hl,Zhb hd hl]
theorem Zrv {Q:List Bool} {N m1 m2:Nat} (h1:Q.length<m1) (h2:Q.length<m2):rdC Q N m1=rdC Q N m2:=by
 unfold rdC;cases hr:PkM.rd Q with
 | short=>rfl
 | bad _=>rfl
 | ok ps k=>
  have hh:=(Zje hr).1;have e:=Zl4 (N:=N) (m1:=m1) (m2:=m2) hh (num (Q.take 3)) (Q.drop k) [] (fun g hm=>by cases hm) (by simp) (by rw [List.length_drop];omega) (by rw [List.length_drop];omega);show(rdT ps N m1 _ _ _).skip k=(rdT ps N m2 _ _ _).skip k;rw [e]
theorem ZhP {r:R14} {k:Nat} {e:Int} {l:List Int} (h:r.skip k=.err e l):r=.err e l:=by
 cases r with
 | ok l' n'=>cases h
 | err e' l'=>cases h;rfl
theorem ZrR {gs:List (List Int)} {ps:List Nat} {N most:Nat}:∀(f:Nat) (q:List Bool) (l m:List Int) (e:Int),rdS gs ps N most f q l=.err e m->e≠0
 | 0,q,l,m,e,h=>by rw [rdS] at h;cases h;decide
 | f+1,q,l,m,e,h=>by
  rw [rdS] at h;split at h
  ·cases h;decide
  ·split at h
   ·cases h;decide
   ·split at h
    ·cases h;decide
    ·split at h
     ·cases h
     ·exact ZrR f _ _ _ _ (ZhP h)
theorem ZrS {ps:List Nat} {N most:Nat}:∀(k:Nat) (q:List Bool) (gs:List (List Int)) (m:List Int) (e:Int),rdT ps N most k q gs=.err e m->e≠0
 | 0,q,gs,m,e,h=>by rw [rdT] at h;exact ZrR _ _ _ _ _ h
 | k+1,q,gs,m,e,h=>by
  rw [rdT] at h;split at h
  ·cases h;decide
  ·cases h;decide
  ·split at h
   ·exact ZrS k _ _ _ _ (ZhP h)
   ·cases h;decide
theorem ZtN {Q:List Bool} {N most:Nat} {m:List Int} {e:Int} (h:rdC Q N most=.err e m):e≠0:=by
 unfold rdC at h;split at h
 ·cases h;decide
 ·cases h;decide
 ·exact ZrS _ _ _ _ _ (ZhP h)
theorem ZkN {r:R14} {k n:Nat} {l:List Int} (h:r.skip k=.ok l n):∃m,r=.ok l m/\n=k+m:=by
 cases r with
 | ok l' n'=>cases h;exact⟨n',rfl,by omega⟩
 | err e' l'=>cases h
theorem ZrT {gs:List (List Int)} {ps:List Nat} {N most:Nat}:∀(f:Nat) (q:List Bool) (l m:List Int) (n:Nat),rdS gs ps N most f q l=.ok m n->n<=q.length
 | 0,q,l,m,n,h=>by rw [rdS] at h;cases h
 | f+1,q,l,m,n,h=>by
  rw [rdS] at h;split at h
  ·cases h
  ·split at h
   ·cases h
   ·rename_i i hg;have h4:ln (tb gs ps l.length) i<=q.length:=(Zd1 hg).2.1;split at h
    ·cases h
    ·split at h
     ·cases h;exact h4
     ·obtain⟨k,hk,rfl⟩:=ZkN h;have:=ZrT f _ _ _ _ hk;rw [List.length_drop] at this;omega
theorem ZrU {ps:List Nat} {N most:Nat}:∀(k:Nat) (q:List Bool) (gs:List (List Int)) (m:List Int) (n:Nat),rdT ps N most k q gs=.ok m n->n<=q.length
 | 0,q,gs,m,n,h=>by rw [rdT] at h;exact ZrT _ _ _ _ _ h
 | k+1,q,gs,m,n,h=>by
  rw [rdT] at h;split at h
  ·cases h
  ·cases h
  ·rename_i ls j hr;split at h
   ·obtain⟨i,hi,rfl⟩:=ZkN h;have h1:=ZrU k _ _ _ _ hi;have h2:=ZrQ hr;rw [List.length_drop] at h1;omega
   ·cases h
theorem ZtO {Q:List Bool} {N most n:Nat} {m:List Int} (h:rdC Q N most=.ok m n):n<=Q.length:=by
 unfold rdC at h;split at h
 ·cases h
 ·cases h
 ·rename_i ps k hr;obtain⟨i,hi,rfl⟩:=ZkN h;have h1:=ZrU _ _ _ _ _ hi;have h2:=(Zje hr).2;rw [List.length_drop] at h1;omega
theorem Zrw (Q:List Bool) (N:Nat):heldC Q N<=32767+6*N:=by
 unfold heldC;split
 ·omega
 ·omega
 ·rename_i ps k hr;obtain⟨⟨_,ht,h6,_,_,hl,_⟩,_⟩:=Zje hr;have:num (Q.take 3)*N<=6*N:=Nat.mul_le_mul_right _ (by omega);omega
end CodM
end
section
open Go.RowKit PkM BitM
theorem ZpD (q:List Bool) (w:World) (hq:q.length<=1000000) :
  Calls Tryz.prog 178 #[.string (txt q)] w fun e w'=>e=.returned (.int .i64 ((lead q:Nat):Int))/\w'=w:=by
 have hts:=Zaf q;have HTS:=zh hts;have HTT:=zh (Zjb q);have hzb:(txt q).size<=1000000:=by omega
 have HLL:=zh (ZdT q);clear hts;go_enter Tryz.func178,Tryz.ntmps178;go_wp2_with fail
 go_loopw [3] (fun vi wr=>∃i:Nat,vi=.int .i64 (i:Int)/\i<=lead q/\wr=w) (fun vi _=>q.length-(intOf vi).toNat)
 case atStart=>exact⟨0,rfl,Nat.zero_le _,rfl⟩
 case round=>
  obtain⟨i,rfl,hil,rfl⟩:=hrel;by_cases hend:i<q.length
  ·have hpz:i<(txt q).size:=by have:=HTS.out;omega
   have hpi:(i:Int)<((txt q).size:Int):=by omega
   have hgk:=HTT.out i hend hpz;by_cases hb:q.getD i false=true
   ·rw [hb] at hgk;have hgk2:((txt q)[i].toNat:Int)=49:=hgk;have hil2:=zh (Zfo q i hil hend hb);clear hgk hb hil;go_wp2_with fail;go_roundw
    case rel=>exact⟨i+1,by go_num,hil2.out,by first|rfl|trivial⟩
    case measure=>simp [intOf];omega
   ·have hbf:q.getD i false=false:=by simpa using hb
    rw [hbf] at hgk;have hgk2:((txt q)[i].toNat:Int)=48:=hgk;have hil2:=zh (Zfp q i hil hend hbf);clear hgk hb hbf hil;go_wp2_with fail;go_ret;exact⟨by rw [hil2.out];rfl,rfl⟩
  ·have hpi:¬(i:Int)<((txt q).size:Int):=by have:=HTS.out;omega
   have hil2:Hid (lead q=i):=zh (by have:=HLL.out;omega);clear hil;go_wp2_with fail;go_ret;exact⟨by rw [hil2.out];rfl,rfl⟩
theorem ZdS (a:Option Addr) (m c:Nat) (x y z u:Int):(#[Value.slice a m c,.int .i64 x,.int .i64 y,.int .i64 z,.int .i64 u]:Array Value).all (·.oneCell')=true:=by simp [Value.oneCell']
def GotP (q:List Bool) (ps:List Nat) (t k to:Nat) (err:Int):Prop:=
 match rd q with
 | .short=>ps=[]/\t=0/\k=0/\to=0/\err=3
 | .bad n=>ps=[]/\t=0/\k=0/\to=n/\err=25
 | .ok l n=>ps=l/\t=num (q.take 3)/\k=n/\to=n/\err=0
theorem GotP.short {q:List Bool} (h:rd q=.short):GotP q [] 0 0 0 3:=by unfold GotP;rw [h];exact⟨rfl,rfl,rfl,rfl,rfl⟩
theorem GotP.bad {q:List Bool} {n:Nat} (h:rd q=.bad n):GotP q [] 0 0 n 25:=by unfold GotP;rw [h];exact⟨rfl,rfl,rfl,rfl,rfl⟩
theorem GotP.ok {q:List Bool} {l:List Nat} {n t:Nat} (h:rd q=.ok l n) (ht:num (q.take 3)=t):GotP q l t n n 0:=by unfold GotP;rw [h];exact⟨rfl,ht.symm,rfl,rfl,rfl⟩
def PkInv (w wr:World) (q:List Bool) (T N p:Nat) (o:List Nat) (u:Value) (ps:List Nat):Prop:=
 rd q=(run T (q.drop p) (N-ps.length) o).add ps p/\Six o/\OwnI wr (w.heap.size+1) u (toI ps)/\Below w.heap.size w wr/\wr.heap[w.heap.size]?=some (.cells #[.slice none 0 0,.int .i64 0,.int .i64 0,.int .i64 0,.int .i64 0] 163 (0,0))
theorem Zm4 {t:Nat} (q:List Bool) (m:Nat) (o:List Nat) (hl:t<=lead q):run t q (m+1) o=.bad t:=by
 rw [run,if_pos hl]
theorem ZpE {t:Nat} (q:List Bool) (m:Nat) (o:List Nat) (hl:¬t<=lead q) (hq:¬lead q=q.length):run t q (m+1) o=(run t (q.drop (lead q+1)) m (tch o (lead q))).add [o.getD (lead q) 0] (lead q+1):=by
 rw [run,if_neg hl,if_neg hq]
theorem Zs8 (q:List Bool) (h:18<=q.length):(txt q).extract 3 18=txt ((q.drop 3).take 15):=by
 apply ByteArray.ext;apply Array.toList_inj.1;simp only [txt,ByteArray.data_extract,List.extract_toArray,List.extract_eq_take_drop,<-List.map_drop,<-List.map_take]
theorem Zs9 {o:List Nat} (h:Six o) (i:Nat) (hi:i<6) (hz:i<(⟨(lets o).toArray⟩:ByteArray).size):((⟨(lets o).toArray⟩:ByteArray)[i].toNat:Int)=((48+o.getD i 0:Nat):Int):=by
 have hl:i<o.length:=by rw [h.1];exact hi
 have h1:(lets o)[i]?=some (UInt8.ofNat (48+o.getD i 0)):=ZeR (by rw [List.getD_eq_getElem?_getD,List.getElem?_eq_getElem hl];rfl)
 have h6:o.getD i 0<6:=by
  rw [List.getD_eq_getElem?_getD,List.getElem?_eq_getElem hl];exact h.2 _ (List.getElem_mem hl)
 have h2:(⟨(lets o).toArray⟩:ByteArray)[i]=UInt8.ofNat (48+o.getD i 0):=by
  have hz2:i<(lets o).length:=by rw [Zco];exact hl
  have h3:(lets o)[i]=UInt8.ofNat (48+o.getD i 0):=by
   rw [List.getElem?_eq_getElem hz2] at h1;exact Option.some.inj h1
  exact h3
 rw [h2,Zku _ h6]
theorem Zf2 (q:List Bool) (w:World) (hq:q.length<=1000000) :
  Calls Tryz.prog 122 #[.string (txt q)] w fun e w'=>∃(u:Value) (ps:List Nat) (t k to:Nat) (err:Int),e=.returned (.agg #[u,.int .i64 (t:Int),.int .i64 (k:Int),.int .i64 (to:Int),.int .i64 err])/\IsInts w' u (toI ps)/\Below w.heap.size w w'/\GotP q ps t k to err/\(∀j,u.ownBlock=some j->w.heap.size<=j/\j<w'.heap.size):=by
 have hts:=Zaf q;have hg0:(w.alloc (.cells #[.slice none 0 0,.int .i64 0,.int .i64 0,.int .i64 0,.int .i64 0] 163)).heap[w.heap.size]?=some (.cells #[.slice none 0 0,.int .i64 0,.int .i64 0,.int .i64 0,.int .i64 0] 163 (0,0)):=heap_alloc_new _ _;have hi:(Tryz.prog.info? 163).map (·.size)=some 5:=by kernel_rfl
 have HTS:=zh hts;have hu:=Tryz.underlying163;by_cases hlen:q.length<18
 ·have hz:((txt q).size:Int)<18:=by omega
  have HN:=zh (GotP.short (q:=q) (by unfold rd;rw [if_pos hlen]));clear hts;generalize txt q=T at *;go_enter Tryz.func122,Tryz.ntmps122;go_wp2_with (refine wpList_store_row rfl 163 _ _ rfl w.heap.size #[.slice none 0 0,.int .i64 0,.int .i64 0,.int .i64 0,.int .i64 3] rfl rfl 163 _ hg0 hi rfl (ZdS _ _ _ _ _ _ _) ?_);refine bodyPost_ret (v:=.agg #[.slice none 0 0,.int .i64 0,.int .i64 0,.int .i64 0,.int .i64 3]) (results_cell_row rfl _ _ w.heap.size 163 _ (0,0) _ rfl (setRow_heap _ _ _ _ _ _ hg0) hu rfl hi) rfl ⟨.slice none 0 0,[],0,0,0,3,rfl,IsInts.nil _,Zae ((Below.refl _ _).alloc (Nat.le_refl _) _) (Nat.le_refl _) _,HN.out,fun j hj=>absurd hj (by simp [Value.ownBlock])⟩
 ·have h18:18<=q.length:=by omega
  have hz:¬((txt q).size:Int)<18:=by omega
  have htk:Hid ((txt q).extract 0 3=txt (q.take 3)):=zh (ZcY q 3 (by omega));have htm:Hid ((txt q).extract 3 18=txt ((q.drop 3).take 15)):=zh (Zs8 q h18);have hzb:(txt q).size<=1000000:=by omega
  have h18z:(18:Int)<=((txt q).size:Int):=by omega
  have h3z:(3:Int)<=((txt q).size:Int):=by omega
  obtain⟨_,n2,n3⟩:=Ztu h18;have HNUM1:=zh (fun W=>Za9 (q.take 3) W (by rw [List.length_take];omega));have HNUM2:=zh (fun W=>Za9 ((q.drop 3).take 15) W (by rw [List.length_take,List.length_drop];omega));have HRD:Hid (rd q=if num (q.take 3)<2\/6<num (q.take 3)\/num ((q.drop 3).take 15)=0 then .bad 18 else(run (num (q.take 3)) (q.drop 18) (num ((q.drop 3).take 15)) [0,1,2,3,4,5]).add [] 18):=zh (by unfold rd;rw [if_neg hlen]);obtain⟨T,hT⟩:∃T,num (q.take 3)=T:=⟨_,rfl⟩
  have HT3:=zh hT;obtain⟨N,hN⟩:∃N,num ((q.drop 3).take 15)=N:=⟨_,rfl⟩
  rw [hT] at n3 HNUM1 HRD;rw [hN] at n2 HNUM2 HRD;clear hT hN hts;have HB0:Hid (Below w.heap.size w (w.alloc (.cells #[.slice none 0 0,.int .i64 0,.int .i64 0,.int .i64 0,.int .i64 0] 163))):=zh ((Below.refl _ _).alloc (Nat.le_refl _) _);by_cases hbad:T<2\/6<T\/N=0
  ·have HN:=zh (GotP.bad (q:=q) (by rw [HRD.out,if_pos hbad]))
   have hparts:((T:Int)<2)\/(¬(T:Int)<2/\(6:Int)<T)\/(¬(T:Int)<2/\¬(6:Int)<T/\((N:Int)==0)=true):=by
    by_cases h1:T<2
    ·exact Or.inl (by omega)
    ·by_cases h2:6<T
     ·exact Or.inr (Or.inl ⟨by omega,by omega⟩)
     ·exact Or.inr (Or.inr ⟨by omega,by omega,by rw [beq_iff_eq];omega⟩)
   clear hbad;rcases hparts with h1|⟨h1,h2⟩|⟨h1,h2,h3⟩
   all_goals
    go_enter Tryz.func122,Tryz.ntmps122;go_wp2_with fail;rw [htk.out];refine(HNUM1.out _).mono ?_;rintro e w' ⟨rfl,rfl⟩;go_wp2_with fail;rw [htm.out];refine(HNUM2.out _).mono ?_;rintro e w' ⟨rfl,rfl⟩;go_wp2_with (refine wpList_store_row rfl 163 _ _ rfl w.heap.size #[.slice none 0 0,.int .i64 0,.int .i64 0,.int .i64 18,.int .i64 25] rfl rfl 163 _ hg0 hi rfl (ZdS _ _ _ _ _ _ _) ?_);refine bodyPost_ret (v:=.agg #[.slice none 0 0,.int .i64 0,.int .i64 0,.int .i64 18,.int .i64 25]) (results_cell_row rfl _ _ w.heap.size 163 _ (0,0) _ rfl (setRow_heap _ _ _ _ _ _ hg0) hu rfl hi) rfl ⟨.slice none 0 0,[],0,0,18,25,rfl,IsInts.nil _,Zae ((Below.refl _ _).alloc (Nat.le_refl _) _) (Nat.le_refl _) _,HN.out,fun j hj=>absurd hj (by simp [Value.ownBlock])⟩
  have HI0:Hid (PkInv w (w.alloc (.cells #[.slice none 0 0,.int .i64 0,.int .i64 0,.int .i64 0,.int .i64 0] 163)) q T N 18 O6 (.slice none 0 0) []):=zh ⟨by rw [HRD.out,if_neg hbad];rfl,Six.start,OwnI.nil _ _,HB0.out,hg0⟩;have h1:¬(T:Int)<2:=by omega
  have h2:¬(6:Int)<(T:Int):=by omega
  have h3:((N:Int)==0)=false:=by rw [beq_eq_false_iff_ne];omega
  clear HB0 hg0 hbad;go_enter Tryz.func122,Tryz.ntmps122;go_wp2_with fail;rw [htk.out];refine(HNUM1.out _).mono ?_;rintro e w' ⟨rfl,rfl⟩;go_wp2_with fail;rw [htm.out];refine(HNUM2.out _).mono ?_;rintro e w' ⟨rfl,rfl⟩;go_wp2_with fail
  go_loopw [5,6,7] (fun vo vl vp wr=>∃(o:List Nat) (ps:List Nat) (p:Nat),vo=.string ⟨(lets o).toArray⟩/\vp=.int .i64 (p:Int)/\p<=q.length/\ps.length<=N/\PkInv w wr q T N p o vl ps) (fun _ _ vp _=>q.length-(intOf vp).toNat)
  case atStart=>exact⟨O6,[],18,rfl,rfl,h18,Nat.zero_le _,HI0.out⟩
  case round=>
   clear HI0 HNUM1 HNUM2 htk htm h1 h3;rename_i vl _;obtain⟨o,ps,p,rfl,rfl,hp,hls,hI⟩:=hrel;obtain⟨hI1,hSx,hO,hB,hg⟩:=hI;have HI:=zh hI1;have HSX:=zh hSx;have HO:=zh hO;have HB:=zh hB;have hpl:=toI_length ps;obtain⟨al,cl,rfl⟩:=hO.slice;rw [hpl] at HO ⊢;have HPL:=zh hpl;have hlw:w.heap.size<wr.heap.size:=(Array.getElem?_eq_some_iff.1 hg).1;clear hI1 hO hB hSx hpl;by_cases hdone:ps.length<N
   ·have hdi:(ps.length:Int)<(N:Int):=by omega
    obtain⟨M,hM⟩:∃M,N-ps.length=M+1:=⟨N-ps.length-1,by omega⟩
    have HM:=zh hM;rw [hM] at HI;clear hM;have HDR:=zh (Zbo q p hp);have hp0:(0:Int)<=(p:Int):=by omega
    have hpz:(p:Int)<=((txt q).size:Int):=by have:=HTS.out;omega
    have HON:=zh (fun W=>ZpD (q.drop p) W (by rw [List.length_drop];omega));have hll:=ZdT (q.drop p);rw [List.length_drop] at hll;have HW:=zh (fun h=>Zm4 (t:=T) (q.drop p) M o h);have HSH:=zh (fun h h2=>ZhQ (t:=T) (q.drop p) M o h h2);have HSTP:=zh (fun h h2=>ZpE (t:=T) (q.drop p) M o h h2);have HQL:Hid ((q.drop p).length=q.length-p):=zh (List.length_drop);obtain⟨L,hL⟩:∃L,lead (q.drop p)=L:=⟨_,rfl⟩
    rw [hL] at HON hll HW HSH HSTP;clear hL;have hp1:(p:Int)<=1000000:=by omega
    by_cases hw:T<=L
    ·have hwi:(T:Int)<=(L:Int):=by omega
     have HN:=zh (GotP.bad (q:=q) (n:=p+T) (by rw [HI.out,HW.out hw];rfl));have hPT:(p:Int)+(T:Int)=((p+T:Nat):Int):=by omega
     obtain⟨E,hE⟩:∃E,p+T=E:=⟨_,rfl⟩
     rw [hE] at HN hPT;have hEw:IntKind.i64.wrap (E:Int)=(E:Int):=IntWalk.i64_in _ (by omega);clear hE;go_wp2_with fail;rw [HDR.out];refine(HON.out _).mono ?_;rintro e w4 ⟨rfl,rfl⟩;go_wp2_with (refine wpList_store_row rfl 163 _ _ rfl w.heap.size #[.slice none 0 0,.int .i64 0,.int .i64 0,.int .i64 (E:Int),.int .i64 25] rfl rfl 163 _ hg hi rfl (ZdS _ _ _ _ _ _ _) ?_);refine bodyPost_ret (v:=.agg #[.slice none 0 0,.int .i64 0,.int .i64 0,.int .i64 (E:Int),.int .i64 25]) (results_cell_row rfl _ _ w.heap.size 163 _ (0,0) _ rfl (setRow_heap _ _ _ _ _ _ hg) hu rfl hi) rfl ⟨.slice none 0 0,[],0,0,E,25,rfl,IsInts.nil _,Zae HB.out (Nat.le_refl _) _,HN.out,fun j hj=>absurd hj (by simp [Value.ownBlock])⟩
    ·have hwi:¬(T:Int)<=(L:Int):=by omega
     by_cases hsh:L=q.length-p
     ·have HN:=zh (GotP.short (q:=q) (by rw [HI.out,HSH.out (by omega) (by rw [HQL.out];exact hsh)];rfl));have hne:((p:Int)+(L:Int)==((txt q).size:Int))=true:=by rw [beq_iff_eq];have:=HTS.out;omega
      clear hsh;go_wp2_with fail;rw [HDR.out];refine(HON.out _).mono ?_;rintro e w4 ⟨rfl,rfl⟩;go_wp2_with (refine wpList_store_row rfl 163 _ _ rfl w.heap.size #[.slice none 0 0,.int .i64 0,.int .i64 0,.int .i64 0,.int .i64 3] rfl rfl 163 _ hg hi rfl (ZdS _ _ _ _ _ _ _) ?_);refine bodyPost_ret (v:=.agg #[.slice none 0 0,.int .i64 0,.int .i64 0,.int .i64 0,.int .i64 3]) (results_cell_row rfl _ _ w.heap.size 163 _ (0,0) _ rfl (setRow_heap _ _ _ _ _ _ hg) hu rfl hi) rfl ⟨.slice none 0 0,[],0,0,0,3,rfl,IsInts.nil _,Zae HB.out (Nat.le_refl _) _,HN.out,fun j hj=>absurd hj (by simp [Value.ownBlock])⟩
     ·have hne:((p:Int)+(L:Int)==((txt q).size:Int))=false:=by rw [beq_eq_false_iff_ne];have:=HTS.out;omega
      have hI2:=HSTP.out hw (by rw [HQL.out];exact hsh);have hL6:L<6:=by omega
      have HEND:Hid (p+L+1<=q.length):=zh (by omega);have hlt2:=Zco o;rw [HSX.out.1] at hlt2;have hsz:(⟨(lets o).toArray⟩:ByteArray).size=6:=by rw [Zav,hlt2]
      have hLz:L<(⟨(lets o).toArray⟩:ByteArray).size:=by omega
      have hgx:=Zs9 HSX.out L hL6 hLz;have HTC:=zh (fun W=>Zbv (lets o) L W (by rw [hlt2];exact hL6) (by rw [hlt2];omega));rw [ZhD] at HTC;have HS2:=zh (HSX.out.tch hL6);obtain⟨X,hX⟩:∃X,o.getD L 0=X:=⟨_,rfl⟩
      rw [hX] at hI2 hgx
      have HI2:Hid (rd q=(run T (q.drop (p+L+1)) (N-(ps++[X]).length) (tch o L)).add (ps++[X]) (p+L+1)):=zh (by
       rw [HI.out,hI2,add_add,List.drop_drop,List.length_append,show N-(ps.length+[X].length)=M from by have:=HM.out;show N-(ps.length+1)=M;omega,Nat.add_assoc])
      have HLN:Hid ((ps++[X]).length<=N):=zh (by rw [List.length_append];exact hdone);have HX:=zh hX;have hl258:(toI ps).length+1<=17592186044416:=by rw [HPL.out];omega
      have hgy:((⟨(lets o).toArray⟩:ByteArray)[L].toNat:Int)=48+(X:Int):=by rw [hgx];omega
      have hX32:(X:Int)<=300:=by have h9:=(⟨(lets o).toArray⟩:ByteArray)[L].toNat_lt;omega
      have hLi6:(L:Int)<6:=by omega
      have hLi0:(0:Int)<=(L:Int):=by omega
      have hbound:(p:Int)+(L:Int)<=2000000:=by omega
      clear hI2 hgx hX HI HSTP HSH HW hlt2 hsh;have hsz2:((⟨(lets o).toArray⟩:ByteArray).size:Int)=6:=by omega
      generalize (⟨(lets o).toArray⟩:ByteArray)=LT at *;go_wp2_with fail;rw [HDR.out];refine(HON.out _).mono ?_;rintro e w4 ⟨rfl,rfl⟩;go_wp2_with (at_builtin;refine Zar _ rfl _ _ rfl (w.heap.size+1) _ (toI ps) (48+(X:Int)-48) HO.out rfl rfl hl258 (by omega) ?_);intro v3 w3 hO3 hB3;have HO3:Hid (OwnI w3 (w.heap.size+1) v3 (toI (ps++[X]))):=zh (by rw [show(48+(X:Int)-48)=(X:Int) by omega] at hO3;rw [Zjp];exact hO3);have HB3:=zh (HB.out.trans (hB3.mono (Nat.le_succ _)));have hg3:=(hB3.block w.heap.size (Nat.lt_succ_self _)).trans hg;clear hO3 hB3;go_wp2_with fail;refine(HTC.out _).mono ?_;rintro e w5 ⟨rfl,m5,hw5⟩;have HO5:Hid (OwnI w5 (w.heap.size+1) v3 (toI (ps++[X]))):=zh (by rw [hw5];exact HO3.out.drewN m5);have HB5:Hid (Below w.heap.size w w5):=zh (by rw [hw5];exact HB3.out.trans ⟨rfl,rfl,rfl,Nat.le_refl _,fun _ _=>rfl⟩);have hg5:w5.heap[w.heap.size]?=some (.cells #[.slice none 0 0,.int .i64 0,.int .i64 0,.int .i64 0,.int .i64 0] 163 (0,0)):=by rw [hw5];exact hg3
      clear hw5 hg3;go_wp2_with fail;have hend:=HEND.out;go_roundw
      case rel=>exact⟨tch o L,ps++[X],p+L+1,rfl,by go_num,by omega,HLN.out,HI2.out,HS2.out,HO5.out,HB5.out,hg5⟩
      case measure=>simp [intOf];omega
   ·have hdi:¬(ps.length:Int)<(N:Int):=by omega
    have hlN:N-ps.length=0:=by omega
    have HN:Hid (GotP q ps T p p 0):=zh (GotP.ok (by rw [HI.out,hlN];show Res.ok (ps++[]) (p+0)=_;rw [List.append_nil];rfl) HT3.out);clear hlN;go_wp2_with (refine wpList_store_row rfl 163 _ _ rfl w.heap.size #[.slice al ps.length cl,.int .i64 (T:Int),.int .i64 (p:Int),.int .i64 (p:Int),.int .i64 0] rfl rfl 163 _ hg hi rfl (ZdS _ _ _ _ _ _ _) ?_);refine bodyPost_ret (v:=.agg #[.slice al ps.length cl,.int .i64 (T:Int),.int .i64 (p:Int),.int .i64 (p:Int),.int .i64 0]) (results_cell_row rfl _ _ w.heap.size 163 _ (0,0) _ rfl (setRow_heap _ _ _ _ _ _ hg) hu rfl hi) rfl ⟨_,ps,T,p,p,0,rfl,?_,Zae HB.out (Nat.le_refl _) _,HN.out,fun j hj=>by have h5:=HO.out.lt j hj;exact⟨by omega,by rw [Zaw];exact h5.2⟩⟩;exact(HO.out.setRow w.heap.size _ (Nat.lt_succ_self _)).ints
end
section
open Go.RowKit BitM HufM CanM CodM TabM FreqM
theorem Zrx:(Tryz.prog.info? 96).map (·.size)=some 4:=by kernel_rfl
theorem Zdk (a:Option Addr) (m c:Nat) (x y z:Int):(#[Value.slice a m c,.int .i64 x,.int .i64 y,.int .i64 z]:Array Value).all (·.oneCell')=true:=by simp [Value.oneCell']
theorem Zb6 (x:Int):Tryz.prog.built 96 [(3,.int .i64 x)]=some #[.slice none 0 0,.int .i64 0,.int .i64 0,.int .i64 x]:=by kernel_rfl
theorem Zm5 (a:Option Addr) (m c:Nat) (x y:Int):Tryz.prog.built 96 [(0,.slice a m c),(1,.int .i64 x),(2,.int .i64 y)]=some #[.slice a m c,.int .i64 x,.int .i64 y,.int .i64 0]:=by kernel_rfl
def RdD14 (Q:List Bool) (N most:Nat) (ls:List Int) (n held:Nat) (er:Int):Prop:=match rdC Q N most with
 | .ok l k=>ls=l/\n=k/\held=heldC Q N/\er=0
 | .err e _=>ls=[]/\n=0/\held=0/\er=e
theorem RdD14.err {Q:List Bool} {N most:Nat} {e:Int} {l:List Int} (h:rdC Q N most=.err e l):RdD14 Q N most [] 0 0 e:=by unfold RdD14;rw [h];exact⟨rfl,rfl,rfl,rfl⟩
theorem RdD14.ok {Q:List Bool} {N most k:Nat} {l:List Int} (h:rdC Q N most=.ok l k):RdD14 Q N most l k (heldC Q N) 0:=by unfold RdD14;rw [h];exact⟨rfl,rfl,rfl,rfl⟩
def RdOut (Q:List Bool) (N most:Nat) (w:World) (e:Ending) (w':World):Prop:=
 ∃(ad:Option Addr) (m c:Nat) (ls:List Int) (n held:Nat) (er:Int),e=.returned (.agg #[.slice ad m c,.int .i64 (n:Int),.int .i64 (held:Int),.int .i64 er])/\m=ls.length/\IsInts w' (.slice ad m c) ls/\RdD14 Q N most ls n held er/\Below w.heap.size w w'/\(∀j,(Value.slice ad m c).ownBlock=some j->w.heap.size<=j/\j<w'.heap.size)/\ls.length<=Q.length
theorem RdOut.err {Q:List Bool} {N most:Nat} {w w':World} {e:Ending} {er:Int} {l:List Int} (he:e=.returned (.agg #[.slice none 0 0,.int .i64 0,.int .i64 0,.int .i64 er])) (h:rdC Q N most=.err er l) (hb:Below w.heap.size w w'):RdOut Q N most w e w':=
 ⟨none,0,0,[],0,0,er,he,rfl,IsInts.nil _,RdD14.err h,hb,fun j hj=>absurd hj (by simp [Value.ownBlock]),Nat.zero_le _⟩
structure RdBx (w W:World) (N G G2 M:Nat) (au:Option Addr) (cu:Nat) (ps:List Nat) (t k:Nat) (ad:Option Addr) (m4 c4:Nat) (gs:List (List Int)) (a:Nat) (er:Int):Prop where
 bel:Below w.heap.size w W
 g1:W.heap[G]?=some (.cells #[.slice au M cu,.int .i64 (t:Int),.int .i64 (k:Int),.int .i64 (k:Int),.int .i64 0] 163 (0,0))
 g2:W.heap[G2]?=some (.cells #[.slice ad m4 c4,.int .i64 (a:Int),.int .i64 er] 166 (0,0))
 row:IsInts W (.slice au M cu) (PkM.toI ps)
 sc:er=0->SCodes W 0 N (.slice ad m4 c4) gs
theorem SCodes.zero {w:World} {base N:Nat} {v:Value} {gs:List (List Int)} (h:SCodes w base N v gs):SCodes w 0 N v gs:=by
 obtain⟨bs,q1,q2,q3,q4⟩:=h;exact⟨bs,World.ownsRow.mono q1 (Nat.zero_le _),q2,Nat.zero_le _,fun i hi=>⟨(q4 i hi).1,Nat.zero_le _,(q4 i hi).2.2⟩⟩
theorem RdBx.below {w W W':World} {N G G2 M:Nat} {au:Option Addr} {cu:Nat} {ps:List Nat} {t k:Nat} {ad:Option Addr} {m4 c4:Nat} {gs:List (List Int)} {a:Nat} {er:Int} (h:RdBx w W N G G2 M au cu ps t k ad m4 c4 gs a er) (hb:Below W.heap.size W W'):RdBx w W' N G G2 M au cu ps t k ad m4 c4 gs a er:=
 ⟨h.bel.trans (hb.mono h.bel.size),(hb.block G (Array.getElem?_eq_some_iff.1 h.g1).1).trans h.g1,(hb.block G2 (Array.getElem?_eq_some_iff.1 h.g2).1).trans h.g2,h.row.below hb,fun e=>(h.sc e).below hb⟩
theorem RdBx.cells {w W:World} {N G G2 M:Nat} {au:Option Addr} {cu:Nat} {ps:List Nat} {t k:Nat} {ad:Option Addr} {m4 c4:Nat} {gs:List (List Int)} {a:Nat} {er:Int} (h:RdBx w W N G G2 M au cu ps t k ad m4 c4 gs a er) :
  W.cell? ⟨G,0,none⟩=some (.slice au M cu)/\W.cell? ⟨G,1,none⟩=some (.int .i64 (t:Int))/\W.cell? ⟨G,2,none⟩=some (.int .i64 (k:Int))/\W.cell? ⟨G2,0,none⟩=some (.slice ad m4 c4)/\W.cell? ⟨G2,1,none⟩=some (.int .i64 (a:Int))/\W.cell? ⟨G2,2,none⟩=some (.int .i64 er):=by
 refine⟨?_,?_,?_,?_,?_,?_⟩
 ·rw [cell_of_row _ _ _ _ _ _ h.g1];rfl
 ·rw [cell_of_row _ _ _ _ _ _ h.g1];rfl
 ·rw [cell_of_row _ _ _ _ _ _ h.g1];rfl
 ·rw [cell_of_row _ _ _ _ _ _ h.g2];rfl
 ·rw [cell_of_row _ _ _ _ _ _ h.g2];rfl
 ·rw [cell_of_row _ _ _ _ _ _ h.g2];rfl
theorem Zjf {Q:List Bool} {N most k t:Nat} {ps:List Nat} {gs:List (List Int)} {a:Nat} (hH:Hd Q ps t) (hrc:rdC Q N most=(rdT ps N most t (Q.drop k) []).skip k) (hT:TabP (Q.drop k) N t gs a 0):RtC Q N most (k+a) [] (.sym t ps gs 0 false):=by
 rcases hT with⟨_,hg,hW,hr⟩|⟨h,_⟩
 ·refine⟨hH,hW,hg,rfl,Nat.zero_le _,?_⟩;rw [if_neg (by simp)];refine⟨Nat.zero_le _,?_⟩;rw [hrc,hr,ZbW,List.drop_drop]
 ·exact absurd rfl h
theorem ZkO (Q:List Bool) (N most:Nat) (w:World) (hQ:Q.length<=100000) (h3:3<=N) (h258:N<=258) :
  Calls Tryz.prog 64 #[.string (txt Q),.int .i64 (N:Int),.int .i64 (most:Int)] w (RdOut Q N most w):=by
 have hts:=Zaf Q;have HTS:=zh hts;have hi:=Zrx;have hu:=Tryz.underlying96;have hw0:Below w.heap.size w (w.alloc (.cells #[.slice none 0 0,.int .i64 0,.int .i64 0,.int .i64 0] 96)):=(Below.refl _ _).alloc (Nat.le_refl _) _;have hg0:=heap_alloc_new w (.cells #[.slice none 0 0,.int .i64 0,.int .i64 0,.int .i64 0] 96);have HRD:=zh (fun W=>Zf2 Q W (by omega));have HD:Hid (∀k,k<=Q.length->(txt Q).extract k (txt Q).size=txt (Q.drop k)):=zh (fun k hk=>Zbo Q k hk);obtain⟨S,hS⟩:∃S,txt Q=S:=⟨_,rfl⟩
 rw [hS] at hts HRD HD ⊢;clear hS;go_enter Tryz.func64,Tryz.ntmps64;go_wp2_with fail;generalize w.alloc (.cells #[.slice none 0 0,.int .i64 0,.int .i64 0,.int .i64 0] 96)=w1 at *;have HW1:=zh hw0;have HG1:=zh hg0;clear hw0 hg0;refine(HRD.out _).mono ?_;rintro e w2 ⟨u,ps,t,k,to,er,rfl,hi2,hb2,hgp,ho2⟩;obtain⟨au,cu,rfl,hcu⟩:=hi2;obtain⟨M,hM⟩:∃M,(PkM.toI ps).length=M:=⟨_,rfl⟩
 have HM:=zh hM;have HI2:Hid (IsInts w2 (.slice au (PkM.toI ps).length cu) (PkM.toI ps)):=zh ⟨au,cu,rfl,hcu⟩;rw [hM] at HI2 ⊢;have hb3:=(Below.refl w2.heap.size w2).alloc (Nat.le_refl _) (.cells #[.slice au M cu,.int .i64 (t:Int),.int .i64 (k:Int),.int .i64 (to:Int),.int .i64 er] 163);have hg3:=heap_alloc_new w2 (.cells #[.slice au M cu,.int .i64 (t:Int),.int .i64 (k:Int),.int .i64 (to:Int),.int .i64 er] 163);have HI3:=zh (HI2.out.below hb3);have hb23:=hb2.trans (hb3.mono hb2.size);have HB3:=zh (HW1.out.trans (hb23.mono HW1.out.size));have hlt1:w.heap.size<w1.heap.size:=(Array.getElem?_eq_some_iff.1 HG1.out).1;have HH3:=zh ((hb23.block _ hlt1).trans HG1.out);have HGE:Hid (w.heap.size<w2.heap.size):=zh (by have:=hb2.size;omega);unfold GotP at hgp;clear hM hcu hb2 hb23 hb3 ho2 HI2 HRD HG1 HW1 hlt1
 go_upto_region 2 with fail
 generalize w2.alloc (.cells #[.slice au M cu,.int .i64 (t:Int),.int .i64 (k:Int),.int .i64 (to:Int),.int .i64 er] 163)=W3 at *;generalize w2.heap.size=G at *;have e0:W3.cell? ⟨G,0,none⟩=some (.slice au M cu):=by rw [cell_of_row _ _ _ _ _ _ hg3];rfl
 have e1:W3.cell? ⟨G,1,none⟩=some (.int .i64 (t:Int)):=by rw [cell_of_row _ _ _ _ _ _ hg3];rfl
 have e2:W3.cell? ⟨G,2,none⟩=some (.int .i64 (k:Int)):=by rw [cell_of_row _ _ _ _ _ _ hg3];rfl
 have e4:W3.cell? ⟨G,4,none⟩=some (.int .i64 er):=by rw [cell_of_row _ _ _ _ _ _ hg3];rfl
 have HG3:=zh hg3;clear hg3;cases hrd:PkM.rd Q with
 | short=>
  rw [hrd] at hgp;obtain⟨rfl,rfl,rfl,rfl,rfl⟩:=hgp;have HT:=zh (ZdA (N:=N) (most:=most) hrd);have hbt:=Zb6 3;clear hrd;go_wp2_with (first|(refine Zaj rfl 96 3 _ rfl _ rfl _ hbt ?_)|(refine wpList_store_row rfl 96 _ _ rfl w.heap.size #[.slice none 0 0,.int .i64 0,.int .i64 0,.int .i64 3] rfl rfl 96 _ HH3.out hi rfl (Zdk _ _ _ _ _ _) ?_));refine bodyPost_ret (v:=.agg #[.slice none 0 0,.int .i64 0,.int .i64 0,.int .i64 3]) (results_cell_row rfl _ _ w.heap.size 96 _ (0,0) _ rfl (setRow_heap _ _ _ _ _ _ HH3.out) hu rfl hi) rfl (RdOut.err rfl HT.out (Zae HB3.out (Nat.le_refl _) _))
 | bad n=>
  rw [hrd] at hgp;obtain⟨rfl,rfl,rfl,rfl,rfl⟩:=hgp;have HT:=zh (Zha (N:=N) (most:=most) hrd);have hbt:=Zb6 25;clear hrd;go_wp2_with (first|(refine Zaj rfl 96 3 _ rfl _ rfl _ hbt ?_)|(refine wpList_store_row rfl 96 _ _ rfl w.heap.size #[.slice none 0 0,.int .i64 0,.int .i64 0,.int .i64 25] rfl rfl 96 _ HH3.out hi rfl (Zdk _ _ _ _ _ _) ?_));refine bodyPost_ret (v:=.agg #[.slice none 0 0,.int .i64 0,.int .i64 0,.int .i64 25]) (results_cell_row rfl _ _ w.heap.size 96 _ (0,0) _ rfl (setRow_heap _ _ _ _ _ _ HH3.out) hu rfl hi) rfl (RdOut.err rfl HT.out (Zae HB3.out (Nat.le_refl _) _))
 | ok ps' n=>
  rw [hrd] at hgp;obtain⟨rfl,ht,hk1,hk2,rfl⟩:=hgp;subst hk1;obtain rfl:=hk2.symm;obtain⟨hH,hkl⟩:=Zje hrd;rw [<-ht] at hH;have HHD:=zh hH;have ht6:t<=6:=hH.2.2.1;have HRC:=zh (Zle (N:=N) (most:=most) hrd);rw [<-ht] at HRC;have HDR:=zh (HD.out k hkl);rw [hts] at HDR;have hGlt:G<W3.heap.size:=(Array.getElem?_eq_some_iff.1 HG3.out).1;have HGL:=zh hGlt;have HKL:=zh hkl;have hki:(k:Int)<=(S.size:Int):=by omega
  have HTB:=zh (fun W=>Zf1 (Q.drop k) t N W (by rw [List.length_drop];omega) h3 h258 ht6);have HB4:=zh (fun W (hW:Below W3.heap.size W3 W)=>HB3.out.trans (hW.mono HB3.out.size));clear hrd ht hH;go_wp2_with fail;have hbq:Below W3.heap.size W3 (W3.alloc (.cells #[.slice none 0 0,.int .i64 0,.int .i64 0] 166)).drew:=((Below.refl _ _).alloc (Nat.le_refl _) (.cells #[.slice none 0 0,.int .i64 0,.int .i64 0] 166)).trans ⟨rfl,rfl,rfl,Nat.le_refl _,fun _ _=>rfl⟩;have hgq:(W3.alloc (.cells #[.slice none 0 0,.int .i64 0,.int .i64 0] 166)).drew.heap[W3.heap.size]?=some (.cells #[.slice none 0 0,.int .i64 0,.int .i64 0] 166 (0,0)):=heap_alloc_new W3 (.cells #[.slice none 0 0,.int .i64 0,.int .i64 0] 166);have hsq:(W3.alloc (.cells #[.slice none 0 0,.int .i64 0,.int .i64 0] 166)).drew.heap.size=W3.heap.size+1:=by simp [World.drew]
  have HBQ:=zh hbq;have HGQ:=zh hgq;have HSQ:=zh hsq;clear hbq hgq hsq
  go_region_held3 (fun W=>W.cell? ⟨G,1,none⟩=some (.int .i64 (t:Int))/\W.cell? ⟨G,2,none⟩=some (.int .i64 (k:Int))) (first|go_keep|exact HK4.out _ _ _)
   (first
    | (go_at_call 123;rw [HDR.out];refine(HTB.out _).mono ?_;rintro e w4 ⟨ad,m4,c4,gs,a,er4,rfl,hT4,hS4,hb4⟩;have HT4:=zh hT4;have HS4:=zh hS4;have hb34:Below W3.heap.size W3 w4:=(⟨rfl,rfl,rfl,Nat.le_refl _,fun _ _=>rfl⟩:Below W3.heap.size W3 W3.drew).trans hb4;have HB34:=zh hb34;have hg4:=(hb34.block G HGL.out).trans HG3.out;have HG4:=zh hg4;have x1:w4.cell? ⟨G,1,none⟩=some (.int .i64 (t:Int)):=(by rw [cell_of_row _ _ _ _ _ _ hg4];rfl);have x2:w4.cell? ⟨G,2,none⟩=some (.int .i64 (k:Int)):=(by rw [cell_of_row _ _ _ _ _ _ hg4];rfl);clear hT4 hS4 hb4 hb34 hg4)
    | (go_at_call 123;rw [HDR.out];refine(HTB.out _).mono ?_;rintro e w4 ⟨ad,m4,c4,gs,a,er4,rfl,hT4,hS4,hb4⟩;have HT4:=zh hT4;have HS4:=zh hS4;have hb34:=HBQ.out.trans (hb4.mono (Nat.le_trans (Nat.le_succ _) (Nat.le_of_eq HSQ.out.symm)));have HB34:=zh hb34;have hg4:=(hb34.block G HGL.out).trans HG3.out;have HG4:=zh hg4;have x1:w4.cell? ⟨G,1,none⟩=some (.int .i64 (t:Int)):=(by rw [cell_of_row _ _ _ _ _ _ hg4];rfl);have x2:w4.cell? ⟨G,2,none⟩=some (.int .i64 (k:Int)):=(by rw [cell_of_row _ _ _ _ _ _ hg4];rfl);have hq4:=(hb4.block W3.heap.size (by rw [HSQ.out];omega)).trans HGQ.out;have HQ4:=zh hq4;have y0:w4.cell? ⟨W3.heap.size,0,none⟩=some (.slice none 0 0):=(by rw [cell_of_row _ _ _ _ _ _ hq4];rfl);have y1:w4.cell? ⟨W3.heap.size,1,none⟩=some (.int .i64 0):=(by rw [cell_of_row _ _ _ _ _ _ hq4];rfl);have y2:w4.cell? ⟨W3.heap.size,2,none⟩=some (.int .i64 0):=(by rw [cell_of_row _ _ _ _ _ _ hq4];rfl);have z0:w4.frozen? ⟨W3.heap.size,0,none⟩=false:=frozen_of_row _ _ _ _ _ hq4;have z1:w4.frozen? ⟨W3.heap.size,1,none⟩=false:=frozen_of_row _ _ _ _ _ hq4;have z2:w4.frozen? ⟨W3.heap.size,2,none⟩=false:=frozen_of_row _ _ _ _ _ hq4;have HK4:Hid (∀x y z,(((w4.setCell ⟨W3.heap.size,0,none⟩ x).setCell ⟨W3.heap.size,1,none⟩ y).setCell ⟨W3.heap.size,2,none⟩ z).cell? ⟨G,1,none⟩=some (.int .i64 (t:Int))/\(((w4.setCell ⟨W3.heap.size,0,none⟩ x).setCell ⟨W3.heap.size,1,none⟩ y).setCell ⟨W3.heap.size,2,none⟩ z).cell? ⟨G,2,none⟩=some (.int .i64 (k:Int))):=zh (fun x y z=>by
     have hT:Touch (·=W3.heap.size) w4 (((w4.setCell ⟨W3.heap.size,0,none⟩ x).setCell ⟨W3.heap.size,1,none⟩ y).setCell ⟨W3.heap.size,2,none⟩ z):=Zaa (Zaa (Zaa (Touch.refl _ _)));have h:=(hT.block G (Nat.lt_of_lt_of_le HGL.out HB34.out.size) (fun e=>by have h1:=HGL.out;have h2:G=W3.heap.size:=e;omega)).trans HG4.out;exact⟨by rw [cell_of_row _ _ _ _ _ _ h];rfl,by rw [cell_of_row _ _ _ _ _ _ h];rfl⟩);clear hT4 hS4 hb4 hb34 hg4 hq4))
  focus
   have HX:Hid (RdBx w (w4.alloc (.cells #[.slice ad m4 c4,.int .i64 (a:Int),.int .i64 er4] 166)) N G w4.heap.size M au cu ps t k ad m4 c4 gs a er4/\(w4.alloc (.cells #[.slice ad m4 c4,.int .i64 (a:Int),.int .i64 er4] 166)).heap[w.heap.size]?=some (.cells #[.slice none 0 0,.int .i64 0,.int .i64 0,.int .i64 0] 96 (0,0))):=zh (by
    have hb5:=(Below.refl w4.heap.size w4).alloc (Nat.le_refl _) (.cells #[.slice ad m4 c4,.int .i64 (a:Int),.int .i64 er4] 166);have hb35:=HB34.out.trans (hb5.mono HB34.out.size);exact⟨⟨HB4.out _ hb35,(hb35.block G HGL.out).trans HG3.out,heap_alloc_new w4 _,HI3.out.below hb35,fun e=>(((HS4.out e).2.2).below hb5).zero⟩,(hb35.block _ (Array.getElem?_eq_some_iff.1 HH3.out).1).trans HH3.out⟩)
   have HAL:Hid (er4=0->a<=(Q.drop k).length):=zh (fun e=>(HS4.out e).1);clear HS4 HB34 HG4 HB4 HBQ HGQ HSQ x1 x2 e0 e1 e2 e4 hGlt HGL HG3 HI3 HH3 HB3;generalize w4.alloc (.cells #[.slice ad m4 c4,.int .i64 (a:Int),.int .i64 er4] 166)=W5 at *;generalize w4.heap.size=G2 at *
  rotate_left
  focus
   have HX:Hid (RdBx w (((w4.setCell ⟨W3.heap.size,0,none⟩ (.slice ad m4 c4)).setCell ⟨W3.heap.size,1,none⟩ (.int .i64 (a:Int))).setCell ⟨W3.heap.size,2,none⟩ (.int .i64 er4)) N G W3.heap.size M au cu ps t k ad m4 c4 gs a er4/\(((w4.setCell ⟨W3.heap.size,0,none⟩ (.slice ad m4 c4)).setCell ⟨W3.heap.size,1,none⟩ (.int .i64 (a:Int))).setCell ⟨W3.heap.size,2,none⟩ (.int .i64 er4)).heap[w.heap.size]?=some (.cells #[.slice none 0 0,.int .i64 0,.int .i64 0,.int .i64 0] 96 (0,0))):=zh (by
    have hT:Touch (·=W3.heap.size) w4 (((w4.setCell ⟨W3.heap.size,0,none⟩ (.slice ad m4 c4)).setCell ⟨W3.heap.size,1,none⟩ (.int .i64 (a:Int))).setCell ⟨W3.heap.size,2,none⟩ (.int .i64 er4)):=Zaa (Zaa (Zaa (Touch.refl _ _)));have hb35:=HB34.out.trans (hT.below HB34.out.size (fun i hi=>by have:i=W3.heap.size:=hi;omega));have hsq:=HSQ.out;exact⟨⟨HB4.out _ hb35,(hb35.block G HGL.out).trans HG3.out,heap_setCell_same _ _ 2 _ _ _ (heap_setCell_same _ _ 1 _ _ _ (heap_setCell_same _ _ 0 _ _ _ HQ4.out)),HI3.out.below hb35,fun e=>(((HS4.out e).2.2).touch hT (fun i hi=>by have:i=W3.heap.size:=hi;omega)).zero⟩,(hb35.block _ (Array.getElem?_eq_some_iff.1 HH3.out).1).trans HH3.out⟩)
   have HAL:Hid (er4=0->a<=(Q.drop k).length):=zh (fun e=>(HS4.out e).1);clear HS4 HB34 HG4 HB4 HBQ HGQ HSQ x1 x2 e0 e1 e2 e4 hGlt HGL HG3 HI3 HH3 HB3 HQ4 HK4 y0 y1 y2 z0 z1 z2;generalize ((w4.setCell ⟨W3.heap.size,0,none⟩ (.slice ad m4 c4)).setCell ⟨W3.heap.size,1,none⟩ (.int .i64 (a:Int))).setCell ⟨W3.heap.size,2,none⟩ (.int .i64 er4)=W5 at *;generalize W3.heap.size=G2 at *
  all_goals
   obtain⟨c0,c1,c2,d0,d1,d2⟩:=HX.out.1.cells;by_cases her:er4=0
   ·subst her;have HAL:=zh (HAL.out rfl);have hal:=HAL.out;rw [List.length_drop] at hal;have HRS:=zh (Zjf HHD.out HRC.out HT4.out);have hsum:(k:Int)+(a:Int)=((k+a:Nat):Int):=by omega
    obtain⟨A0,hA0⟩:∃A0,k+a=A0:=⟨_,rfl⟩
    rw [hA0] at hsum HRS;have hA0w:IntKind.i64.wrap (A0:Int)=(A0:Int):=IntWalk.i64_in _ (by have:=HKL.out;omega);have HA0:Hid (A0<=Q.length):=zh (by have:=HKL.out;omega);clear hal hA0;go_wp2_with fail;obtain⟨B,hB⟩:∃B,W5.heap.size=B:=⟨_,rfl⟩
    have HBE:=zh hB;clear hB
    go_loopw [9,10] (fun va vl wr=>∃(b:Nat) (L:List Int),va=.int .i64 (b:Int)/\b<=Q.length/\L.length<=b/\RtC Q N most b L (.sym t ps gs L.length false)/\OwnI wr B vl L/\Below B W5 wr) (fun va _ _=>Q.length-(intOf va).toNat)
    case atStart=>exact⟨A0,[],rfl,HA0.out,Nat.zero_le _,HRS.out,OwnI.nil _ _,⟨rfl,rfl,rfl,Nat.le_refl _,fun _ _=>rfl⟩⟩
    case round=>
     clear HRS HAL HA0 hA0w hsum c0 c1 c2 d0 d1 d2;obtain⟨b,L,rfl,hbq,hLb,hrt,hO,hbr⟩:=hrel;have hbr2:Below W5.heap.size W5 wr:=by rw [HBE.out];exact hbr
     have HR:=zh (HX.out.1.below hbr2);have HH:=zh ((hbr2.block _ (Array.getElem?_eq_some_iff.1 HX.out.2).1).trans HX.out.2);obtain⟨c0,c1,c2,d0,d1,d2⟩:=HR.out.cells;have HO:=zh hO;have HBR:=zh hbr;have HRT:=zh hrt;have HBL:Hid (B<=wr.heap.size/\w.heap.size<B):=zh (by have h1:=HBE.out;have h2:=(Array.getElem?_eq_some_iff.1 HX.out.2).1;have h3:=hbr.size;omega);have hsy:=RtC.sym (q:=Q.drop b) (r:=[]) hrt (by rw [List.append_nil]);have HSY:=zh hsy;have HMP:Hid (ps.length=M):=zh (by rw [<-HM.out,PkM.toI_length]);obtain⟨aL,cL,rfl⟩:=hO.slice;obtain⟨n,hn⟩:∃n,L.length=n:=⟨_,rfl⟩
     have HN:=zh hn;rw [hn] at hLb HSY HO ⊢;have hgi0:(0:Int)<=(n:Int) / 50:=by omega
     have hlm:L.length<=most:=by
      obtain⟨_,_,_,_,_,hif⟩:=hrt;rw [if_neg (by simp)] at hif;exact hif.1
     rw [hn] at hlm;have hnb:n<=100000:=by omega
     clear hrt hbr hbr2 hsy hO hn;by_cases hpk:M<=n / 50
     ·have hpi:(M:Int)<=(n:Int) / 50:=by omega
      have HRE:=zh (HSY.out.1 (by rw [HMP.out];exact hpk));have hbt:=Zb6 25;clear hpk;go_wp2_with (first|(refine Zaj rfl 96 3 _ rfl _ rfl _ hbt ?_)|(refine wpList_store_row rfl 96 _ _ rfl w.heap.size #[.slice none 0 0,.int .i64 0,.int .i64 0,.int .i64 25] rfl rfl 96 _ HH.out hi rfl (Zdk _ _ _ _ _ _) ?_));refine bodyPost_ret (v:=.agg #[.slice none 0 0,.int .i64 0,.int .i64 0,.int .i64 25]) (results_cell_row rfl _ _ w.heap.size 96 _ (0,0) _ rfl (setRow_heap _ _ _ _ _ _ HH.out) hu rfl hi) rfl (RdOut.err rfl HRE.out (Zae HR.out.bel (Nat.le_refl _) _))
     ·have hpk2:n / 50<M:=by omega
      have hpi:¬(M:Int)<=(n:Int) / 50:=by omega
      have hgi1:(n:Int) / 50<(M:Int):=by omega
      obtain⟨g,hg⟩:∃g,n / 50=g:=⟨_,rfl⟩
      have hgi2:((n:Int) / 50).toNat=g:=by omega
      obtain⟨hP1,hP2,hP3⟩:=(HRT.out.2.1).tb HRT.out.1 HRT.out.2.2.1 (n:=n) (by rw [HMP.out];exact hpk2);obtain⟨b3,o3,k3,he3,d3⟩:=(HR.out.row).cell (show n / 50<(PkM.toI ps).length by rw [HM.out];exact hpk2);rw [HM.out] at he3;simp only [Value.slice.injEq] at he3;obtain⟨rfl,he3b,rfl⟩:=he3;rw [PkM.toI_getD] at d3;obtain⟨P,hP⟩:∃P,ps.getD (n / 50) 0=P:=⟨_,rfl⟩
      rw [hP] at d3 hP1;rw [hg] at d3;obtain⟨cg,cC,cb,eC,d4,hrs⟩:=(HR.out.sc rfl).at_ hP1;simp only [Value.slice.injEq] at eC;obtain⟨rfl,rfl,rfl⟩:=eC;have hPi:(P:Int)<(gs.length:Int):=by omega
      have htbi:CodM.tb gs ps n=gs.getD P []:=by unfold CodM.tb;rw [hP]
      rw [<-htbi] at hrs;have HRSW:=zh hrs;have HTN:=zh hP2;have HTW:=zh hP3;have HPK:Hid (n / 50<ps.length):=zh (by rw [HMP.out];exact hpk2);have HDB:=zh (HD.out b hbq);rw [hts] at HDB;have hbi:(b:Int)<=(S.size:Int):=by omega
      have HGT:=zh (fun W (h:RowS W cb N (fun j=>txt (code (CodM.tb gs ps n) j)))=>Zl0 cb N (CodM.tb gs ps n) (Q.drop b) W hP2 h258 hP3 h (by rw [List.length_drop];omega));clear hpk hpk2 hg hP1 hP2 hP3 he3b hP htbi hrs;go_wp2_with fail
      go_quiet (fail)
      have HHQ:Hid ((wr.drewN nq).heap[w.heap.size]?=some (.cells #[.slice none 0 0,.int .i64 0,.int .i64 0,.int .i64 0] 96 (0,0))):=zh HH.out;have HRQ:=zh (HR.out.below ⟨rfl,rfl,rfl,Nat.le_refl _,fun _ _=>rfl⟩:RdBx w (wr.drewN nq) N G G2 M (some ⟨b3,o3,none⟩) cu ps t k (some ⟨cg,0,none⟩) gs.length c4 gs a 0);have HOQ:Hid (OwnI (wr.drewN nq) B (.slice aL n cL) L):=zh (HO.out.drewN nq);have HBQ2:Hid (Below B W5 (wr.drewN nq)):=zh (HBR.out.trans ⟨rfl,rfl,rfl,Nat.le_refl _,fun _ _=>rfl⟩);have HSQ2:Hid (B<=(wr.drewN nq).heap.size):=zh HBL.out.1;have HRW:=zh (HRSW.out.drewN nq);have HHQ2:=zh ((RdOut.err (Q:=Q) (N:=N) (most:=most) (w:=w) (w':=(wr.drewN nq).setRow w.heap.size #[.slice none 0 0,.int .i64 0,.int .i64 0,.int .i64 3]) (er:=3) (l:=L) rfl · (Zae HRQ.out.bel (Nat.le_refl _) _)));have HHQ3:=zh ((RdOut.err (Q:=Q) (N:=N) (most:=most) (w:=w) (w':=(wr.drewN nq).setRow w.heap.size #[.slice none 0 0,.int .i64 0,.int .i64 0,.int .i64 2]) (er:=2) (l:=[]) rfl · (Zae HRQ.out.bel (Nat.le_refl _) _)));clear c0 c1 c2 d0 d1 d2 d3 d4 HR HO HH HBR;obtain⟨e0,e1,e2,f0,f1,f2⟩:=HRQ.out.cells;generalize wr.drewN nq=wq at *;go_wp2_with fail;rw [HDB.out];refine(HGT.out _ HRW.out).mono ?_;rintro e w8 ⟨x,rfl,hgr,hw8⟩;obtain rfl:=hw8.symm;rcases hgr with⟨i,hi1,hi2,rfl⟩|⟨hno,rfl⟩
      ·have hgm:getM (CodM.tb gs ps n) (Q.drop b)=some i:=ZcF HTW.out hi1 hi2;obtain⟨s1,s2,s3,s4,s5⟩:=HSY.out.2.2 i HPK.out hgm;have hiN:i<N:=s1;have hi0:¬(i:Int)<0:=by omega
       have S4:=zh s4;have S5:=zh s5;rw [List.length_drop] at s3;have HS3:Hid (b+ln (CodM.tb gs ps n) i<=Q.length/\1<=ln (CodM.tb gs ps n) i):=zh ⟨by omega,s2⟩;clear hi1 hi2 hgm s1 s2 s3 s4 s5 HGT HSY;by_cases hnm:n=most
       ·have hnmb:((n:Int)==(most:Int))=true:=by rw [hnm];simp
        have HRE:=zh (HHQ3.out (S4.out hnm));have hbt:=Zb6 2;clear hnm;go_wp2_with (first|(refine Zaj rfl 96 3 _ rfl _ rfl _ hbt ?_)|(refine wpList_store_row rfl 96 _ _ rfl w.heap.size #[.slice none 0 0,.int .i64 0,.int .i64 0,.int .i64 2] rfl rfl 96 _ HHQ.out hi rfl (Zdk _ _ _ _ _ _) ?_));refine bodyPost_ret (v:=.agg #[.slice none 0 0,.int .i64 0,.int .i64 0,.int .i64 2]) (results_cell_row rfl _ _ w.heap.size 96 _ (0,0) _ rfl (setRow_heap _ _ _ _ _ _ HHQ.out) hu rfl hi) rfl HRE.out
       ·have hnmb:((n:Int)==(most:Int))=false:=by rw [beq_eq_false_iff_ne];omega
        have hlt:n<most:=by omega
        have HNX:=zh (S5.out hlt);have hii:(i:Int)<(N:Int):=by omega
        have d5:=(HRW.out.cell hiN).1;obtain⟨X,hX⟩:∃X,ln (CodM.tb gs ps n) i=X:=⟨_,rfl⟩
        obtain⟨T5,hT5⟩:∃T5,txt (code (CodM.tb gs ps n) i)=T5:=⟨_,rfl⟩
        have hTz:(T5.size:Int)=(X:Int):=by rw [<-hT5,Zaf,Zat,hX]
        rw [hT5] at d5;rw [hX] at HNX HS3;have hsum:(b:Int)+(X:Int)=((b+X:Nat):Int):=by omega
        obtain⟨b2,hb2⟩:∃b2,b+X=b2:=⟨_,rfl⟩
        rw [hb2] at hsum HNX HS3;have HX1:Hid (n+1<=b2/\b<b2):=zh (by have:=HS3.out.2;omega);have hb2w:IntKind.i64.wrap (b2:Int)=(b2:Int):=IntWalk.i64_in _ (by have:=HS3.out.1;omega);have hl1:L.length+1<=17592186044416:=by rw [HN.out];omega
        have hns:(N:Int)-1=((N-1:Nat):Int):=by omega
        obtain⟨N1,hN1⟩:∃N1,N-1=N1:=⟨_,rfl⟩
        rw [hN1] at hns;have hN1w:IntKind.i64.wrap (N1:Int)=(N1:Int):=IntWalk.i64_in _ (by omega);have HNM:Hid (n+1<=1000000):=zh (by omega);have HN1:=zh hN1;clear hnm hlt hX hT5 hb2 hN1 S4 S5;go_wp2_with (at_builtin;refine Zar wq rfl _ _ rfl B _ L (i:Int) HOQ.out rfl rfl hl1 HSQ2.out ?_);intro v3 w3 hO3 hB3;have HO3:=zh hO3;have HB3:Hid (Below B W5 w3):=zh (HBQ2.out.trans hB3);have HR3:=zh (HX.out.1.below (by rw [HBE.out];exact HB3.out));have HH3:=zh (((by rw [HBE.out];exact HB3.out:Below W5.heap.size W5 w3).block _ (Array.getElem?_eq_some_iff.1 HX.out.2).1).trans HX.out.2);obtain⟨a3,c3,rfl⟩:=hO3.slice;obtain⟨L3,hL3⟩:∃L3,(L++[(i:Int)]).length=L3:=⟨_,rfl⟩
        have HL3:=zh hL3;have HL4:Hid (L3=n+1):=zh (by rw [<-hL3,List.length_append,HN.out];rfl);rw [hL3] at HO3 ⊢;have HOW3:Hid (∀j,(Value.slice a3 L3 c3).ownBlock=some j->w.heap.size<j/\j<w3.heap.size):=zh (fun j hj=>by have h1:=HO3.out.lt j hj;have h2:=HBL.out.2;omega);clear hO3 hB3 e0 e1 e2 f0 f1 f2 d5 HRQ HHQ HOQ HBQ2 HSQ2 HRW HHQ2 HHQ3 hL3;obtain⟨e0,e1,e2,f0,f1,f2⟩:=HR3.out.cells;by_cases hdn:i+1=N
        ·have hdb:((i:Int)==(N1:Int))=true:=by rw [beq_iff_eq];have:=HN1.out;omega
         have HFI:=zh HNX.out;rw [decide_eq_true hdn] at HFI;have hfin:Hid (rdC Q N most=.ok (L++[(i:Int)]) b2):=zh (by obtain⟨_,_,_,_,_,hif⟩:=HFI.out;rwa [if_pos rfl] at hif);have HHC:=zh (Zli (N:=N) HHD.out);have hmul:(t:Int)*(N:Int)=((t*N:Nat):Int):=by simp
         have htn:t*N<=6*258:=Nat.mul_le_mul ht6 h258;obtain⟨TN,hTN⟩:∃TN,t*N=TN:=⟨_,rfl⟩
         rw [hTN] at hmul htn HHC;have htnw:IntKind.i64.wrap (TN:Int)=(TN:Int):=IntWalk.i64_in _ (by omega);have hm32:M<=32767:=by rw [<-HMP.out];exact HHD.out.2.2.2.2.2.1
         have hs5:(M:Int)+(TN:Int)=((M+TN:Nat):Int):=by omega
         obtain⟨HD5,hHD5⟩:∃h,M+TN=h:=⟨_,rfl⟩
         rw [hHD5] at hs5;have hs5w:IntKind.i64.wrap (HD5:Int)=(HD5:Int):=IntWalk.i64_in _ (by omega);have HE5:Hid (heldC Q N=HD5):=zh (by rw [HHC.out,HMP.out,hHD5]);have hbt:=Zm5 a3 L3 c3 (b2:Int) (HD5:Int);clear hdn hTN hHD5;go_wp2_with (first|(refine Zaz rfl 96 0 1 2 _ _ _ rfl _ _ _ rfl rfl rfl _ hbt ?_)|(refine wpList_store_row rfl 96 _ _ rfl w.heap.size #[.slice a3 L3 c3,.int .i64 (b2:Int),.int .i64 (HD5:Int),.int .i64 0] rfl rfl 96 _ HH3.out hi rfl (Zdk _ _ _ _ _ _) ?_));refine bodyPost_ret (v:=.agg #[.slice a3 L3 c3,.int .i64 (b2:Int),.int .i64 (HD5:Int),.int .i64 0]) (results_cell_row rfl _ _ w.heap.size 96 _ (0,0) _ rfl (setRow_heap _ _ _ _ _ _ HH3.out) hu rfl hi) rfl ⟨a3,L3,c3,L++[(i:Int)],b2,HD5,0,rfl,HL3.out.symm,(HO3.out.setRow w.heap.size _ HBL.out.2).ints,by rw [<-HE5.out];exact RdD14.ok hfin.out,Zae HR3.out.bel (Nat.le_refl _) _,fun j hj=>by have h5:=HOW3.out j hj;exact⟨by omega,by rw [Zaw];exact h5.2⟩,by rw [HL3.out,HL4.out];have h6:=HX1.out.1;have h7:=HS3.out.1;omega⟩
        ·have hdb:((i:Int)==(N1:Int))=false:=by rw [beq_eq_false_iff_ne];have:=HN1.out;omega
         have HFI:=zh HNX.out;rw [decide_eq_false hdn,<-HL4.out] at HFI;clear hdn;go_wp2_with fail;go_roundw
         case rel=>exact⟨b2,L++[(i:Int)],by go_num,HS3.out.1,by rw [HL3.out,HL4.out];exact HX1.out.1,by rw [HL3.out];exact HFI.out,HO3.out,HB3.out⟩
         case measure=>have:=HX1.out.2;have:=HS3.out.1;simp [intOf];omega
      ·have hgm:getM (CodM.tb gs ps n) (Q.drop b)=none:=ZjG hno;have HRE:=zh (HHQ2.out (HSY.out.2.1 HPK.out hgm (by first|trivial|rfl)));have hbt:=Zb6 3;clear hno hgm HGT HSY;go_wp2_with (first|(refine Zaj rfl 96 3 _ rfl _ rfl _ hbt ?_)|(refine wpList_store_row rfl 96 _ _ rfl w.heap.size #[.slice none 0 0,.int .i64 0,.int .i64 0,.int .i64 3] rfl rfl 96 _ HHQ.out hi rfl (Zdk _ _ _ _ _ _) ?_));refine bodyPost_ret (v:=.agg #[.slice none 0 0,.int .i64 0,.int .i64 0,.int .i64 3]) (results_cell_row rfl _ _ w.heap.size 96 _ (0,0) _ rfl (setRow_heap _ _ _ _ _ _ HHQ.out) hu rfl hi) rfl HRE.out
   ·have HRE:Hid (rdC Q N most=.err er4 []):=zh (by
     rcases HT4.out with⟨h,_⟩|⟨_,h⟩
     ·exact absurd h her
     ·rw [HRC.out,h];rfl)
    have hbt:=Zb6 er4;have hne:((er4:Int) != 0)=true:=by simp [her]
    clear her;go_wp2_with (first|(refine Zaj rfl 96 3 _ rfl _ rfl _ hbt ?_)|(refine wpList_store_row rfl 96 _ _ rfl w.heap.size #[.slice none 0 0,.int .i64 0,.int .i64 0,.int .i64 er4] rfl rfl 96 _ HX.out.2 hi rfl (Zdk _ _ _ _ _ _) ?_));refine bodyPost_ret (v:=.agg #[.slice none 0 0,.int .i64 0,.int .i64 0,.int .i64 er4]) (results_cell_row rfl _ _ w.heap.size 96 _ (0,0) _ rfl (setRow_heap _ _ _ _ _ _ HX.out.2) hu rfl hi) rfl (RdOut.err rfl HRE.out (Zae HX.out.1.bel (Nat.le_refl _) _))
def SmOut (Q:List Bool) (N most:Nat) (w:World) (e:Ending) (w':World):Prop:=
 ∃(ad:Option Addr) (m c:Nat) (ls:List Int),e=.returned (.slice ad m c)/\m=ls.length/\IsInts w' (.slice ad m c) ls/\ls=CodM.lst (rdC Q N most)/\Below w.heap.size w w'/\(∀j,(Value.slice ad m c).ownBlock=some j->w.heap.size<=j/\j<w'.heap.size)/\ls.length<=Q.length
theorem SmOut.none {Q:List Bool} {N most:Nat} {w w':World} {er:Int} (h:rdC Q N most=.err er []) (hb:Below w.heap.size w w'):SmOut Q N most w (.returned (.slice none 0 0)) w':=
 ⟨Option.none,0,0,[],rfl,rfl,IsInts.nil _,by rw [h];rfl,hb,fun j hj=>absurd hj (by simp [Value.ownBlock]),Nat.zero_le _⟩
theorem SmOut.own {Q:List Bool} {N most B n:Nat} {w w':World} {a:Option Addr} {c:Nat} {L:List Int} (hn:L.length=n) (hq:n<=Q.length) (hO:OwnI w' B (.slice a n c) L) (hB:w.heap.size<=B) (h:L=CodM.lst (rdC Q N most)) (hb:Below w.heap.size w w'):SmOut Q N most w (.returned (.slice a n c)) w':=
 ⟨a,n,c,L,rfl,hn.symm,hO.ints,h,hb,fun j hj=>by have:=hO.lt j hj;omega,by omega⟩
theorem ZkP (Q:List Bool) (N most:Nat) (w:World) (hQ:Q.length<=100000) (hmo:Q.length<most) (h3:3<=N) (h258:N<=258) :
  Calls Tryz.prog 66 #[.string (txt Q),.int .i64 (N:Int)] w (SmOut Q N most w):=by
 have hts:=Zaf Q;have HTS:=zh hts;have HRD:=zh (fun W=>Zf2 Q W (by omega));have HD:Hid (∀k,k<=Q.length->(txt Q).extract k (txt Q).size=txt (Q.drop k)):=zh (fun k hk=>Zbo Q k hk);obtain⟨S,hS⟩:∃S,txt Q=S:=⟨_,rfl⟩
 rw [hS] at hts HRD HD ⊢;clear hS;go_enter Tryz.func66,Tryz.ntmps66;go_wp2_with fail;have HW1:Hid (Below w.heap.size w w):=zh (Below.refl _ _);refine(HRD.out _).mono ?_;rintro e w2 ⟨u,ps,t,k,to,er,rfl,hi2,hb2,hgp,ho2⟩;obtain⟨au,cu,rfl,hcu⟩:=hi2;obtain⟨M,hM⟩:∃M,(PkM.toI ps).length=M:=⟨_,rfl⟩
 have HM:=zh hM;have HI2:Hid (IsInts w2 (.slice au (PkM.toI ps).length cu) (PkM.toI ps)):=zh ⟨au,cu,rfl,hcu⟩;rw [hM] at HI2 ⊢;have hb3:=(Below.refl w2.heap.size w2).alloc (Nat.le_refl _) (.cells #[.slice au M cu,.int .i64 (t:Int),.int .i64 (k:Int),.int .i64 (to:Int),.int .i64 er] 163);have hg3:=heap_alloc_new w2 (.cells #[.slice au M cu,.int .i64 (t:Int),.int .i64 (k:Int),.int .i64 (to:Int),.int .i64 er] 163);have HI3:=zh (HI2.out.below hb3);have hb23:=hb2.trans (hb3.mono hb2.size);have HB3:=zh (HW1.out.trans (hb23.mono HW1.out.size));have HGE:Hid (w.heap.size<=w2.heap.size):=zh hb2.size;unfold GotP at hgp;clear hM hcu hb2 hb23 hb3 ho2 HI2 HRD HW1
 go_upto_region 2 with fail
 generalize w2.alloc (.cells #[.slice au M cu,.int .i64 (t:Int),.int .i64 (k:Int),.int .i64 (to:Int),.int .i64 er] 163)=W3 at *;generalize w2.heap.size=G at *;have e0:W3.cell? ⟨G,0,none⟩=some (.slice au M cu):=by rw [cell_of_row _ _ _ _ _ _ hg3];rfl
 have e1:W3.cell? ⟨G,1,none⟩=some (.int .i64 (t:Int)):=by rw [cell_of_row _ _ _ _ _ _ hg3];rfl
 have e2:W3.cell? ⟨G,2,none⟩=some (.int .i64 (k:Int)):=by rw [cell_of_row _ _ _ _ _ _ hg3];rfl
 have e4:W3.cell? ⟨G,4,none⟩=some (.int .i64 er):=by rw [cell_of_row _ _ _ _ _ _ hg3];rfl
 have HG3:=zh hg3;clear hg3;cases hrd:PkM.rd Q with
 | short=>
  rw [hrd] at hgp;obtain⟨rfl,rfl,rfl,rfl,rfl⟩:=hgp;have HT:=zh (ZdA (N:=N) (most:=most) hrd);clear hrd;go_wp2_with fail;go_ret;exact SmOut.none HT.out HB3.out
 | bad n=>
  rw [hrd] at hgp;obtain⟨rfl,rfl,rfl,rfl,rfl⟩:=hgp;have HT:=zh (Zha (N:=N) (most:=most) hrd);clear hrd;go_wp2_with fail;go_ret;exact SmOut.none HT.out HB3.out
 | ok ps' n=>
  rw [hrd] at hgp;obtain⟨rfl,ht,hk1,hk2,rfl⟩:=hgp;subst hk1;obtain rfl:=hk2.symm;obtain⟨hH,hkl⟩:=Zje hrd;rw [<-ht] at hH;have HHD:=zh hH;have ht6:t<=6:=hH.2.2.1;have HRC:=zh (Zle (N:=N) (most:=most) hrd);rw [<-ht] at HRC;have HDR:=zh (HD.out k hkl);rw [hts] at HDR;have hGlt:G<W3.heap.size:=(Array.getElem?_eq_some_iff.1 HG3.out).1;have HGL:=zh hGlt;have HKL:=zh hkl;have hki:(k:Int)<=(S.size:Int):=by omega
  have HTB:=zh (fun W=>Zf1 (Q.drop k) t N W (by rw [List.length_drop];omega) h3 h258 ht6);have HB4:=zh (fun W (hW:Below W3.heap.size W3 W)=>HB3.out.trans (hW.mono HB3.out.size));clear hrd ht hH;go_wp2_with fail;have hbq:Below W3.heap.size W3 (W3.alloc (.cells #[.slice none 0 0,.int .i64 0,.int .i64 0] 166)).drew:=((Below.refl _ _).alloc (Nat.le_refl _) (.cells #[.slice none 0 0,.int .i64 0,.int .i64 0] 166)).trans ⟨rfl,rfl,rfl,Nat.le_refl _,fun _ _=>rfl⟩;have hgq:(W3.alloc (.cells #[.slice none 0 0,.int .i64 0,.int .i64 0] 166)).drew.heap[W3.heap.size]?=some (.cells #[.slice none 0 0,.int .i64 0,.int .i64 0] 166 (0,0)):=heap_alloc_new W3 (.cells #[.slice none 0 0,.int .i64 0,.int .i64 0] 166);have hsq:(W3.alloc (.cells #[.slice none 0 0,.int .i64 0,.int .i64 0] 166)).drew.heap.size=W3.heap.size+1:=by simp [World.drew]
  have HBQ:=zh hbq;have HGQ:=zh hgq;have HSQ:=zh hsq;clear hbq hgq hsq
  go_region_held3 (fun W=>W.cell? ⟨G,1,none⟩=some (.int .i64 (t:Int))/\W.cell? ⟨G,2,none⟩=some (.int .i64 (k:Int))) (first|go_keep|exact HK4.out _ _ _)
   (first
    | (go_at_call 123;rw [HDR.out];refine(HTB.out _).mono ?_;rintro e w4 ⟨ad,m4,c4,gs,a,er4,rfl,hT4,hS4,hb4⟩;have HT4:=zh hT4;have HS4:=zh hS4;have hb34:Below W3.heap.size W3 w4:=(⟨rfl,rfl,rfl,Nat.le_refl _,fun _ _=>rfl⟩:Below W3.heap.size W3 W3.drew).trans hb4;have HB34:=zh hb34;have hg4:=(hb34.block G HGL.out).trans HG3.out;have HG4:=zh hg4;have x1:w4.cell? ⟨G,1,none⟩=some (.int .i64 (t:Int)):=(by rw [cell_of_row _ _ _ _ _ _ hg4];rfl);have x2:w4.cell? ⟨G,2,none⟩=some (.int .i64 (k:Int)):=(by rw [cell_of_row _ _ _ _ _ _ hg4];rfl);clear hT4 hS4 hb4 hb34 hg4)
    | (go_at_call 123;rw [HDR.out];refine(HTB.out _).mono ?_;rintro e w4 ⟨ad,m4,c4,gs,a,er4,rfl,hT4,hS4,hb4⟩;have HT4:=zh hT4;have HS4:=zh hS4;have hb34:=HBQ.out.trans (hb4.mono (Nat.le_trans (Nat.le_succ _) (Nat.le_of_eq HSQ.out.symm)));have HB34:=zh hb34;have hg4:=(hb34.block G HGL.out).trans HG3.out;have HG4:=zh hg4;have x1:w4.cell? ⟨G,1,none⟩=some (.int .i64 (t:Int)):=(by rw [cell_of_row _ _ _ _ _ _ hg4];rfl);have x2:w4.cell? ⟨G,2,none⟩=some (.int .i64 (k:Int)):=(by rw [cell_of_row _ _ _ _ _ _ hg4];rfl);have hq4:=(hb4.block W3.heap.size (by rw [HSQ.out];omega)).trans HGQ.out;have HQ4:=zh hq4;have y0:w4.cell? ⟨W3.heap.size,0,none⟩=some (.slice none 0 0):=(by rw [cell_of_row _ _ _ _ _ _ hq4];rfl);have y1:w4.cell? ⟨W3.heap.size,1,none⟩=some (.int .i64 0):=(by rw [cell_of_row _ _ _ _ _ _ hq4];rfl);have y2:w4.cell? ⟨W3.heap.size,2,none⟩=some (.int .i64 0):=(by rw [cell_of_row _ _ _ _ _ _ hq4];rfl);have z0:w4.frozen? ⟨W3.heap.size,0,none⟩=false:=frozen_of_row _ _ _ _ _ hq4;have z1:w4.frozen? ⟨W3.heap.size,1,none⟩=false:=frozen_of_row _ _ _ _ _ hq4;have z2:w4.frozen? ⟨W3.heap.size,2,none⟩=false:=frozen_of_row _ _ _ _ _ hq4;have HK4:Hid (∀x y z,(((w4.setCell ⟨W3.heap.size,0,none⟩ x).setCell ⟨W3.heap.size,1,none⟩ y).setCell ⟨W3.heap.size,2,none⟩ z).cell? ⟨G,1,none⟩=some (.int .i64 (t:Int))/\(((w4.setCell ⟨W3.heap.size,0,none⟩ x).setCell ⟨W3.heap.size,1,none⟩ y).setCell ⟨W3.heap.size,2,none⟩ z).cell? ⟨G,2,none⟩=some (.int .i64 (k:Int))):=zh (fun x y z=>by
     have hT:Touch (·=W3.heap.size) w4 (((w4.setCell ⟨W3.heap.size,0,none⟩ x).setCell ⟨W3.heap.size,1,none⟩ y).setCell ⟨W3.heap.size,2,none⟩ z):=Zaa (Zaa (Zaa (Touch.refl _ _)));have h:=(hT.block G (Nat.lt_of_lt_of_le HGL.out HB34.out.size) (fun e=>by have h1:=HGL.out;have h2:G=W3.heap.size:=e;omega)).trans HG4.out;exact⟨by rw [cell_of_row _ _ _ _ _ _ h];rfl,by rw [cell_of_row _ _ _ _ _ _ h];rfl⟩);clear hT4 hS4 hb4 hb34 hg4 hq4))
  focus
   have HX:Hid (RdBx w (w4.alloc (.cells #[.slice ad m4 c4,.int .i64 (a:Int),.int .i64 er4] 166)) N G w4.heap.size M au cu ps t k ad m4 c4 gs a er4):=zh (by
    have hb5:=(Below.refl w4.heap.size w4).alloc (Nat.le_refl _) (.cells #[.slice ad m4 c4,.int .i64 (a:Int),.int .i64 er4] 166);have hb35:=HB34.out.trans (hb5.mono HB34.out.size);exact⟨HB4.out _ hb35,(hb35.block G HGL.out).trans HG3.out,heap_alloc_new w4 _,HI3.out.below hb35,fun e=>(((HS4.out e).2.2).below hb5).zero⟩)
   have HAL:Hid (er4=0->a<=(Q.drop k).length):=zh (fun e=>(HS4.out e).1);clear HS4 HB34 HG4 HB4 HBQ HGQ HSQ x1 x2 e0 e1 e2 e4 hGlt HGL HG3 HI3 HB3;generalize w4.alloc (.cells #[.slice ad m4 c4,.int .i64 (a:Int),.int .i64 er4] 166)=W5 at *;generalize w4.heap.size=G2 at *
  rotate_left
  focus
   have HX:Hid (RdBx w (((w4.setCell ⟨W3.heap.size,0,none⟩ (.slice ad m4 c4)).setCell ⟨W3.heap.size,1,none⟩ (.int .i64 (a:Int))).setCell ⟨W3.heap.size,2,none⟩ (.int .i64 er4)) N G W3.heap.size M au cu ps t k ad m4 c4 gs a er4):=zh (by
    have hT:Touch (·=W3.heap.size) w4 (((w4.setCell ⟨W3.heap.size,0,none⟩ (.slice ad m4 c4)).setCell ⟨W3.heap.size,1,none⟩ (.int .i64 (a:Int))).setCell ⟨W3.heap.size,2,none⟩ (.int .i64 er4)):=Zaa (Zaa (Zaa (Touch.refl _ _)));have hb35:=HB34.out.trans (hT.below HB34.out.size (fun i hi=>by have:i=W3.heap.size:=hi;omega));have hsq:=HSQ.out;exact⟨HB4.out _ hb35,(hb35.block G HGL.out).trans HG3.out,heap_setCell_same _ _ 2 _ _ _ (heap_setCell_same _ _ 1 _ _ _ (heap_setCell_same _ _ 0 _ _ _ HQ4.out)),HI3.out.below hb35,fun e=>(((HS4.out e).2.2).touch hT (fun i hi=>by have:i=W3.heap.size:=hi;omega)).zero⟩)
   have HAL:Hid (er4=0->a<=(Q.drop k).length):=zh (fun e=>(HS4.out e).1);clear HS4 HB34 HG4 HB4 HBQ HGQ HSQ x1 x2 e0 e1 e2 e4 hGlt HGL HG3 HI3 HB3 HQ4 HK4 y0 y1 y2 z0 z1 z2;generalize ((w4.setCell ⟨W3.heap.size,0,none⟩ (.slice ad m4 c4)).setCell ⟨W3.heap.size,1,none⟩ (.int .i64 (a:Int))).setCell ⟨W3.heap.size,2,none⟩ (.int .i64 er4)=W5 at *;generalize W3.heap.size=G2 at *
  all_goals
   obtain⟨c0,c1,c2,d0,d1,d2⟩:=HX.out.cells;by_cases her:er4=0
   ·subst her;have HAL:=zh (HAL.out rfl);have hal:=HAL.out;rw [List.length_drop] at hal;have HRS:=zh (Zjf HHD.out HRC.out HT4.out);have hsum:(k:Int)+(a:Int)=((k+a:Nat):Int):=by omega
    obtain⟨A0,hA0⟩:∃A0,k+a=A0:=⟨_,rfl⟩
    rw [hA0] at hsum HRS;have hA0w:IntKind.i64.wrap (A0:Int)=(A0:Int):=IntWalk.i64_in _ (by have:=HKL.out;omega);have HA0:Hid (A0<=Q.length):=zh (by have:=HKL.out;omega);clear hal hA0;go_wp2_with fail;obtain⟨B,hB⟩:∃B,W5.heap.size=B:=⟨_,rfl⟩
    have HBE:=zh hB;clear hB
    go_loopw [7,8] (fun va vl wr=>∃(b:Nat) (L:List Int),va=.int .i64 (b:Int)/\b<=Q.length/\L.length<=b/\RtC Q N most b L (.sym t ps gs L.length false)/\OwnI wr B vl L/\Below B W5 wr) (fun va _ _=>Q.length-(intOf va).toNat)
    case atStart=>exact⟨A0,[],rfl,HA0.out,Nat.zero_le _,HRS.out,OwnI.nil _ _,⟨rfl,rfl,rfl,Nat.le_refl _,fun _ _=>rfl⟩⟩
    case round=>
     clear HRS HAL HA0 hA0w hsum c0 c1 c2 d0 d1 d2;obtain⟨b,L,rfl,hbq,hLb,hrt,hO,hbr⟩:=hrel;have hbr2:Below W5.heap.size W5 wr:=by rw [HBE.out];exact hbr
     have HR:=zh (HX.out.below hbr2);obtain⟨c0,c1,c2,d0,d1,d2⟩:=HR.out.cells;have HO:=zh hO;have HBR:=zh hbr;have HRT:=zh hrt;have HBL:Hid (B<=wr.heap.size/\w.heap.size<=B):=zh (by have h1:=HBE.out;have h2:=HX.out.bel.size;have h3:=hbr.size;omega);have hsy:=RtC.sym (q:=Q.drop b) (r:=[]) hrt (by rw [List.append_nil]);have HSY:=zh hsy;have HMP:Hid (ps.length=M):=zh (by rw [<-HM.out,PkM.toI_length]);obtain⟨aL,cL,rfl⟩:=hO.slice;obtain⟨n,hn⟩:∃n,L.length=n:=⟨_,rfl⟩
     have HN:=zh hn;rw [hn] at hLb HSY HO ⊢;have hgi0:(0:Int)<=(n:Int) / 50:=by omega
     have hlm:L.length<=most:=by
      obtain⟨_,_,_,_,_,hif⟩:=hrt;rw [if_neg (by simp)] at hif;exact hif.1
     rw [hn] at hlm;have hnb:n<=100000:=by omega
     clear hrt hbr hbr2 hsy hO hn;by_cases hpk:M<=n / 50
     ·have hpi:¬(n:Int) / 50<(M:Int):=by omega
      have HRE:=zh (HSY.out.1 (by rw [HMP.out];exact hpk));clear hpk;go_wp2_with fail;go_ret;exact SmOut.own HN.out (by omega) HO.out HBL.out.2 (by rw [HRE.out];rfl) HR.out.bel
     ·have hpk2:n / 50<M:=by omega
      have hgi1:(n:Int) / 50<(M:Int):=by omega
      obtain⟨g,hg⟩:∃g,n / 50=g:=⟨_,rfl⟩
      have hgi2:((n:Int) / 50).toNat=g:=by omega
      obtain⟨hP1,hP2,hP3⟩:=(HRT.out.2.1).tb HRT.out.1 HRT.out.2.2.1 (n:=n) (by rw [HMP.out];exact hpk2);obtain⟨b3,o3,k3,he3,d3⟩:=(HR.out.row).cell (show n / 50<(PkM.toI ps).length by rw [HM.out];exact hpk2);rw [HM.out] at he3;simp only [Value.slice.injEq] at he3;obtain⟨rfl,he3b,rfl⟩:=he3;rw [PkM.toI_getD] at d3;obtain⟨P,hP⟩:∃P,ps.getD (n / 50) 0=P:=⟨_,rfl⟩
      rw [hP] at d3 hP1;rw [hg] at d3;obtain⟨cg,cC,cb,eC,d4,hrs⟩:=(HR.out.sc rfl).at_ hP1;simp only [Value.slice.injEq] at eC;obtain⟨rfl,rfl,rfl⟩:=eC;have hPi:(P:Int)<(gs.length:Int):=by omega
      have htbi:CodM.tb gs ps n=gs.getD P []:=by unfold CodM.tb;rw [hP]
      rw [<-htbi] at hrs;have HRSW:=zh hrs;have HTN:=zh hP2;have HTW:=zh hP3;have HPK:Hid (n / 50<ps.length):=zh (by rw [HMP.out];exact hpk2);have HDB:=zh (HD.out b hbq);rw [hts] at HDB;have hbi:(b:Int)<=(S.size:Int):=by omega
      have HGT:=zh (fun W (h:RowS W cb N (fun j=>txt (code (CodM.tb gs ps n) j)))=>Zl0 cb N (CodM.tb gs ps n) (Q.drop b) W hP2 h258 hP3 h (by rw [List.length_drop];omega));clear hpk hpk2 hg hP1 hP2 hP3 he3b hP htbi hrs;go_wp2_with fail
      go_quiet (fail)
      have HRQ:=zh (HR.out.below ⟨rfl,rfl,rfl,Nat.le_refl _,fun _ _=>rfl⟩:RdBx w (wr.drewN nq) N G G2 M (some ⟨b3,o3,none⟩) cu ps t k (some ⟨cg,0,none⟩) gs.length c4 gs a 0);have HOQ:Hid (OwnI (wr.drewN nq) B (.slice aL n cL) L):=zh (HO.out.drewN nq);have HBQ2:Hid (Below B W5 (wr.drewN nq)):=zh (HBR.out.trans ⟨rfl,rfl,rfl,Nat.le_refl _,fun _ _=>rfl⟩);have HSQ2:Hid (B<=(wr.drewN nq).heap.size):=zh HBL.out.1;have HRW:=zh (HRSW.out.drewN nq);clear c0 c1 c2 d0 d1 d2 d3 d4 HR HO HBR;obtain⟨e0,e1,e2,f0,f1,f2⟩:=HRQ.out.cells;generalize wr.drewN nq=wq at *;go_wp2_with fail;rw [HDB.out];refine(HGT.out _ HRW.out).mono ?_;rintro e w8 ⟨x,rfl,hgr,hw8⟩;obtain rfl:=hw8.symm;rcases hgr with⟨i,hi1,hi2,rfl⟩|⟨hno,rfl⟩
      ·have hgm:getM (CodM.tb gs ps n) (Q.drop b)=some i:=ZcF HTW.out hi1 hi2;obtain⟨s1,s2,s3,s4,s5⟩:=HSY.out.2.2 i HPK.out hgm;have hiN:i<N:=s1;have hi0:¬(i:Int)<0:=by omega
       have S4:=zh s4;have S5:=zh s5;rw [List.length_drop] at s3;have HS3:Hid (b+ln (CodM.tb gs ps n) i<=Q.length/\1<=ln (CodM.tb gs ps n) i):=zh ⟨by omega,s2⟩;clear hi1 hi2 hgm s1 s2 s3 s4 s5 HGT HSY;have hlt:n<most:=by omega
       have HNX:=zh (S5.out hlt);have hii:(i:Int)<(N:Int):=by omega
       have d5:=(HRW.out.cell hiN).1;obtain⟨X,hX⟩:∃X,ln (CodM.tb gs ps n) i=X:=⟨_,rfl⟩
       obtain⟨T5,hT5⟩:∃T5,txt (code (CodM.tb gs ps n) i)=T5:=⟨_,rfl⟩
       have hTz:(T5.size:Int)=(X:Int):=by rw [<-hT5,Zaf,Zat,hX]
       rw [hT5] at d5;rw [hX] at HNX HS3;have hsum:(b:Int)+(X:Int)=((b+X:Nat):Int):=by omega
       obtain⟨b2,hb2⟩:∃b2,b+X=b2:=⟨_,rfl⟩
       rw [hb2] at hsum HNX HS3;have HX1:Hid (n+1<=b2/\b<b2):=zh (by have:=HS3.out.2;omega);have hb2w:IntKind.i64.wrap (b2:Int)=(b2:Int):=IntWalk.i64_in _ (by have:=HS3.out.1;omega);have hl1:L.length+1<=17592186044416:=by rw [HN.out];omega
       have hns:(N:Int)-1=((N-1:Nat):Int):=by omega
       obtain⟨N1,hN1⟩:∃N1,N-1=N1:=⟨_,rfl⟩
       rw [hN1] at hns;have hN1w:IntKind.i64.wrap (N1:Int)=(N1:Int):=IntWalk.i64_in _ (by omega);have HNM:Hid (n+1<=1000000):=zh (by omega);have HN1:=zh hN1;clear hlt hX hT5 hb2 hN1 S4 S5;go_wp2_with (at_builtin;refine Zar wq rfl _ _ rfl B _ L (i:Int) HOQ.out rfl rfl hl1 HSQ2.out ?_);intro v3 w3 hO3 hB3;have HO3:=zh hO3;have HB3:Hid (Below B W5 w3):=zh (HBQ2.out.trans hB3);have HR3:=zh (HX.out.below (by rw [HBE.out];exact HB3.out));obtain⟨a3,c3,rfl⟩:=hO3.slice;obtain⟨L3,hL3⟩:∃L3,(L++[(i:Int)]).length=L3:=⟨_,rfl⟩
       have HL3:=zh hL3;have HL4:Hid (L3=n+1):=zh (by rw [<-hL3,List.length_append,HN.out];rfl);rw [hL3] at HO3 ⊢;have HOW3:Hid (∀j,(Value.slice a3 L3 c3).ownBlock=some j->w.heap.size<=j/\j<w3.heap.size):=zh (fun j hj=>by have h1:=HO3.out.lt j hj;have h2:=HBL.out.2;omega);clear hO3 hB3 e0 e1 e2 f0 f1 f2 d5 HRQ HOQ HBQ2 HSQ2 HRW hL3;obtain⟨e0,e1,e2,f0,f1,f2⟩:=HR3.out.cells;by_cases hdn:i+1=N
       ·have hdb:((i:Int)==(N1:Int))=true:=by rw [beq_iff_eq];have:=HN1.out;omega
        have HFI:=zh HNX.out;rw [decide_eq_true hdn] at HFI;have hfin:Hid (rdC Q N most=.ok (L++[(i:Int)]) b2):=zh (by obtain⟨_,_,_,_,_,hif⟩:=HFI.out;rwa [if_pos rfl] at hif);clear hdn;go_wp2_with fail;go_ret;exact SmOut.own HL3.out (by rw [HL4.out];have h6:=HX1.out.1;have h7:=HS3.out.1;omega) HO3.out HBL.out.2 (by rw [hfin.out];rfl) HR3.out.bel
       ·have hdb:((i:Int)==(N1:Int))=false:=by rw [beq_eq_false_iff_ne];have:=HN1.out;omega
        have HFI:=zh HNX.out;rw [decide_eq_false hdn,<-HL4.out] at HFI;clear hdn;go_wp2_with fail;go_roundw
        case rel=>exact⟨b2,L++[(i:Int)],by go_num,HS3.out.1,by rw [HL3.out,HL4.out];exact HX1.out.1,by rw [HL3.out];exact HFI.out,HO3.out,HB3.out⟩
        case measure=>have:=HX1.out.2;have:=HS3.out.1;simp [intOf];omega
      ·have hgm:getM (CodM.tb gs ps n) (Q.drop b)=none:=ZjG hno;have HRE:=zh (HSY.out.2.1 HPK.out hgm (by first|trivial|rfl));clear hno hgm HGT HSY;go_wp2_with fail;go_ret;exact SmOut.own HN.out (by omega) HOQ.out HBL.out.2 (by rw [HRE.out];rfl) HRQ.out.bel
   ·have HRE:Hid (rdC Q N most=.err er4 []):=zh (by
     rcases HT4.out with⟨h,_⟩|⟨_,h⟩
     ·exact absurd h her
     ·rw [HRC.out,h];rfl)
    have hne:((er4:Int) != 0)=true:=by simp [her]
    clear her;go_wp2_with fail;go_ret;exact SmOut.none HRE.out HX.out.bel
end
section
open Go.RowKit
theorem Zf3 (r:Int) (w:World):Calls Tryz.prog 25 #[.int .i64 r] w fun e w'=>e=.returned (.bool (decide (5<=r/\r<=900000)))/\w'=w:=by
 by_cases h1:r<5
 ·have h2:¬r>=5:=by omega
  have h3:decide (5<=r/\r<=900000)=false:=by rw [decide_eq_false_iff_not];omega
  rw [h3];go_enter Tryz.func25,Tryz.ntmps25;go_wp2_with fail;go_ret;exact⟨rfl,rfl⟩
 ·have h2:r>=5:=by omega
  by_cases h4:r<=900000
  ·have h3:decide (5<=r/\r<=900000)=true:=by rw [decide_eq_true_eq];omega
   rw [h3];go_enter Tryz.func25,Tryz.ntmps25;go_wp2_with fail;go_ret;exact⟨rfl,rfl⟩
  ·have h3:decide (5<=r/\r<=900000)=false:=by rw [decide_eq_false_iff_not];omega
   rw [h3];go_enter Tryz.func25,Tryz.ntmps25;go_wp2_with fail;go_ret;exact⟨rfl,rfl⟩
end
section
open Go.ChangeShapes Go.WideShapes Go.RowKit
theorem ZdN {H:Type} {enc:TypeId×Value->H} {P:Program} {w:World} {base:Nat} {sp:Nat->Bool} {held:Bool} {fuel:Nat} {t:TypeId} {k:IntKind} {cs:List Value} {y:DataW H×List MemPlace} {n:Int}
  (ht:P.underlying t=some (.int k)) (h:DataW.trod enc P w base sp held fuel t cs=some y) (hy:y.1=.lit (.int k n)):cs=[.int k n]:=by
 obtain⟨m,rfl,e,_⟩:=DataW.trod_int ht h;rw [e] at hy;simp at hy;rw [hy]
theorem ZcL {H:Type} {enc:TypeId×Value->H} {P:Program} {w:World} {base:Nat} {sp:Nat->Bool} {held:Bool} {fuel n:Nat} {t e:TypeId} {k:IntKind} {cs:List Value} {ps:List MemPlace} {ns:List Int}
  (ht:P.underlying t=some (.array n e)) (he:P.underlying e=some (.int k)) (hc:P.cellsOf e=1) (hct:P.cellsOf t=ns.length)
  (h:DataW.trod enc P w base sp held fuel t cs=some (.agg (ns.map fun x=>.lit (.int k x)),ps)):cs=ns.map fun x=>.int k x:=by
 obtain⟨xs,m,hx0,hx,hl,hn,hel⟩:=DataW.trod_array ht h;simp only [Prod.mk.injEq,DataW.agg.injEq] at hx
 have hlen:xs.length=ns.length:=by
  have:=congrArg List.length hx.1;simpa using this.symm
 apply List.ext_getElem?;intro j;by_cases hj:j<ns.length
 ·have h1:=hel j (by omega);have hxj:xs[j]?=some (xs[j]'(by omega)):=List.getElem?_eq_getElem _;rw [hxj,hc] at h1;have hnj:ns[j]?=some ns[j]:=List.getElem?_eq_getElem hj
  have h2:=ZdN (n:=ns[j]) he h1 (by
   have:=congrArg (fun l=>l[j]?) hx.1;simp only [List.getElem?_map,hnj,hxj,Option.map_some,Option.some.injEq] at this;exact this.symm)
  have h3:=congrArg (fun l=>l[0]?) h2;rw [List.getElem?_map,hnj];simpa using h3
 ·rw [List.getElem?_eq_none (by omega),List.getElem?_eq_none (by simp;omega)]
theorem bounds_of_laid {W : World} (h : laidMetH Tryz.prog [("baler/tables.bounds", Rows.laid_baler_tables_bounds)] W) : Bnds W := by
 rw [MakeChecks.laidMetH_plain _ _ _ (by kernel_rfl)] at h;obtain⟨ps,⟨g0,t0,cs0,f0,p0,q0,hg0,ht0,hv0,hd0,_,_⟩,_,_⟩:=h;have e0:some g0=some 1:=hg0.symm.trans (by kernel_rfl);obtain rfl:g0=1:=Option.some.inj e0;have e1:some t0=some 325:=ht0.symm.trans (by kernel_rfl);obtain rfl:t0=325:=Option.some.inj e1;have hc:=ZcL (ns:=[200,600,1200,2400]) Tryz.underlying325 Tryz.underlying3 (by kernel_rfl) (by kernel_rfl) hd0;simp only [World.var?,hg0,Option.bind_some] at hv0;split at hv0
 ·rename_i cs t fr hh
  have hcs:cs=ZbG:=by
   have:cs=cs0:=by simpa using hv0
   rw [this];apply Array.toList_inj.1;exact hc
  exact⟨t,fr,by rw [<-hcs];exact hh⟩
 ·cases hv0
end
section
open Go.RowKit
section
variable {w w' : World} {t : Nat} {room : Int} {begun : Bool} {sum origin : Int} {list places : Value} {fr ot : Int} {wrong : Int} {done : Bool}
theorem Zt7 (w:World) (row:Option Addr) (a:Option Addr) (L cap H:Nat) (h:IsBk w t room begun sum origin list (.pointer row) places fr ot (.slice a L cap) wrong done)
  (HC:∀W,Below w.heap.size w W->Calls Tryz.prog 75 #[.pointer row] W fun e w'=>e=.returned (.int .i64 (H:Int))/\Below W.heap.size W w') (hb:H+L<=1000000000000) :
  Calls Tryz.prog 33 #[.pointer (some ⟨t,0,none⟩)] w fun e w'=>e=.returned (.int .i64 ((H+L:Nat):Int))/\Below w.heap.size w w':=by
 have hlt:=h.lt;have c5:∀sb:Beneath w.heap.size w,sb.val.cell? ⟨t,5,none⟩=some (.pointer row):=fun sb=>Beneath.cell (h.cell 5) hlt sb
 have c9:∀sb:Beneath w.heap.size w,sb.val.cell? ⟨t,9,none⟩=some (.slice a L cap):=fun sb=>Beneath.cell (h.cell 9) hlt sb
 have HC:=zh HC;obtain⟨K,hK⟩:∃K,H+L=K:=⟨_,rfl⟩
 have hs:(H:Int)+(L:Int)=(K:Int):=by omega
 have hw:IntKind.i64.wrap (K:Int)=(K:Int):=IntWalk.i64_in _ (by omega);rw [hK];clear h hlt hK;go_enter Tryz.func33,Tryz.ntmps33;go_wp2_with fail;refine ZaF w.heap.size w (Below.refl _ _) (by kernel_rfl) (by kernel_rfl) ?_
 repeat (go_big_quiet_step (first
  | (go_at_call 75;rename_i sb;exact Calls.beneath sb (Nat.le_refl _) (HC.out _ sb.is))))
 refine wpQuiet_nil ?_;rintro _ ⟨sb,rfl⟩;have HB:=zh sb.is;clear c5 c9;generalize sb.val=W6 at *;go_wp2_with fail;go_ret;exact⟨rfl,HB.out⟩
end
end
section
open Go.RowKit BitM
theorem Zub (t:ByteArray) (n:Nat):(t.extract n t.size).data.toList=t.data.toList.drop n:=by
 have e:t.size=t.data.toList.length:=rfl;rw [ByteArray.data_extract,e];simp only [Array.toList_extract,List.extract_eq_take_drop];rw [List.take_of_length_le (by simp)]
theorem Zuc (s:ByteArray) (c:Nat):(s.extract 0 c).data.toList=s.data.toList.take c:=by
 rw [ByteArray.data_extract];simp only [Array.toList_extract,List.extract_eq_take_drop,List.drop_zero,Nat.sub_zero]
def cm (come:Bool) (S:List UInt8) (c:Nat):List UInt8:=if come then S else S.take c
def rest (come:Bool) (S:List UInt8) (c:Nat):List Bool:=if come then[] else bitsOf (S.drop c)
theorem Zuh (come:Bool) (S:List UInt8) (c a:Nat) (ha:a<=8*(cm come S c).length):(bitsOf S).drop a=(bitsOf (cm come S c)).drop a++rest come S c:=by
 cases come with
 | true=>simp [cm,rest]
 | false=>
  have e:bitsOf S=bitsOf (S.take c)++bitsOf (S.drop c):=by rw [<-ZaO,List.take_append_drop]
  show(bitsOf S).drop a=(bitsOf (S.take c)).drop a++bitsOf (S.drop c);rw [e,List.drop_append_of_le_length (by rw [Zan];exact ha)]
theorem Zuf (come:Bool) (S:List UInt8) (c:Nat):(cm come S c).length<=S.length:=by
 cases come with
 | true=>exact Nat.le_refl _
 | false=>show(S.take c).length<=_;rw [List.length_take];omega
theorem Zui (S:List UInt8) (c:Nat):cm false S c++S.drop c=cm true S c:=List.take_append_drop c S
end
end Go.Proofs.YtnachbjhhpnadaaGreatDoor

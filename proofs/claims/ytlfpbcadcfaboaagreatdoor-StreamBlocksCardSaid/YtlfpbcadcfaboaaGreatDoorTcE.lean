import Derived.Test.YtlfpbcadcfaboaaGreatDoorTcA
import Derived.Test.YtlfpbcadcfaboaaGreatDoorTcC
import Derived.Test.YtlfpbcadcfaboaaGreatDoorTcD
import Derived.StillTailTactics
import Derived.BigRegion
import Derived.BigQuiet
set_option linter.unusedVariables false
set_option linter.unusedSimpArgs false
set_option maxHeartbeats 8000000
set_option maxRecDepth 100000
namespace Go.Proofs.YtlfpbcadcfaboaaGreatDoor
section
open Go.RowKit HufM
def WholeP (zs:List Int):Prop:=Within 1 20 zs/\shr zs=1048576
end
section
open Go.RowKit CanM HufM
theorem ZkA {zs:List Int} (h3:2<=zs.length):(Within 0 20 zs/\shr zs=1048576)↔WholeP zs:=by
 constructor
 ·rintro⟨h1,h2⟩;refine⟨fun z hz=>?_,h2⟩;have hb:=h1 z hz;by_cases h0:z=0
  ·exfalso
   obtain⟨s,t,rfl⟩:=List.append_of_mem hz;unfold shr at h2;rw [Za6] at h2;simp only [sumN] at h2;subst h0;simp only [Int.toNat_zero,Nat.sub_zero] at h2
   have hpos:∀(l:List Int),l≠[]->0<sumN (fun x:Int=>2^(20-x.toNat)) l:=by
    intro l hl;cases l with
    | nil=>exact absurd rfl hl
    | cons y l=>
     simp only [sumN];have:0<2^(20-y.toNat):=Nat.pow_pos (by decide);omega
   by_cases hs:s=[]
   ·subst hs;have ht:t≠[]:=by rintro rfl;simp at h3
    have:=hpos t ht;omega
   ·have:=hpos s hs;omega
  ·omega
 ·rintro⟨h1,h2⟩;exact⟨fun z hz=>by have:=h1 z hz;omega,h2⟩
theorem ZhK (v:Value) (zs:List Int) (r:Bool) (w:World) (hv:IsInts w v zs) (h3:2<=zs.length) (hz:zs.length<=258) (hr:r=true↔WholeP zs) :
  Calls Tryz.prog 145 #[v] w fun e w'=>e=.returned (.bool r)/\w'=w:=by
 have HV:=zh hv;have HR:=zh hr;obtain⟨a,cap,rfl,_⟩:=hv;clear hr;go_enter Tryz.func145,Tryz.ntmps145;go_wp2_with fail;refine(ZoV _ zs w HV.out (by omega)).mono ?_;rintro e w1 ⟨n,err,rfl,hP,rfl⟩;rcases hP with⟨h1,rfl,rfl⟩|⟨h1,rfl,rfl⟩
 ·obtain rfl:r=false:=by
   rw [Bool.eq_false_iff,Ne,HR.out,<-ZkA h3];exact fun h=>h1 ⟨hz,h.1⟩
  clear h1;go_wp2_with fail;go_ret;exact⟨rfl,rfl⟩
 ·by_cases hs:shr zs=1048576
  ·obtain rfl:r=true:=by rw [HR.out,<-ZkA h3];exact⟨h1.2,hs⟩
   have hb:((shr zs:Int)==1048576)=true:=by rw [beq_iff_eq];omega
   clear h1;generalize shr zs=T at *;clear hs;go_wp2_with fail;go_ret;exact⟨rfl,rfl⟩
  ·obtain rfl:r=false:=by
    rw [Bool.eq_false_iff,Ne,HR.out];exact fun h=>hs h.2
   have hb:((shr zs:Int)==1048576)=false:=by rw [beq_eq_false_iff_ne];omega
   clear h1;generalize shr zs=T at *;clear hs;go_wp2_with fail;go_ret;exact⟨rfl,rfl⟩
def Zj2 (x:Value) (i:Nat):Value:=if i=0 then x else if i<259 then .int .i64 0 else if i<517 then .int .u32 0 else if i<775 then .int .i64 0 else if i<796 then .int .u32 0 else if i<817 then .int .i64 0 else .int .u32 0
theorem Zsa (x:Int):Tryz.prog.built 214 [(0,.int .i64 x)]=some (cellsF 838 (Zj2 (.int .i64 x))):=by kernel_rfl
theorem Zs2 (v:Value) (zs:List Int) (w:World) (hv:IsInts w v zs) (h3:3<=zs.length) (h258:zs.length<=258) (h:¬WholeP zs) :
  Calls Tryz.prog 105 #[v] w fun e w'=>e=.returned (.tuple #[.pointer none,.int .i64 22])/\w'=w:=by
 have HV:=zh hv;have HH:=zh h;obtain⟨a,cap,rfl,_⟩:=hv;have h3i:(3:Int)<=zs.length:=by omega
 have h4i:(zs.length:Int)<=258:=by omega
 clear h;go_enter Tryz.func105,Tryz.ntmps105;go_wp2_with fail;refine(ZhK _ zs false w HV.out (by omega) h258 (by simpa using HH.out)).mono ?_;rintro e w' ⟨rfl,rfl⟩;go_wp2_with fail;go_ret2;exact⟨rfl,rfl⟩
theorem Zsb (v:Value) (zs:List Int) (w:World) (hv:IsInts w v zs) (h3:3<=zs.length) (h258:zs.length<=258) (h:WholeP zs) :
  Calls Tryz.prog 105 #[v] w fun e w'=>e=.returned (.tuple #[.pointer (some ⟨w.heap.size,0,none⟩),.int .i64 0])/\IsCode w' w.heap.size zs/\Below w.heap.size w w':=by
 have HV:=zh hv;have HH:=zh h;obtain⟨a,cap,rfl,_⟩:=hv;have h3i:(3:Int)<=zs.length:=by omega
 have h4i:(zs.length:Int)<=258:=by omega
 have hb:=Zsa (zs.length:Int);have hobj:Hid (Obj838 (w.alloc (.cells (cellsF 838 (Zj2 (.int .i64 (zs.length:Int)))) 214)) w.heap.size (Zj2 (.int .i64 (zs.length:Int)))):=zh (heap_alloc_new w _);generalize cellsF 838 (Zj2 (.int .i64 (zs.length:Int)))=Z at *;have hbel:Hid (Below w.heap.size w (w.alloc (.cells Z 214))):=zh ((Below.refl w.heap.size w).alloc (by exact Nat.le_refl _) _);clear h;go_enter Tryz.func105,Tryz.ntmps105;go_wp2_with fail;refine(ZhK _ zs true w HV.out (by omega) h258 (by simpa using HH.out)).mono ?_;rintro e w' ⟨rfl,rfl⟩;go_wp2_with (refine Zci rfl 214 0 _ rfl _ rfl Z hb ?_);refine(ZqL w'.heap.size _ zs w' _ _ hobj.out rfl HV.out (Nat.le_refl _) hbel.out h258 (fun z hz=>HH.out.1 z hz) HH.out.2).mono ?_;rintro e w2 ⟨rfl,hC,hT⟩;have HC:=zh hC;have HB:Hid (Below w'.heap.size w' w2):=zh (hbel.out.trans (hT.below (by show w'.heap.size<=(w'.heap.push _).size;simp) (fun i hi=>by rw [hi];exact Nat.le_refl _)));clear hC hT;go_wp2_with fail;go_ret2;exact⟨rfl,HC.out,HB.out⟩
theorem IsCode.size {w:World} {b:Nat} {zs:List Int} (h:IsCode w b zs):w.cell? ⟨b,0,none⟩=some (.int .i64 (zs.length:Int)):=by
 obtain⟨F,h1,h2⟩:=h;rw [(h1.cell (i:=0) (by omega)).1,h2.size]
theorem IsCode.sym {w:World} {b:Nat} {zs:List Int} (h:IsCode w b zs) (hw:∀z∈zs,1<=z/\z<=20) (h258:zs.length<=258) {i:Nat} (hi:i<zs.length) :
  w.cell? ⟨b,1+i,none⟩=some (.int .i64 (ln zs i:Int))/\w.cell? ⟨b,259+i,none⟩=some (.int .u32 (cod zs (ln zs i,i):Int))/\w.cell? ⟨b,517+plc zs i,none⟩=some (.int .i64 (i:Int)):=by
 obtain⟨F,h1,h2⟩:=h
 have hl:ln zs i<21:=by
  have:=hw (zs.getD i 0) (by rw [List.getD_eq_getElem?_getD,List.getElem?_eq_getElem hi];exact List.getElem_mem hi);unfold ln;omega
 obtain⟨a1,a2,a3⟩:=h2.sym i hi (Or.inl hl);have hp:=Zey zs hi;rw [(h1.cell (i:=1+i) (by omega)).1,(h1.cell (i:=259+i) (by omega)).1,(h1.cell (i:=517+plc zs i) (by omega)).1,a1,a2,a3,Zg5 hi (ln zs i) rfl];exact⟨rfl,rfl,rfl⟩
theorem ZoW (b:Nat) (zs:List Int) (w:World) (h:IsCode w b zs):Calls Tryz.prog 175 #[.pointer (some ⟨b,0,none⟩)] w fun e w'=>e=.returned (.int .i64 (zs.length:Int))/\w'=w:=by
 have c0:=h.size;clear h;go_enter Tryz.func175,Tryz.ntmps175;go_wp2;go_ret;exact⟨rfl,rfl⟩
theorem Zs3 (b:Nat) (zs:List Int) (i:Nat) (w:World) (h:IsCode w b zs) (hw:∀z∈zs,1<=z/\z<=20) (h258:zs.length<=258) (hi:i<zs.length) :
  Calls Tryz.prog 147 #[.pointer (some ⟨b,0,none⟩),.int .i64 (i:Int)] w fun e w'=>e=.returned (.tuple #[.int .u32 (cod zs (ln zs i,i):Int),.int .i64 (ln zs i:Int),.int .i64 0])/\∃n,w'=w.drewN n:=by
 have c0:=h.size;have H:=zh h;obtain⟨c1,c2,_⟩:=h.sym hw h258 hi;have hz:((zs.length:Int)==0)=false:=by rw [beq_eq_false_iff_ne];omega
 have hlt:(i:Int)<zs.length:=by omega
 have h258i:(i:Int)<258:=by omega
 obtain⟨A1,hA1⟩:∃A1,1+i=A1:=⟨_,rfl⟩
 obtain⟨A2,hA2⟩:∃A2,259+i=A2:=⟨_,rfl⟩
 rw [hA1] at c1;rw [hA2] at c2;generalize cod zs (ln zs i,i)=C at *;generalize ln zs i=n at *;clear h;go_enter Tryz.func147,Tryz.ntmps147;go_wp2_with fail;refine(ZoW b zs _ H.out).mono ?_;rintro e w' ⟨rfl,rfl⟩;go_wp2_with fail
 go_quiet (fail)
 go_wp2_with fail;go_ret3;exact⟨rfl,_,rfl⟩
end
section
namespace CanM
open Go.RowKit HufM BitM
theorem ZhL {l:List Int} {i:Nat} (hi:i<l.length):(ln l i,i)∈ent l:=Zgj hi
end CanM
end
section
open Go.RowKit BitM
end
section
open Go.RowKit CanM HufM BitM
theorem Zht {zs:List Int} (hw:∀z∈zs,1<=z/\z<=20) {i:Nat} (hi:i<zs.length):1<=ln zs i/\ln zs i<=20:=by
 have h:=hw (zs.getD i 0) (by rw [List.getD_eq_getElem?_getD,List.getElem?_eq_getElem hi];exact List.getElem_mem hi);unfold ln;omega
def code (zs:List Int) (i:Nat):List Bool:=field (cod zs (ln zs i,i)) (ln zs i)
theorem ZaL (zs:List Int) (i:Nat):(code zs i).length=ln zs i:=Zaa _ _
theorem ZqN (b g:Nat) (zs:List Int) (i:Nat) (v:Value) (q:List Bool) (tk:Nat) (w:World) (h:IsCode w b zs) (h258:zs.length<=258) (hwh:WholeP zs) (hi:i<zs.length) (hg:IsWriter w g v q tk) (hq:q.length<=1099511627776) :
  Calls Tryz.prog 106 #[.pointer (some ⟨b,0,none⟩),.pointer (some ⟨g,0,none⟩),.int .i64 (i:Int)] w fun e w'=>
   e=.returned (.int .i64 0)/\∃v1,IsWriter w' g v1 (q++code zs i) tk/\Touch (foot g v) w w'/\(∀k,v1.ownBlock=some k->v.ownBlock=some k\/w.heap.size<=k):=by
 have H:=zh h;have HW:=zh hwh;have HG:=zh hg;clear h hwh hg;go_enter Tryz.func106,Tryz.ntmps106;go_wp2_with fail;refine(Zs3 b zs i _ H.out (fun z hz=>HW.out.1 z hz) h258 hi).mono ?_;rintro e w1 ⟨rfl,n,hw1⟩;have HG1:Hid (IsWriter w1 g v q tk):=zh (by rw [hw1];exact HG.out.other (Zan (fun _=>False) w n) (fun _ _ hf=>hf));have HT1:Hid (Touch (foot g v) w w1):=zh (by rw [hw1];exact Zan _ w n);have hsz:Hid (w1.heap.size=w.heap.size):=zh (by rw [hw1];rfl);have hln:=Zht (fun z hz=>HW.out.1 z hz) hi;have hcl:Hid (cod zs (ln zs i,i)<2^ln zs i):=zh (Zjl (x:=(ln zs i,i)) (ZhL hi) HW.out.2 hln.2);clear hw1;go_wp2_with fail;refine(Zgv g v q tk _ _ w1 HG1.out (by omega) hcl.out hq).mono ?_;rintro e w2 ⟨rfl,v1,k1,k2,k3⟩;have K:Hid (IsWriter w2 g v1 (q++code zs i) tk/\Touch (foot g v) w w2/\(∀k,v1.ownBlock=some k->v.ownBlock=some k\/w.heap.size<=k)):=zh ⟨k1,HT1.out.trans k2 (fun j hj=>Or.inl hj),fun k hk=>by rw [<-hsz.out];exact k3 k hk⟩;clear k1 k2 k3;go_wp2_with fail;go_ret;exact⟨rfl,v1,K.out⟩
instance (l:List Int) (x:Tr) (q:List Bool):Decidable (CanM.Begins l x q):=by unfold CanM.Begins;exact inferInstance
def SizeP (n:Nat):Prop:=3<=n/\n<=258
instance (n:Nat):Decidable (SizeP n):=by unfold SizeP;exact inferInstance
end
section
namespace FreqM
open Go.RowKit
def cap (x:Int):Int:=if 1099511627776<x then 1099511627776 else x
theorem ZkB (x:Int):cap x<=1099511627776:=by unfold cap;split<;>omega
theorem ZkC (x:Int) (h:0<=x):0<=cap x:=by unfold cap;split<;>omega
theorem Zgk (x:Int) (h:x<=1099511627776):cap x=x:=by unfold cap;split<;>omega
theorem ZkD (x:Int) (h:1099511627776<x):cap x=1099511627776:=by unfold cap;rw [if_pos h]
theorem Zim (a b:Int) (hb:0<=b):cap (cap a+b)=cap (a+b):=by
 unfold cap
 repeat' split
 all_goals omega
def Syms (l:List Int) (n:Int):Prop:=∀x∈l,0<=x/\x<n
def Nums (l:List Int):Prop:=∀x∈l,0<=x/\x<=1099511627776
theorem getD_mem (l:List Int) (k:Nat) (h:k<l.length):l.getD k 0∈l:=by
 rw [List.getD_eq_getElem?_getD,List.getElem?_eq_getElem h];exact List.getElem_mem h
def counts (l:List Int) (N:Nat):List Int:=(List.range N).map fun i:Nat=>(l.count (i:Int):Int)
theorem Zaq (l:List Int) (N:Nat):(counts l N).length=N:=by simp [counts]
theorem Zjo (l:List Int) (N i:Nat) (h:i<N):(counts l N).getD i 0=(l.count (i:Int):Int):=by
 rw [List.getD_eq_getElem?_getD,List.getElem?_eq_getElem (by rw [Zaq];exact h)];simp [counts]
theorem Znn (N:Nat):counts [] N=List.replicate N 0:=by
 apply List.ext_getElem
 ·simp [counts]
 ·intro i h1 h2;simp [counts]
theorem ZlD (l:List Int) (N i:Nat) (h:i<N):counts (l++[(i:Int)]) N=(counts l N).set i ((counts l N).getD i 0+1):=by
 apply List.ext_getElem
 ·simp [counts]
 ·intro j h1 h2;rw [Zaq] at h1;rw [List.getElem_set];by_cases e:i=j
  ·subst e;rw [if_pos rfl,Zjo l N i h];simp [counts,List.count_append]
  ·rw [if_neg e];simp only [counts,List.getElem_map,List.getElem_range,List.count_append];rw [List.count_singleton,if_neg (by simp;omega)];simp
theorem ZlE (l:List Int) (N k:Nat) (hk:k<l.length) (x:Nat) (hx:l.getD k 0=(x:Int)) (hN:x<N):counts (l.take (k+1)) N=(counts (l.take k) N).set x ((counts (l.take k) N).getD x 0+1):=by
 rw [<-ZlD _ _ _ hN,List.take_succ_eq_append_getElem hk];rw [List.getD_eq_getElem?_getD,List.getElem?_eq_getElem hk] at hx;rw [<-hx];rfl
theorem ZdV (l:List Int) (N:Nat):∀x∈counts l N,0<=x/\x<=(l.length:Int):=by
 intro x hx;obtain⟨i,_,rfl⟩:=List.mem_map.1 hx;have:=List.count_le_length (a:=(i:Int)) (l:=l);omega
theorem count_take (l:List Int) (x:Int) (k:Nat) (hk:k<l.length):(l.take (k+1)).count x=(l.take k).count x+if x=l.getD k 0 then 1 else 0:=by
 rw [List.take_succ_eq_append_getElem hk,List.count_append,List.getD_eq_getElem?_getD,List.getElem?_eq_getElem hk,List.count_singleton];show _+(if (l[k]==x)=true then 1 else 0)=_+(if x=l[k] then 1 else 0);by_cases e:x=l[k]
 ·rw [if_pos e,if_pos (by rw [e];exact beq_self_eq_true _)]
 ·rw [if_neg e,if_neg (by rw [beq_iff_eq];exact fun h=>e h.symm)]
def totS (n x:Int):Int:=if 0<x then cap (n+cap x) else n
def tot (l:List Int):Int:=l.foldl totS 0
def sumF:List Int->Int
 | []=>0
 | x::t=>x+sumF t
theorem Zf4 (a b:List Int):sumF (a++b)=sumF a+sumF b:=by
 induction a with
 | nil=>simp [sumF]
 | cons x t ih=>simp only [List.cons_append,sumF,ih];omega
theorem Zhu (a:List Int) (h:∀x∈a,0<=x):0<=sumF a:=by
 induction a with
 | nil=>simp [sumF]
 | cons x t ih=>
  have h1:=h x (List.mem_cons_self ..);have h2:=ih (fun y hy=>h y (List.mem_cons_of_mem _ hy));simp only [sumF];omega
def costS (l lens:List Int):Int:=sumF (l.map fun x=>lens.getD x.toNat 0)
theorem Zno (l lens:List Int) (k:Nat) (h:k<l.length):costS (l.take (k+1)) lens=costS (l.take k) lens+lens.getD (l.getD k 0).toNat 0:=by
 unfold costS;rw [List.take_succ_eq_append_getElem h,List.map_append,Zf4,List.getD_eq_getElem?_getD (l:=l),List.getElem?_eq_getElem h];simp [sumF]
def ng (n:Nat):Nat:=(n+49) / 50
def grp (l:List Int) (i:Nat):List Int:=(l.drop (50*i)).take 50
theorem Zs4 (n:Nat) (h:0<n):(ng n:Int)=((n:Int)-1) / 50+1:=by unfold ng;omega
theorem Zc7 (l:List Int) (i:Nat):(grp l i).length=min 50 (l.length-50*i):=by unfold grp;simp
end FreqM
end
section
open Go.RowKit FreqM
theorem Zdp (v:Value) (zs:List Int) (n:Int) (r:Bool) (w:World) (hv:IsInts w v zs) (hz:zs.length<=9223372036854775807) (hr:r=true↔Syms zs n) :
  Calls Tryz.prog 199 #[v,.int .i64 n] w fun e w'=>e=.returned (.bool r)/\w=w':=by
 have HV:=zh hv;have HR:=zh hr;obtain⟨a,cap,rfl,_⟩:=hv;clear hr;go_enter Tryz.func199,Tryz.ntmps199;go_wp2_with fail
 go_loop [9] (fun i=>∃k:Nat,k<=zs.length/\i=.int .i64 k/\∀j,j<k->0<=zs.getD j 0/\zs.getD j 0<n) (fun i=>zs.length-(intOf i).toNat)
 case atStart=>exact⟨0,by omega,rfl,fun j hj=>by omega⟩
 case round=>
  obtain⟨k,hk,rfl,hA⟩:=hrel;have HA:=zh hA;clear hA;by_cases hlk:k<zs.length
  ·have hki:(k:Int)<(zs.length:Int):=by omega
   obtain⟨b1,o1,k1,he1,c1⟩:=HV.out.cell hlk;simp only [Value.slice.injEq] at he1;obtain⟨rfl,_,rfl⟩:=he1;obtain⟨x,hx⟩:∃x,zs.getD k 0=x:=⟨_,rfl⟩
   have HM:Hid (x∈zs):=zh (by rw [<-hx];exact FreqM.getD_mem zs k hlk);rw [hx] at c1;have HX:=zh hx;clear hx;by_cases h0:x<0
   ·obtain rfl:r=false:=by
     rw [Bool.eq_false_iff];intro h;have:=(HR.out.1 h x HM.out).1;omega
    go_wp2_with fail;go_ret;exact⟨rfl,rfl⟩
   ·by_cases h1:n<=x
    ·obtain rfl:r=false:=by
      rw [Bool.eq_false_iff];intro h;have:=(HR.out.1 h x HM.out).2;omega
     go_wp2_with fail;go_ret;exact⟨rfl,rfl⟩
    ·go_wp2_with fail
     go_round
     case rel=>exact⟨k+1,by omega,by go_num,fun j hj=>by
      by_cases e:j=k
      ·subst e;rw [HX.out];omega
      ·exact HA.out j (by omega)⟩
     case measure=>simp [intOf];omega
  ·obtain rfl:k=zs.length:=by omega
   have hrt:r=true:=by
    rw [HR.out];intro p hp;obtain⟨i,hi,rfl⟩:=List.getElem_of_mem hp;have:=HA.out i hi;rw [List.getD_eq_getElem?_getD,List.getElem?_eq_getElem hi] at this;exact this
   subst hrt;go_wp2_with fail;go_ret;exact⟨rfl,rfl⟩
theorem Zgl (v:Value) (zs:List Int) (r:Bool) (w:World) (hv:IsInts w v zs) (hz:zs.length<=9223372036854775807) (hr:r=true↔Nums zs) :
  Calls Tryz.prog 226 #[v] w fun e w'=>e=.returned (.bool r)/\w=w':=by
 have HV:=zh hv;have HR:=zh hr;obtain⟨a,cap,rfl,_⟩:=hv;clear hr;go_enter Tryz.func226,Tryz.ntmps226;go_wp2_with fail
 go_loop [7] (fun i=>∃k:Nat,k<=zs.length/\i=.int .i64 k/\∀j,j<k->0<=zs.getD j 0/\zs.getD j 0<=1099511627776) (fun i=>zs.length-(intOf i).toNat)
 case atStart=>exact⟨0,by omega,rfl,fun j hj=>by omega⟩
 case round=>
  obtain⟨k,hk,rfl,hA⟩:=hrel;have HA:=zh hA;clear hA;by_cases hlk:k<zs.length
  ·have hki:(k:Int)<(zs.length:Int):=by omega
   obtain⟨b1,o1,k1,he1,c1⟩:=HV.out.cell hlk;simp only [Value.slice.injEq] at he1;obtain⟨rfl,_,rfl⟩:=he1;obtain⟨x,hx⟩:∃x,zs.getD k 0=x:=⟨_,rfl⟩
   have HM:Hid (x∈zs):=zh (by rw [<-hx];exact FreqM.getD_mem zs k hlk);rw [hx] at c1;have HX:=zh hx;clear hx;by_cases h0:x<0
   ·obtain rfl:r=false:=by
     rw [Bool.eq_false_iff];intro h;have:=(HR.out.1 h x HM.out).1;omega
    go_wp2_with fail;go_ret;exact⟨rfl,rfl⟩
   ·by_cases h1:1099511627776<x
    ·obtain rfl:r=false:=by
      rw [Bool.eq_false_iff];intro h;have:=(HR.out.1 h x HM.out).2;omega
     go_wp2_with fail;go_ret;exact⟨rfl,rfl⟩
    ·go_wp2_with fail
     go_round
     case rel=>exact⟨k+1,by omega,by go_num,fun j hj=>by
      by_cases e:j=k
      ·subst e;rw [HX.out];omega
      ·exact HA.out j (by omega)⟩
     case measure=>simp [intOf];omega
  ·obtain rfl:k=zs.length:=by omega
   have hrt:r=true:=by
    rw [HR.out];intro p hp;obtain⟨i,hi,rfl⟩:=List.getElem_of_mem hp;have:=HA.out i hi;rw [List.getD_eq_getElem?_getD,List.getElem?_eq_getElem hi] at this;exact this
   subst hrt;go_wp2_with fail;go_ret;exact⟨rfl,rfl⟩
def CntOk (l:List Int) (n:Int):Prop:=3<=n/\n<=258/\Syms l n
def CntP (l:List Int) (n:Int) (zs:List Int) (err:Nat):Prop:=(¬CntOk l n/\zs=[]/\err=1)\/(CntOk l n/\zs=counts l n.toNat/\err=0)
theorem Znp (v:Value) (zs:List Int) (n:Int) (w:World) (hv:IsInts w v zs) (hz:zs.length<=1000000) :
  Calls Tryz.prog 166 #[v,.int .i64 n] w fun e w'=>∃(u:Value) (ys:List Int) (err:Nat),e=.returned (.tuple #[u,.int .i64 (err:Int)])/\IsInts w' u ys/\Below w.heap.size w w'/\CntP zs n ys err:=by
 have HV:=zh hv;obtain⟨a,cap,rfl,_⟩:=hv;by_cases h1:n<3
 ·go_enter Tryz.func166,Tryz.ntmps166;go_wp2_with fail;go_ret2;exact⟨_,[],1,rfl,IsInts.nil _,Below.refl _ _,Or.inl ⟨fun h=>by have:=h.1;omega,rfl,rfl⟩⟩
 by_cases h2:258<n
 ·go_enter Tryz.func166,Tryz.ntmps166;go_wp2_with fail;go_ret2;exact⟨_,[],1,rfl,IsInts.nil _,Below.refl _ _,Or.inl ⟨fun h=>by have:=h.2.1;omega,rfl,rfl⟩⟩
 by_cases hs:Syms zs n
 ·have HA:=zh (Zdp _ zs n true w HV.out (by omega) ⟨fun _=>hs,fun _=>rfl⟩);have HS:=zh hs;obtain⟨N,rfl⟩:∃N:Nat,n=(N:Int):=⟨n.toNat,by omega⟩
  have HOK:Hid (CntOk zs (N:Int)):=zh ⟨by omega,by omega,hs⟩;have hNI:(N:Int)<=258:=by omega
  have hmk:=ZbS N (by omega) w;have HR0:=zh (RowI.made w N);have HB0:=zh ((Below.refl w.heap.size w).alloc (Nat.le_refl _) (.cells (madeCells #[Value.int .i64 0] N) 3));clear hs;generalize hw1:w.alloc (.cells (madeCells #[Value.int .i64 0] N) 3)=w1 at *;clear hw1;go_enter Tryz.func166,Tryz.ntmps166;go_wp2_with fail;refine HA.out.mono ?_;rintro e w' ⟨rfl,rfl⟩;clear HA;go_wp2_with fail;generalize hg:w.heap.size=g at *
  go_loopw [25] (fun i wr=>∃k:Nat,k<=zs.length/\i=.int .i64 k/\RowI wr g (counts (zs.take k) N)/\Below g w wr) (fun i _=>zs.length-(intOf i).toNat)
  case atStart=>exact⟨0,by omega,rfl,by rw [List.take_zero,Znn];exact HR0.out,HB0.out⟩
  case round=>
   clear HR0 HB0;obtain⟨k,hk,rfl,hR,hB⟩:=hrel;have HR:=zh hR;have HB:=zh hB;clear hR hB;by_cases hlk:k<zs.length
   ·have hki:(k:Int)<(zs.length:Int):=by omega
    have HV2:=zh (HV.out.below (hg▸HB.out));obtain⟨b1,o1,k1,he1,c1⟩:=HV2.out.cell hlk;simp only [Value.slice.injEq] at he1;obtain⟨rfl,_,rfl⟩:=he1;obtain⟨x,hx⟩:∃x,zs.getD k 0=x:=⟨_,rfl⟩
    have hxr:=HS.out x (by rw [<-hx];exact FreqM.getD_mem zs k hlk);obtain⟨y,rfl⟩:∃y:Nat,x=(y:Int):=⟨x.toNat,by omega⟩
    have HCT:=zh (ZlE zs N k hlk y hx (by omega));obtain⟨d0,d1,d2⟩:=HR.out.cell (i:=y) (by rw [Zaq];omega);have hnn:=ZdV (zs.take k) N ((counts (zs.take k) N).getD y 0) (FreqM.getD_mem _ _ (by rw [Zaq];omega));obtain⟨hn1,hn2⟩:=hnn;rw [List.length_take] at hn2;generalize (counts (zs.take k) N).getD y 0=c at *;have hd2:=d2 (c+1);rw [<-HCT.out] at hd2;have HD2:=zh hd2;have HB2:=zh (HB.out.setCell (p:=⟨g,y,none⟩) (Nat.le_refl _) (.int .i64 (c+1)));rw [hx] at c1;clear hx d2 hd2 HCT;have hy0:(0:Int)<=(y:Int):=by omega
    have hyN:(y:Int)<(N:Int):=hxr.2;have hcw:IntKind.i64.wrap (c+1)=c+1:=IntWalk.i64_in _ (by omega);clear hxr;go_wp2_with fail;go_roundw
    case rel=>exact⟨k+1,by omega,by go_num,HD2.out,HB2.out⟩
    case measure=>simp [intOf];omega
   ·obtain rfl:k=zs.length:=by omega
    rw [List.take_of_length_le (Nat.le_refl _)] at HR;go_wp2_with fail;go_ret2;exact⟨_,counts zs N,0,rfl,HR.out.ints N N (Zaq zs N).symm,hg▸HB.out,Or.inr ⟨HOK.out,by simp,rfl⟩⟩
 ·have HA:=zh (Zdp _ zs n false w HV.out (by omega) ⟨fun e=>(by cases e),fun e=>absurd e hs⟩);have HNO:Hid (¬CntOk zs n):=zh (fun h=>hs h.2.2);clear hs;go_enter Tryz.func166,Tryz.ntmps166;go_wp2_with fail;refine HA.out.mono ?_;rintro e w' ⟨rfl,rfl⟩;go_wp2_with fail;go_ret2;exact⟨_,[],1,rfl,IsInts.nil _,Below.refl _ _,Or.inl ⟨HNO.out,rfl,rfl⟩⟩
end
section
open Go.RowKit CanM HufM BitM
theorem ZlF {zs:List Int} (hwh:WholeP zs) {i:Nat} (hi:i<zs.length) (r:List Bool):CanM.Begins zs (ln zs i,i) (code zs i++r):=by
 refine⟨by rw [List.length_append,ZaL];exact Nat.le_add_right _ _,?_⟩;show num ((code zs i++r).take (ln zs i))=cod zs (ln zs i,i);rw [List.take_left' (ZaL zs i)];unfold code;rw [Zax];exact Nat.mod_eq_of_lt (Zjl (x:=(ln zs i,i)) (ZhL hi) hwh.2 (Zht (fun z hz=>hwh.1 z hz) hi).2)
end
section
namespace SymM
open Go.RowKit
abbrev Row:=Nat->Int
def sw (d:Row) (i j:Nat):Row:=fun k=>if k=i then d j else if k=j then d i else d k
def swr (d:Row) (a b n:Nat):Row:=fun k=>if a<=k/\k<a+n then d (k-a+b) else if b<=k/\k<b+n then d (k-b+a) else d k
def rot (d:Row) (a m b:Nat):Row:=fun k=>if a<=k/\k<a+(b-m) then d (k+(m-a)) else if a+(b-m)<=k/\k<b then d (k-(b-m)) else d k
theorem ZqO (d:Row) (a b:Nat):swr d a b 0=d:=by
 funext k
 simp only [swr];rw [if_neg (by omega),if_neg (by omega)]
theorem ZqP (d:Row) {a b n:Nat} (h:a+n<b):sw (swr d a b n) (a+n) (b+n)=swr d a b (n+1):=by
 funext k
 simp only [swr,sw]
 repeat' split
 all_goals first
  | (exfalso;omega)
  | rfl
  | (congr 1;omega)
theorem ZqQ (d:Row) {m i j:Nat} (h:j<i) (hi:i<=m):rot (swr d (m-i) m j) (m-(i-j)) m (m+j)=rot d (m-i) m (m+j):=by
 funext k
 simp only [rot,swr]
 repeat' split
 all_goals first
  | (exfalso;omega)
  | rfl
  | (congr 1;omega)
theorem ZoX (d:Row) {m i j:Nat} (h:i<j) (hi:i<=m):rot (swr d (m-i) (m+j-i) i) (m-i) m (m+(j-i))=rot d (m-i) m (m+j):=by
 funext k
 simp only [rot,swr]
 repeat' split
 all_goals first
  | (exfalso;omega)
  | rfl
  | (congr 1;omega)
theorem ZqR (d:Row) {m i:Nat} (hi:i<=m):swr d (m-i) m i=rot d (m-i) m (m+i):=by
 funext k
 simp only [rot,swr]
 repeat' split
 all_goals first
  | (exfalso;omega)
  | rfl
  | (congr 1;omega)
theorem ZmF (d:Row) (a m:Nat):rot d a m m=d:=by
 funext k
 simp only [rot];rw [if_neg (by omega)];split
 ·congr 1;omega
 ·rfl
theorem Zg6 (d:Row) (m b:Nat):rot d m m b=d:=by
 funext k
 simp only [rot];split
 ·congr 1;omega
 ·rw [if_neg (by omega)]
theorem Zs5 (d:Row) {a k:Nat} (h:a<=k):sw (rot d a (a+1) (k+1)) k (k+1)=rot d a (a+1) (k+2):=by
 funext x
 simp only [rot,sw]
 repeat' split
 all_goals first
  | (exfalso;omega)
  | rfl
  | (congr 1;omega)
theorem ZmG (d:Row) {k m:Nat} (h:k<m):sw (rot d (k+1) m (m+1)) (k+1) k=rot d k m (m+1):=by
 funext x
 simp only [rot,sw]
 repeat' split
 all_goals first
  | (exfalso;omega)
  | rfl
  | (congr 1;omega)
def seg (d:Row) (a n:Nat):List Int:=(List.range n).map fun i=>d (a+i)
theorem ZcH (d:Row) (a m n:Nat):seg d a (m+n)=seg d a m++seg d (a+m) n:=by
 unfold seg;rw [List.range_add,List.map_append,List.map_map];congr 1;apply List.map_congr_left;intro i _;show d (a+(m+i))=d (a+m+i);rw [Nat.add_assoc]
theorem ZeB {d e:Row} {a b n:Nat} (h:∀i,i<n->d (a+i)=e (b+i)):seg d a n=seg e b n:=by
 unfold seg;apply List.map_congr_left;intro i hi;exact h i (List.mem_range.1 hi)
theorem Zhv {d:Row} {a n:Nat} {x:Int}:x∈seg d a n↔∃k,a<=k/\k<a+n/\d k=x:=by
 unfold seg;rw [List.mem_map];constructor
 ·rintro⟨i,hi,rfl⟩;have:=List.mem_range.1 hi;exact⟨a+i,by omega,by omega,rfl⟩
 ·rintro⟨k,h1,h2,rfl⟩;exact⟨k-a,List.mem_range.2 (by omega),by rw [show a+(k-a)=k by omega]⟩
structure Pm (d e:Row) (a b:Nat):Prop where
 perm:(seg e a (b-a)).Perm (seg d a (b-a))
 out:∀k,¬(a<=k/\k<b)->e k=d k
theorem Pm.refl (d:Row) (a b:Nat):Pm d d a b:=⟨List.Perm.refl _,fun _ _=>rfl⟩
theorem Pm.trans {d e f:Row} {a b:Nat} (h:Pm d e a b) (k:Pm e f a b):Pm d f a b:=
 ⟨k.perm.trans h.perm,fun x hx=>(k.out x hx).trans (h.out x hx)⟩
theorem Pm.wide {d e:Row} {a b a0 b0:Nat} (h:Pm d e a b) (h1:a0<=a) (h2:a<=b) (h3:b<=b0):Pm d e a0 b0:=by
 refine⟨?_,fun x hx=>h.out x (by omega)⟩;have e0:b0-a0=(a-a0)+((b-a)+(b0-b)):=by omega
 rw [e0,ZcH,ZcH,ZcH d,ZcH d,show a0+(a-a0)=a by omega,show a+(b-a)=b by omega];refine List.Perm.append ?_ (h.perm.append ?_)
 ·rw [ZeB (fun i hi=>h.out (a0+i) (by omega))]
 ·rw [ZeB (fun i hi=>h.out (b+i) (by omega))]
theorem Pm.mem {d e:Row} {a b:Nat} (h:Pm d e a b) {k:Nat} (h1:a<=k) (h2:k<b):∃k',a<=k'/\k'<b/\e k=d k':=by
 have h3:e k∈seg d a (b-a):=h.perm.mem_iff.1 (Zhv.2 ⟨k,h1,by omega,rfl⟩);obtain⟨k',h4,h5,h6⟩:=Zhv.1 h3;exact⟨k',h4,by omega,h6.symm⟩
theorem Zin (d:Row) {a m b:Nat} (h1:a<=m) (h2:m<=b):Pm d (rot d a m b) a b:=by
 refine⟨?_,fun k hk=>?_⟩
 ·have e1:b-a=(b-m)+(m-a):=by omega
  have e2:b-a=(m-a)+(b-m):=by omega
  conv=>lhs;rw [e1,ZcH]
  conv=>rhs;rw [e2,ZcH]
  rw [show a+(m-a)=m by omega]
  have e3:seg (rot d a m b) a (b-m)=seg d m (b-m):=ZeB (fun i hi=>by
   simp only [rot];rw [if_pos (by omega)];congr 1;omega)
  have e4:seg (rot d a m b) (a+(b-m)) (m-a)=seg d a (m-a):=ZeB (fun i hi=>by
   simp only [rot];rw [if_neg (by omega),if_pos (by omega)];congr 1;omega)
  rw [e3,e4];exact List.perm_append_comm
 ·simp only [rot];rw [if_neg (by omega),if_neg (by omega)]
def L (w:Int->Int) (x y:Int):Prop:=w x<w y\/(w x=w y/\x<y)
def Srt (w:Int->Int) (d:Row) (a b:Nat):Prop:=∀i j,a<=i->i<j->j<b->L w (d i) (d j)
def Low (d:Row) (a m b:Nat):Prop:=∀i j,a<=i->i<m->m<=j->j<b->d i<d j
def Cross (w:Int->Int) (d:Row) (a m b:Nat):Prop:=∀i j,a<=i->i<m->m<=j->j<b->L w (d i) (d j)
theorem Srt.join {w:Int->Int} {d:Row} {a m b:Nat} (h1:Srt w d a m) (h2:Srt w d m b) (h3:Cross w d a m b):Srt w d a b:=by
 intro i j hi hij hj;by_cases h:j<m
 ·exact h1 i j hi hij h
 ·by_cases k:i<m
  ·exact h3 i j hi k (by omega) hj
  ·exact h2 i j (by omega) hij hj
theorem Srt.one (w:Int->Int) (d:Row) {a b:Nat} (h:b<=a+1):Srt w d a b:=fun i j hi hij hj=>by omega
theorem Cross.pm {w:Int->Int} {d e:Row} {a m b:Nat} (h:Cross w d a m b) (h1:∀k,a<=k->k<m->∃k',a<=k'/\k'<m/\e k=d k') (h2:∀k,m<=k->k<b->∃k',m<=k'/\k'<b/\e k=d k'):Cross w e a m b:=by
 intro i j hi him hj hjb;obtain⟨i',h3,h4,h5⟩:=h1 i hi him;obtain⟨j',h6,h7,h8⟩:=h2 j hj hjb;rw [h5,h8];exact h i' j' h3 h4 h6 h7
structure Cut (w:Int->Int) (d:Row) (a s m e b:Nat):Prop where
 o1:a<=s
 o2:s<=m
 o3:m<=e
 o4:e<=b
 sl:Srt w d a m
 sr:Srt w d m b
 low:Low d a m b
 c1:∀i j,a<=i->i<s->e<=j->j<b->L w (d i) (d j)
 c2:∀i j,s<=i->i<m->m<=j->j<e->L w (d j) (d i)
theorem Zjp (d:Row) {s m e k:Nat} (h:k<s):rot d s m e k=d k:=by
 simp only [rot];rw [if_neg (by omega),if_neg (by omega)]
theorem Zjq (d:Row) {s m e k:Nat} (h:s<=k) (h2:k<s+(e-m)):rot d s m e k=d (k+(m-s)):=by
 simp only [rot];rw [if_pos (by omega)]
theorem Zjr (d:Row) {s m e k:Nat} (h:s+(e-m)<=k) (h2:k<e):rot d s m e k=d (k-(e-m)):=by
 simp only [rot];rw [if_neg (by omega),if_pos (by omega)]
theorem Zjs (d:Row) {s m e k:Nat} (h:e<=k) (h2:s<=m) (h3:m<=e):rot d s m e k=d k:=by
 simp only [rot];rw [if_neg (by omega),if_neg (by omega)]
theorem Cut.srt {w:Int->Int} {d:Row} {a s m e b:Nat} (h:Cut w d a s m e b) :
  Srt w (rot d s m e) a s/\Srt w (rot d s m e) s (s+(e-m))/\Srt w (rot d s m e) (s+(e-m)) e/\Srt w (rot d s m e) e b:=by
 obtain⟨o1,o2,o3,o4,sl,sr,low,c1,c2⟩:=h;refine⟨fun i j hi hij hj=>?_,fun i j hi hij hj=>?_,fun i j hi hij hj=>?_,fun i j hi hij hj=>?_⟩
 ·rw [Zjp d (by omega),Zjp d (by omega)];exact sl i j (by omega) hij (by omega)
 ·rw [Zjq d (by omega) (by omega),Zjq d (by omega) (by omega)];exact sr _ _ (by omega) (by omega) (by omega)
 ·rw [Zjr d (by omega) (by omega),Zjr d (by omega) (by omega)];exact sl _ _ (by omega) (by omega) (by omega)
 ·rw [Zjs d (by omega) o2 o3,Zjs d (by omega) o2 o3];exact sr i j (by omega) hij (by omega)
theorem Cut.cross {w:Int->Int} {d:Row} {a s m e b:Nat} (h:Cut w d a s m e b):Cross w (rot d s m e) a (s+(e-m)) b:=by
 obtain⟨o1,o2,o3,o4,sl,sr,low,c1,c2⟩:=h;intro i j hi him hj hjb;by_cases h1:i<s
 ·rw [Zjp d h1];by_cases h2:j<e
  ·rw [Zjr d hj h2];exact sl _ _ hi (by omega) (by omega)
  ·rw [Zjs d (by omega) o2 o3];exact c1 i j hi h1 (by omega) hjb
 ·rw [Zjq d (by omega) him];by_cases h2:j<e
  ·rw [Zjr d hj h2];exact c2 _ _ (by omega) (by omega) (by omega) (by omega)
  ·rw [Zjs d (by omega) o2 o3];exact sr _ _ (by omega) (by omega) hjb
theorem Cut.low1 {w:Int->Int} {d:Row} {a s m e b:Nat} (h:Cut w d a s m e b):Low (rot d s m e) a s (s+(e-m)):=by
 obtain⟨o1,o2,o3,o4,sl,sr,low,c1,c2⟩:=h;intro i j hi him hj hjb;rw [Zjp d him,Zjq d hj hjb];exact low _ _ hi (by omega) (by omega) (by omega)
theorem Cut.low2 {w:Int->Int} {d:Row} {a s m e b:Nat} (h:Cut w d a s m e b):Low (rot d s m e) (s+(e-m)) e b:=by
 obtain⟨o1,o2,o3,o4,sl,sr,low,c1,c2⟩:=h;intro i j hi him hj hjb;rw [Zjr d hi him,Zjs d hj o2 o3];exact low _ _ (by omega) (by omega) (by omega) hjb
theorem Zsc {w:Int->Int} {x y:Int} (h:x<y) (k:¬w y<w x):L w x y:=by unfold L;omega
theorem L.imp_le {w:Int->Int} {x y:Int} (h:L w x y):w x<=w y:=by unfold L at h;omega
theorem Srt.le {w:Int->Int} {d:Row} {a b i j:Nat} (h:Srt w d a b) (h1:a<=i) (h2:i<=j) (h3:j<b):w (d i)<=w (d j):=by
 by_cases e:i=j
 ·subst e;exact Int.le_refl _
 ·exact(h i j h1 (by omega) h3).imp_le
theorem ZoY {w:Int->Int} {d:Row} {a b i:Nat} (hs:Srt w d (a+1) b) (hl:Low d a (a+1) b) (h1:a+1<=i) (h2:i<=b) (e1:i=a+1\/w (d (i-1))<w (d a)) (e2:i=b\/¬w (d i)<w (d a)) :
  Srt w (rot d a (a+1) i) a b:=by
 have hc:Cut w d a a (a+1) i b:=⟨Nat.le_refl _,by omega,h1,h2,Srt.one w d (by omega),hs,hl,fun x y _ _ _ _=>by omega,fun x y hx hxa hy hyi=>by
  obtain rfl:x=a:=by omega
  rcases e1 with e|e
  ·omega
  ·have:=hs.le hy (show y<=i-1 by omega) (by omega);unfold L;omega⟩
 obtain⟨s1,s2,s3,s4⟩:=hc.srt;refine s2.join (s3.join s4 (fun x y hx hxi hy hyb=>?_)) hc.cross;rw [Zjr d hx hxi,Zjs d hy (by omega) h1];rcases e2 with e|e
 ·omega
 ·have h3:=hs.le h1 hy hyb;have h4:=hl (x-(i-(a+1))) y (by omega) (by omega) (by omega) hyb;have h5:x-(i-(a+1))=a:=by omega
  rw [h5] at h4 ⊢;exact Zsc h4 (by omega)
theorem ZmH {w:Int->Int} {d:Row} {a m i:Nat} (hs:Srt w d a m) (hl:Low d a m (m+1)) (h1:a<=i) (h2:i<=m) (e1:i=a\/¬w (d m)<w (d (i-1))) (e2:i=m\/w (d m)<w (d i)) :
  Srt w (rot d i m (m+1)) a (m+1):=by
 have hc:Cut w d a i m (m+1) (m+1):=⟨h1,h2,by omega,Nat.le_refl _,hs,Srt.one w d (by omega),hl,fun x y _ _ _ _=>by omega,fun x y hx hxa hy hyi=>by
  obtain rfl:y=m:=by omega
  rcases e2 with e|e
  ·omega
  ·have:=hs.le h1 hx hxa;have h9:=hs.le h1 (show i<=x from hx) hxa;unfold L;omega⟩
 obtain⟨s1,s2,s3,s4⟩:=hc.srt;refine(s1.join s2 (fun x y hx hxi hy hyb=>?_)).join (s3.join s4 (fun x y hx hxi hy hyb=>by omega)) hc.cross;rw [Zjp d hxi,Zjq d hy hyb];have h5:y+(m-i)=m:=by omega
 rw [h5];rcases e1 with e|e
 ·omega
 ·have h3:=hs.le hx (show x<=i-1 by omega) (by omega);exact Zsc (hl x m hx (by omega) (by omega) (by omega)) (by omega)
theorem ZoZ {w:Int->Int} {d:Row} {a m b mid s lo r0:Nat} (hsl:Srt w d a m) (hsr:Srt w d m b) (hl:Low d a m b) (ham:a<m) (hmb:m<b)
  (hmid:mid=(a+b) / 2) (hlo:lo=if mid<m then mid+m-b else a) (hr0:r0=if mid<m then mid else m)
  (h1:lo<=s) (h2:s<=r0) (e1:s=lo\/¬w (d (mid+m-1-(s-1)))<w (d (s-1))) (e2:s=r0\/w (d (mid+m-1-s))<w (d s)) :
  Cut w d a s m (mid+m-s) b:=by
 have hs0:a<=s:=by split at hlo<;>omega
 have hsm:s<=m:=by split at hr0<;>omega
 have hsd:s<=mid:=by split at hr0<;>omega
 have hb:mid+m-s<=b:=by split at hlo<;>omega
 refine⟨hs0,hsm,by omega,hb,hsl,hsr,hl,fun i j hi his hj hjb=>?_,fun i j hi him hj hje=>?_⟩
 ·rcases e1 with e|e
  ·split at hlo<;>omega
  ·rw [show mid+m-1-(s-1)=mid+m-s by omega] at e;have h3:=hsl.le hi (show i<=s-1 by omega) (by omega);have h4:=hsr.le (show m<=mid+m-s by omega) hj hjb;exact Zsc (hl i j hi (by omega) (by omega) hjb) (by omega)
 ·rcases e2 with e|e
  ·split at hr0<;>omega
  ·have h3:=hsl.le hs0 hi him;have h4:=hsr.le hj (show j<=mid+m-1-s by omega) (by omega);unfold L;omega
theorem ZkE {w:Int->Int} {d d2 d3:Row} {a s m e b:Nat} (h:Cut w d a s m e b) (p2:Pm (rot d s m e) d2 a (s+(e-m))) (p3:Pm d2 d3 (s+(e-m)) b)
  (s2:Srt w d2 a (s+(e-m))) (s3:Srt w d3 (s+(e-m)) b):Pm d d3 a b/\Srt w d3 a b:=by
 have hc:=h.cross;obtain⟨o1,o2,o3,o4,sl,sr,low,c1,c2⟩:=h;refine⟨(((Zin d o2 o3).wide o1 (by omega) o4).trans (p2.wide (Nat.le_refl _) (by omega) (by omega))).trans (p3.wide (by omega) (by omega) (Nat.le_refl _)),?_⟩
 have s2':Srt w d3 a (s+(e-m)):=by
  intro i j hi hij hj;rw [p3.out i (by omega),p3.out j (by omega)];exact s2 i j hi hij hj
 refine s2'.join s3 (hc.pm (fun k h1 h2=>?_) (fun k h1 h2=>?_))
 ·rw [p3.out k (by omega)];exact p2.mem h1 h2
 ·obtain⟨k',h4,h5,h6⟩:=p3.mem h1 h2;exact⟨k',h4,h5,h6.trans (p2.out k' (by omega))⟩
structure Blk (w:Int->Int) (d:Row) (a b:Nat):Prop where
 perm:(seg d a (b-a)).Perm (seg (fun k=>(k:Int)) a (b-a))
 srt:Srt w d a b
theorem Blk.mem {w:Int->Int} {d:Row} {a b:Nat} (h:Blk w d a b) {k:Nat} (h1:a<=k) (h2:k<b):(a:Int)<=d k/\d k<(b:Int):=by
 have h3:d k∈seg (fun k=>(k:Int)) a (b-a):=h.perm.mem_iff.1 (Zhv.2 ⟨k,h1,by omega,rfl⟩);obtain⟨k',h4,h5,h6⟩:=Zhv.1 h3;omega
theorem Blk.low {w:Int->Int} {d:Row} {a m b:Nat} (h:Blk w d a m) (k:Blk w d m b):Low d a m b:=fun i j h1 h2 h3 h4=>by
 have:=h.mem h1 h2;have:=k.mem h3 h4;omega
theorem Blk.merge {w:Int->Int} {d e:Row} {a m b:Nat} (h:Blk w d a m) (k:Blk w d m b) (h1:a<=m) (h2:m<=b) (hp:Pm d e a b) (hs:Srt w e a b):Blk w e a b:=by
 refine⟨hp.perm.trans ?_,hs⟩;rw [show b-a=(m-a)+(b-m) by omega,ZcH,ZcH,show a+(m-a)=m by omega];exact h.perm.append k.perm
theorem Blk.stay {w:Int->Int} {d e:Row} {a b:Nat} (h:Blk w d a b) (he:∀k,a<=k->k<b->e k=d k):Blk w e a b:=by
 refine⟨?_,fun i j hi hij hj=>?_⟩
 ·rw [ZeB (fun i hi=>he (a+i) (by omega) (by omega))];exact h.perm
 ·rw [he i hi (by omega),he j (by omega) hj];exact h.srt i j hi hij hj
theorem Blk.nil (w:Int->Int) (d:Row) {a b:Nat} (h:b<=a):Blk w d a b:=by
 refine⟨?_,Srt.one w d (by omega)⟩;rw [show b-a=0 by omega];exact List.Perm.refl _
def Blks (w:Int->Int) (n B:Nat) (d:Row):Prop:=∀q,Blk w d (B*q) (min (B*q+B) n)
def Half (w:Int->Int) (n B t:Nat) (d:Row):Prop:=(∀q,q<t->Blk w d (2*B*q) (min (2*B*q+2*B) n))/\∀q,2*t<=q->Blk w d (B*q) (min (B*q+B) n)
theorem Half.start {w:Int->Int} {n B:Nat} {d:Row} (h:Blks w n B d):Half w n B 0 d:=⟨fun q hq=>by omega,fun q _=>h q⟩
theorem Zg7 {B q t:Nat} (h:q<t):B*q+B<=B*t:=by
 have:=Nat.mul_le_mul_left B (show q+1<=t by omega);rw [Nat.mul_add,Nat.mul_one] at this;exact this
theorem Half.next {w:Int->Int} {n B t a b:Nat} {d e:Row} (h:Half w n B t d) (ha:a=2*B*t) (hb:b=min (a+2*B) n) (hab:a+B<=b)
  (hp:Pm d e a b) (hs:Srt w e a b):Half w n B (t+1) e:=by
 obtain⟨h1,h2⟩:=h;have hB:B*(2*t)=2*B*t:=by rw [Nat.mul_comm 2 B,Nat.mul_assoc]
 have hB1:B*(2*t+1)=2*B*t+B:=by rw [Nat.mul_add,Nat.mul_one,hB]
 refine⟨fun q hq=>?_,fun q hq=>?_⟩
 ·by_cases e:q=t
  ·subst e;have k1:=h2 (2*q) (by omega);have k2:=h2 (2*q+1) (by omega);rw [hB] at k1;rw [hB1] at k2;rw [<-ha] at k1 k2 ⊢;rw [<-hb];have e1:min (a+B) n=a+B:=by omega
   have e2:min (a+B+B) n=b:=by omega
   rw [e1] at k1;rw [e2] at k2;exact k1.merge k2 (by omega) hab hp hs
  ·have h3:=Zg7 (B:=2*B) (show q<t by omega);exact(h1 q (by omega)).stay (fun k hk1 hk2=>hp.out k (by omega))
 ·have h3:=Zg7 (B:=B) (show 2*t+1<q by omega);exact(h2 q (by omega)).stay (fun k hk1 hk2=>hp.out k (by omega))
theorem Half.end_ {w:Int->Int} {n B t a:Nat} {d:Row} (h:Half w n B t d) (ha:a=2*B*t) (hn:n<=a+B):Blks w n (2*B) d:=by
 obtain⟨h1,h2⟩:=h;intro q;by_cases hq:q<t
 ·exact h1 q hq
 ·by_cases e:q=t
  ·subst e;have k1:=h2 (2*q) (by omega);have hB:B*(2*q)=2*B*q:=by rw [Nat.mul_comm 2 B,Nat.mul_assoc]
   rw [hB] at k1;have e1:min (2*B*q+B) n=min (2*B*q+2*B) n:=by omega
   rw [e1] at k1;exact k1
  ·have h3:=Zg7 (B:=2*B) (show t<q by omega);exact Blk.nil w d (by omega)
theorem Half.full {w:Int->Int} {n B t a:Nat} {d:Row} (h:Half w n B t d) (ha:a=2*B*t) (hn:n<=a):Blks w n (2*B) d:=h.end_ ha (by omega)
theorem Blks.all {w:Int->Int} {n B:Nat} {d:Row} (h:Blks w n B d) (hn:n<=B):Blk w d 0 n:=by
 have:=h 0;rw [Nat.mul_zero,show min (0+B) n=n by omega] at this;exact this
def Ins (w:Int->Int) (n B t:Nat) (d:Row):Prop:=(∀q,q<t->Blk w d (B*q) (min (B*q+B) n))/\∀k,B*t<=k->d k=(k:Int)
theorem Ins.next {w:Int->Int} {n B t a b:Nat} {d e:Row} (h:Ins w n B t d) (ha:a=B*t) (hb:b=min (a+B) n) (hp:Pm d e a b) (hs:Srt w e a b):Ins w n B (t+1) e:=by
 obtain⟨h1,h2⟩:=h;refine⟨fun q hq=>?_,fun k hk=>?_⟩
 ·by_cases e:q=t
  ·subst e;rw [<-ha,<-hb];refine⟨hp.perm.trans ?_,hs⟩;rw [ZeB (e:=fun k=>(k:Int)) (b:=a) (fun i hi=>h2 (a+i) (by omega))]
  ·have h3:=Zg7 (B:=B) (show q<t by omega);exact(h1 q (by omega)).stay (fun k hk1 hk2=>hp.out k (by omega))
 ·have h3:B*(t+1)=B*t+B:=by rw [Nat.mul_add,Nat.mul_one]
  rw [hp.out k (by omega)];exact h2 k (by omega)
theorem Ins.end_ {w:Int->Int} {n B t:Nat} {d:Row} (h:Ins w n B t d) (hn:n<=B*t):Blks w n B d:=by
 intro q;by_cases hq:q<t
 ·exact h.1 q hq
 ·have h3:B*t<=B*q:=Nat.mul_le_mul_left B (by omega);exact Blk.nil w d (by omega)
end SymM
end
section
open Go.RowKit SymM
def RowD (w:World) (g n:Nat) (d:Row):Prop:=RowI w g ((List.range n).map d)
theorem ZqS (d:Row) {n i:Nat} (h:i<n):((List.range n).map d).getD i 0=d i:=by
 rw [List.getD_eq_getElem?_getD,List.getElem?_map,List.getElem?_range h];rfl
theorem RowD.cell {w:World} {g n:Nat} {d:Row} (h:RowD w g n d) {i:Nat} (hi:i<n):w.cell? ⟨g,i,none⟩=some (.int .i64 (d i))/\w.frozen? ⟨g,i,none⟩=false:=by
 obtain⟨h1,h2,_⟩:=RowI.cell h (i:=i) (by simpa using hi);rw [ZqS d hi] at h1;exact⟨h1,h2⟩
theorem RowD.set {w:World} {g n:Nat} {d:Row} (h:RowD w g n d) {i:Nat} (hi:i<n) (x:Int):RowD (w.setCell ⟨g,i,none⟩ (.int .i64 x)) g n (fun k=>if k=i then x else d k):=by
 have h3:=(RowI.cell h (i:=i) (by simpa using hi)).2.2 x;unfold RowD
 have e:((List.range n).map d).set i x=(List.range n).map (fun k=>if k=i then x else d k):=by
  apply List.ext_getElem
  ·simp
  ·intro j h1 h2;rw [List.getElem_set];by_cases e:i=j
   ·subst e;simp
   ·rw [if_neg e];have:¬j=i:=fun h=>e h.symm
    simp [this]
 rw [<-e];exact h3
theorem RowD.swap {w:World} {g n:Nat} {d:Row} (h:RowD w g n d) {i j:Nat} (hi:i<n) (hj:j<n) (x y:Int) (hx:x=d j) (hy:y=d i):RowD ((w.setCell ⟨g,i,none⟩ (.int .i64 x)).setCell ⟨g,j,none⟩ (.int .i64 y)) g n (sw d i j):=by
 subst hx hy;have h2:=(h.set hi (d j)).set hj (d i)
 have e:(fun k=>if k=j then d i else(fun k=>if k=i then d j else d k) k)=sw d i j:=by
  funext k
  simp only [sw]
  repeat' split
  all_goals first
   | rfl
   | (subst_vars;rfl)
 rw [e] at h2;exact h2
theorem RowD.other {w w':World} {g n:Nat} {d:Row} (h:RowD w g n d) {S:Nat->Prop} (ht:Touch S w w') (hS:¬S g):RowD w' g n d:=RowI.other h ht hS
theorem RowD.drewN {w:World} {g n:Nat} {d:Row} (h:RowD w g n d) (k:Nat):RowD (w.drewN k) g n d:=h
theorem Zf5 {g i j:Nat} {w W:World} (h:Touch (·=g) w W) (x y:Value):Touch (·=g) w ((W.setCell ⟨g,i,none⟩ x).setCell ⟨g,j,none⟩ y):=Zae (Zae h)
theorem ZeC {S:Nat->Prop} {w W:World} (h:Touch S w W) (k:Nat):Touch S w (W.drewN k):=h.trans (Zan S W k) (fun i hi=>Or.inl hi)
theorem ZlG (g n a b N:Nat) (d:Row) (w:World) (fv:Value) (hR:RowD w g n d) (hab:a+N<=b) (hb:b+N<=n) (hn:n<=1000000) :
  Calls Tryz.prog 240 #[.slice (some ⟨g,0,none⟩) n n,.int .i64 (a:Int),.int .i64 (b:Int),.int .i64 (N:Int),fv] w fun e w'=>
   e=.returned (.tuple #[])/\RowD w' g n (swr d a b N)/\Touch (·=g) w w':=by
 have HR0:=zh hR;clear hR;go_enter Tryz.func240,Tryz.ntmps240;go_wp2_with fail
 go_loopw [10] (fun i wr=>∃k:Nat,k<=N/\i=.int .i64 k/\RowD wr g n (swr d a b k)/\Touch (·=g) w wr) (fun i _=>N-(intOf i).toNat)
 case atStart=>exact⟨0,Nat.zero_le _,rfl,by rw [ZqO];exact HR0.out,Touch.refl _ w⟩
 case round=>
  obtain⟨k,hk,rfl,hR,hT⟩:=hrel;have HR:=zh hR;have HT:=zh hT;clear hR hT;by_cases hlk:k<N
  ·obtain⟨i,hi⟩:∃i,a+k=i:=⟨_,rfl⟩
   obtain⟨j,hj⟩:∃j,b+k=j:=⟨_,rfl⟩
   have hi2:(a:Int)+(k:Int)=(i:Int):=by omega
   have hj2:(b:Int)+(k:Int)=(j:Int):=by omega
   have hki:(k:Int)<(N:Int):=by omega
   have hin:i<n:=by omega
   have hjn:j<n:=by omega
   have hin2:(i:Int)<(n:Int):=by omega
   have hjn2:(j:Int)<(n:Int):=by omega
   obtain⟨c1,f1⟩:=HR.out.cell hin;obtain⟨c2,f2⟩:=HR.out.cell hjn;obtain⟨x,hx⟩:∃x,swr d a b k i=x:=⟨_,rfl⟩
   obtain⟨y,hy⟩:∃y,swr d a b k j=y:=⟨_,rfl⟩
   rw [hx] at c1;rw [hy] at c2;have HX:=zh hx;have HY:=zh hy;have HI:=zh hi;have HJ:=zh hj;clear hx hy hi hj;go_wp2_with fail
   go_region
   go_wp2_with fail;go_roundw
   case rel=>exact⟨k+1,by omega,by go_num,by
    rw [<-ZqP d (by omega),HI.out,HJ.out];exact(HR.out.drewN _).swap hin hjn _ _ HY.out.symm HX.out.symm,Zf5 (ZeC HT.out _) _ _⟩
   case measure=>simp [intOf];omega
  ·have hki:¬(k:Int)<(N:Int):=by omega
   have hd:decide ((k:Int)<(N:Int))=false:=by simp only [decide_eq_false_iff_not];exact hki
   obtain rfl:N=k:=by omega
   go_wp2_with fail;go_end0;exact⟨rfl,HR.out,HT.out⟩
theorem ZfB (g n a m b:Nat) (d:Row) (w:World) (fv:Value) (hR:RowD w g n d) (ham:a<m) (hmb:m<b) (hb:b<=n) (hn:n<=1000000) :
  Calls Tryz.prog 239 #[.slice (some ⟨g,0,none⟩) n n,.int .i64 (a:Int),.int .i64 (m:Int),.int .i64 (b:Int),fv] w fun e w'=>
   e=.returned (.tuple #[])/\RowD w' g n (rot d a m b)/\Touch (·=g) w w':=by
 have HR0:=zh hR;clear hR;obtain⟨I0,hI0⟩:∃I0,m-a=I0:=⟨_,rfl⟩
 obtain⟨J0,hJ0⟩:∃J0,b-m=J0:=⟨_,rfl⟩
 have i1:(m:Int)-(a:Int)=(I0:Int):=by omega
 have i2:(b:Int)-(m:Int)=(J0:Int):=by omega
 have HI0:=zh hI0;have HJ0:=zh hJ0;clear hI0 hJ0;go_enter Tryz.func239,Tryz.ntmps239;go_wp2_with fail
 go_loopw [10,11] (fun i j wr=>∃(I J:Nat) (D:Row),i=.int .i64 I/\j=.int .i64 J/\0<I/\0<J/\I<=m/\m+J<=n/\RowD wr g n D/\rot D (m-I) m (m+J)=rot d a m b/\Touch (·=g) w wr) (fun i j _=>(intOf i).toNat+(intOf j).toNat)
 case atStart=>exact⟨I0,J0,d,rfl,rfl,by omega,by omega,by omega,by omega,HR0.out,by
  have:=HI0.out;have:=HJ0.out;rw [show m-I0=a by omega,show m+J0=b by omega],Touch.refl _ w⟩
 case round=>
  obtain⟨I,J,D,rfl,rfl,hI,hJ,hIm,hJn,hR,hE,hT⟩:=hrel;have HR:=zh hR;have HT:=zh hT;have HE:=zh hE;clear hR hT hE;obtain⟨A,hA⟩:∃A,m-I=A:=⟨_,rfl⟩
  have hA2:(m:Int)-(I:Int)=(A:Int):=by omega
  have HA:=zh hA;have hA3:A+I<=m:=by omega
  have hA4:m<=A+I:=by omega
  clear hA;by_cases hIJ:I=J
  ·subst hIJ;have hne:((I:Int) != (I:Int))=false:=by simp
   go_wp2_with fail;refine(ZlG g n A m I D wr fv HR.out hA3 hJn hn).mono ?_;rintro e w' ⟨rfl,hR1,hT1⟩;have HR1:=zh hR1;have HT1:=zh hT1;clear hR1 hT1;go_wp2_with fail;go_end0;refine⟨rfl,?_,HT.out.trans HT1.out (fun i hi=>Or.inl hi)⟩;rw [<-HE.out,<-ZqR D hIm,HA.out];exact HR1.out
  ·have hne:((I:Int) != (J:Int))=true:=by rw [bne_iff_ne];omega
   by_cases hlt:J<I
   ·have hlt2:(J:Int)<(I:Int):=by omega
    go_wp2_with fail;refine(ZlG g n A m J D wr fv HR.out (by omega) hJn hn).mono ?_;rintro e w' ⟨rfl,hR1,hT1⟩;have HR1:=zh hR1;have HT1:=zh hT1;clear hR1 hT1;go_wp2_with fail;go_roundw
    case rel=>exact⟨I-J,J,_,by go_num,rfl,by omega,hJ,by omega,hJn,HR1.out,by rw [<-HE.out,<-ZqQ D hlt hIm,HA.out],HT.out.trans HT1.out (fun i hi=>Or.inl hi)⟩
    case measure=>simp [intOf];omega
   ·have hlt2:¬(J:Int)<(I:Int):=by omega
    have hIltJ:I<J:=by omega
    obtain⟨B,hB⟩:∃B,m+J-I=B:=⟨_,rfl⟩
    have hB2:(m:Int)+(J:Int)-(I:Int)=(B:Int):=by omega
    have HB:=zh hB;have hB3:A+I<=B:=by omega
    have hB4:B+I<=n:=by omega
    clear hB;go_wp2_with fail;refine(ZlG g n A B I D wr fv HR.out hB3 hB4 hn).mono ?_;rintro e w' ⟨rfl,hR1,hT1⟩;have HR1:=zh hR1;have HT1:=zh hT1;clear hR1 hT1;go_wp2_with fail;go_roundw
    case rel=>exact⟨I,J-I,_,rfl,by go_num,hI,by omega,hIm,by omega,HR1.out,by rw [<-HE.out,<-ZoX D hIltJ hIm,HA.out,HB.out],HT.out.trans HT1.out (fun i hi=>Or.inl hi)⟩
    case measure=>simp [intOf];omega
def Rng (n:Nat) (d:Row):Prop:=∀k,k<n->0<=d k/\d k<(n:Int)
theorem Rng.pm {n a b:Nat} {d e:Row} (h:Rng n d) (p:Pm d e a b) (hb:b<=n):Rng n e:=fun k hk=>by
 by_cases h1:a<=k/\k<b
 ·obtain⟨k',h2,h3,h4⟩:=p.mem h1.1 h1.2;rw [h4];exact h k' (by omega)
 ·rw [p.out k h1];exact h k hk
def sgn (a b:Int):Int:=if a<b then -1 else if b<a then 1 else 0
structure CmpF (F:FuncId) (caps:Array Value) (g n:Nat) (wt:Int->Int) (I:World->Prop):Prop where
 enter:∀args w,(callFunc F args).run Tryz.prog w=.ok (.enter F args) w
 keep:∀W W',I W->Touch (·=g) W W'->I W'
 cmp:∀W (x y:Int),I W->0<=x->x<n->0<=y->y<n->Calls Tryz.prog F (#[.int .i64 x,.int .i64 y]++caps) W fun e w'=>e=.returned (.int .i64 (sgn (wt x) (wt y)))/\∃q,w'=W.drewN q
section
variable {F : FuncId} {caps : Array Value} {g n : Nat} {wt : Int -> Int} {I : World -> Prop}
theorem CmpF.at (h:CmpF F caps g n wt I) {W:World} (hI:I W) {d:Row} (hr:Rng n d) {i j:Nat} (hi:i<n) (hj:j<n) (x y:Int) (hx:d i=x) (hy:d j=y) :
  ∃z,(z<0↔wt x<wt y)/\-1<=z/\z<=1/\∀q,Calls Tryz.prog F (#[.int .i64 x,.int .i64 y]++caps) (W.drewN q) fun e w'=>e=.returned (.int .i64 z)/\∃q',w'=(W.drewN q).drewN q':=by
 subst hx hy;have h1:=hr i hi;have h2:=hr j hj;refine⟨sgn (wt (d i)) (wt (d j)),?_,?_,?_,fun q=>h.cmp _ _ _ (h.keep _ _ hI (Zan _ W q)) h1.1 h1.2 h2.1 h2.2⟩
 all_goals unfold sgn
 all_goals repeat' split
 all_goals omega
theorem Zo0 (hC:CmpF F caps g n wt I) (a b:Nat) (d:Row) (w:World) (hR:RowD w g n d) (hI:I w) (hab:a<=b) (hb:b<=n) (hn:n<=1000000) (hr:Rng n d) (hinc:∀i j,a<=i->i<j->j<b->d i<d j) :
  Calls Tryz.prog 237 #[.slice (some ⟨g,0,none⟩) n n,.int .i64 (a:Int),.int .i64 (b:Int),.func (.func F) #[] caps] w fun e w'=>
   e=.returned (.tuple #[])/\(∃D,RowD w' g n D/\Pm d D a b/\Srt wt D a b)/\Touch (·=g) w w':=by
 have he:=hC.enter;have HR0:=zh hR;have HI0:=zh hI;have HC:=zh hC;have HRN:=zh hr;have HINC:=zh hinc;clear hR hI hC hr hinc;go_enter Tryz.func237,Tryz.ntmps237;go_wp2_with fail
 go_loopw [8] (fun vi wr=>∃(i:Nat) (D:Row),vi=.int .i64 i/\a<i/\i<=b+1/\RowD wr g n D/\Pm d D a (min i b)/\Srt wt D a (min i b)/\Touch (·=g) w wr) (fun vi _=>b+1-(intOf vi).toNat)
 case atStart=>exact⟨a+1,d,by go_num,by omega,by omega,HR0.out,Pm.refl _ _ _,Srt.one _ _ (by omega),Touch.refl _ w⟩
 case round=>
  obtain⟨i,D,rfl,hai,hib,hR,hP,hS,hT⟩:=hrel;have HR:=zh hR;have HP:=zh hP;have HS:=zh hS;have HT:=zh hT;clear hR hP hS hT;by_cases hi:i<b
  ·have hi2:(i:Int)<(b:Int):=by omega
   have hlow:Hid (Low D a i (i+1)):=zh (fun x y hx hxi hy hyi=>by
    have hP:=HP.out;rw [Nat.min_eq_left (by omega)] at hP;obtain rfl:y=i:=by omega
    obtain⟨k',h2,h3,h4⟩:=hP.mem hx (by omega);rw [h4,hP.out y (by omega)];exact HINC.out k' y h2 (by omega) hi)
   have hD:Hid (Rng n D):=zh (HRN.out.pm HP.out (by omega));have hSi:Hid (Srt wt D a i):=zh (by have:=HS.out;rw [Nat.min_eq_left (by omega)] at this;exact this);go_wp2_with fail
   go_loopw [9] (fun vj wr2=>∃(j:Nat),vj=.int .i64 j/\a<=j/\j<=i/\RowD wr2 g n (rot D j i (i+1))/\(j=i\/wt (D i)<wt (D j))/\Touch (·=g) w wr2) (fun vj _=>(intOf vj).toNat)
   case atStart=>exact⟨i,rfl,by omega,Nat.le_refl _,by rw [Zg6];exact HR.out,Or.inl rfl,HT.out⟩
   case round=>
    obtain⟨j,rfl,haj,hji,hR2,hE,hT2⟩:=hrel;have HR2:=zh hR2;have HE:=zh hE;have HT2:=zh hT2;clear hR2 hE hT2
    have hend:(j=a\/¬wt (D i)<wt (D (j-1)))->∀q,∃(i':Nat) (D':Row),Value.int .i64 ((i:Int)+1)=.int .i64 i'/\a<i'/\i'<=b+1/\RowD (wr.drewN q) g n D'/\Pm d D' a (min i' b)/\Srt wt D' a (min i' b)/\Touch (·=g) w (wr.drewN q):=fun h q=>
     ⟨i+1,rot D j i (i+1),by go_num,by omega,by omega,HR2.out.drewN q,by
      rw [Nat.min_eq_left (by omega)];have hP:=HP.out;rw [Nat.min_eq_left (by omega)] at hP;exact(hP.wide (Nat.le_refl _) (by omega) (by omega)).trans ((Zin D hji (by omega)).wide haj (by omega) (Nat.le_refl _)),by
      rw [Nat.min_eq_left (by omega)];exact ZmH hSi.out hlow.out haj hji h HE.out,ZeC HT2.out q⟩
    have HEND:=zh hend;clear hend;by_cases hja:a<j
    ·have hja2:(a:Int)<(j:Int):=by omega
     obtain⟨j1,hj1⟩:∃j1,j=j1+1:=⟨j-1,by omega⟩
     have hj2:(j:Int)-1=(j1:Int):=by omega
     have hjn:j<n:=by omega
     have hjn2:(j:Int)<(n:Int):=by omega
     have hj1n:j1<n:=by omega
     have hj1n2:(j1:Int)<(n:Int):=by omega
     obtain⟨c1,f1⟩:=HR2.out.cell hjn;obtain⟨c2,f2⟩:=HR2.out.cell hj1n;have ex:rot D j i (i+1) j=D i:=by rw [Zjq D (Nat.le_refl _) (by omega)];congr 1;omega
     have ey:rot D j i (i+1) j1=D j1:=Zjp D (by omega);obtain⟨x,hx⟩:∃x,rot D j i (i+1) j=x:=⟨_,rfl⟩
     obtain⟨y,hy⟩:∃y,rot D j i (i+1) j1=y:=⟨_,rfl⟩
     have hrr:Rng n (rot D j i (i+1)):=hD.out.pm (Zin D hji (by omega)) (by omega);obtain⟨z,hz,hz1,hz2,hcall⟩:=HC.out.at (HC.out.keep _ _ HI0.out HT2.out) hrr hjn hj1n x y hx hy;rw [hx] at c1;rw [hy] at c2;have HX:=zh hx;have HY:=zh hy;have HCALL:=zh hcall;have HEX:Hid (x=D i):=zh (by rw [<-hx];exact ex);have HEY:Hid (y=D j1):=zh (by rw [<-hy];exact ey);have HJ1:=zh hj1;clear hx hy ex ey hcall hrr hj1;by_cases hlt:wt x<wt y
     ·have hz0:z<0:=hz.2 hlt;have HLT:=zh hlt;clear hlt hz;go_wp2_with fail
      go_quiet ((exact Calls.quiet_of (HCALL.out _)))
      go_wp2_with fail
      go_region
      go_wp2_with fail;go_roundw
      case rel=>exact⟨j1,by go_num,by have:=HJ1.out;omega,by have:=HJ1.out;omega,by
       have:=HJ1.out;subst this;rw [<-ZmG D (show j1<i by omega)];exact(HR2.out.drewN _).swap hjn hj1n _ _ HY.out.symm HX.out.symm,Or.inr (by rw [<-HEX.out,<-HEY.out];exact HLT.out),Zf5 (ZeC HT2.out _) _ _⟩
      case measure=>have:=HJ1.out;simp [intOf];omega
     ·have hz0:¬z<0:=fun h=>hlt (hz.1 h)
      have HLT:=zh hlt;clear hlt hz;go_wp2_with fail
      go_quiet ((exact Calls.quiet_of (HCALL.out _)))
      go_wp2_with fail;go_roundw
      case rel=>exact HEND.out (Or.inr (by rw [show j-1=j1 by have:=HJ1.out;omega,<-HEX.out,<-HEY.out];exact HLT.out)) _
      case measure=>simp [intOf];omega
    ·have hd:decide ((a:Int)<(j:Int))=false:=by simp only [decide_eq_false_iff_not];omega
     go_wp2_with fail
     go_quiet (fail)
     go_wp2_with fail;go_roundw
     case rel=>exact HEND.out (Or.inl (by omega)) _
     case measure=>simp [intOf];omega
  ·have hi2:¬(i:Int)<(b:Int):=by omega
   go_wp2_with fail;go_end0;refine⟨rfl,⟨D,HR.out,?_,?_⟩,HT.out⟩
   ·have:=HP.out;rw [Nat.min_eq_right (by omega)] at this;exact this
   ·have:=HS.out;rw [Nat.min_eq_right (by omega)] at this;exact this
end
end
section
open Go.RowKit SymM
section
variable {F : FuncId} {caps : Array Value} {g n : Nat} {wt : Int -> Int} {I : World -> Prop}
def SrtP (wt:Int->Int) (g n:Nat) (d:Row) (a b:Nat) (w w':World):Prop:=(∃D,RowD w' g n D/\Pm d D a b/\Srt wt D a b)/\Touch (·=g) w w'
theorem Zo1 (hC:CmpF F caps g n wt I) (a b:Nat) (d:Row) (w:World) (hR:RowD w g n d) (hI:I w) (hab:a+1<b) (hb:b<=n) (hn:n<=1000000) (hr:Rng n d) (hs:Srt wt d (a+1) b) (hl:Low d a (a+1) b) (m:Nat) (hm:m=a+1) :
  Calls Tryz.prog 238 #[.slice (some ⟨g,0,none⟩) n n,.int .i64 (a:Int),.int .i64 (m:Int),.int .i64 (b:Int),.func (.func F) #[] caps] w fun e w'=>
   e=.returned (.tuple #[])/\SrtP wt g n d a b w w':=by
 have he:=hC.enter;have HR:=zh hR;have HI0:=zh hI;have HC:=zh hC;have HRN:=zh hr;have HS:=zh hs;have HL:=zh hl;have HM:=zh hm;have hma1:a+1<=m:=by omega
 have hma2:m<=a+1:=by omega
 have hone:((m:Int)-(a:Int)==1)=true:=by rw [beq_iff_eq];omega
 have han:a<n:=by omega
 have han2:(a:Int)<(n:Int):=by omega
 obtain⟨y,hy⟩:∃y,d a=y:=⟨_,rfl⟩
 have HY:=zh hy;clear hR hI hC hr hs hl hm hy;go_enter Tryz.func238,Tryz.ntmps238;go_wp2_with fail
 go_loopw [10,11] (fun vi vj wr=>∃i j q:Nat,vi=.int .i64 i/\vj=.int .i64 j/\m<=i/\i<=j/\j<=b/\(i=m\/wt (d (i-1))<wt (d a))/\(j=b\/wt (d a)<=wt (d j))/\wr=w.drewN q) (fun vi vj _=>(intOf vj).toNat-(intOf vi).toNat)
 case atStart=>exact⟨m,b,0,rfl,rfl,by omega,by omega,by omega,Or.inl rfl,Or.inl rfl,rfl⟩
 case round=>
  obtain⟨i,j,q,rfl,rfl,hmi,hij,hjb,h1,h2,hw⟩:=hrel;have HRW:Hid (RowD wr g n d):=zh (by rw [hw];exact HR.out.drewN q);have HIW:Hid (I wr):=zh (by rw [hw];exact HC.out.keep _ _ HI0.out (Zan _ w q));have HW:=zh hw;clear hw;have H1:=zh h1;have H2:=zh h2;clear h1 h2;by_cases hlt:i<j
  ·have hlt2:(i:Int)<(j:Int):=by omega
   obtain⟨c,hc⟩:∃c,(i+j) / 2=c:=⟨_,rfl⟩
   have hcI:((i:Int)+(j:Int)) / 2=(c:Int):=by omega
   have hcn:c<n:=by omega
   have hcn2:(c:Int)<(n:Int):=by omega
   have hci:i<=c:=by omega
   have hcj:c<j:=by omega
   have HCC:=zh hc;obtain⟨c1,f1⟩:=HRW.out.cell hcn;obtain⟨c2,f2⟩:=HRW.out.cell han;obtain⟨x,hx⟩:∃x,d c=x:=⟨_,rfl⟩
   rw [hx] at c1;rw [HY.out] at c2;obtain⟨z,hz,hz1,hz2,hcall⟩:=HC.out.at HIW.out HRN.out hcn han x y hx HY.out;have HX:=zh hx;have HCALL:=zh hcall;have HZ:=zh hz;clear hx hcall hz hc;by_cases hz0:z<0
   ·go_wp2_with fail
    go_quiet ((exact Calls.quiet_of (HCALL.out _)))
    go_wp2_with fail;go_roundw
    case rel=>exact⟨c+1,j,_,by go_num,rfl,by omega,by omega,hjb,Or.inr (by rw [Nat.add_sub_cancel,HX.out,HY.out];have:=HZ.out;omega),H2.out,by rw [HW.out];exact World.drewN_drewN ..⟩
    case measure=>simp [intOf];omega
   ·go_wp2_with fail
    go_quiet ((exact Calls.quiet_of (HCALL.out _)))
    go_wp2_with fail;go_roundw
    case rel=>exact⟨i,c,_,rfl,by go_num,hmi,hci,by omega,H1.out,Or.inr (by rw [HX.out,HY.out];have:=HZ.out;omega),by rw [HW.out];exact World.drewN_drewN ..⟩
    case measure=>simp [intOf];omega
  ·have hlt2:¬(i:Int)<(j:Int):=by omega
   obtain rfl:j=i:=by omega
   have hsrt:Hid (Srt wt (rot d a (a+1) j) a b):=zh (by
    have hm:=HM.out;refine ZoY HS.out HL.out (by omega) hjb ?_ ?_
    ·rcases H1.out with e|e
     ·exact Or.inl (by omega)
     ·exact Or.inr e
    ·rcases H2.out with e|e
     ·exact Or.inl e
     ·exact Or.inr (by omega))
   obtain⟨p,hp⟩:∃p,j=p+1:=⟨j-1,by omega⟩
   have hp2:(j:Int)-1=(p:Int):=by omega
   have hap:a<=p:=by omega
   have hpn:p<n:=by omega
   have hpn2:(p:Int)<(n:Int):=by omega
   have HT1:Hid (Touch (·=g) w wr):=zh (by rw [HW.out];exact Zan _ w q);have HP:=zh hp;clear hp;go_wp2_with fail
   go_loopw [13] (fun vk w2=>∃k:Nat,vk=.int .i64 k/\a<=k/\k<=p/\RowD w2 g n (rot d a (a+1) (k+1))/\Touch (·=g) w w2) (fun vk _=>p-(intOf vk).toNat)
   case atStart=>exact⟨a,rfl,Nat.le_refl _,hap,by rw [ZmF];exact HRW.out,HT1.out⟩
   case round=>
    obtain⟨k,rfl,hak,hkp,hR2,hT2⟩:=hrel;have HR2:=zh hR2;have HT2:=zh hT2;clear hR2 hT2;by_cases hkl:k<p
    ·have hkl2:(k:Int)<(p:Int):=by omega
     obtain⟨l,hl⟩:∃l,k+1=l:=⟨_,rfl⟩
     have hl2:(k:Int)+1=(l:Int):=by omega
     have hkn:k<n:=by omega
     have hkn2:(k:Int)<(n:Int):=by omega
     have hln:l<n:=by omega
     have hln2:(l:Int)<(n:Int):=by omega
     obtain⟨c1,f1⟩:=HR2.out.cell hkn;obtain⟨c2,f2⟩:=HR2.out.cell hln;obtain⟨x,hx⟩:∃x,rot d a (a+1) (k+1) k=x:=⟨_,rfl⟩
     obtain⟨y,hy⟩:∃y,rot d a (a+1) (k+1) l=y:=⟨_,rfl⟩
     rw [hx] at c1;rw [hy] at c2;have HX:=zh hx;have HY:=zh hy;have HLL:=zh hl;clear hx hy hl;go_wp2_with fail
     go_region
     go_wp2_with fail;go_roundw
     case rel=>exact⟨l,rfl,by have:=HLL.out;omega,by have:=HLL.out;omega,by
      have:=HLL.out;subst this;rw [<-Zs5 d hak];exact(HR2.out.drewN _).swap hkn hln _ _ HY.out.symm HX.out.symm,Zf5 (ZeC HT2.out _) _ _⟩
     case measure=>have:=HLL.out;simp [intOf];omega
    ·have hkl2:¬(k:Int)<(p:Int):=by omega
     obtain rfl:p=k:=by omega
     go_wp2_with fail;refine bodyPost_ret (results_none rfl _ _ _) rfl ?_;have e:=HP.out;subst e;exact⟨rfl,⟨_,HR2.out,(Zin d (by omega) (by omega)).wide (Nat.le_refl _) (by omega) hjb,hsrt.out⟩,HT2.out⟩
theorem ZqT (hC:CmpF F caps g n wt I) (a m:Nat) (d:Row) (w:World) (hR:RowD w g n d) (hI:I w) (ham:a+1<m) (hb:m+1<=n) (hn:n<=1000000) (hr:Rng n d) (hs:Srt wt d a m) (hl:Low d a m (m+1)) (b:Nat) (hbm:b=m+1) :
  Calls Tryz.prog 238 #[.slice (some ⟨g,0,none⟩) n n,.int .i64 (a:Int),.int .i64 (m:Int),.int .i64 (b:Int),.func (.func F) #[] caps] w fun e w'=>
   e=.returned (.tuple #[])/\SrtP wt g n d a b w w':=by
 have he:=hC.enter;have HR:=zh hR;have HI0:=zh hI;have HC:=zh hC;have HRN:=zh hr;have HS:=zh hs;have HL:=zh hl;have HB:=zh hbm;have hone0:((m:Int)-(a:Int)==1)=false:=by rw [beq_eq_false_iff_ne];omega
 have hone:((b:Int)-(m:Int)==1)=true:=by rw [beq_iff_eq];omega
 have hmn:m<n:=by omega
 have hmn2:(m:Int)<(n:Int):=by omega
 have hbn:b<=n:=by omega
 obtain⟨x,hx⟩:∃x,d m=x:=⟨_,rfl⟩
 have HX:=zh hx;clear hR hI hC hr hs hl hbm hx;go_enter Tryz.func238,Tryz.ntmps238;go_wp2_with fail
 go_loopw [14,15] (fun vi vj wr=>∃i j q:Nat,vi=.int .i64 i/\vj=.int .i64 j/\a<=i/\i<=j/\j<=m/\(i=a\/wt (d (i-1))<=wt (d m))/\(j=m\/wt (d m)<wt (d j))/\wr=w.drewN q) (fun vi vj _=>(intOf vj).toNat-(intOf vi).toNat)
 case atStart=>exact⟨a,m,0,rfl,rfl,by omega,by omega,by omega,Or.inl rfl,Or.inl rfl,rfl⟩
 case round=>
  obtain⟨i,j,q,rfl,rfl,hmi,hij,hjb,h1,h2,hw⟩:=hrel;have HRW:Hid (RowD wr g n d):=zh (by rw [hw];exact HR.out.drewN q);have HIW:Hid (I wr):=zh (by rw [hw];exact HC.out.keep _ _ HI0.out (Zan _ w q));have HW:=zh hw;have H1:=zh h1;have H2:=zh h2;clear hw h1 h2;by_cases hlt:i<j
  ·have hlt2:(i:Int)<(j:Int):=by omega
   obtain⟨c,hc⟩:∃c,(i+j) / 2=c:=⟨_,rfl⟩
   have hcI:((i:Int)+(j:Int)) / 2=(c:Int):=by omega
   have hcn:c<n:=by omega
   have hcn2:(c:Int)<(n:Int):=by omega
   have hci:i<=c:=by omega
   have hcj:c<j:=by omega
   have HCC:=zh hc;obtain⟨c1,f1⟩:=HRW.out.cell hcn;obtain⟨c2,f2⟩:=HRW.out.cell hmn;obtain⟨y,hy⟩:∃y,d c=y:=⟨_,rfl⟩
   rw [hy] at c1;rw [HX.out] at c2;obtain⟨z,hz,hz1,hz2,hcall⟩:=HC.out.at HIW.out HRN.out hmn hcn x y HX.out hy;have HY:=zh hy;have HCALL:=zh hcall;have HZ:=zh hz;clear hy hcall hz hc;by_cases hz0:z<0
   ·have hz3:(!decide (z<0))=false:=by simp;omega
    go_wp2_with fail
    go_quiet ((exact Calls.quiet_of (HCALL.out _)))
    go_wp2_with fail;go_roundw
    case rel=>exact⟨i,c,_,rfl,by go_num,hmi,hci,by omega,H1.out,Or.inr (by rw [HX.out,HY.out];have:=HZ.out;omega),by rw [HW.out];exact World.drewN_drewN ..⟩
    case measure=>simp [intOf];omega
   ·have hz3:(!decide (z<0))=true:=by simp;omega
    go_wp2_with fail
    go_quiet ((exact Calls.quiet_of (HCALL.out _)))
    go_wp2_with fail;go_roundw
    case rel=>exact⟨c+1,j,_,by go_num,rfl,by omega,by omega,hjb,Or.inr (by rw [Nat.add_sub_cancel,HX.out,HY.out];have:=HZ.out;omega),H2.out,by rw [HW.out];exact World.drewN_drewN ..⟩
    case measure=>simp [intOf];omega
  ·have hlt2:¬(i:Int)<(j:Int):=by omega
   obtain rfl:j=i:=by omega
   have hsrt:Hid (Srt wt (rot d j m (m+1)) a (m+1)):=zh (by
    refine ZmH HS.out HL.out hmi hjb ?_ ?_
    ·rcases H1.out with e|e
     ·exact Or.inl (by omega)
     ·exact Or.inr (by omega)
    ·rcases H2.out with e|e
     ·exact Or.inl e
     ·exact Or.inr (by omega))
   have HT1:Hid (Touch (·=g) w wr):=zh (by rw [HW.out];exact Zan _ w q);go_wp2_with fail
   go_loopw [17] (fun vk w2=>∃k:Nat,vk=.int .i64 k/\j<=k/\k<=m/\RowD w2 g n (rot d k m (m+1))/\Touch (·=g) w w2) (fun vk _=>(intOf vk).toNat)
   case atStart=>exact⟨m,rfl,hjb,Nat.le_refl _,by rw [Zg6];exact HRW.out,HT1.out⟩
   case round=>
    obtain⟨k,rfl,hak,hkp,hR2,hT2⟩:=hrel;have HR2:=zh hR2;have HT2:=zh hT2;clear hR2 hT2;by_cases hkl:j<k
    ·have hkl2:(j:Int)<(k:Int):=by omega
     obtain⟨l,hl⟩:∃l,k=l+1:=⟨k-1,by omega⟩
     have hl2:(k:Int)-1=(l:Int):=by omega
     have hkn:k<n:=by omega
     have hkn2:(k:Int)<(n:Int):=by omega
     have hln:l<n:=by omega
     have hln2:(l:Int)<(n:Int):=by omega
     obtain⟨c1,f1⟩:=HR2.out.cell hkn;obtain⟨c2,f2⟩:=HR2.out.cell hln;obtain⟨X,hx⟩:∃x,rot d k m (m+1) k=x:=⟨_,rfl⟩
     obtain⟨Y,hy⟩:∃y,rot d k m (m+1) l=y:=⟨_,rfl⟩
     rw [hx] at c1;rw [hy] at c2;have HX:=zh hx;have HY:=zh hy;have HLL:=zh hl;clear hx hy hl;go_wp2_with fail
     go_region
     go_wp2_with fail;go_roundw
     case rel=>exact⟨l,by go_num,by have:=HLL.out;omega,by have:=HLL.out;omega,by
      have:=HLL.out;subst this;rw [<-ZmG d (show l<m by omega)];exact(HR2.out.drewN _).swap hkn hln _ _ HY.out.symm HX.out.symm,Zf5 (ZeC HT2.out _) _ _⟩
     case measure=>have:=HLL.out;simp [intOf];omega
    ·have hkl2:¬(j:Int)<(k:Int):=by omega
     obtain rfl:k=j:=by omega
     go_wp2_with fail;refine bodyPost_ret (results_none rfl _ _ _) rfl ?_;have e:=HB.out;subst e;exact⟨rfl,⟨_,HR2.out,(Zin d hkp (by omega)).wide (by omega) (by omega) (Nat.le_refl _),hsrt.out⟩,HT2.out⟩
end
end
end Go.Proofs.YtlfpbcadcfaboaaGreatDoor

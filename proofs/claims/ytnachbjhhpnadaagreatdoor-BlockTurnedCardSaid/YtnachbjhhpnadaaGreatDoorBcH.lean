import Derived.Test.YtnachbjhhpnadaaGreatDoorBcA
import Derived.Test.YtnachbjhhpnadaaGreatDoorBcB
import Derived.Test.YtnachbjhhpnadaaGreatDoorBcC
import Derived.Test.YtnachbjhhpnadaaGreatDoorBcD
import Derived.Deep.RegionHeld3
import Derived.StillTailTactics
import Derived.Lib.BufferWrite
import Derived.Laws.StandIn
import Derived.Laws.OwnMore
import Derived.ChangeKeysEq
set_option linter.unusedVariables false
set_option linter.unusedSimpArgs false
set_option maxHeartbeats 8000000
set_option maxRecDepth 100000
namespace Go.Proofs.YtnachbjhhpnadaaGreatDoor
section
open Go.RowKit BitM UsedM
def arr (S:Nat->Bool):Array Value:=((List.range 16).map fun i=>Value.int .u32 (fld S i:Int)).toArray
theorem Zbe (S:Nat->Bool):(arr S).size=16:=by simp [arr]
theorem Zdb (S:Nat->Bool) (i:Nat) (h:i<16):(arr S)[i]?=some (.int .u32 (fld S i:Int)):=by
 simp [arr,h]
theorem ZdE (S:Nat->Bool):(arr S).all (·.oneCell')=true:=by
 rw [Array.all_eq_true];intro i h;simp [arr,Value.oneCell']
theorem ZjL (cs:Array Value) (S:Nat->Bool) (hs:cs.size=16) (h:∀i,i<16->cs[i]?=some (.int .u32 (fld S i:Int))):cs=arr S:=by
 apply Array.ext_getElem?;intro i;by_cases hi:i<16
 ·rw [h i hi,Zdb S i hi]
 ·rw [Array.getElem?_eq_none (by omega),Array.getElem?_eq_none (by rw [Zbe];omega)]
theorem ZrH:(#[.int .u32 0,.int .u32 0,.int .u32 0,.int .u32 0,.int .u32 0,.int .u32 0,.int .u32 0,.int .u32 0,.int .u32 0,.int .u32 0,.int .u32 0,.int .u32 0,.int .u32 0,.int .u32 0,.int .u32 0,.int .u32 0]:Array Value)=arr (fun _=>false):=ZjL _ _ rfl (fun i hi=>by
 rw [ZeX]
 have:∀i:Fin 16,(#[.int .u32 0,.int .u32 0,.int .u32 0,.int .u32 0,.int .u32 0,.int .u32 0,.int .u32 0,.int .u32 0,.int .u32 0,.int .u32 0,.int .u32 0,.int .u32 0,.int .u32 0,.int .u32 0,.int .u32 0,.int .u32 0]:Array Value)[i.val]?=some (.int .u32 ((0:Nat):Int)):=by
  intro i;rcases i with⟨i,h⟩
  iterate 16 (rcases i with _|i;· rfl)
  omega
 exact this ⟨i,hi⟩)
theorem Zln (S:Nat->Bool):(Tryz.prog.info? 132).map (·.size)=some (arr S).size:=by rw [Zbe];kernel_rfl
theorem Zsl (S:Nat->Bool) (b:Nat) (hb:b<256) (X:Int) (hX:X=((fld S (b / 16) ||| 2^(15-b % 16):Nat):Int)):(arr S).setIfInBounds (b / 16) (.int .u32 X)=arr (put S b):=by
 subst hX;apply ZjL
 ·simp [Zbe]
 ·intro i hi;rw [Array.getElem?_setIfInBounds];by_cases e:b / 16=i
  ·subst e;rw [if_pos rfl,if_pos (by rw [Zbe];omega),Zel S (b / 16) (b % 16) (by omega),show 16*(b / 16)+b % 16=b by omega]
  ·rw [if_neg e,Zdb S i hi,ZgV S i b e]
theorem Zd3 (J:Int) (j Z:Nat) (w:World) (hJ:J=(j:Int)) (hj:j<=15) (hZ:2^(15-j)=Z):Calls Tryz.prog 159 #[.int .i64 J] w fun e w'=>e=.returned (.int .u32 (Z:Int))/\w=w':=by
 subst hJ;subst hZ;have e:(15:Int)-(j:Int)=((15-j:Nat):Int):=by omega
 go_enter Tryz.func159,Tryz.ntmps159;go_wp2_with fail;go_ret;have h15:2^(15-j)<=2^15:=Nat.pow_le_pow_right (by omega) (by omega);have e2:(2:Int)^(15-j)=((2^(15-j):Nat):Int):=by simp
 refine⟨?_,rfl⟩;show Ending.returned (Value.int IntKind.u32 (2^(15-j) % 4294967296))=_;rw [e2];generalize 2^(15-j)=Z at *;rw [Int.emod_eq_of_lt (by omega) (by omega)]
def Made (N:Nat) (S:Nat->Bool) (w wr:World):Prop:=
 Below N w wr/\wr.heap.size=N+2/\wr.heap[N]?=some (.cells (arr (fun _=>false)) 132 (0,0))/\wr.heap[N+1]?=some (.cells (arr S) 132 (0,0))
theorem Made.start (w:World):Made w.heap.size (fun _=>false) w ((w.alloc (.cells #[.int .u32 0,.int .u32 0,.int .u32 0,.int .u32 0,.int .u32 0,.int .u32 0,.int .u32 0,.int .u32 0,.int .u32 0,.int .u32 0,.int .u32 0,.int .u32 0,.int .u32 0,.int .u32 0,.int .u32 0,.int .u32 0] 132)).alloc (.cells #[.int .u32 0,.int .u32 0,.int .u32 0,.int .u32 0,.int .u32 0,.int .u32 0,.int .u32 0,.int .u32 0,.int .u32 0,.int .u32 0,.int .u32 0,.int .u32 0,.int .u32 0,.int .u32 0,.int .u32 0,.int .u32 0] 132)):=by
 rw [ZrH];exact⟨((Below.refl _ _).alloc (Nat.le_refl _) _).alloc (by simp) _,by simp,heap_alloc2_old _ _ _,heap_alloc2_new _ _ _⟩
theorem Made.drew {N:Nat} {S:Nat->Bool} {w wr:World} (h:Made N S w wr):Made N S w wr.drew:=⟨h.1.drew,h.2⟩
theorem Made.cell {N:Nat} {S:Nat->Bool} {w wr:World} (h:Made N S w wr) (i:Nat) (hi:i<16):wr.cell? ⟨N+1,i,none⟩=some (.int .u32 (fld S i:Int))/\wr.frozen? ⟨N+1,i,none⟩=false:=by
 obtain⟨_,_,_,h⟩:=h;refine⟨?_,frozen_of_row wr _ i _ _ h⟩;rw [cell_of_row wr _ i _ _ _ h,Zdb S i hi]
theorem Made.step {N:Nat} {S:Nat->Bool} {w wr:World} (h:Made N S w wr) (b:Nat) (hb:b<256) (X:Int) (hX:X=((fld S (b / 16) ||| 2^(15-b % 16):Nat):Int)):Made N (put S b) w (wr.setCell ⟨N+1,b / 16,none⟩ (.int .u32 X)):=by
 obtain⟨h1,h2,h3,h4⟩:=h;refine⟨h1.setCell (by simp) _,by simpa [World.setCell] using h2,?_,?_⟩
 ·rw [heap_setCell_other wr _ N _ (by simp)];exact h3
 ·rw [<-Zsl S b hb X hX];exact heap_setCell_same wr _ (b / 16) _ _ _ h4
theorem Zlo (s:ByteArray) (w:World) (hs:s.size<=maxLen) :
  Calls Tryz.prog 99 #[.string s] w fun e w'=>e=.returned (.agg (arr (has s.data.toList)))/\Below w.heap.size w w':=by
 have H0:=zh (Made.start w);have hs2:s.size<=9223372036854775807:=by unfold maxLen at hs;omega
 go_enter Tryz.func99,Tryz.ntmps99;go_wp2_with fail
 go_loopw [4,7] (fun _ i wr=>∃k:Nat,k<=s.size/\i=.int .i64 k/\Made w.heap.size (has (s.data.toList.take k)) w wr) (fun _ i _=>s.size-(intOf i).toNat)
 case atStart=>exact⟨0,by omega,rfl,H0.out⟩
 case round=>
  obtain⟨k,hk,rfl,hM⟩:=hrel;by_cases hlt:k<s.size
  ·have hc:=s[k].toNat_lt;have hq:((s[k].toNat:Int)) / 16=((s[k].toNat / 16:Nat):Int):=by omega
   have hr:((s[k].toNat:Int)) % 16=((s[k].toNat % 16:Nat):Int):=by omega
   have hql:s[k].toNat / 16<16:=by omega
   obtain⟨c0,f0⟩:=hM.cell (s[k].toNat / 16) hql;have hZ:∃Z,2^(15-s[k].toNat % 16)=Z:=⟨_,rfl⟩
   obtain⟨Z,hZ⟩:=hZ
   have hZl:Z<=32768:=by
    have:2^(15-s[k].toNat % 16)<=2^15:=Nat.pow_le_pow_right (by omega) (by omega);omega
   have hor:bits BinOp.or IntKind.u32 (fld (has (s.data.toList.take k)) (s[k].toNat / 16):Int) (Z:Int)=((fld (has (s.data.toList.take k)) (s[k].toNat / 16) ||| 2^(15-s[k].toNat % 16):Nat):Int):=by
    rw [hZ];exact u32_or_nat _ _ (by have:=ZeW (has (s.data.toList.take k)) (s[k].toNat / 16);omega) (by omega)
   have HST:=zh (hM.step s[k].toNat (by omega) _ hor)
   have HH:Hid (has (s.data.toList.take (k+1))=put (has (s.data.toList.take k)) s[k].toNat):=zh (by
    rw [List.take_succ_eq_append_getElem (by simpa using hlt),ZgW];rfl)
   have HR:=zh (show s[k].toNat % 16<=15 by omega)
   have hrt:IntKind.i64.wrap ((s[k].toNat:Int).tmod 16)=((s[k].toNat % 16:Nat):Int):=by
    rw [Int.tmod_eq_emod_of_nonneg (by omega),hr];exact IntWalk.i64_in _ (by omega)
   have HZ:=zh hZ;clear hM hor H0 hZ;generalize fld (has (s.data.toList.take k)) (s[k].toNat / 16)=F at *;generalize has (s.data.toList.take k)=S at *;go_wp2_with fail;generalize s[k].toNat / 16=q at *;generalize s[k].toNat % 16=r at *;obtain⟨N,hN⟩:∃N,w.heap.size=N:=⟨_,rfl⟩
   rw [hN] at c0 f0 HST;simp only [hN];have hq0:(0:Int)<=(q:Int):=by omega
   have hq1:(q:Int)<16:=by omega
   have hq2:IntKind.u8.wrap (q:Int)=(q:Int):=IntWalk.u8_in _ (by omega);have hr2:IntKind.u8.wrap (r:Int)=(r:Int):=IntWalk.u8_in _ (by have:=HR.out;omega)
   go_region_with (first|(go_at_call 159;refine(Zd3 _ r Z _ (by omega) HR.out HZ.out).mono ?_;rintro e w' ⟨rfl,rfl⟩))
   all_goals
    subst hN;go_wp2_with fail;go_roundw
    case rel=>exact⟨k+1,by omega,by go_num,by rw [HH.out];exact HST.out.drew⟩
    case measure=>simp [intOf];omega
  ·obtain rfl:k=s.size:=by omega
   rw [List.take_of_length_le (by simp)] at hM;obtain⟨hb,hz,h0,hc⟩:=hM;generalize hA:arr (has s.data.toList)=A at *;have hi:(Tryz.prog.info? 132).map (·.size)=some A.size:=hA▸Zln _;have ha:A.all (·.oneCell')=true:=hA▸ZdE _;have h16:(arr (fun _=>false)).size=A.size:=by rw [<-hA,Zbe,Zbe]
   generalize arr (fun _=>false)=Z0 at *;go_wp2_with (first|(refine wpList_load_row rfl 132 _ rfl (w.heap.size+1) rfl 132 A (0,0) _ hc Tryz.underlying132 rfl hi ?_)|(refine wpList_store_row rfl 132 _ _ rfl w.heap.size A rfl rfl 132 Z0 h0 hi h16 ha ?_));refine bodyPost_ret (v:=.agg A) (results_cell_row rfl _ _ w.heap.size 132 A (0,0) _ rfl (setRow_heap wr _ Z0 A 132 _ h0) Tryz.underlying132 rfl hi) rfl ⟨by rw [hA],?_⟩;exact hb.trans ⟨rfl,rfl,rfl,by simp [World.setRow],fun j hj=>setRow_other wr _ j _ (by omega)⟩
theorem Zfg (S:Nat->Bool) (k F:Nat) (hk:k<16) (hF:fld S k=F) (W:World):(Instr.index 132 (.agg (arr S)) (.int .i64 (k:Int))).run Tryz.prog W=.ok (.int .u32 (F:Int)) W:=by
 subst hF;have hu:=Tryz.underlying132;have hg:=Zdb S k hk;simp [Instr.index,run_underlying hu,asIntOf,go_sem,hg];intro h;omega
theorem ZnP (S:Nat->Bool) (w:World) :
  Calls Tryz.prog 107 #[.agg (arr S)] w fun e w'=>e=.returned (.int .u32 (num (which S):Int))/\Below w.heap.size w w':=by
 have hix:=fun k (hk:k<16) F (hF:fld S k=F)=>Zfg S k F hk hF
 have hi:=Zln S;have hg:(w.alloc (.cells (arr S) 132)).heap[w.heap.size]?=some (.cells (arr S) 132 (0,0)):=heap_alloc_new _ _;have HX:=zh hix;generalize arr S=A at *;have h0:(0:Int)=(fld (upto S 0) 0:Int):=by rw [Znf,ZeX];rfl
 have H0:=zh h0;clear h0 hix;go_enter Tryz.func107,Tryz.ntmps107;go_wp2_with (refine wpList_load_row rfl 132 _ rfl w.heap.size rfl 132 A (0,0) _ hg Tryz.underlying132 rfl hi ?_);clear hg hi
 go_loopw [3,7] (fun v i wr=>∃k:Nat,k<=16/\i=.int .i64 k/\v=.int .u32 (fld (upto S k) 0:Int)/\wr=w.alloc (.cells A 132)) (fun _ i _=>16-(intOf i).toNat)
 case atStart=>exact⟨0,by omega,rfl,iv H0.out,rfl⟩
 case round=>
  obtain⟨k,hk,rfl,rfl,rfl⟩:=hrel;by_cases hlt:k<16
  ·have hk2:(k:Int)<16:=by omega
   have hxk:=HX.out k hlt _ rfl;have HU:=zh (Zng S k);by_cases hsome:ZaW S k=true
   ·have hne:((fld S k:Int) != 0)=true:=by
     rw [bne_iff_ne];intro e;rw [(Zb8 S k).1 (by omega)] at hsome;cases hsome
    have hor:bits BinOp.or IntKind.u32 (fld (upto S k) 0:Int) ((2^(15-k):Nat):Int)=(fld (upto S (k+1)) 0:Int):=by
     rw [u32_or_nat _ _ (by have:=ZeW (upto S k) 0;omega) (by have:2^(15-k)<=2^15:=Nat.pow_le_pow_right (by omega) (by omega);omega),Zel _ 0 k hlt,HU.out,if_pos hsome];simp
    have HOR:=zh hor;obtain⟨Z,hZ⟩:∃Z,2^(15-k)=Z:=⟨_,rfl⟩
    rw [hZ] at HOR;have HZ:=zh hZ;clear hor hZ hsome;generalize fld S k=F at *;generalize fld (upto S k) 0=V at *;go_wp2_with fail;refine(Zd3 _ k Z _ rfl (by omega) HZ.out).mono ?_;rintro e w' ⟨rfl,rfl⟩;go_wp2_with fail;go_roundw
    case rel=>exact⟨k+1,by omega,by go_num,iv HOR.out,by first|rfl|trivial⟩
    case measure=>simp [intOf];omega
   ·have hsf:ZaW S k=false:=by simpa using hsome
    have hz:(fld S k:Int)=0:=by rw [(Zb8 S k).2 hsf];rfl
    have HV:Hid ((fld (upto S (k+1)) 0:Int)=(fld (upto S k) 0:Int)):=zh (by rw [HU.out,hsf];rfl);rw [hz] at hxk;clear hz hsome hsf;generalize fld (upto S k) 0=V at *;go_wp2_with fail;go_roundw
    case rel=>exact⟨k+1,by omega,by go_num,iv HV.out.symm,by first|rfl|trivial⟩
    case measure=>simp [intOf];omega
  ·obtain rfl:k=16:=by omega
   have HF:=zh (ZpL S);generalize fld (upto S 16) 0=V at *;go_wp2_with fail;go_ret;rw [HF.out];exact⟨rfl,(Below.refl _ _).alloc (Nat.le_refl _) _⟩
theorem Zig (F Z:Nat) (b:Bool) (hF:F<65536) (hZ:Z<=32768) (h0:0<Z) (h:F &&& Z=if b then Z else 0):(bits BinOp.and IntKind.u32 (F:Int) (Z:Int) != 0)=b:=by
 rw [u32_and_nat _ _ (by omega) (by omega),h];cases b
 ·rfl
 ·rw [bne_iff_ne];simp only [if_true];omega
theorem Zmh (s:ByteArray):(!s.toList.isEmpty)=decide (s.size≠0):=by
 rw [<-decide_eq_emptyBytes s,<-decide_not];congr 1;rw [eq_iff_iff];constructor
 ·intro h e;exact h (ByteArray.ext (Array.eq_empty_of_size_eq_zero e))
 ·rintro h rfl;exact h rfl
theorem ZrI (s:ByteArray) (r:Bool) (w:World) (hs:s.size<=9223372036854775807) (hr:r=true↔IsSyms s.data.toList) :
  Calls Tryz.prog 106 #[.string s] w fun e w'=>e=.returned (.bool r)/\∃n,w'=w.drewN n:=by
 have hsz:s.data.toList.length=s.size:=rfl;have H:=zh hr;clear hr;go_enter Tryz.func106,Tryz.ntmps106;go_wp2_with fail
 go_loopw [3] (fun i wr=>∃k:Nat,1<=k/\k<=max 1 s.size/\i=.int .i64 k/\(∃n,wr=w.drewN n)/\∀(j:Nat) (x y:UInt8),j+1<k->s.data.toList[j]?=some x->s.data.toList[j+1]?=some y->x.toNat<y.toNat) (fun i _=>s.size-(intOf i).toNat)
 case atStart=>exact⟨1,by omega,by omega,rfl,⟨0,rfl⟩,fun j x y h=>by omega⟩
 case round=>
  obtain⟨k,hk1,hk2,rfl,⟨n,rfl⟩,hR⟩:=hrel;have HR:=zh hR;clear hR;obtain⟨j,hj⟩:∃j,j+1=k:=⟨k-1,by omega⟩
  by_cases hlt:k<s.size
  ·have hk3:(1:Int)<=(k:Int):=by omega
   have h1:(k:Int)-1=(j:Int):=by omega
   have h2:IntKind.i64.wrap (j:Int)=(j:Int):=IntWalk.i64_in _ (by omega);have hjl:j<s.size:=by omega
   have hx1:s.data.toList[j]?=some s[j]:=List.getElem?_eq_getElem (l:=s.data.toList) (by simpa using hjl);have hx2:s.data.toList[j+1]?=some s[k]:=by rw [hj];exact List.getElem?_eq_getElem (l:=s.data.toList) (by simpa using hlt)
   have HX1:=zh hx1;have HX2:=zh hx2;clear hx1 hx2;by_cases hge:s[k].toNat<=s[j].toNat
   ·have hr:r=false:=by
     rw [Bool.eq_false_iff];intro hr;have:=(H.out.1 hr).1 j _ _ HX1.out HX2.out;omega
    have hd:((s[k].toNat:Int)<=(s[j].toNat:Int)):=by omega
    subst hr;go_wp2_with fail
    go_quiet (fail)
    go_wp2_with fail;go_ret;exact⟨rfl,_,Zh5 _ _ _⟩
   ·have hd:decide ((s[k].toNat:Int)<=(s[j].toNat:Int))=false:=by simp only [decide_eq_false_iff_not];omega
    go_wp2_with fail
    go_quiet (fail)
    go_wp2_with fail;go_roundw
    case rel=>
     refine⟨k+1,by omega,by omega,by go_num,⟨_,rfl⟩,fun i x y hi hx hy=>?_⟩;by_cases e:i=j
     ·subst e;rw [HX1.out] at hx;rw [HX2.out] at hy;cases hx;cases hy;omega
     ·exact HR.out i x y (by omega) hx hy
    case measure=>simp [intOf];omega
  ·have hr:r=decide (s.size≠0):=by
    rw [Bool.eq_iff_iff,H.out];simp only [decide_eq_true_eq];constructor
    ·intro h e;exact h.2 (List.eq_nil_of_length_eq_zero (hsz.trans e))
    ·intro h;refine⟨fun i x y hx hy=>HR.out i x y ?_ hx hy,fun e=>h (by rw [<-hsz,e];rfl)⟩;have:=(List.getElem?_eq_some_iff.1 hy).1;omega
   have he:=Zmh s;rw [<-hr] at he;have HE:=zh he;clear hr he;go_wp2_with fail;go_ret;exact⟨congrArg (fun b=>Ending.returned (Value.bool b)) HE.out,_,rfl⟩
theorem ZrJ (s:ByteArray) (w:World) (hs:s.size<=9223372036854775807) (h:IsSyms s.data.toList) :
  Calls Tryz.prog 106 #[.string s] w fun e w'=>e=.returned (.bool true)/\∃n,w'=w.drewN n:=ZrI s true w hs ⟨fun _=>h,fun _=>rfl⟩
theorem ZtS (s:ByteArray) (w:World) (hs:s.size<=9223372036854775807) (h:¬IsSyms s.data.toList) :
  Calls Tryz.prog 106 #[.string s] w fun e w'=>e=.returned (.bool false)/\∃n,w'=w.drewN n:=ZrI s false w hs ⟨fun e=>(by cases e),fun e=>absurd e h⟩
end
section
open Go.RowKit UsedM MtfM
theorem ZcG {P:Program} {ops:Array Oper} {rest:List Oper} {o:Oper} {a:Act} {w:World} {Q:Exit->Act->World->Prop} (hgd:o.guard=none) (d s:Operand) (t t':TypeId)
  (ho:o.op=.call { callee:=.builtin .copy,args:=#[d,s],argTypes:=#[t,t'] }) (v u:Value) (hd:a.eval d=v) (hs:a.eval s=u) {v':Value} {w':World}
  (hr:(Builtin.copy_ #[t,t'] o.type #[v,u]).run P w=.ok v' w') (h:wpList P ops Q rest (a.put o.dst v') w'):wpList P ops Q (o::rest) a w:=
 wpList_plain hgd fun K hK=>by
  unfold Oper.wp execOp;simp only [ho,resolve,invoke,builtin,Sem.run_bind,Sem.run_pure,Result.andThen_ok,List.map_toArray,List.map_cons,List.map_nil,hd,hs,hr];exact hK _ _ h
def z8:Value:=.int .u8 0
def lcells (l:List UInt8):Array Value:=(l.map u8v++List.replicate (256-l.length) z8++[Value.int .i64 (l.length:Int)]).toArray
theorem Zci (l:List UInt8) (h:l.length<=256):(lcells l).size=257:=by
 simp [lcells];omega
theorem Zmi (l:List UInt8) (i:Nat) (x:UInt8) (h:l[i]?=some x):(lcells l)[i]?=some (u8v x):=by
 have hi:=(List.getElem?_eq_some_iff.1 h).1;unfold lcells;rw [List.getElem?_toArray,List.append_assoc,List.getElem?_append_left (by simpa using hi),List.getElem?_map,h];rfl
theorem Zmj (l:List UInt8) (h:l.length<=256):(lcells l)[256]?=some (.int .i64 (l.length:Int)):=by
 unfold lcells;rw [List.getElem?_toArray,List.getElem?_append_right (by simp;omega)];have:256-(l.map u8v++List.replicate (256-l.length) z8).length=0:=by simp;omega
 rw [this];rfl
def IsList (w:World) (b:Nat) (l:List UInt8):Prop:=l.length<=256/\w.heap[b]?=some (.cells (lcells l) 215 (0,0))
theorem IsList.lt {w:World} {b:Nat} {l:List UInt8} (h:IsList w b l):b<w.heap.size:=(Array.getElem?_eq_some_iff.1 h.2).1
theorem IsList.cells {w:World} {b:Nat} {l:List UInt8} (h:IsList w b l):w.cell? ⟨b,256,none⟩=some (.int .i64 (l.length:Int))/\∀i x,l[i]?=some x->w.cell? ⟨b,i,none⟩=some (.int .u8 (x.toNat:Int)):=
 ⟨by rw [cell_of_row _ _ _ _ _ _ h.2,Zmj l h.1],fun i x hx=>by rw [cell_of_row _ _ _ _ _ _ h.2,Zmi l i x hx];rfl⟩
theorem IsList.other {w w':World} {b:Nat} {l:List UInt8} {S:Nat->Prop} (h:IsList w b l) (ht:Touch S w w') (hS:¬S b):IsList w' b l:=⟨h.1,(ht.block b h.lt hS).trans h.2⟩
theorem IsList.below {w w':World} {b B:Nat} {l:List UInt8} (h:IsList w b l) (ht:Below B w w') (hB:b<B):IsList w' b l:=⟨h.1,(ht.block b hB).trans h.2⟩
theorem IsList.drewN {w:World} {b:Nat} {l:List UInt8} (h:IsList w b l) (n:Nat):IsList (w.drewN n) b l:=h
theorem Zih (b:Nat) (l:List UInt8) (w:World) (h:IsList w b l):Calls Tryz.prog 161 #[.pointer (some ⟨b,0,none⟩)] w fun e w'=>e=.returned (.slice (some ⟨b,0,none⟩) l.length 256)/\∃n,w'=w.drewN n:=by
 have c0:=h.cells.1;have hl:=h.1;have hl2:(l.length:Int)<=256:=by omega
 have hl0:(0:Int)<=(l.length:Int):=by omega
 clear h;go_enter Tryz.func161,Tryz.ntmps161;go_wp2_with fail
 go_quiet (fail)
 go_wp2_with fail;go_ret;exact⟨rfl,_,rfl⟩
theorem Zii (b cap:Nat) (l:List UInt8) (c:UInt8) (w:World) (h:∀i x,l[i]?=some x->w.cell? ⟨b,i,none⟩=some (.int .u8 (x.toNat:Int))) :
  Calls Tryz.prog 160 #[.slice (some ⟨b,0,none⟩) l.length cap,.int .u8 (c.toNat:Int)] w fun e w'=>e=.returned (.int .i64 (Lib.indexByte l c))/\w=w':=by
 have hb:Lib.bytesOf (l.map fun x=>(x.toNat:Int))=l:=by
  unfold Lib.bytesOf;rw [List.map_map]
  conv=>rhs;rw [<-List.map_id l]
  apply List.map_congr_left;intro x _;simp
 have hc:(c.toNat:Int).toNat.toUInt8=c:=by simp
 have hr:=Lib.run_indexByteSlice (P:=Tryz.prog) w b 0 l.length cap (l.map fun x=>(x.toNat:Int)) (by simp) (fun i hi=>by
  rw [Nat.zero_add,h i l[i] (List.getElem?_eq_getElem hi)];simp [hi]) (c.toNat:Int)
 rw [hb,hc] at hr
 have hcall:(callFunc 215 #[.slice (some ⟨b,0,none⟩) l.length cap,.int .u8 (c.toNat:Int)]).run Tryz.prog w=.ok (.value (.int .i64 (Lib.indexByte l c))) w:=by
  rw [run_callFunc_indexByte Tryz.func215 (by kernel_rfl) (by kernel_rfl) (by kernel_rfl) (by kernel_rfl),hr];rfl
 clear h hr hb hc;generalize Lib.indexByte l c=I at *;go_enter Tryz.func160,Tryz.ntmps160;go_wp2_with fail;go_ret;exact⟨rfl,rfl⟩
theorem ZjM (l:List UInt8) (i:Nat) (x:UInt8) (hl:l.length<=256) (hx:l[i]?=some x) :
  ((lcells l).toList.take 1++(l.take i).map u8v++(lcells l).toList.drop (1+i)).toArray.setIfInBounds 0 (u8v x)=lcells (touch l i):=by
 obtain⟨hi,he⟩:=List.getElem?_eq_some_iff.1 hx;have ht:=ZbD l i hi;rw [Zgh l i hi,he] at *;have hlist:(lcells l).toList=l.map u8v++List.replicate (256-l.length) z8++[Value.int .i64 (l.length:Int)]:=rfl;obtain⟨y,r,rfl⟩:∃y r,l=y::r:=List.exists_cons_of_ne_nil (by rintro rfl;simp at hi);apply Array.toList_inj.1;rw [Array.toList_setIfInBounds,hlist];unfold lcells;rw [ht];have e1:((y::r).map u8v++List.replicate (256-(y::r).length) z8++[Value.int .i64 ((y::r).length:Int)]).take 1=[u8v y]:=rfl;rw [e1,List.append_assoc,List.append_assoc,List.drop_append_of_le_length (by simp at hi ⊢;omega),<-List.map_drop,Nat.add_comm 1 i];simp
theorem Zmk (w:World) (b i ty:Nat) (l:List UInt8) (h:IsList w b l) (hi:i<l.length) :
  (Builtin.copy_ #[71,71] ty #[.slice (some ⟨b,1,none⟩) 255 255,.slice (some ⟨b,0,none⟩) i 256]).run Tryz.prog w=.ok (goInt i) (w.setRow b ((lcells l).toList.take 1++(l.take i).map u8v++(lcells l).toList.drop (1+i)).toArray):=by
 have hlen:((l.take i).map u8v).length=i:=by rw [List.length_map,List.length_take];omega
 have hm:Nat.min i 255=i:=Nat.min_eq_left (by have:=h.1;omega)
 have:=run_copy_row (P:=Tryz.prog) w 71 71 ty 5 b 1 255 255 ⟨b,0,none⟩ i 256 (lcells l) 215 ((l.take i).map u8v) Tryz.underlying71 (by kernel_rfl) h.2 (by rw [hlen,hm]) (fun j v hj=>by
  rw [List.getElem?_map] at hj;obtain⟨x,hx,rfl⟩:=Option.map_eq_some_iff.1 hj;rw [Addr.add_lit,Nat.zero_add];rw [List.getElem?_take] at hx;split at hx
  ·exact h.cells.2 j x hx
  ·cases hx) (by rw [hlen,Zci l h.1];have:=h.1;omega) (fun v hv=>by
  obtain⟨x,_,rfl⟩:=List.mem_map.1 hv;rfl)
 rw [hlen] at this;exact this
theorem Zij (b i:Nat) (x:UInt8) (l:List UInt8) (w:World) (h:IsList w b l) (hx:l[i]?=some x) :
  Calls Tryz.prog 162 #[.pointer (some ⟨b,0,none⟩),.int .i64 (i:Int)] w fun e w'=>e=.returned (.int .u8 (x.toNat:Int))/\IsList w' b (touch l i)/\Touch (·=b) w w':=by
 obtain⟨hi,he⟩:=List.getElem?_eq_some_iff.1 hx;have hl:=h.1;have c0:=h.cells.2 i x hx;have hi2:(i:Int)<256:=by omega
 have hi3:(i:Int)<=256:=by omega
 have hi0:(0:Int)<=(i:Int):=by omega
 have H:=zh h;have HT:=zh (ZjM l i x hl hx);have HL:=zh (ZbD l i hi);have hcp:=fun(n:Nat) (ty:Nat)=>Zmk (w.drewN n) b i ty l (h.drewN n) hi
 have HCP:=zh hcp;generalize hR:((lcells l).toList.take 1++(l.take i).map u8v++(lcells l).toList.drop (1+i)).toArray=R at *;clear h hcp hR;go_enter Tryz.func162,Tryz.ntmps162;go_wp2_with fail
 go_still_tail 9,(by kernel_rfl)
 refine ZcG rfl _ _ 71 71 rfl _ _ rfl rfl (HCP.out 1 _) ?_;have hset:((w.drewN 1).setRow b R).heap[b]?=some (.cells R 215 (0,0)):=setRow_heap _ _ _ _ _ _ (H.out.drewN 1).2
 have hRs:R.size=257:=by
  have:=congrArg Array.size HT.out;rw [Array.size_setIfInBounds,Zci _ (by rw [HL.out];exact hl)] at this;exact this
 have hT1:Touch (·=b) w ((w.drewN 1).setRow b R):=⟨rfl,rfl,rfl,by simp [World.setRow,World.drewN],fun j _ hj=>setRow_other (w.drewN 1) b j _ hj⟩
 generalize (w.drewN 1).setRow b R=W1 at *
 have d0:W1.cell? ⟨b,0,none⟩=some (R[0]'(by omega)):=by
  rw [cell_of_row _ _ _ _ _ _ hset,Array.getElem?_eq_getElem (by omega)]
 have d1:=frozen_of_row W1 b 0 _ _ hset;have hst:=heap_setCell_same W1 b 0 _ _ (u8v x) hset;rw [HT.out] at hst;have HST:=zh hst;have HT1:=zh hT1;clear hset hst hT1 HCP;go_wp2_with fail;go_ret;refine⟨rfl,⟨by rw [HL.out];exact hl,HST.out⟩,HT1.out.setCell (Or.inl rfl) _⟩
theorem ZnQ (b:Nat) (c:UInt8) (l:List UInt8) (w:World) (h:IsList w b l) (hn:Lib.indexByte l c=-1) :
  Calls Tryz.prog 102 #[.pointer (some ⟨b,0,none⟩),.int .u8 (c.toNat:Int)] w fun e w'=>e=.returned (.tuple #[.int .i64 0,.int .i64 6])/\∃n,w'=w.drewN n:=by
 have H:=zh h;have HI:=zh (fun n=>Zii b 256 l c (w.drewN n) (h.drewN n).cells.2);have HN:=zh hn;clear h hn;go_enter Tryz.func102,Tryz.ntmps102;go_wp2_with fail;refine(Zih b l w H.out).mono ?_;rintro e w' ⟨rfl,n,rfl⟩;go_wp2_with fail;refine(HI.out n).mono ?_;rintro e w' ⟨rfl,rfl⟩;rw [HN.out];go_wp2_with fail;go_ret2;exact⟨rfl,n,rfl⟩
theorem ZnR (b o:Nat) (c:UInt8) (l:List UInt8) (w:World) (h:IsList w b l) (hn:Lib.indexByte l c=(o:Int)) (hx:l[o]?=some c) :
  Calls Tryz.prog 102 #[.pointer (some ⟨b,0,none⟩),.int .u8 (c.toNat:Int)] w fun e w'=>e=.returned (.tuple #[.int .i64 (o:Int),.int .i64 0])/\IsList w' b (touch l o)/\Touch (·=b) w w':=by
 have H:=zh h;have HI:=zh (fun n=>Zii b 256 l c (w.drewN n) (h.drewN n).cells.2);have HN:=zh hn;have HX:=zh hx;clear h hn hx;go_enter Tryz.func102,Tryz.ntmps102;go_wp2_with fail;refine(Zih b l w H.out).mono ?_;rintro e w' ⟨rfl,n,rfl⟩;go_wp2_with fail;refine(HI.out n).mono ?_;rintro e w' ⟨rfl,rfl⟩;rw [HN.out];go_wp2_with fail;refine(Zij b o c l _ (H.out.drewN n) HX.out).mono ?_;rintro e w' ⟨rfl,h1,h2⟩;have H1:=zh h1;have H2:=zh h2;clear h1 h2;go_wp2_with fail;go_ret2;exact⟨rfl,H1.out,⟨H2.out.os,H2.out.tape,H2.out.output,H2.out.size,H2.out.block⟩⟩
theorem Zp8 (b i:Nat) (x:UInt8) (l:List UInt8) (w:World) (h:IsList w b l) (hx:l[i]?=some x) :
  Calls Tryz.prog 184 #[.pointer (some ⟨b,0,none⟩),.int .i64 (i:Int)] w fun e w'=>e=.returned (.tuple #[.int .u8 (x.toNat:Int),.int .i64 0])/\IsList w' b (touch l i)/\Touch (·=b) w w':=by
 have c0:=h.cells.1;obtain⟨hi,_⟩:=List.getElem?_eq_some_iff.1 hx;have hi1:(i:Int)<(l.length:Int):=by omega
 have hi0:(0:Int)<=(i:Int):=by omega
 have H:=zh h;have HX:=zh hx;clear h hx;go_enter Tryz.func184,Tryz.ntmps184;go_wp2_with fail;refine(Zij b i x l w H.out HX.out).mono ?_;rintro e w' ⟨rfl,h1,h2⟩;have H1:=zh h1;have H2:=zh h2;clear h1 h2;go_wp2_with fail;go_ret2;exact⟨rfl,H1.out,H2.out⟩
theorem Zsm:Tryz.prog.built 215 []=some (lcells []):=by kernel_rfl
theorem Zsn {α:Type} (N n:Nat) (l:List α) (z v0 v:α) (hl:l.length=n) (h:n<=N):(l++(List.replicate N z++[v0]).drop n).set N v=l++List.replicate (N-n) z++[v]:=by
 subst hl;rw [List.drop_append_of_le_length (by rw [List.length_replicate];exact h),List.drop_replicate,<-List.append_assoc,List.set_append_right _ _ (by rw [List.length_append,List.length_replicate];omega)];have:N-(l++List.replicate (N-l.length) z).length=0:=by rw [List.length_append,List.length_replicate];omega
 rw [this];rfl
theorem ZnS (s:ByteArray) (h:s.size<=256) :
  ((lcells []).toList.take 0++Lib.byteCells s.data.toList++(lcells []).toList.drop (0+s.size)).toArray.setIfInBounds 256 (.int .i64 (s.size:Int))=lcells s.data.toList:=by
 have hz:(lcells []).toList=List.replicate 256 z8++[Value.int .i64 0]:=rfl;have hl:s.data.toList.length=s.size:=rfl;have hb:Lib.byteCells s.data.toList=s.data.toList.map u8v:=rfl;have hbl:(s.data.toList.map u8v).length=s.size:=by rw [List.length_map];exact hl
 have he:=Zsn 256 s.size (s.data.toList.map u8v) z8 (Value.int .i64 0) (.int .i64 (s.size:Int)) hbl h;apply Array.toList_inj.1;rw [Array.toList_setIfInBounds,hz,hb,Nat.zero_add,List.take_zero,List.nil_append];unfold lcells;rw [hl];exact he
theorem Zp9 (s:ByteArray) (w:World) (hs:s.size<=9223372036854775807) (h:¬IsSyms s.data.toList) :
  Calls Tryz.prog 101 #[.string s] w fun e w'=>e=.returned (.tuple #[.pointer none,.int .i64 1])/\∃n,w'=w.drewN n:=by
 go_enter Tryz.func101,Tryz.ntmps101;go_wp2_with fail;refine(ZtS s w hs h).mono ?_;rintro e w' ⟨rfl,n,rfl⟩;go_wp2_with fail;go_ret2;exact⟨rfl,n,rfl⟩
theorem Zik (s:ByteArray) (w:World) (hs:s.size<=256) (h:IsSyms s.data.toList) :
  Calls Tryz.prog 101 #[.string s] w fun e w'=>e=.returned (.tuple #[.pointer (some ⟨w.heap.size,0,none⟩),.int .i64 0])/\IsList w' w.heap.size s.data.toList/\Below w.heap.size w w':=by
 have HC:=zh (ZnS s hs);have hb:=Zsm;have hZs:=Zci [] (by simp);generalize lcells []=Z at *;have hcp:=fun(W:World) (ty:Nat) (hg:W.heap[w.heap.size]?=some (.cells Z 215 (0,0)))=>Lib.run_copy_row_string (P:=Tryz.prog) W 71 9 ty 5 w.heap.size 0 256 256 s Z 215 Tryz.underlying71 (by kernel_rfl) hg hs (by rw [hZs];omega)
 generalize hR:(Z.toList.take 0++Lib.byteCells s.data.toList++Z.toList.drop (0+s.size)).toArray=R at *
 have hRs:R.size=257:=by
  have:=congrArg Array.size HC.out;rw [Array.size_setIfInBounds,Zci _ (by exact hs)] at this;exact this
 have HCP:=zh hcp;have HY:=zh h;clear hcp hR h;go_enter Tryz.func101,Tryz.ntmps101;go_wp2_with fail;refine(ZrJ s w (by omega) HY.out).mono ?_;rintro e w' ⟨rfl,n,rfl⟩;have hg:((w.drewN n).alloc (.cells Z 215)).heap[w.heap.size]?=some (.cells Z 215 (0,0)):=heap_alloc_new (w.drewN n) _;have hset:=setRow_heap _ _ _ R _ _ hg;have hbel:Below w.heap.size w (((w.drewN n).alloc (.cells Z 215)).setRow w.heap.size R):=Zae (((Below.refl w.heap.size w).trans (Zai w n)).alloc (by exact Nat.le_refl _) _) (Nat.le_refl _) R;have hcp1:=fun ty=>HCP.out ((w.drewN n).alloc (.cells Z 215)) ty hg
 have HCP1:=zh hcp1;generalize hW1:((w.drewN n).alloc (.cells Z 215)).setRow w.heap.size R=W1 at *
 have d0:W1.cell? ⟨w.heap.size,256,none⟩=some (R[256]'(by omega)):=by
  rw [cell_of_row _ _ _ _ _ _ hset,Array.getElem?_eq_getElem (by omega)]
 have d1:=frozen_of_row W1 w.heap.size 256 _ _ hset;have hst:=heap_setCell_same W1 w.heap.size 256 _ _ (.int .i64 (s.size:Int)) hset;rw [HC.out] at hst;have HST:=zh hst;have HB:=zh hbel;clear hg hset hbel hcp1 hst;go_wp2_with (first|(refine ZaM rfl 215 rfl Z hb ?_)|(refine ZcG rfl _ _ 71 9 rfl _ _ rfl rfl (HCP1.out _) ?_));go_ret2;exact⟨rfl,⟨hs,HST.out⟩,HB.out.setCell (Nat.le_refl _) _⟩
def encK (l:List UInt8) (s:List UInt8):Nat->Option (List Int×List UInt8)
 | 0=>some ([],l)
 | k+1=>match encK l s k with
  | none=>none
  | some (zs,m)=>if Lib.indexByte m (s.getD k 0)<0 then none else some (zs++[Lib.indexByte m (s.getD k 0)],touch m (Lib.indexByte m (s.getD k 0)).toNat)
theorem Za3 (l s:List UInt8) (k:Nat):encK l s (k+1)=match encK l s k with
  | none=>none
  | some (zs,m)=>if Lib.indexByte m (s.getD k 0)<0 then none else some (zs++[Lib.indexByte m (s.getD k 0)],touch m (Lib.indexByte m (s.getD k 0)).toNat):=rfl
theorem ZbX (l s:List UInt8):∀(d k:Nat),encK l s k=none->encK l s (k+d)=none
 | 0,k,h=>h
 | d+1,k,h=>by rw [<-Nat.add_assoc,Za3,ZbX l s d k h]
theorem encK_len (l s:List UInt8):∀(k:Nat) zs m,encK l s k=some (zs,m)->zs.length=k/\m.length=l.length
 | 0,zs,m,h=>by cases h;exact⟨rfl,rfl⟩
 | k+1,zs,m,h=>by
  rw [Za3] at h;split at h
  ·cases h
  ·rename_i ys o ho;have ih:=encK_len l s k ys o ho;split at h
   ·cases h
   ·rename_i hlt;cases h;rcases Za5 o (s.getD k 0) with h1|⟨p,h1,h2,_⟩
    ·rw [h1] at hlt;omega
    ·rw [h1,ZbD o _ (by simpa using h2)];simp [ih.1,ih.2]
def EncP (s l:List UInt8) (zs:List Int) (err:Nat):Prop:=
 (¬IsSyms l/\zs=[]/\err=1)\/(IsSyms l/\encK l s s.length=none/\zs=[]/\err=6)\/(IsSyms l/\(∃m,encK l s s.length=some (zs,m))/\err=0)
theorem Zml (s t:ByteArray) (w:World) (hs:s.size<=300) (ht:t.size<=9223372036854775807) :
  Calls Tryz.prog 52 #[.string s,.string t] w fun e w'=>∃(v:Value) (zs:List Int) (err:Nat),e=.returned (.tuple #[v,.int .i64 (err:Int)])/\IsInts w' v zs/\Below w.heap.size w w'/\EncP s.data.toList t.data.toList zs err:=by
 by_cases hy:IsSyms t.data.toList
 ·have htz:t.size<=256:=Zdm hy;have HNEW:=zh (fun w=>Zik t w htz hy);have hlt:t.data.toList.length=t.size:=rfl;have hls:s.data.toList.length=s.size:=rfl;have HMK:=zh (fun W=>Za2 s.size (by omega) W);have hsi:(s.size:Int)<=300:=by omega
  go_enter Tryz.func52,Tryz.ntmps52;go_wp2_with fail;refine(HNEW.out w).mono ?_;rintro e w1 ⟨rfl,hL,hB⟩;have hmk:=HMK.out w1
  have hrow:(w1.alloc (.cells (madeCells #[Value.int .i64 0] s.size) 3)).heap[w1.heap.size]?=some (.cells (([]:List Int).map iv64++List.replicate (s.size-0) (iv64 0)).toArray 3 (0,0)):=by
   rw [<-Zk1];exact heap_alloc_new _ _
  have hL1:IsList (w1.alloc (.cells (madeCells #[Value.int .i64 0] s.size) 3)) w.heap.size t.data.toList:=hL.below ((Below.refl w1.heap.size w1).alloc (Nat.le_refl _) _) hL.lt;have hB1:Below w.heap.size w (w1.alloc (.cells (madeCells #[Value.int .i64 0] s.size) 3)):=hB.alloc hB.size _;have hlw:=hL.lt;generalize hg:w1.heap.size=g at *;have HL1:=zh hL1;have HB1:=zh hB1;have HR1:=zh hrow;generalize w1.alloc (.cells (madeCells #[Value.int .i64 0] s.size) 3)=w2 at *;clear hL hB hrow hL1 hB1;have hgw:w.heap.size<g:=hlw;go_wp2_with fail
  go_loopw [7,23] (fun e i wr=>∃(k:Nat) (zs:List Int) (m:List UInt8),k<=s.size/\i=.int .i64 k/\e=.int .i64 0/\encK t.data.toList s.data.toList k=some (zs,m)/\IsList wr w.heap.size m/\Below w.heap.size w wr/\wr.heap[g]?=some (.cells (zs.map iv64++List.replicate (s.size-k) (iv64 0)).toArray 3 (0,0))) (fun _ i _=>s.size-(intOf i).toNat)
  case atStart=>exact⟨0,[],_,by omega,rfl,rfl,rfl,HL1.out,HB1.out,HR1.out⟩
  case round=>
   clear HL1 HB1 HR1;obtain⟨k,zs,m,hk,rfl,rfl,he,hL,hB,hR⟩:=hrel;have HE:=zh he;have HL:=zh hL;have HB:=zh hB;have HR:=zh hR;clear he hL hB hR;by_cases hlk:k<s.size
   ·have hki:(k:Int)<(s.size:Int):=by omega
    have hgd:s.data.toList.getD k 0=s[k]:=by
     rw [List.getD_eq_getElem?_getD,List.getElem?_eq_getElem (by simpa using hlk)];rfl
    have hzl:=(encK_len _ _ _ _ _ HE.out).1;have hstep:=Za3 t.data.toList s.data.toList k;rw [HE.out,hgd] at hstep;have HST:=zh hstep;clear hstep hgd;have hxk:=s[k].toNat_lt
    have HCL:Hid (∀W:World,W.heap[g]?=some (.cells (zs.map iv64++List.replicate (s.size-k) (iv64 0)).toArray 3 (0,0))->W.cell? ⟨g,k,none⟩=some (.int .i64 0)/\W.frozen? ⟨g,k,none⟩=false /\
      ∀x:Int,(W.setCell ⟨g,k,none⟩ (.int .i64 x)).heap[g]?=some (.cells ((zs++[x]).map iv64++List.replicate (s.size-(k+1)) (iv64 0)).toArray 3 (0,0))):=zh (fun W hW=>by
     refine⟨?_,frozen_of_row _ _ _ _ _ hW,fun x=>?_⟩
     ·rw [cell_of_row _ _ _ _ _ _ hW,List.getElem?_toArray,List.getElem?_append_right (by simp [hzl])];have hkk:k-(zs.map iv64).length=0:=by rw [List.length_map,hzl];omega
      rw [hkk,List.getElem?_replicate,if_pos (by omega)];rfl
     ·rw [<-Zr2 s.size k zs x hlk hzl];exact heap_setCell_same _ _ k _ _ _ hW)
    rcases Za5 m s[k] with hp|⟨o,hp,ho,hx⟩
    ·have hnone:encK t.data.toList s.data.toList (k+1)=none:=by rw [HST.out];simp only [hp];rfl
     have hfin:encK t.data.toList s.data.toList s.size=none:=by
      have:=ZbX t.data.toList s.data.toList (s.size-(k+1)) (k+1) hnone
      rwa [show k+1+(s.size-(k+1))=s.size by omega] at this
     have HF:=zh hfin;have HP:=zh hp;clear hnone hfin hp hzl;go_wp2_with fail;refine(ZnQ w.heap.size s[k] m wr HL.out HP.out).mono ?_;rintro e w' ⟨rfl,n,rfl⟩;obtain⟨d0,d1,_⟩:=HCL.out (wr.drewN n) HR.out;go_wp2_with fail;go_ret2;exact⟨_,[],6,rfl,IsInts.nil _,(HB.out.trans ((Zai wr n).mono HB.out.size)).setCell (by show w.heap.size<=g;omega) _,Or.inr (Or.inl ⟨hy,HF.out,rfl,rfl⟩)⟩
    ·have hsome:encK t.data.toList s.data.toList (k+1)=some (zs++[(o:Int)],touch m o):=by
      rw [HST.out];simp only [hp];rw [if_neg (by omega)];rfl
     have HS:=zh hsome;have HP:=zh hp;have HX:=zh hx;clear hsome hp hx hzl;go_wp2_with fail;refine(ZnR w.heap.size o s[k] m wr HL.out HP.out HX.out).mono ?_;rintro e w3 ⟨rfl,h1,h2⟩;have hlg:g<wr.heap.size:=(Array.getElem?_eq_some_iff.1 HR.out).1;have hr3:w3.heap[g]?=some (.cells (zs.map iv64++List.replicate (s.size-k) (iv64 0)).toArray 3 (0,0)):=(h2.block g hlg (fun e=>by have e':g=w.heap.size:=e;omega)).trans HR.out;obtain⟨d0,d1,d2⟩:=HCL.out w3 hr3;have HL3:=zh (h1.other ((Touch.refl (·=g) w3).setCell (p:=⟨g,k,none⟩) (Or.inl rfl) (.int .i64 (o:Int))) (fun e=>by have e':w.heap.size=g:=e;omega));have HB3:=zh ((HB.out.trans (h2.below HB.out.size (fun i hi=>by have hi':i=w.heap.size:=hi;omega))).setCell (p:=⟨g,k,none⟩) (by show w.heap.size<=g;omega) (.int .i64 (o:Int)));have HD2:=zh (d2 (o:Int));clear h1 h2 hr3 d2;go_wp2_with fail;go_roundw
     case rel=>exact⟨k+1,_,_,by omega,by go_num,rfl,HS.out,HL3.out,HB3.out,HD2.out⟩
     case measure=>simp [intOf];omega
   ·obtain rfl:k=s.size:=by omega
    have hzl:=(encK_len _ _ _ _ _ HE.out).1;go_wp2_with fail;go_ret2;exact⟨_,zs,0,rfl,Zc6 HR.out hzl.symm,HB.out,Or.inr (Or.inr ⟨hy,⟨m,HE.out⟩,rfl⟩)⟩
 ·have HNEW:=zh (fun w=>Zp9 t w ht hy);go_enter Tryz.func52,Tryz.ntmps52;go_wp2_with fail;refine(HNEW.out w).mono ?_;rintro e w' ⟨rfl,n,rfl⟩;go_wp2_with fail;go_ret2;exact⟨_,[],1,rfl,IsInts.nil _,Zai w n,Or.inl ⟨hy,rfl,rfl⟩⟩
end
section
end
section
open Go.RowKit BitM UsedM
theorem Zlq (S:Nat->Bool) (i:Nat) (hi:i<16) (W:World):(part 22 (arr S) i).run Tryz.prog W=.ok (.int .u32 (fld S i:Int)) W:=by
 have ha:=Tryz.isAgg22;have hg:=Zdb S i hi;simp [part,go_sem,hg]
theorem Zfi (S T:Nat->Bool) (d:Nat) (W:World):∀(is:List Nat),(∀i∈is,i<16) ->
  (Op.eqItems (d+1) 22 1 (arr S) (arr T) is).run Tryz.prog W=.ok (is.all fun i=>fld S i==fld T i) W
 | [],_=>by simp [Op.eqItems]
 | i::is,h=>by
  have hu:=Tryz.underlying22;have hi:=h i (by simp);have ih:=Zfi S T d W is (fun j hj=>h j (by simp [hj]));have hq:=run_equalIn_int (P:=Tryz.prog) W d 22 .u32 .u32 (fld S i:Int) (fld T i:Int) hu
  have he:((fld S i:Int)==(fld T i:Int))=(fld S i==fld T i):=by
   rw [Bool.eq_iff_iff];simp only [beq_iff_eq];omega
  simp only [Op.eqItems,Sem.run_bind,Nat.mul_one,Zlq S i hi W,Zlq T i hi W,Result.andThen_ok,hq,he];cases hc:(fld S i==fld T i)
  ·simp [hc]
  ·simp [hc,ih]
theorem ZnT (S T:Nat->Bool) (r:Bool) (hr:((List.range 16).all fun i=>fld S i==fld T i)=r) (W:World):(binOp .eql 132 (.agg (arr S)) (.agg (arr T))).run Tryz.prog W=.ok (.bool r) W:=by
 subst hr;have hu:=Tryz.underlying132;obtain⟨i,hi,hs⟩:=Option.map_eq_some_iff.1 (show(Tryz.prog.info? 22).map (fun i=>i.size)=some 1 by kernel_rfl);have hc:Tryz.prog.cellsOf 22=1:=by kernel_rfl
 rw [run_eql_struct,run_equalIn_array W 9999 (arr S) (arr T) hu hi,hc,Zfi S T 9998 W (List.range 16) (fun j hj=>List.mem_range.1 hj)];rfl
theorem Zlr (S:Nat->Bool) (hS:∀b,256<=b->S b=false):((List.range 16).all fun i=>fld S i==fld (fun _=>false) i)=decide (syms S 256=[]):=by
 rw [Bool.eq_iff_iff,List.all_eq_true];simp only [decide_eq_true_eq,ZeX,beq_iff_eq,List.mem_range];rw [ZeF];constructor
 ·intro h b hb;have h1:=(Zb8 S (b / 16)).1 (h (b / 16) (by omega));have h2:=Zgg S (b / 16) h1 (b % 16) (by omega)
  rwa [show 16*(b / 16)+b % 16=b by omega] at h2
 ·intro h i hi;rw [Zb8];unfold ZaW row;rw [List.any_eq_false];intro x hx;obtain⟨k,hk,rfl⟩:=List.mem_map.1 hx;have hk:=List.mem_range.1 hk;rw [h (16*i+k) (by omega)];simp
def UsWrote (w w':World) (b:Nat) (v:Value) (q:List Bool) (tk:Nat) (f:List Bool):Prop:=
 ∃v1,IsWriter w' b v1 (q++f) tk/\Touch (foot b v) w w'/\(∀k,v1.ownBlock=some k->v.ownBlock=some k\/w.heap.size<=k)
theorem UsWrote.put {w w1 w2:World} {b:Nat} {v v1 v2:Value} {q f g:List Bool} {tk:Nat} (h1:IsWriter w1 b v1 (q++f) tk) (h2:Touch (foot b v) w w1) (h3:∀k,v1.ownBlock=some k->v.ownBlock=some k\/w.heap.size<=k)
  (k1:IsWriter w2 b v2 ((q++f)++g) tk) (k2:Touch (foot b v1) w1 w2) (k3:∀k,v2.ownBlock=some k->v1.ownBlock=some k\/w1.heap.size<=k):UsWrote w w2 b v q tk (f++g):=
 ⟨v2,by rwa [<-List.append_assoc],h2.trans k2 (fun i hi=>by
  rcases hi with rfl|hi
  ·exact Or.inl (Or.inl rfl)
  ·rcases h3 i hi with h|h
   ·exact Or.inl (Or.inr h)
   ·exact Or.inr h),fun k hk=>by
  rcases k3 k hk with h|h
  ·exact h3 k h
  ·have:=h2.size;exact Or.inr (by omega)⟩
theorem Zqa (S:Nat->Bool) (w:World) (g:Nat) (A:Array Value) (h:w.heap[g]?=some (.cells A 132 (0,0))) (w':World) (hb:Below w.heap.size w w'):w'.heap[g]?=some (.cells A 132 (0,0)):=
 (hb.block g (Array.getElem?_eq_some_iff.1 h).1).trans h
theorem ZnU (b:Nat) (v:Value) (q:List Bool) (tk:Nat) (s:ByteArray) (w:World) (h:IsWriter w b v q tk) (hs:s.size<=maxLen) (hy:IsSyms s.data.toList) (hq:q.length<=1000000) :
  Calls Tryz.prog 54 #[.pointer (some ⟨b,0,none⟩),.string s] w fun e w'=>e=.returned (.int .i64 0)/\UsWrote w w' b v q tk (ubits (has s.data.toList)):=by
 have hs2:s.size<=9223372036854775807:=by unfold maxLen at hs;omega
 have H:=zh h;clear h;go_enter Tryz.func54,Tryz.ntmps54;go_wp2_with fail;refine(ZrJ s w hs2 hy).mono ?_;rintro e w' ⟨rfl,n,rfl⟩;go_wp2_with fail;refine(Zlo s _ hs).mono ?_;rintro e w1 ⟨rfl,hb⟩;have HB:=zh ((Zai w n).trans hb);clear hb;generalize hS:has s.data.toList=S at *;have HX:=zh (fun k (hk:k<16) F (hF:fld S k=F)=>Zfg S k F hk hF);have HW:=zh (fun w=>ZnP S w);have hi:=Zln S;have hac:=ZdE S;have h16:=Zbe S;obtain⟨A,hA⟩:∃A,arr S=A:=⟨_,rfl⟩
 simp only [hA] at HX HW hi hac h16 ⊢;have hg0:(w1.alloc (.cells #[.int .u32 0,.int .u32 0,.int .u32 0,.int .u32 0,.int .u32 0,.int .u32 0,.int .u32 0,.int .u32 0,.int .u32 0,.int .u32 0,.int .u32 0,.int .u32 0,.int .u32 0,.int .u32 0,.int .u32 0,.int .u32 0] 132)).heap[w1.heap.size]?=some (.cells #[.int .u32 0,.int .u32 0,.int .u32 0,.int .u32 0,.int .u32 0,.int .u32 0,.int .u32 0,.int .u32 0,.int .u32 0,.int .u32 0,.int .u32 0,.int .u32 0,.int .u32 0,.int .u32 0,.int .u32 0,.int .u32 0] 132 (0,0)):=heap_alloc_new _ _;have hg1:=setRow_heap _ _ _ A _ _ hg0;have HB1:=zh (Zae (B:=w.heap.size) (HB.out.alloc HB.out.size (.cells #[.int .u32 0,.int .u32 0,.int .u32 0,.int .u32 0,.int .u32 0,.int .u32 0,.int .u32 0,.int .u32 0,.int .u32 0,.int .u32 0,.int .u32 0,.int .u32 0,.int .u32 0,.int .u32 0,.int .u32 0,.int .u32 0] 132)) (by exact HB.out.size) A);have hsz1:((w1.alloc (.cells #[.int .u32 0,.int .u32 0,.int .u32 0,.int .u32 0,.int .u32 0,.int .u32 0,.int .u32 0,.int .u32 0,.int .u32 0,.int .u32 0,.int .u32 0,.int .u32 0,.int .u32 0,.int .u32 0,.int .u32 0,.int .u32 0] 132)).setRow w1.heap.size A).heap.size=w1.heap.size+1:=by rw [Zaw];simp
 have hold:(#[.int .u32 0,.int .u32 0,.int .u32 0,.int .u32 0,.int .u32 0,.int .u32 0,.int .u32 0,.int .u32 0,.int .u32 0,.int .u32 0,.int .u32 0,.int .u32 0,.int .u32 0,.int .u32 0,.int .u32 0,.int .u32 0]:Array Value).size=A.size:=h16.symm;generalize hW2:(w1.alloc (.cells #[.int .u32 0,.int .u32 0,.int .u32 0,.int .u32 0,.int .u32 0,.int .u32 0,.int .u32 0,.int .u32 0,.int .u32 0,.int .u32 0,.int .u32 0,.int .u32 0,.int .u32 0,.int .u32 0,.int .u32 0,.int .u32 0] 132)).setRow w1.heap.size A=w2 at *;go_wp2_with (first|(refine wpList_load_row rfl 132 _ rfl w1.heap.size rfl 132 A (0,0) _ (by exact hg1) Tryz.underlying132 rfl hi ?_)|(refine wpList_store_row rfl 132 _ _ rfl w1.heap.size A rfl rfl 132 _ hg0 hi hold hac ?_;rw [hW2]));refine(HW.out w2).mono ?_;rintro e w3 ⟨rfl,hb3⟩;have hg3:=Zqa S w2 _ A hg1 w3 hb3;have HB3:=zh (HB1.out.trans (hb3.mono (by have:=HB.out.size;omega)));have hw3:=hb3.size;have HW3:=zh (H.out.other (Touch.ofBelow (S:=fun _=>False) HB3.out) (fun _ _ h=>h));have HN:=zh (ZaB (which S));have HFW:=zh (Zjn S);clear hb3 hg1;go_wp2_with fail;refine(ZdX b v q tk (num (which S)) 16 w3 HW3.out (by omega) (by have:=HN.out;rwa [ZaK] at this) (by omega)).mono ?_;rintro e w4 ⟨rfl,v4,hp1,hp2,hp3⟩;rw [HFW.out] at hp1;have hg4:w4.heap[w1.heap.size]?=some (.cells A 132 (0,0)):=(hp2.block _ (by omega) (fun hf=>by have:=(H.out.lt _ hf).1;have:=HB.out.size;omega)).trans hg3;have HWR:=zh (show UsWrote w w4 b v q tk (which S++rows S 0) from⟨v4,by rw [Zne,List.append_nil];exact hp1,(Touch.ofBelow HB3.out).trans hp2 (fun i hi=>Or.inl hi),fun k hk=>(hp3 k hk).imp id (fun h=>by have:=HB3.out.size;omega)⟩);clear hp1 hp2 hp3 hg3;go_wp2_with (refine wpList_load_row rfl 132 _ rfl w1.heap.size rfl 132 A (0,0) _ (by exact hg4) Tryz.underlying132 rfl hi ?_)
 go_loopw [20] (fun i wr=>∃k:Nat,k<=16/\i=.int .i64 k/\UsWrote w wr b v q tk (which S++rows S k)) (fun i _=>16-(intOf i).toNat)
 case atStart=>exact⟨0,by omega,rfl,HWR.out⟩
 case round=>
  clear hg0 hsz1 hw3 hg4;obtain⟨k,hk,rfl,hWr⟩:=hrel;have HWk:=zh hWr;clear hWr;by_cases hlt:k<16
  ·have hk2:(k:Int)<16:=by omega
   have hxk:=HX.out k hlt _ rfl;have HR:=zh (rows_succ S k);have hrl:=Za4 S k;have hcl:=cnt_le S k;have HFR:=zh (Znh S k);have hfl:=ZeW S k;by_cases hsome:ZaW S k=true
   ·have hne:((fld S k:Int) != 0)=true:=by
     rw [bne_iff_ne];intro e;rw [(Zb8 S k).1 (by omega)] at hsome;cases hsome
    have HR2:=HR.out;rw [if_pos hsome] at HR2;have HR3:=zh HR2;clear hsome HR2;generalize fld S k=F at *;go_wp2_with fail;obtain⟨v5,h1,h2,h3⟩:=HWk.out;refine(ZdX b v5 _ tk F 16 wr h1 (by omega) (by omega) (by rw [List.length_append,List.length_append,ZaK,hrl];omega)).mono ?_;rintro e w5 ⟨rfl,v6,hp1,hp2,hp3⟩;rw [HFR.out] at hp1;have HN5:=zh (UsWrote.put h1 h2 h3 hp1 hp2 hp3);clear h1 h2 h3 hp1 hp2 hp3;go_wp2_with fail;go_roundw
    case rel=>exact⟨k+1,by omega,by go_num,by rw [HR3.out,<-List.append_assoc];exact HN5.out⟩
    case measure=>simp [intOf];omega
   ·have hsf:ZaW S k=false:=by simpa using hsome
    have hz:(fld S k:Int)=0:=by rw [(Zb8 S k).2 hsf];rfl
    have HR2:=HR.out;rw [hsf] at HR2;have HR3:=zh HR2;rw [hz] at hxk;clear hz hsome hsf HR2;go_wp2_with fail;go_roundw
    case rel=>exact⟨k+1,by omega,by go_num,by rw [HR3.out];exact HWk.out⟩
    case measure=>simp [intOf];omega
  ·obtain rfl:k=16:=by omega
   go_wp2_with fail;go_ret;rw [hS];exact⟨rfl,HWk.out⟩
theorem Zls (Q:List Bool) (n:Nat) (h:n+16<=Q.length) (f:Nat->Bool) (hf:∀k,k<16->f k=Q.getD (n+k) false):(List.range 16).map f=(Q.drop n).take 16:=by
 apply List.ext_getElem?;intro i;by_cases hi:i<16
 ·rw [List.getElem?_map,List.getElem?_range hi,List.getElem?_take,if_pos hi,List.getElem?_drop];have hl:n+i<Q.length:=by omega
  rw [List.getElem?_eq_getElem hl,Option.map_some,hf i hi,List.getD_eq_getElem?_getD,List.getElem?_eq_getElem hl];rfl
 ·rw [List.getElem?_eq_none (by simp;omega),List.getElem?_eq_none (by simp;omega)]
theorem Zqb (Q:List Bool) (h:16<=Q.length):fld (fun i=>Q.getD i false) 0=num (Q.take 16):=by
 unfold fld row;rw [Zls Q 0 (by omega) _ (fun k hk=>by simp)];rfl
def more (Q:List Bool) (n k:Nat) (S:Nat->Bool):Nat->Bool:=fun b=>if b / 16=k then Q.getD (n+b % 16) false else S b
theorem Zqc (Q:List Bool) (n k:Nat) (S:Nat->Bool) (h:n+16<=Q.length):fld (more Q n k S) k=num ((Q.drop n).take 16):=by
 unfold fld row
 rw [Zls Q n h _ (fun j hj=>by
  unfold more;rw [if_pos (by omega),show(16*k+j) % 16=j by omega])]
theorem Zf6 (Q:List Bool) (n k:Nat) (S:Nat->Bool) (i:Nat) (h:i≠k):fld (more Q n k S) i=fld S i:=by
 apply ZhR;intro j hj;unfold more;rw [if_neg (by omega)]
theorem Zqd (Q:List Bool) (n k:Nat) (S:Nat->Bool) (hk:k<16) (h:n+16<=Q.length) (X:Int) (hX:X=(num ((Q.drop n).take 16):Int)):(arr S).setIfInBounds k (.int .u32 X)=arr (more Q n k S):=by
 subst hX;apply ZjL
 ·simp [Zbe]
 ·intro i hi;rw [Array.getElem?_setIfInBounds];by_cases e:k=i
  ·subst e;rw [if_pos rfl,if_pos (by rw [Zbe];omega),Zqc Q n k S h]
  ·rw [if_neg e,Zdb S i hi,Zf6 Q n k S i (fun h=>e h.symm)]
structure UsRdInv (w wr:World) (b N:Nat) (Z0:Array Value) (v:Value) (l:List UInt8) (dr sp p:Nat) (Q:List Bool) (k:Nat) (cs:Array Value) (e p':Nat):Prop where
 res:wr.heap[N]?=some (.cells Z0 132 (0,0))
 arr:wr.heap[N+1]?=some (.cells cs 132 (0,0))
 size:cs.size=16
 one:cs.all (·.oneCell')=true
 rd:IsReader wr b v l dr sp p'
 touch:Touch (·=b) w wr
 old:∀j,foot b v j->j<N
 what:match rdk Q k with
  | none=>e=3
  | some (n,S)=>e=0/\cs=Go.Proofs.YtnachbjhhpnadaaGreatDoor.arr S/\p'=p+n
theorem UsRdInv.none_ {w wr:World} {b N:Nat} {Z0:Array Value} {v:Value} {l:List UInt8} {dr sp p:Nat} {Q:List Bool} {k:Nat} {cs:Array Value} {e p':Nat} (h:UsRdInv w wr b N Z0 v l dr sp p Q k cs e p') (hn:rdk Q k=none) :
  e=3/\UsRdInv w wr b N Z0 v l dr sp p Q (k+1) cs e p':=by
 have hw:=h.what;rw [hn] at hw;refine⟨hw,h.res,h.arr,h.size,h.one,h.rd,h.touch,h.old,?_⟩;rw [ZaR,hn];exact hw
theorem UsRdInv.skip {w wr:World} {b N:Nat} {Z0:Array Value} {v:Value} {l:List UInt8} {dr sp p:Nat} {Q:List Bool} {k:Nat} {cs:Array Value} {e p' n:Nat} {S:Nat->Bool} (h:UsRdInv w wr b N Z0 v l dr sp p Q k cs e p') (hn:rdk Q k=some (n,S)) (hq:Q.getD k false=false) :
  UsRdInv w wr b N Z0 v l dr sp p Q (k+1) cs e p':=by
 have hw:=h.what;rw [hn] at hw;refine⟨h.res,h.arr,h.size,h.one,h.rd,h.touch,h.old,?_⟩;rw [ZaR,hn];simp only [hq];exact hw
def Zto (w w':World) (b:Nat) (v:Value) (l:List UInt8) (dr sp p X E P:Nat):Prop:=
 IsReader w' b v l dr sp P/\Touch (·=b) w w'/\((8*(dr+l.length)<p+16/\X=0/\E=3/\P=p)\/(p+16<=8*(dr+l.length)/\X=num (((bitsOf l).drop (p-8*dr)).take 16)/\E=0/\P=p+16))
theorem Ztp (b:Nat) (v:Value) (l:List UInt8) (dr sp p:Nat) (w:World) (h:IsReader w b v l dr sp p) (hs:dr+l.length<=1099511627776) :
  Calls Tryz.prog 187 #[.pointer (some ⟨b,0,none⟩),.int .i64 16] w fun e w'=>∃X E P:Nat,e=.returned (.tuple #[.int .u32 (X:Int),.int .i64 (E:Int)])/\Zto w w' b v l dr sp p X E P:=by
 by_cases hl:p+16<=8*(dr+l.length)
 ·refine(Zce b v l dr sp p 16 w h hs (by omega) hl).mono ?_;rintro e w' ⟨rfl,h1,h2⟩;exact⟨_,0,_,rfl,h1,h2,Or.inr ⟨hl,rfl,rfl,rfl⟩⟩
 ·refine(Zdu b v l dr sp p 16 w h hs (by omega) (by omega)).mono ?_;rintro e w' ⟨rfl,m,rfl⟩;exact⟨0,3,p,rfl,h.drewN m,Zad _ _ _,Or.inl ⟨by omega,rfl,rfl,rfl⟩⟩
theorem Zcj (l:List UInt8) (dr p:Nat) (h:8*dr<=p):((bitsOf l).drop (p-8*dr)).length=8*(dr+l.length)-p:=by
 rw [List.length_drop,Zan];omega
theorem UsRdInv.get {w wr w2:World} {b N:Nat} {Z0:Array Value} {v:Value} {l:List UInt8} {dr sp p:Nat} {k:Nat} {cs:Array Value} {e p' n X E P:Nat} {S:Nat->Bool} (h:UsRdInv w wr b N Z0 v l dr sp p ((bitsOf l).drop (p-8*dr)) k cs e p') (hp:8*dr<=p) (hn:rdk ((bitsOf l).drop (p-8*dr)) k=some (n,S))
  (hq:((bitsOf l).drop (p-8*dr)).getD k false=true) (hk:k<16) (hN:w.heap.size=N) (hg:Zto wr w2 b v l dr sp p' X E P) :
  w2.cell? ⟨N+1,k,none⟩=some (.int .u32 (fld S k:Int))/\w2.frozen? ⟨N+1,k,none⟩=false /\
  UsRdInv w (w2.setCell ⟨N+1,k,none⟩ (.int .u32 (X:Int))) b N Z0 v l dr sp p ((bitsOf l).drop (p-8*dr)) (k+1) (cs.setIfInBounds k (.int .u32 (X:Int))) E P:=by
 have hw:=h.what;rw [hn] at hw;obtain⟨_,rfl,rfl⟩:=hw;obtain⟨hr,ht,hx⟩:=hg;have hlt:=(Array.getElem?_eq_some_iff.1 h.res).1;have hlt1:=(Array.getElem?_eq_some_iff.1 h.arr).1;have hbN:=h.old b (Or.inl rfl);have e1:w2.heap[N+1]?=some (.cells (Go.Proofs.YtnachbjhhpnadaaGreatDoor.arr S) 132 (0,0)):=(ht.block _ hlt1 (fun e=>by have e':N+1=b:=e;omega)).trans h.arr;have e0:w2.heap[N]?=some (.cells Z0 132 (0,0)):=(ht.block _ hlt (fun e=>by have e':N=b:=e;omega)).trans h.res;refine⟨?_,frozen_of_row _ _ _ _ _ e1,⟨?_,heap_setCell_same _ _ k _ _ _ e1,by simp [Zbe],?_,?_,?_,h.old,?_⟩⟩
 ·rw [cell_of_row _ _ _ _ _ _ e1,Zdb S k hk]
 ·rw [heap_setCell_other _ _ _ _ (by simp)];exact e0
 ·rw [Array.all_eq_true];intro i hi;rw [Array.getElem_setIfInBounds];split
  ·rfl
  ·exact Array.all_eq_true.1 (ZdE S) i (by simpa using hi)
 ·refine hr.other (S:=(·=N+1)) ((Touch.refl (·=N+1) w2).setCell (p:=⟨N+1,k,none⟩) (Or.inl rfl) _) (fun j hj e=>?_);have:=h.old j hj;have e':j=N+1:=e;omega
 ·exact(h.touch.trans ht (fun i hi=>Or.inl hi)).setCell (Or.inr (by simp;omega)) _
 ·have hll:=Zcj l dr p hp;have hnl:=Zem _ _ _ _ hn;rw [ZaR,hn];simp only [hq,if_true];rcases hx with⟨h1,rfl,rfl,rfl⟩|⟨h1,rfl,rfl,rfl⟩
  ·rw [if_pos (by omega)]
  ·rw [if_neg (by omega)];refine⟨by first|rfl|trivial,?_,by omega⟩;refine Zqd _ n k S hk (by omega) _ ?_;rw [List.drop_drop,show p+n-8*dr=p-8*dr+n by omega]
def UsReadP (w w':World) (b:Nat) (v:Value) (l:List UInt8) (dr sp p:Nat) (A:Array Value) (err p':Nat):Prop:=
 IsReader w' b v l dr sp p'/\Touch (·=b) w w'/\A.size=16/\A.all (·.oneCell')=true/\match rdk ((bitsOf l).drop (p-8*dr)) 16 with
  | none=>err=3
  | some (n,S)=>(syms S 256=[]/\err=25)\/(syms S 256≠[]/\err=0/\A=Go.Proofs.YtnachbjhhpnadaaGreatDoor.arr S/\p'=p+n)
theorem Za7 {P:Program} {fn:Func} {p q:Tmp} {ty:TypeId} (h:fn.results=#[.cell p ty,.tmp q]) (tmps:Array Value) (w:World) (a:Addr) (cs:Array Value) (e:Value)
  (hp:tmps.getD p undef=.pointer (some a)) (hq:tmps.getD q undef=e) (hl:(loadVar ty a).run P w=.ok (.agg cs) w) :
  (results fn tmps).run P w=.ok (.tuple #[.agg cs,e]) w:=by
 have hp':tmps[p]?.getD undef=.pointer (some a):=by simpa using hp
 have hq':tmps[q]?.getD undef=e:=by simpa using hq
 simp [results,h,hp',hq',asAddr,hl]
theorem ZrL (A:Array Value) (h:A.size=16):(Tryz.prog.info? 132).map (·.size)=some A.size:=by rw [h];kernel_rfl
theorem Zqe (b:Nat) (v:Value) (l:List UInt8) (dr sp p:Nat) (w:World) (h:IsReader w b v l dr sp p) (hs:dr+l.length<=1099511627776) :
  Calls Tryz.prog 234 #[.pointer (some ⟨b,0,none⟩)] w fun e w'=>∃(A:Array Value) (err p':Nat),e=.returned (.tuple #[.agg A,.int .i64 (err:Int)])/\UsReadP w w' b v l dr sp p A err p':=by
 have hp:=h.2.2.2.1;have H:=zh h;have HZ:=zh ZrH;go_enter Tryz.func234,Tryz.ntmps234;go_wp2_with fail;refine(Ztp b v l dr sp p _ (h.other (((Touch.refl (fun _=>False) w).alloc _).alloc _) (fun _ _ h=>h)) hs).mono ?_;clear h;rintro e w1 ⟨X,E,P,rfl,hg⟩
 have H0:UsRdInv w w1 b w.heap.size #[.int .u32 0,.int .u32 0,.int .u32 0,.int .u32 0,.int .u32 0,.int .u32 0,.int .u32 0,.int .u32 0,.int .u32 0,.int .u32 0,.int .u32 0,.int .u32 0,.int .u32 0,.int .u32 0,.int .u32 0,.int .u32 0] v l dr sp p ((bitsOf l).drop (p-8*dr)) 0 #[.int .u32 0,.int .u32 0,.int .u32 0,.int .u32 0,.int .u32 0,.int .u32 0,.int .u32 0,.int .u32 0,.int .u32 0,.int .u32 0,.int .u32 0,.int .u32 0,.int .u32 0,.int .u32 0,.int .u32 0,.int .u32 0] E P:=by
  have hlt:=H.out.lt b (Or.inl rfl);refine⟨?_,?_,rfl,by rw [HZ.out];exact ZdE _,hg.1,?_,H.out.lt,?_⟩
  ·exact(hg.2.1.block _ (by simp;omega) (fun e=>by have e':w.heap.size=b:=e;omega)).trans (heap_alloc2_old _ _ _)
  ·exact(hg.2.1.block _ (by simp) (fun e=>by have e':w.heap.size+1=b:=e;omega)).trans (heap_alloc2_new _ _ _)
  ·exact(((Touch.refl (·=b) w).alloc _).alloc _).trans hg.2.1 (fun i hi=>Or.inl hi)
  ·rw [Zb9,Zcj l dr p hp];rcases hg.2.2 with⟨h1,_,rfl,rfl⟩|⟨h1,_,rfl,rfl⟩
   ·rw [if_pos (by omega)]
   ·rw [if_neg (by omega)];exact⟨rfl,HZ.out,rfl⟩
 have HX:16<=((bitsOf l).drop (p-8*dr)).length->X=fld (fun i=>((bitsOf l).drop (p-8*dr)).getD i false) 0:=fun hl=>by
  rw [Zcj l dr p hp] at hl;rcases hg.2.2 with⟨h1,_,_,_⟩|⟨h1,h2,_,_⟩
  ·omega
  ·rw [Zqb _ (by rw [Zcj l dr p hp];exact hl)];exact h2
 have HI:=zh H0;have HXX:=zh HX;clear hg H0 HX;go_wp2_with fail
 go_loopw [6,13] (fun x i wr=>∃(k:Nat) (cs:Array Value) (e p':Nat),k<=16/\i=.int .i64 k/\x=.int .i64 (e:Int)/\UsRdInv w wr b w.heap.size #[.int .u32 0,.int .u32 0,.int .u32 0,.int .u32 0,.int .u32 0,.int .u32 0,.int .u32 0,.int .u32 0,.int .u32 0,.int .u32 0,.int .u32 0,.int .u32 0,.int .u32 0,.int .u32 0,.int .u32 0,.int .u32 0] v l dr sp p ((bitsOf l).drop (p-8*dr)) k cs e p') (fun _ i _=>16-(intOf i).toNat)
 case atStart=>exact⟨0,_,_,_,by omega,rfl,rfl,HI.out⟩
 case round=>
  clear HI;obtain⟨k,cs,e,p',hk,rfl,rfl,hI⟩:=hrel;have HI:=zh hI;clear hI;by_cases hlt:k<16
  ·have hk2:(k:Int)<16:=by omega
   rcases hrd:rdk ((bitsOf l).drop (p-8*dr)) k with _|⟨n,S⟩
   ·obtain⟨rfl,hN⟩:=HI.out.none_ hrd;have HN:=zh hN;clear hN hrd;go_wp2_with fail;go_roundw
    case rel=>exact⟨k+1,cs,3,p',by omega,by go_num,rfl,HN.out⟩
    case measure=>simp [intOf];omega
   ·have hw:=HI.out.what;rw [hrd] at hw;obtain⟨rfl,_,hpp⟩:=hw;have hnl:=Zem _ _ _ _ hrd;have hX:=HXX.out (by omega);have hfl:=ZeW (fun i=>((bitsOf l).drop (p-8*dr)).getD i false) 0;obtain⟨Z,hZ⟩:∃Z,2^(15-k)=Z:=⟨_,rfl⟩
    have hZ1:Z<=32768:=by
     have:2^(15-k)<=2^15:=Nat.pow_le_pow_right (by omega) (by omega);omega
    have hZ0:0<Z:=by
     have:=Nat.two_pow_pos (15-k);omega
    have ha:=Znc (fun i=>((bitsOf l).drop (p-8*dr)).getD i false) 0 k hlt;rw [hZ,<-hX] at ha;have htest:=Zig X Z (((bitsOf l).drop (p-8*dr)).getD k false) (by omega) hZ1 hZ0 (by simpa using ha);have HZZ:=zh hZ;have HRD:=zh hrd;clear hX hZ ha hrd hZ0 hZ1 hfl hnl;by_cases hq:((bitsOf l).drop (p-8*dr)).getD k false=true
    ·rw [hq] at htest;have HQ:=zh hq;clear hq;go_wp2_with fail;refine(Zd3 _ k Z _ rfl (by omega) HZZ.out).mono ?_;rintro e w' ⟨rfl,rfl⟩;go_wp2_with fail;refine(Ztp b v l dr sp p' wr HI.out.rd hs).mono ?_;rintro e w2 ⟨X2,E2,P2,rfl,hg⟩;obtain⟨d0,d1,hN⟩:=HI.out.get hp HRD.out HQ.out hlt rfl hg;have HN:=zh hN;generalize fld S k=F at *;clear hg hN;go_wp2_with fail;go_roundw
     case rel=>exact⟨k+1,_,E2,P2,by omega,by go_num,rfl,HN.out⟩
     case measure=>simp [intOf];omega
    ·have hqf:((bitsOf l).drop (p-8*dr)).getD k false=false:=by simpa using hq
     rw [hqf] at htest;have HN:=zh (HI.out.skip HRD.out hqf);clear hq hqf;go_wp2_with fail;refine(Zd3 _ k Z _ rfl (by omega) HZZ.out).mono ?_;rintro e w' ⟨rfl,rfl⟩;go_wp2_with fail;go_roundw
     case rel=>exact⟨k+1,cs,0,p',by omega,by go_num,rfl,HN.out⟩
     case measure=>simp [intOf];omega
  ·obtain rfl:k=16:=by omega
   have hi:=ZrL cs HI.out.size;have hold:(#[.int .u32 0,.int .u32 0,.int .u32 0,.int .u32 0,.int .u32 0,.int .u32 0,.int .u32 0,.int .u32 0,.int .u32 0,.int .u32 0,.int .u32 0,.int .u32 0,.int .u32 0,.int .u32 0,.int .u32 0,.int .u32 0]:Array Value).size=cs.size:=HI.out.size.symm;have hres:=HI.out.res;have harr:=HI.out.arr;have hone:=HI.out.one;have hset:=setRow_heap wr _ _ cs _ _ hres;have hld:=run_loadVar_row (P:=Tryz.prog) (wr.setRow w.heap.size cs) w.heap.size 132 132 cs (0,0) _ hset Tryz.underlying132 rfl hi
   have hfin:∀err,(match rdk ((bitsOf l).drop (p-8*dr)) 16 with
     | none=>err=3
     | some (n,S)=>(syms S 256=[]/\err=25)\/(syms S 256≠[]/\err=0/\cs=arr S/\p'=p+n))->UsReadP w (wr.setRow w.heap.size cs) b v l dr sp p cs err p':=fun err hm=>by
    have ht:Touch (·=w.heap.size) wr (wr.setRow w.heap.size cs):=⟨rfl,rfl,rfl,by simp [World.setRow],fun j _ hj=>setRow_other wr _ j _ hj⟩
    exact⟨HI.out.rd.other ht (fun j hj e=>by
     have:=HI.out.old j hj;have e':j=w.heap.size:=e;omega),HI.out.touch.trans ht (fun j hj=>Or.inr (Nat.le_of_eq (Eq.symm hj))),HI.out.size,HI.out.one,hm⟩
   have HF:=zh hfin;clear hfin;rcases hrd:rdk ((bitsOf l).drop (p-8*dr)) 16 with _|⟨n,S⟩
   ·obtain⟨rfl,_⟩:=HI.out.none_ hrd;have HE:=zh (HF.out 3 (by rw [hrd]));clear hrd hset;go_wp2_with (first|(refine wpList_load_row rfl 132 _ rfl (w.heap.size+1) rfl 132 cs (0,0) _ harr Tryz.underlying132 rfl hi ?_)|(refine wpList_store_row rfl 132 _ _ rfl w.heap.size cs rfl rfl 132 _ hres hi hold hone ?_));refine bodyPost_ret (v:=.tuple #[.agg cs,.int .i64 3]) (Za7 rfl _ _ ⟨w.heap.size,0,none⟩ cs _ rfl rfl hld) rfl ⟨cs,3,p',rfl,HE.out⟩
   ·have hw:=HI.out.what;rw [hrd] at hw;obtain⟨rfl,hcs,hpp⟩:=hw;have hout:=Zjo _ _ _ _ hrd;by_cases hsy:syms S 256=[]
    ·have heq:∀W,(binOp .eql 132 (.agg cs) (.agg #[.int .u32 0,.int .u32 0,.int .u32 0,.int .u32 0,.int .u32 0,.int .u32 0,.int .u32 0,.int .u32 0,.int .u32 0,.int .u32 0,.int .u32 0,.int .u32 0,.int .u32 0,.int .u32 0,.int .u32 0,.int .u32 0])).run Tryz.prog W=.ok (.bool true) W:=fun W=>by
      rw [hcs,HZ.out];exact ZnT S _ true (by rw [Zlr S (fun b hb=>hout b (by omega)),decide_eq_true_eq];exact hsy) W
     have HE:=zh (HF.out 25 (by rw [hrd];exact Or.inl ⟨hsy,rfl⟩));clear hrd hset hcs hout hsy;go_wp2_with (first|((refine BigFrame.wpList_want rfl (fun K hK=>wp_load_row 132 _ rfl (w.heap.size+1) rfl 132 cs (0,0) _ harr Tryz.underlying132 rfl hi (hK _ _ ?_))))|(refine wpList_load_row rfl 132 _ rfl (w.heap.size+1) rfl 132 cs (0,0) _ harr Tryz.underlying132 rfl hi ?_)|(refine wpList_store_row rfl 132 _ _ rfl w.heap.size cs rfl rfl 132 _ hres hi hold hone ?_));refine bodyPost_ret (v:=.tuple #[.agg cs,.int .i64 25]) (Za7 rfl _ _ ⟨w.heap.size,0,none⟩ cs _ rfl rfl hld) rfl ⟨cs,25,p',rfl,HE.out⟩
    ·have heq:∀W,(binOp .eql 132 (.agg cs) (.agg #[.int .u32 0,.int .u32 0,.int .u32 0,.int .u32 0,.int .u32 0,.int .u32 0,.int .u32 0,.int .u32 0,.int .u32 0,.int .u32 0,.int .u32 0,.int .u32 0,.int .u32 0,.int .u32 0,.int .u32 0,.int .u32 0])).run Tryz.prog W=.ok (.bool false) W:=fun W=>by
      rw [hcs,HZ.out];exact ZnT S _ false (by rw [Zlr S (fun b hb=>hout b (by omega)),decide_eq_false_iff_not];exact hsy) W
     have HE:=zh (HF.out 0 (by rw [hrd];exact Or.inr ⟨hsy,rfl,hcs,hpp⟩));clear hrd hset hcs hout hsy;go_wp2_with (first|(refine BigFrame.wpList_want rfl (fun K hK=>wp_load_row 132 _ rfl (w.heap.size+1) rfl 132 cs (0,0) _ harr Tryz.underlying132 rfl hi (hK _ _ ?_)))|(refine wpList_load_row rfl 132 _ rfl (w.heap.size+1) rfl 132 cs (0,0) _ harr Tryz.underlying132 rfl hi ?_)|(refine wpList_store_row rfl 132 _ _ rfl w.heap.size cs rfl rfl 132 _ hres hi hold hone ?_));refine bodyPost_ret (v:=.tuple #[.agg cs,.int .i64 0]) (Za7 rfl _ _ ⟨w.heap.size,0,none⟩ cs _ rfl rfl hld) rfl ⟨cs,0,p',rfl,HE.out⟩
end
end Go.Proofs.YtnachbjhhpnadaaGreatDoor

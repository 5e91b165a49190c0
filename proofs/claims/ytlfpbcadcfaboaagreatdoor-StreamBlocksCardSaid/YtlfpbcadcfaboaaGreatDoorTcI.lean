import Derived.Test.YtlfpbcadcfaboaaGreatDoorTcA
import Derived.Test.YtlfpbcadcfaboaaGreatDoorTcC
import Derived.Test.YtlfpbcadcfaboaaGreatDoorTcE
import Derived.Test.YtlfpbcadcfaboaaGreatDoorTcH
import Derived.ChangeKeysEq
import Derived.Laws.CopyRow
import Derived.Laws.BitsAllLaws
import Derived.StillTailTactics
import Derived.Deep.RegionHeld3
import Derived.Lib.SliceRun
import Derived.Deep.AppendSrc
import Derived.Deep.Upon
import Derived.Deep.Cut
set_option linter.unusedVariables false
set_option linter.unusedSimpArgs false
set_option maxHeartbeats 8000000
set_option maxRecDepth 100000
namespace Go.Proofs.YtlfpbcadcfaboaaGreatDoor
section
end
section
open Go.RowKit BitM UsedM
def UsWrote (w w':World) (b:Nat) (v:Value) (q:List Bool) (tk:Nat) (f:List Bool):Prop:=
 ∃v1,IsWriter w' b v1 (q++f) tk/\Touch (foot b v) w w'/\(∀k,v1.ownBlock=some k->v.ownBlock=some k\/w.heap.size<=k)
theorem UsWrote.put {w w1 w2:World} {b:Nat} {v v1 v2:Value} {q f g:List Bool} {tk:Nat} (h1:IsWriter w1 b v1 (q++f) tk) (h2:Touch (foot b v) w w1) (h3:∀k,v1.ownBlock=some k->v.ownBlock=some k\/w.heap.size<=k)
  (k1:IsWriter w2 b v2 ((q++f)++g) tk) (k2:Touch (foot b v1) w1 w2) (k3:∀k,v2.ownBlock=some k->v1.ownBlock=some k\/w1.heap.size<=k):UsWrote w w2 b v q tk (f++g):=
 ⟨v2,by rwa [<-List.append_assoc],h2.trans k2 (fun i hi=>by
  rcases hi with rfl|hi
  ·exact Or.inl (Or.inl rfl)
  ·rcases h3 i hi with h|h
   ·exact Or.inl (Or.inr h)
   ·exact Or.inr h),fun k hk=>by
  rcases k3 k hk with h|h
  ·exact h3 k h
  ·have:=h2.size;exact Or.inr (by omega)⟩
theorem Zq2 (S:Nat->Bool) (w:World) (g:Nat) (A:Array Value) (h:w.heap[g]?=some (.cells A 143 (0,0))) (w':World) (hb:Below w.heap.size w w'):w'.heap[g]?=some (.cells A 143 (0,0)):=
 (hb.block g (Array.getElem?_eq_some_iff.1 h).1).trans h
theorem Zpl (b:Nat) (v:Value) (q:List Bool) (tk:Nat) (s:ByteArray) (w:World) (h:IsWriter w b v q tk) (hs:s.size<=maxLen) (hy:IsSyms s.data.toList) (hq:q.length<=1000000) :
  Calls Tryz.prog 65 #[.pointer (some ⟨b,0,none⟩),.string s] w fun e w'=>e=.returned (.int .i64 0)/\UsWrote w w' b v q tk (ubits (has s.data.toList)):=by
 have hs2:s.size<=9223372036854775807:=by unfold maxLen at hs;omega
 have H:=zh h;clear h;go_enter Tryz.func65,Tryz.ntmps65;go_wp2_with fail;refine(ZrQ s w hs2 hy).mono ?_;rintro e w' ⟨rfl,n,rfl⟩;go_wp2_with fail;refine(ZmP s _ hs).mono ?_;rintro e w1 ⟨rfl,hb⟩;have HB:=zh ((Zas w n).trans hb);clear hb;generalize hS:has s.data.toList=S at *;have HX:=zh (fun k (hk:k<16) F (hF:fld S k=F)=>Zis S k F hk hF);have HW:=zh (fun w=>Zpe S w);have hi:=ZmO S;have hac:=ZkJ S;have h16:=ZeS S;obtain⟨A,hA⟩:∃A,arr S=A:=⟨_,rfl⟩
 simp only [hA] at HX HW hi hac h16 ⊢;have hg0:(w1.alloc (.cells #[.int .u32 0,.int .u32 0,.int .u32 0,.int .u32 0,.int .u32 0,.int .u32 0,.int .u32 0,.int .u32 0,.int .u32 0,.int .u32 0,.int .u32 0,.int .u32 0,.int .u32 0,.int .u32 0,.int .u32 0,.int .u32 0] 143)).heap[w1.heap.size]?=some (.cells #[.int .u32 0,.int .u32 0,.int .u32 0,.int .u32 0,.int .u32 0,.int .u32 0,.int .u32 0,.int .u32 0,.int .u32 0,.int .u32 0,.int .u32 0,.int .u32 0,.int .u32 0,.int .u32 0,.int .u32 0,.int .u32 0] 143 (0,0)):=heap_alloc_new _ _;have hg1:=setRow_heap _ _ _ A _ _ hg0;have HB1:=zh (Zal (B:=w.heap.size) (HB.out.alloc HB.out.size (.cells #[.int .u32 0,.int .u32 0,.int .u32 0,.int .u32 0,.int .u32 0,.int .u32 0,.int .u32 0,.int .u32 0,.int .u32 0,.int .u32 0,.int .u32 0,.int .u32 0,.int .u32 0,.int .u32 0,.int .u32 0,.int .u32 0] 143)) (by exact HB.out.size) A);have hsz1:((w1.alloc (.cells #[.int .u32 0,.int .u32 0,.int .u32 0,.int .u32 0,.int .u32 0,.int .u32 0,.int .u32 0,.int .u32 0,.int .u32 0,.int .u32 0,.int .u32 0,.int .u32 0,.int .u32 0,.int .u32 0,.int .u32 0,.int .u32 0] 143)).setRow w1.heap.size A).heap.size=w1.heap.size+1:=by rw [Zat];simp
 have hold:(#[.int .u32 0,.int .u32 0,.int .u32 0,.int .u32 0,.int .u32 0,.int .u32 0,.int .u32 0,.int .u32 0,.int .u32 0,.int .u32 0,.int .u32 0,.int .u32 0,.int .u32 0,.int .u32 0,.int .u32 0,.int .u32 0]:Array Value).size=A.size:=h16.symm;generalize hW2:(w1.alloc (.cells #[.int .u32 0,.int .u32 0,.int .u32 0,.int .u32 0,.int .u32 0,.int .u32 0,.int .u32 0,.int .u32 0,.int .u32 0,.int .u32 0,.int .u32 0,.int .u32 0,.int .u32 0,.int .u32 0,.int .u32 0,.int .u32 0] 143)).setRow w1.heap.size A=w2 at *;go_wp2_with (first|(refine wpList_load_row rfl 143 _ rfl w1.heap.size rfl 143 A (0,0) _ (by exact hg1) Tryz.underlying143 rfl hi ?_)|(refine wpList_store_row rfl 143 _ _ rfl w1.heap.size A rfl rfl 143 _ hg0 hi hold hac ?_;rw [hW2]));refine(HW.out w2).mono ?_;rintro e w3 ⟨rfl,hb3⟩;have hg3:=Zq2 S w2 _ A hg1 w3 hb3;have HB3:=zh (HB1.out.trans (hb3.mono (by have:=HB.out.size;omega)));have hw3:=hb3.size;have HW3:=zh (H.out.other (Touch.ofBelow (S:=fun _=>False) HB3.out) (fun _ _ h=>h));have HN:=zh (Zbg (which S));have HFW:=zh (Zlz S);clear hb3 hg1;go_wp2_with fail;refine(Zgv b v q tk (num (which S)) 16 w3 HW3.out (by omega) (by have:=HN.out;rwa [Zer] at this) (by omega)).mono ?_;rintro e w4 ⟨rfl,v4,hp1,hp2,hp3⟩;rw [HFW.out] at hp1;have hg4:w4.heap[w1.heap.size]?=some (.cells A 143 (0,0)):=(hp2.block _ (by omega) (fun hf=>by have:=(H.out.lt _ hf).1;have:=HB.out.size;omega)).trans hg3;have HWR:=zh (show UsWrote w w4 b v q tk (which S++rows S 0) from⟨v4,by rw [ZoG,List.append_nil];exact hp1,(Touch.ofBelow HB3.out).trans hp2 (fun i hi=>Or.inl hi),fun k hk=>(hp3 k hk).imp id (fun h=>by have:=HB3.out.size;omega)⟩);clear hp1 hp2 hp3 hg3;go_wp2_with (refine wpList_load_row rfl 143 _ rfl w1.heap.size rfl 143 A (0,0) _ (by exact hg4) Tryz.underlying143 rfl hi ?_)
 go_loopw [20] (fun i wr=>∃k:Nat,k<=16/\i=.int .i64 k/\UsWrote w wr b v q tk (which S++rows S k)) (fun i _=>16-(intOf i).toNat)
 case atStart=>exact⟨0,by omega,rfl,HWR.out⟩
 case round=>
  clear hg0 hsz1 hw3 hg4;obtain⟨k,hk,rfl,hWr⟩:=hrel;have HWk:=zh hWr;clear hWr;by_cases hlt:k<16
  ·have hk2:(k:Int)<16:=by omega
   have hxk:=HX.out k hlt _ rfl;have HR:=zh (ZtH S k);have hrl:=Zcj S k;have hcl:=Zfp S k;have HFR:=zh (ZoJ S k);have hfl:=Zjh S k;by_cases hsome:Zbz S k=true
   ·have hne:((fld S k:Int) != 0)=true:=by
     rw [bne_iff_ne];intro e;rw [(Zg0 S k).1 (by omega)] at hsome;cases hsome
    have HR2:=HR.out;rw [if_pos hsome] at HR2;have HR3:=zh HR2;clear hsome HR2;generalize fld S k=F at *;go_wp2_with fail;obtain⟨v5,h1,h2,h3⟩:=HWk.out;refine(Zgv b v5 _ tk F 16 wr h1 (by omega) (by omega) (by rw [List.length_append,List.length_append,Zer,hrl];omega)).mono ?_;rintro e w5 ⟨rfl,v6,hp1,hp2,hp3⟩;rw [HFR.out] at hp1;have HN5:=zh (UsWrote.put h1 h2 h3 hp1 hp2 hp3);clear h1 h2 h3 hp1 hp2 hp3;go_wp2_with fail;go_roundw
    case rel=>exact⟨k+1,by omega,by go_num,by rw [HR3.out,<-List.append_assoc];exact HN5.out⟩
    case measure=>simp [intOf];omega
   ·have hsf:Zbz S k=false:=by simpa using hsome
    have hz:(fld S k:Int)=0:=by rw [(Zg0 S k).2 hsf];rfl
    have HR2:=HR.out;rw [hsf] at HR2;have HR3:=zh HR2;rw [hz] at hxk;clear hz hsome hsf HR2;go_wp2_with fail;go_roundw
    case rel=>exact⟨k+1,by omega,by go_num,by rw [HR3.out];exact HWk.out⟩
    case measure=>simp [intOf];omega
  ·obtain rfl:k=16:=by omega
   go_wp2_with fail;go_ret;rw [hS];exact⟨rfl,HWk.out⟩
end
section
open Go.RowKit UsedM MtfM
end
section
open Go.RowKit
theorem Zi5 {P:Program} {ops:Array Oper} {rest:List Oper} {o:Oper} {a:Act} {w:World} {Q:Exit->Act->World->Prop} (hgd:o.guard=none) (d s:Operand) (t t':TypeId)
  (ho:o.op=.call { callee:=.builtin .copy,args:=#[d,s],argTypes:=#[t,t'] }) (v u:Value) (hd:a.eval d=v) (hs:a.eval s=u) {v':Value} {w':World}
  (hr:(Builtin.copy_ #[t,t'] o.type #[v,u]).run P w=.ok v' w') (h:wpList P ops Q rest (a.put o.dst v') w'):wpList P ops Q (o::rest) a w:=
 wpList_plain hgd fun K hK=>by
  unfold Oper.wp execOp;simp only [ho,resolve,invoke,builtin,Sem.run_bind,Sem.run_pure,Result.andThen_ok,List.map_toArray,List.map_cons,List.map_nil,hd,hs,hr];exact hK _ _ h
theorem Zpq (n:Nat) (w:World) (hn:n<=1000000):Calls Tryz.prog 225 #[.int .u64 1,.int .u64 (n:Int)] w fun e w'=>e=.returned (.tuple #[.int .u64 0,.int .u64 (n:Int)])/\w'=w:=by
 have h1:bits BinOp.and IntKind.u64 1 4294967295=1:=by decide
 have h2:bits BinOp.and IntKind.u64 (n:Int) 4294967295=(n:Int):=by
  have h:=u64_and_nat n 4294967295 (by omega) (by omega)
  have e:n &&& 4294967295=n:=by
   have:=Nat.and_two_pow_sub_one_eq_mod n 32;have h3:(2^32-1:Nat)=4294967295:=by decide
   rw [h3] at this;rw [this,Nat.mod_eq_of_lt (by omega)]
  rw [e] at h;exact h
 have h3:bits BinOp.and IntKind.u64 0 4294967295=0:=by decide
 have h4:(n:Int) / 2^32=0:=Int.ediv_eq_zero_of_lt (by omega) (by omega);have h5:(n:Int) / 4294967296=0:=Int.ediv_eq_zero_of_lt (by omega) (by omega);have hu:∀x:Int,0<=x->x<=1000000->IntKind.u64.wrap x=x:=fun x hx hx2=>by simp [IntKind.wrap,IntKind.bits,IntKind.signed];omega
 have hw:=hu (n:Int) (by omega) (by omega);clear hu;go_enter Tryz.func225,Tryz.ntmps225;go_wp2_with fail;go_ret2;exact⟨rfl,rfl⟩
theorem Zsq (n:Nat) (w:World) (hn:n<=1000000):Calls Tryz.prog 215 #[.int .u64 1,.int .u64 (n:Int)] w fun e w'=>e=.returned (.tuple #[.int .u64 0,.int .u64 (n:Int)])/\w'=w:=by
 go_enter Tryz.func215,Tryz.ntmps215;go_wp2_with fail;refine(Zpq n _ hn).mono ?_;rintro e w' ⟨rfl,rfl⟩;go_wp2_with fail;go_ret2;exact⟨rfl,rfl⟩
def fill (x:Int) (n k:Nat):List Int:=List.replicate k x++List.replicate (n-k) 0
theorem Zq5 (x:Int) (n k:Nat) (h:k<=n):(fill x n k).length=n:=by unfold fill;simp;omega
theorem Zq6 (x:Int) (n k j:Nat) (h:j<k):(fill x n k)[j]?=some x:=by
 unfold fill;rw [List.getElem?_append_left (by simp;exact h)];simp [h]
theorem Zpr (x:Int) (n:Nat):fill x n 0=List.replicate n 0:=by simp [fill]
theorem Zq7 (x:Int) (n:Nat):fill x n n=List.replicate n x:=by simp [fill]
theorem Zps (x:Int) (n k m:Nat) (h:k+m<=n):(fill x n k).take k++List.replicate m x++(fill x n k).drop (k+m)=fill x n (k+m):=by
 unfold fill;rw [List.take_append_of_le_length (by simp),List.take_of_length_le (by simp),List.drop_append,List.length_replicate,List.drop_of_length_le (by simp)];rw [show k+m-k=m by omega,List.drop_replicate,List.nil_append,List.replicate_append_replicate,show n-k-m=n-(k+m) by omega]
theorem ZkM (W:World) (ty g n k:Nat) (x:Int) (sb so sl sc m:Nat) (hR:RowI W g (fill x n k)) (hk:k<=n) (hm:m=min sl (n-k)) (hs:∀j,j<m->W.cell? ⟨sb,so+j,none⟩=some (.int .i64 x)) :
  ∃cs,(Builtin.copy_ #[106,106] ty #[.slice (some ⟨g,k,none⟩) (n-k) (n-k),.slice (some ⟨sb,so,none⟩) sl sc]).run Tryz.prog W=.ok (.int .i64 (m:Int)) (W.setRow g cs)/\RowI (W.setRow g cs) g (fill x n (k+m)):=by
 have h:=run_copy_row (P:=Tryz.prog) W 106 106 ty 3 g k (n-k) (n-k) ⟨sb,so,none⟩ sl sc _ 3 (List.replicate m (iv64 x)) Tryz.underlying106 (by kernel_rfl) hR (by rw [List.length_replicate,hm]) (fun j v hj=>by
  rw [List.getElem?_replicate] at hj;split at hj
  ·cases hj;rename_i hjm;rw [Addr.add_lit];exact hs j hjm
  ·cases hj) (by rw [List.length_replicate];simp [fill];omega) (fun v hv=>by rw [List.eq_of_mem_replicate hv];rfl)
 rw [List.length_replicate] at h;refine⟨_,h,?_⟩;have h2:=setRow_heap W g _ (((fill x n k).map iv64).toArray.toList.take k++List.replicate m (iv64 x)++((fill x n k).map iv64).toArray.toList.drop (k+m)).toArray 3 (0,0) hR;unfold RowI;rw [h2];congr 2;apply Array.toList_inj.1;show((fill x n k).map iv64).take k++List.replicate m (iv64 x)++((fill x n k).map iv64).drop (k+m)=(fill x n (k+m)).map iv64;rw [<-Zps x n k m (by omega),List.map_append,List.map_append,List.map_take,List.map_drop,List.map_replicate]
theorem ZnB (v:Value) (x:Int) (n:Nat) (w:World) (hv:IsInts w v [x]) (h1:1<=n) (hn:n<=1000) :
  Calls Tryz.prog 201 #[v,.int .i64 (n:Int)] w fun e w'=>e=.returned (.slice (some ⟨w.heap.size,0,none⟩) n n)/\RowI w' w.heap.size (List.replicate n x)/\Below w.heap.size w w':=by
 obtain⟨b,off,cap,rfl,c0⟩:=hv.cell (k:=0) (by simp);have hcl:=ZaE c0;have HMU:=zh (Zsq n w (by omega));have hmk:=ZbS n (by omega) w;have HR0:Hid (RowI (w.alloc (.cells (madeCells #[Value.int .i64 0] n) 3)) w.heap.size (fill x n 0)):=zh (by rw [Zpr];exact RowI.made w n);have hB0:=(Below.refl w.heap.size w).alloc (Nat.le_refl _) (.cells (madeCells #[Value.int .i64 0] n) 3);have HB0:=zh hB0;have c1:=(hB0.cell (p:=⟨b,off+0,none⟩) hcl).trans c0;clear hv hB0;generalize hg:w.heap.size=g at *;generalize hw1:w.alloc (.cells (madeCells #[Value.int .i64 0] n) 3)=w1 at *;have HG:=zh hg
 have hc1:=fun ty=>ZkM w1 ty g n 0 x b off [x].length cap 1 HR0.out (by omega) (by simp;omega) (fun j hj=>by
  obtain rfl:j=0:=by omega
  exact c1)
 have HC1:=zh hc1;clear hg hw1 c0 c1 hcl hc1;go_enter Tryz.func201,Tryz.ntmps201;go_wp2_with fail;refine HMU.out.mono ?_;rintro e w' ⟨rfl,rfl⟩;obtain⟨cs,hr,hR1⟩:=HC1.out 3;have HR1:=zh hR1;have HB1:Hid (Below g w' (w1.setRow g cs)):=zh (Zal HB0.out (Nat.le_refl _) cs);have hr2:(Builtin.copy_ #[106,106] 3 #[.slice (some ⟨g,0,none⟩) n n,.slice (some ⟨b,off,none⟩) 1 cap]).run Tryz.prog w1=.ok (.int .i64 1) (w1.setRow g cs):=hr;clear hr hR1;go_wp2_with fail;generalize w1.setRow g cs=w2 at *;clear hr2
 go_loopw [8] (fun vk wr=>∃k:Nat,vk=.int .i64 (k:Int)/\1<=k/\k<=n/\RowI wr g (fill x n k)/\Below g w' wr) (fun vk _=>n-(intOf vk).toNat)
 case atStart=>exact⟨1,rfl,by omega,h1,HR1.out,HB1.out⟩
 case round=>
  clear HR1 HB1;obtain⟨k,rfl,hk1,hk,hR,hB⟩:=hrel;have HR:=zh hR;have HB:=zh hB;clear hR hB;by_cases hkn:k<n
  ·have hki:(k:Int)<(n:Int):=by omega
   have hk0:(0:Int)<=(k:Int):=by omega
   have hki2:(k:Int)<=(n:Int):=by omega
   obtain⟨m,hm⟩:∃m,min k (n-k)=m:=⟨_,rfl⟩
   have hc:=fun W (hRW:RowI W g (fill x n k))=>ZkM W 3 g n k x g 0 k n m hRW hk hm.symm (fun j hj=>by
    have h1:=(hRW.cell (i:=j) (by rw [Zq5 x n k hk];omega)).1;rw [Nat.zero_add,h1,List.getD_eq_getElem?_getD,Zq6 x n k j (by omega)];rfl)
   obtain⟨cs2,hr3,hR3⟩:=hc (wr.drewN 1) HR.out;obtain⟨d,hd⟩:∃d,n-k=d:=⟨_,rfl⟩
   have hdi:(n:Int)-(k:Int)=(d:Int):=by omega
   rw [hd] at hr3;have HR3:Hid (RowI (wr.drew.setRow g cs2) g (fill x n (k+m))):=zh hR3;have HB3:Hid (Below g w' (wr.drew.setRow g cs2)):=zh (Zal HB.out.drew (Nat.le_refl _) cs2);have hmb:1<=m/\k+m<=n:=by omega
   have hm1:=hmb.1;have hm2:=hmb.2;have HWR:Hid (IntKind.i64.wrap ((k:Int)+(m:Int))=((k+m:Nat):Int)):=zh (by rw [IntWalk.i64_in _ (by omega)];simp);clear hc hm hR3 hmb;have hr4:(Builtin.copy_ #[106,106] 3 #[.slice (some ⟨g,k,none⟩) d d,.slice (some ⟨g,0,none⟩) k n]).run Tryz.prog wr.drew=.ok (.int .i64 (m:Int)) (wr.drew.setRow g cs2):=hr3;clear hr3;go_wp2_with fail
   go_region_held3 (fun W=>True) (trivial) (fail)
   rw [HWR.out];generalize wr.drew.setRow g cs2=w5 at *;clear hr4;go_wp2_with fail;go_roundw
   case rel=>exact⟨k+m,rfl,by omega,by omega,HR3.out,HB3.out⟩
   case measure=>simp [intOf];omega
  ·obtain rfl:k=n:=by omega
   go_wp2_with fail;go_ret;exact⟨rfl,by rw [<-Zq7];exact HR.out,HB.out⟩
end
section
open Go.RowKit TabM
def Zf9:Array Value:=#[.int .i64 200,.int .i64 600,.int .i64 1200,.int .i64 2400]
def Bnds (w:World):Prop:=∃t fr,w.heap[2]?=some (.cells Zf9 t fr)
theorem Bnds.lt {w:World} (h:Bnds w):2<w.heap.size:=by
 obtain⟨t,fr,h⟩:=h;exact(Array.getElem?_eq_some_iff.1 h).1
theorem Bnds.below {w w':World} (h:Bnds w) (hb:Below w.heap.size w w'):Bnds w':=by
 have hl:=h.lt;obtain⟨t,fr,h⟩:=h;exact⟨t,fr,(hb.block _ hl).trans h⟩
theorem Zpt (k:Nat) (hk:k<4) (W:World):(Instr.index 262 (.agg Zf9) (.int .i64 (k:Int))).run Tryz.prog W=.ok (.int .i64 (bnd k)) W:=by
 have hu:=Tryz.underlying262;rcases(by omega:k=0\/k=1\/k=2\/k=3) with rfl|rfl|rfl|rfl<;>(simp [Instr.index,run_underlying hu,asIntOf,go_sem,Zf9];rfl)
theorem Zq8:(Tryz.prog.info? 262).map (·.size)=some Zf9.size:=by kernel_rfl
theorem ZkN (n:Int) (w:World) (hB:Bnds w):Calls Tryz.prog 200 #[.int .i64 n] w fun e w'=>e=.returned (.int .i64 (nTab n:Int))/\w'=w:=by
 obtain⟨t,fr,hg⟩:=hB;have hi:=Zq8;have HIX:=zh Zpt;obtain⟨M4,hM4⟩:∃M4,nTab n=M4:=⟨_,rfl⟩
 have HM4:Hid (nB n 4=M4):=zh (by rw [Zs9,hM4]);rw [hM4];clear hM4;generalize Zf9=C at *;go_enter Tryz.func200,Tryz.ntmps200;go_wp2_with (refine wpList_load_row rfl 262 _ rfl 2 rfl t C fr _ hg Tryz.underlying262 rfl hi ?_);clear hg hi
 go_loopw [3,7] (fun vn vk wr=>∃k:Nat,vk=.int .i64 (k:Int)/\k<=4/\vn=.int .i64 (nB n k:Int)/\wr=w) (fun _ vk _=>4-(intOf vk).toNat)
 case atStart=>exact⟨0,rfl,by omega,by rw [Zsg];rfl,rfl⟩
 case round=>
  obtain⟨k,rfl,hk,rfl,rfl⟩:=hrel;by_cases hk4:k<4
  ·have hki:(k:Int)<4:=by omega
   have hx:=HIX.out k hk4;have hs:=zh (Zsh n k hk4);have hl:=Zts n k;generalize bnd k=B at *;generalize nB n k=M at *;by_cases hn:B<=n
   ·have HS:Hid (nB n (k+1)=M+1):=zh (by rw [hs.out,if_pos hn]);clear hs;go_wp2_with fail;go_roundw
    case rel=>exact⟨k+1,by go_num,by omega,by rw [HS.out];go_num,by trivial⟩
    case measure=>simp [intOf];omega
   ·have HS:Hid (nB n (k+1)=M):=zh (by rw [hs.out,if_neg hn];rfl);clear hs;go_wp2_with fail;go_roundw
    case rel=>exact⟨k+1,by go_num,by omega,by rw [HS.out],by trivial⟩
    case measure=>simp [intOf];omega
  ·obtain rfl:k=4:=by omega
   rw [HM4.out];go_wp2_with fail;go_ret;exact⟨rfl,rfl⟩
end
section
open Go.RowKit
theorem Zhz:(Tryz.prog.info? 106).map (fun i=>(i.zero,i.size,i.bytes))=some (some (.slice none 0 0),1,24):=by kernel_rfl
def OwnRR (W:World) (B bn:Nat) (v:Value) (gs:List (List Int)):Prop:=
 B<=bn/\bn<=W.heap.size/\(∀k,v.ownBlock=some k->k<bn)/\∃vs:List Value,vs.length=gs.length/\W.ownsRow B 106 1 v gs.length vs /\
  ∀(i:Nat) (u:Value),vs[i]?=some u->∃g,gs[i]?=some g/\OwnI W 0 u g/\∀k,u.ownBlock=some k->k<bn/\v.ownBlock≠some k
def IsRR (w:World) (v:Value) (gs:List (List Int)):Prop:=∃a cap,v=.slice a gs.length cap/\∀(i:Nat) (g:List Int),gs[i]?=some g->∃b off u,a=some ⟨b,off,none⟩/\w.cell? ⟨b,off+i,none⟩=some u/\IsInts w u g
theorem IsRR.below {w w':World} {v:Value} {gs:List (List Int)} (h:IsRR w v gs) (hb:Below w.heap.size w w'):IsRR w' v gs:=by
 obtain⟨a,cap,hv,hc⟩:=h;refine⟨a,cap,hv,fun i g hg=>?_⟩;obtain⟨b,off,u,ha,hcell,hi⟩:=hc i g hg;exact⟨b,off,u,ha,(hb.cell (ZaE hcell)).trans hcell,hi.below hb⟩
theorem OwnRR.rr {W:World} {B bn:Nat} {v:Value} {gs:List (List Int)} (h:OwnRR W B bn v gs):IsRR W v gs:=by
 obtain⟨h1,h2,h3,vs,h4,h5,h6⟩:=h;rcases h5.2 with⟨rfl,h0⟩|⟨g,cap,cur,rfl,_,hg,_⟩
 ·obtain rfl:gs=[]:=List.eq_nil_of_length_eq_zero h0;exact⟨none,0,rfl,fun i g hg=>by simp at hg⟩
 ·refine⟨_,cap,rfl,fun i x hx=>?_⟩;have hi:=(List.getElem?_eq_some_iff.1 hx).1;have hvi:vs[i]?=some (vs[i]'(by omega)):=List.getElem?_eq_getElem (by omega);obtain⟨g',hg',ho,_⟩:=h6 i _ hvi;rw [hx] at hg';cases hg';exact⟨g,0,_,rfl,by rw [Nat.zero_add,h5.cellAt i (by omega),hvi],ho.ints⟩
theorem Zh3 {ops:Array Oper} {rest:List Oper} {o:Oper} {a:Act} {Q:Exit->Act->World->Prop} (W:World) (hgd:o.guard=none) (s x:Operand)
  (ho:o.op=.call { callee:=.builtin .append,args:=#[s,x],argTypes:=#[152,152] })
  (B bn:Nat) (v:Value) (gs:List (List Int)) (u:Value) (g:List Int) (hown:OwnRR W B bn v gs) (hu:OwnI W bn u g) (hs:a.eval s=v) (hx:a.eval x=.slice (some ⟨W.heap.size,0,none⟩) 1 1)
  (hlen:gs.length+1<=1099511627776)
  (h:∀v' w',OwnRR w' B w'.heap.size v' (gs++[g])->Below B W w'->wpList Tryz.prog ops Q rest (a.put o.dst v') w') :
  wpList Tryz.prog ops Q (o::rest) a (W.alloc (.cells #[u] 106)):=by
 obtain⟨i0,hi,hz0,hz1,hz2⟩:=info_parts Zhz;obtain⟨h1,h2,h3,vs,h4,h5,h6⟩:=hown;refine Zai hgd s x 152 ho B 106 i0 (.slice none 0 0) 1 24 Tryz.underlying152 hi hz0 hz1 hz2 rfl (by decide) v gs.length vs (World.ownsRow.alloc h5 _) hs ⟨W.heap.size,0,none⟩ 1 1 [u] hx rfl ?_ ?_ ?_ ?_ ?_ ?_
 ·exact ZaB _ _ _ _ rfl
 ·intro y hy;rw [List.mem_singleton] at hy;subst hy;obtain⟨a1,c1,rfl⟩:=hu.slice;rfl
 ·unfold maxLen;omega
 ·omega
 ·simp;omega
 ·intro v' w' hown' hg hv;have hBW:Below B W w':=Below.grown ((Below.refl B W).alloc (by omega) _) hg (by simp;omega) (fun j hj=>(World.ownsRow.lt h5 j hj).1);have keep:∀k,k<W.heap.size->v.ownBlock≠some k->w'.heap[k]?=W.heap[k]?:=fun k hk hne=>(hg.block k (by simp;omega) (fun e=>hne e.symm)).trans (Zam hk)
  have hvv:∀k,v'.ownBlock=some k->v.ownBlock=some k\/W.heap.size<=k:=fun k hk=>(hv k hk).imp id (fun h=>by simp at h;omega)
  refine h v' w' ⟨Nat.le_trans (by omega) hBW.size,Nat.le_refl _,fun k hk=>(World.ownsRow.lt hown' k hk).2,vs++[u],by simp [h4],by rw [List.length_append];exact hown',fun i y hy=>?_⟩ hBW;rw [List.getElem?_append] at hy;split at hy
  ·rename_i hlt;obtain⟨g',hg',ho',hk'⟩:=h6 i y hy;refine⟨g',by rw [List.getElem?_append_left (by omega)];exact hg',ho'.same (fun k hk=>keep k (by have:=(hk' k hk).1;omega) (hk' k hk).2),fun k hk=>⟨by have:=(hk' k hk).1;have:=hBW.size;omega,fun e=>?_⟩⟩;rcases hvv k e with h|h
   ·exact(hk' k hk).2 h
   ·have:=(hk' k hk).1;omega
  ·rename_i hge
   have hi0:i-vs.length=0:=by
    by_cases h0:i-vs.length=0
    ·exact h0
    ·exfalso
     rw [List.getElem?_eq_none (by simp;omega)] at hy;cases hy
   rw [hi0] at hy;simp only [List.getElem?_cons_zero,Option.some.injEq] at hy;subst hy;have hne:∀k,u.ownBlock=some k->v.ownBlock≠some k:=fun k hk e=>by have h7:=(hu.lt k hk).1;have h8:=h3 k e;omega
   refine⟨g,by rw [show i=gs.length by omega];simp,(hu.lower (Nat.zero_le _)).same (fun k hk=>keep k (hu.lt k hk).2 (hne k hk)),fun k hk=>⟨by have:=(hu.lt k hk).2;have:=hBW.size;omega,fun e=>?_⟩⟩;rcases hvv k e with h|h
   ·exact hne k hk h
   ·have:=(hu.lt k hk).2;omega
def OwnRI (W:World) (B bn:Nat) (v:Value) (gs:List (List Int)):Prop:=
 B<=bn/\bn<=W.heap.size/\(∀k,v.ownBlock=some k->k<bn)/\∃vs:List Value,vs.length=gs.length/\W.ownsRow B 106 1 v gs.length vs /\
  ∀(i:Nat) (u:Value),vs[i]?=some u->∃g,gs[i]?=some g/\IsInts W u g/\∀k,u.ownBlock=some k->B<=k/\k<bn/\v.ownBlock≠some k
theorem OwnRI.nil (W:World) (B:Nat) (hB:B<=W.heap.size):OwnRI W B B (.slice none 0 0) []:=
 ⟨Nat.le_refl _,hB,fun k h=>by simp [Value.ownBlock] at h,[],rfl,World.ownsRow_nil _ _ _ _,fun i u h=>by simp at h⟩
theorem IsInts.same {w w':World} {v:Value} {zs:List Int} (h:IsInts w v zs) (he:∀k,v.ownBlock=some k->w'.heap[k]?=w.heap[k]?):IsInts w' v zs:=by
 obtain⟨a,cap,rfl,hc⟩:=h;refine⟨a,cap,rfl,fun i x hx=>?_⟩;obtain⟨b,off,ha,hb⟩:=hc i x hx;refine⟨b,off,ha,?_⟩;rw [World.cell?_of_block (w:=w) (a:=⟨b,off+i,none⟩) (he b (by rw [ha];rfl))];exact hb
theorem OwnRI.below {W W':World} {B bn:Nat} {v:Value} {gs:List (List Int)} (h:OwnRI W B bn v gs) (hb:Below bn W W'):OwnRI W' B bn v gs:=by
 obtain⟨h1,h2,h3,vs,h4,h5,h6⟩:=h;refine⟨h1,Nat.le_trans h2 hb.size,h3,vs,h4,Zag h5 (fun k hk=>hb.block k (h3 k hk)),fun i u hu=>?_⟩;obtain⟨g,hg,ho,hk⟩:=h6 i u hu;exact⟨g,hg,ho.same (fun k hkk=>hb.block k (hk k hkk).2.1),hk⟩
theorem OwnRI.same {W W':World} {B bn:Nat} {v:Value} {gs:List (List Int)} (h:OwnRI W B bn v gs) (he:∀k,B<=k->k<bn->W'.heap[k]?=W.heap[k]?) (hs:W.heap.size<=W'.heap.size):OwnRI W' B bn v gs:=by
 obtain⟨h1,h2,h3,vs,h4,h5,h6⟩:=h;refine⟨h1,Nat.le_trans h2 hs,h3,vs,h4,Zag h5 (fun k hk=>he k (World.ownsRow.lt h5 k hk).1 (h3 k hk)),fun i u hu=>?_⟩;obtain⟨g,hg,ho,hk⟩:=h6 i u hu;exact⟨g,hg,ho.same (fun k hkk=>he k (hk k hkk).1 (hk k hkk).2.1),hk⟩
theorem OwnRI.rr {W:World} {B bn:Nat} {v:Value} {gs:List (List Int)} (h:OwnRI W B bn v gs):IsRR W v gs:=by
 obtain⟨h1,h2,h3,vs,h4,h5,h6⟩:=h;rcases h5.2 with⟨rfl,h0⟩|⟨g,cap,cur,rfl,_,hg,_⟩
 ·obtain rfl:gs=[]:=List.eq_nil_of_length_eq_zero h0;exact⟨none,0,rfl,fun i g hg=>by simp at hg⟩
 ·refine⟨_,cap,rfl,fun i x hx=>?_⟩;have hi:=(List.getElem?_eq_some_iff.1 hx).1;have hvi:vs[i]?=some (vs[i]'(by omega)):=List.getElem?_eq_getElem (by omega);obtain⟨g',hg',ho,_⟩:=h6 i _ hvi;rw [hx] at hg';cases hg';exact⟨g,0,_,rfl,by rw [Nat.zero_add,h5.cellAt i (by omega),hvi],ho⟩
theorem OwnRI.slice {W:World} {B bn:Nat} {v:Value} {gs:List (List Int)} (h:OwnRI W B bn v gs):∃a cap,v=.slice a gs.length cap:=by
 obtain⟨a,cap,hv,_⟩:=h.rr;exact⟨a,cap,hv⟩
theorem Zbp {ops:Array Oper} {rest:List Oper} {o:Oper} {a:Act} {Q:Exit->Act->World->Prop} (W:World) (hgd:o.guard=none) (s x:Operand)
  (ho:o.op=.call { callee:=.builtin .append,args:=#[s,x],argTypes:=#[152,152] })
  (B bn:Nat) (v:Value) (gs:List (List Int)) (u:Value) (g:List Int) (hown:OwnRI W B bn v gs) (hu:IsInts W u g) (hul:∀k,u.ownBlock=some k->bn<=k/\k<W.heap.size) (hs:a.eval s=v) (hx:a.eval x=.slice (some ⟨W.heap.size,0,none⟩) 1 1)
  (hlen:gs.length+1<=1099511627776)
  (h:∀v' w',OwnRI w' B w'.heap.size v' (gs++[g])->Below B W w'->(∀k,k<W.heap.size->v.ownBlock≠some k->w'.heap[k]?=W.heap[k]?)->(∀k,v'.ownBlock=some k->v.ownBlock=some k\/W.heap.size<=k)->wpList Tryz.prog ops Q rest (a.put o.dst v') w') :
  wpList Tryz.prog ops Q (o::rest) a (W.alloc (.cells #[u] 106)):=by
 obtain⟨i0,hi,hz0,hz1,hz2⟩:=info_parts Zhz;obtain⟨h1,h2,h3,vs,h4,h5,h6⟩:=hown;refine Zai hgd s x 152 ho B 106 i0 (.slice none 0 0) 1 24 Tryz.underlying152 hi hz0 hz1 hz2 rfl (by decide) v gs.length vs (World.ownsRow.alloc h5 _) hs ⟨W.heap.size,0,none⟩ 1 1 [u] hx rfl ?_ ?_ ?_ ?_ ?_ ?_
 ·exact ZaB _ _ _ _ rfl
 ·intro y hy;rw [List.mem_singleton] at hy;subst hy;obtain⟨a1,c1,rfl,_⟩:=hu;rfl
 ·unfold maxLen;omega
 ·omega
 ·simp;omega
 ·intro v' w' hown' hg hv;have hBW:Below B W w':=Below.grown ((Below.refl B W).alloc (by omega) _) hg (by simp;omega) (fun j hj=>(World.ownsRow.lt h5 j hj).1);have keep:∀k,k<W.heap.size->v.ownBlock≠some k->w'.heap[k]?=W.heap[k]?:=fun k hk hne=>(hg.block k (by simp;omega) (fun e=>hne e.symm)).trans (Zam hk)
  have hvv:∀k,v'.ownBlock=some k->v.ownBlock=some k\/W.heap.size<=k:=fun k hk=>(hv k hk).imp id (fun h=>by simp at h;omega)
  refine h v' w' ⟨Nat.le_trans (by omega) hBW.size,Nat.le_refl _,fun k hk=>(World.ownsRow.lt hown' k hk).2,vs++[u],by simp [h4],by rw [List.length_append];exact hown',fun i y hy=>?_⟩ hBW keep hvv;rw [List.getElem?_append] at hy;split at hy
  ·rename_i hlt;obtain⟨g',hg',ho',hk'⟩:=h6 i y hy;refine⟨g',by rw [List.getElem?_append_left (by omega)];exact hg',ho'.same (fun k hk=>keep k (by have:=(hk' k hk).2.1;omega) (hk' k hk).2.2),fun k hk=>⟨(hk' k hk).1,by have:=(hk' k hk).2.1;have:=hBW.size;omega,fun e=>?_⟩⟩;rcases hvv k e with h|h
   ·exact(hk' k hk).2.2 h
   ·have:=(hk' k hk).2.1;omega
  ·rename_i hge
   have hi0:i-vs.length=0:=by
    by_cases h0:i-vs.length=0
    ·exact h0
    ·exfalso
     rw [List.getElem?_eq_none (by simp;omega)] at hy;cases hy
   rw [hi0] at hy;simp only [List.getElem?_cons_zero,Option.some.injEq] at hy;subst hy;have hne:∀k,u.ownBlock=some k->v.ownBlock≠some k:=fun k hk e=>by have h7:=(hul k hk).1;have h8:=h3 k e;omega
   refine⟨g,by rw [show i=gs.length by omega];simp,hu.same (fun k hk=>keep k (hul k hk).2 (hne k hk)),fun k hk=>⟨by have:=(hul k hk).1;omega,by have:=(hul k hk).2;have:=hBW.size;omega,fun e=>?_⟩⟩;rcases hvv k e with h|h
   ·exact hne k hk h
   ·have:=(hul k hk).2;omega
end
section
open Go.RowKit FreqM
theorem ZkO (a b:Int) (w:World) (ha:0<=a/\a<=1099511627776) (hb:0<=b/\b<=1099511627776):Calls Tryz.prog 227 #[.int .i64 a,.int .i64 b] w fun e w'=>e=.returned (.int .i64 (cap (a+b)))/\w=w':=by
 obtain⟨a0,a1⟩:=ha;obtain⟨b0,b1⟩:=hb;have hw:IntKind.i64.wrap (a+b)=a+b:=IntWalk.i64_in _ (by omega);by_cases h:1099511627776<a+b
 ·rw [ZkD _ h];go_enter Tryz.func227,Tryz.ntmps227;go_wp2_with fail;go_ret;exact⟨rfl,rfl⟩
 ·rw [Zgk _ (by omega)];by_cases h2:a+b=1099511627776
  ·rw [h2] at hw ⊢;go_enter Tryz.func227,Tryz.ntmps227;go_wp2_with fail;go_ret;exact⟨rfl,rfl⟩
  ·have h3:a+b<1099511627776:=by omega
   go_enter Tryz.func227,Tryz.ntmps227;go_wp2_with fail;go_ret;exact⟨rfl,rfl⟩
def CostOk (l lens:List Int):Prop:=Syms l (lens.length:Int)/\Nums lens
def CostP (l lens:List Int) (n:Int) (err:Nat):Prop:=(¬CostOk l lens/\n=0/\err=1)\/(CostOk l lens/\n=cap (costS l lens)/\err=0)
theorem Zq9 {l lens:List Int} (h:Nums lens):0<=costS l lens:=by
 unfold costS;apply Zhu;intro x hx;obtain⟨y,_,rfl⟩:=List.mem_map.1 hx;rw [List.getD_eq_getElem?_getD];cases he:lens[y.toNat]? with
 | none=>simp
 | some z=>exact(h z (List.mem_of_getElem? he)).1
theorem Zra (v u:Value) (zs ls:List Int) (w:World) (hv:IsInts w v zs) (hu:IsInts w u ls) (hz:zs.length<=1000000) (hl:ls.length<=1000000) :
  Calls Tryz.prog 217 #[v,u] w fun e w'=>∃(n:Int) (err:Nat),e=.returned (.tuple #[.int .i64 n,.int .i64 (err:Int)])/\w=w'/\CostP zs ls n err:=by
 have HV:=zh hv;have HU:=zh hu;obtain⟨a,cap1,rfl,_⟩:=hv;obtain⟨b,cap2,rfl,_⟩:=hu;by_cases hs:Syms zs (ls.length:Int)
 ·have HA:=zh (Zdp _ zs (ls.length:Int) true w HV.out (by omega) ⟨fun _=>hs,fun _=>rfl⟩);by_cases hn:Nums ls
  ·have HN:=zh (Zgl _ ls true w HU.out (by omega) ⟨fun _=>hn,fun _=>rfl⟩);have HS:=zh hs;have HNU:=zh hn;have HCN:Hid (∀l,0<=costS l ls):=zh (fun l=>Zq9 hn);clear hs hn;go_enter Tryz.func217,Tryz.ntmps217;go_wp2_with fail;refine HA.out.mono ?_;rintro e w' ⟨rfl,rfl⟩;go_wp2_with fail;refine HN.out.mono ?_;rintro e w' ⟨rfl,rfl⟩;clear HA HN;go_wp2_with fail
   go_loop [6,21] (fun c i=>∃k:Nat,k<=zs.length/\i=.int .i64 k/\c=.int .i64 (cap (costS (zs.take k) ls))) (fun _ i=>zs.length-(intOf i).toNat)
   case atStart=>exact⟨0,by omega,rfl,rfl⟩
   case round=>
    obtain⟨k,hk,rfl,rfl⟩:=hrel;by_cases hlk:k<zs.length
    ·have hki:(k:Int)<(zs.length:Int):=by omega
     obtain⟨b1,o1,k1,he1,c1⟩:=HV.out.cell hlk;simp only [Value.slice.injEq] at he1;obtain⟨rfl,_,rfl⟩:=he1;obtain⟨x,hx⟩:∃x,zs.getD k 0=x:=⟨_,rfl⟩
     have hxr:=HS.out x (by rw [<-hx];exact FreqM.getD_mem zs k hlk);obtain⟨y,rfl⟩:∃y:Nat,x=(y:Int):=⟨x.toNat,by omega⟩
     have hyl:y<ls.length:=by omega
     obtain⟨b2,o2,k2,he2,c2⟩:=HU.out.cell hyl;simp only [Value.slice.injEq] at he2;obtain⟨rfl,_,rfl⟩:=he2;have hct:=Zno zs ls k hlk;rw [hx] at c1 hct;simp only [Int.toNat_natCast] at hct;have hlr:=HNU.out _ (FreqM.getD_mem ls y hyl);have hnn:=HCN.out (zs.take k);generalize ls.getD y 0=z at *;have HCA:Hid (cap (costS (zs.take (k+1)) ls)=cap (cap (costS (zs.take k) ls)+z)):=zh (by rw [hct,Zim _ _ hlr.1]);have hc0:=ZkC _ hnn;have hc1:=ZkB (costS (zs.take k) ls);generalize cap (costS (zs.take k) ls)=c at *;have HTO:=zh (fun W=>ZkO c z W ⟨hc0,hc1⟩ hlr);have hy0:(0:Int)<=(y:Int):=by omega
     have hyI:(y:Int)<(ls.length:Int):=hxr.2;clear hx hct hlr hnn hxr;go_wp2_with fail;refine(HTO.out w).mono ?_;rintro e w' ⟨rfl,rfl⟩;go_wp2_with fail
     go_round
     case rel=>exact⟨k+1,by omega,by go_num,by rw [HCA.out]⟩
     case measure=>simp [intOf];omega
    ·obtain rfl:k=zs.length:=by omega
     rw [List.take_of_length_le (Nat.le_refl _)];go_wp2_with fail;go_ret2;exact⟨_,0,rfl,rfl,Or.inr ⟨⟨HS.out,HNU.out⟩,rfl,rfl⟩⟩
  ·have HN:=zh (Zgl _ ls false w HU.out (by omega) ⟨fun e=>(by cases e),fun e=>absurd e hn⟩);have HNO:Hid (¬CostOk zs ls):=zh (fun h=>hn h.2);clear hs hn;go_enter Tryz.func217,Tryz.ntmps217;go_wp2_with fail;refine HA.out.mono ?_;rintro e w' ⟨rfl,rfl⟩;go_wp2_with fail;refine HN.out.mono ?_;rintro e w' ⟨rfl,rfl⟩;go_wp2_with fail;go_ret2;exact⟨0,1,rfl,rfl,Or.inl ⟨HNO.out,rfl,rfl⟩⟩
 ·have HA:=zh (Zdp _ zs (ls.length:Int) false w HV.out (by omega) ⟨fun e=>(by cases e),fun e=>absurd e hs⟩);have HNO:Hid (¬CostOk zs ls):=zh (fun h=>hs h.1);clear hs;go_enter Tryz.func217,Tryz.ntmps217;go_wp2_with fail;refine HA.out.mono ?_;rintro e w' ⟨rfl,rfl⟩;go_wp2_with fail;go_ret2;exact⟨0,1,rfl,rfl,Or.inl ⟨HNO.out,rfl,rfl⟩⟩
end
section
open Go.RowKit
theorem ZkP (b off m c:Nat) (zs:List Int) (w:World) (hI:IsInts w (.slice (some ⟨b,off,none⟩) m c) zs) (hm:zs.length<=1000000) :
  Calls Tryz.prog 161 #[.slice (some ⟨b,off,none⟩) m c] w fun e w'=>∃v,e=.returned v/\OwnI w' w.heap.size v zs/\Below w.heap.size w w':=by
 have HI:=zh hI;have hnil:∀W,(binOp .eql 106 (.slice (some ⟨b,off,none⟩) m c) (.slice none 0 0)).run Tryz.prog W=.ok (.bool false) W:=fun W=>Lib.run_eql_slice_nil W _ _ _ _ _ _ _ Tryz.underlying106
 go_enter Tryz.func161,Tryz.ntmps161;go_wp2_with (at_builtin;go_loud (refine Zf1 _ rfl _ _ rfl w.heap.size _ [] b off m c zs (OwnI.lit w w.heap.size (Nat.le_refl _)) (by exact HI.out.alloc _) rfl rfl (by simp;omega) (by simp) ?_));intro v' w2 hO2 hB2;have HO2:=zh hO2;have HB2:=zh (((Below.refl w.heap.size w).alloc (Nat.le_refl _) (.cells #[] 3)).trans hB2);clear hO2 hB2;go_wp2_with fail;go_ret;exact⟨_,rfl,HO2.out,HB2.out⟩
end
section
open Go.RowKit FreqM
def gn (n:Int):Int:=if n<=0 then 0 else(n-1) / 50+1
theorem Zpu (n:Nat):gn (n:Int)=(ng n:Int):=by
 unfold gn;by_cases h:n=0
 ·subst h;rfl
 ·rw [if_neg (by omega),Zs4 n (by omega)]
theorem ZhA (n:Int) (w:World) (h1:-9223372036854775808<=n) (h2:n<=9223372036854775807):Calls Tryz.prog 167 #[.int .i64 n] w fun e w'=>e=.returned (.int .i64 (gn n))/\w=w':=by
 by_cases h:n<=0
 ·rw [show gn n=0 from if_pos h];go_enter Tryz.func167,Tryz.ntmps167;go_wp2_with fail;go_ret;exact⟨rfl,rfl⟩
 ·rw [show gn n=(n-1) / 50+1 from if_neg h];have w1:IntKind.i64.wrap (n-1)=n-1:=IntWalk.i64_in _ (by omega);have w2:(n-1).tdiv 50=(n-1) / 50:=Int.tdiv_eq_ediv_of_nonneg (by omega);have w3:IntKind.i64.wrap ((n-1) / 50)=(n-1) / 50:=IntWalk.i64_in _ (by omega);have w4:IntKind.i64.wrap ((n-1) / 50+1)=(n-1) / 50+1:=IntWalk.i64_in _ (by omega);go_enter Tryz.func167,Tryz.ntmps167;go_wp2_with fail;go_ret;exact⟨rfl,rfl⟩
theorem ZnC (b off len c:Nat) (zs:List Int) (i:Nat) (w:World) (hI:IsInts w (.slice (some ⟨b,off,none⟩) len c) zs) (hlen:zs.length=len) (hm:len<=1000000) (hc:len<=c) (hc2:c<=9223372036854775807) (hi:50*i<len) :
  Calls Tryz.prog 216 #[.slice (some ⟨b,off,none⟩) len c,.int .i64 (i:Int)] w fun e w'=>∃v,e=.returned v/\OwnI w' w.heap.size v (grp zs i)/\Below w.heap.size w w':=by
 have hgl:=Zc7 zs i;rw [hlen] at hgl
 have HG:Hid (∀m,m=min 50 (len-50*i)->(zs.drop (50*i)).take m=grp zs i):=zh (fun m hmm=>by
  unfold grp;rw [hmm,<-hlen,<-List.length_drop];by_cases h:(zs.drop (50*i)).length<=50
  ·rw [Nat.min_eq_right h,List.take_of_length_le (Nat.le_refl _),List.take_of_length_le h]
  ·rw [Nat.min_eq_left (by omega)])
 obtain⟨q,hq⟩:∃q,50*i=q:=⟨_,rfl⟩
 rw [hq] at HG hi hgl;have HC:=zh (fun m (hmm:m=min 50 (len-q))=>ZkP b (off+q) m (c-q) (grp zs i) w (by rw [<-HG.out m hmm];exact hI.part q m (c-q) (by omega)) (by omega));have hw:IntKind.i64.wrap ((i:Int)*50)=(q:Int):=by rw [show(i:Int)*50=(q:Int) by omega];exact IntWalk.i64_in _ (by omega)
 have hqI:(i:Int)*50=(q:Int):=by omega
 have b0:(0:Int)<=(q:Int):=by omega
 have b1:(q:Int)<=(len:Int):=by omega
 have b2:(len:Int)<=(c:Int):=by omega
 clear hI hq;go_enter Tryz.func216,Tryz.ntmps216;go_wp2_with fail
 all_goals
  refine(HC.out _ (by omega)).mono ?_;rintro e w2 ⟨v,rfl,hO,hB⟩;have HO:=zh hO;have HB:=zh hB;clear hO hB;go_wp2_with fail;go_ret;exact⟨_,rfl,HO.out,HB.out⟩
end
section
open Go.RowKit TabM FreqM HufM
def rv (n:Nat) (b:Nat):Value:=.slice (some ⟨b,0,none⟩) n n
def TabW (w:World) (B:Nat) (v:Value) (bs:List Nat) (gs:List (List Int)) (n:Nat):Prop:=
 bs.length=gs.length/\w.ownsRow B 106 1 v gs.length (bs.map (rv n))/\(∀(i b:Nat),bs[i]?=some b->B<=b/\v.ownBlock≠some b/\∃g,gs[i]?=some g/\g.length=n/\RowI w b g)/\bs.Nodup
theorem TabW.nil (w:World) (B n:Nat):TabW w B (.slice none 0 0) [] [] n:=⟨rfl,World.ownsRow_nil _ _ _ _,fun i b h=>by simp at h,List.nodup_nil⟩
theorem TabW.slice {w:World} {B:Nat} {v:Value} {bs:List Nat} {gs:List (List Int)} {n:Nat} (h:TabW w B v bs gs n):∃a cap,v=.slice a gs.length cap:=Zao h.2.1
theorem TabW.below {w w':World} {B:Nat} {v:Value} {bs:List Nat} {gs:List (List Int)} {n:Nat} (h:TabW w B v bs gs n) (hb:Below w.heap.size w w'):TabW w' B v bs gs n:=by
 obtain⟨h1,h2,h3,h4⟩:=h;refine⟨h1,Zag h2 (fun k hk=>hb.block k (World.ownsRow.lt h2 k hk).2),fun i b hi=>?_,h4⟩;obtain⟨k1,k2,g,k3,k4,k5⟩:=h3 i b hi;exact⟨k1,k2,g,k3,k4,k5.below hb⟩
theorem TabW.rr {w:World} {B:Nat} {v:Value} {bs:List Nat} {gs:List (List Int)} {n:Nat} (h:TabW w B v bs gs n):IsRR w v gs:=by
 obtain⟨h1,h2,h3,h4⟩:=h;rcases h2.2 with⟨rfl,h0⟩|⟨g,cap,cur,rfl,_,hg,_⟩
 ·obtain rfl:gs=[]:=List.eq_nil_of_length_eq_zero h0;exact⟨none,0,rfl,fun i g hg=>by simp at hg⟩
 ·refine⟨_,cap,rfl,fun i x hx=>?_⟩;have hi:=(List.getElem?_eq_some_iff.1 hx).1;have hbi:bs[i]?=some (bs[i]'(by omega)):=List.getElem?_eq_getElem (by omega);obtain⟨k1,k2,g',k3,k4,k5⟩:=h3 i _ hbi;rw [hx] at k3;cases k3;refine⟨g,0,rv n (bs[i]'(by omega)),rfl,?_,k5.ints n n k4.symm⟩;rw [Nat.zero_add,h2.cellAt i (by omega),List.getElem?_map,hbi];rfl
theorem Zrb {ops:Array Oper} {rest:List Oper} {o:Oper} {a:Act} {Q:Exit->Act->World->Prop} (W:World) (hgd:o.guard=none) (s x:Operand)
  (ho:o.op=.call { callee:=.builtin .append,args:=#[s,x],argTypes:=#[152,152] })
  (B:Nat) (v:Value) (bs:List Nat) (gs:List (List Int)) (n b:Nat) (g:List Int) (hown:TabW W B v bs gs n) (hu:RowI W b g) (hn:g.length=n) (hb:∀c∈bs,c<b) (hvb:∀k,v.ownBlock=some k->k<b) (hBb:B<=b) (hs:a.eval s=v) (hx:a.eval x=.slice (some ⟨W.heap.size,0,none⟩) 1 1)
  (hlen:gs.length+1<=1099511627776)
  (h:∀v' w',TabW w' B v' (bs++[b]) (gs++[g]) n->Below B W w'->wpList Tryz.prog ops Q rest (a.put o.dst v') w') :
  wpList Tryz.prog ops Q (o::rest) a (W.alloc (.cells #[rv n b] 106)):=by
 obtain⟨i0,hi,hz0,hz1,hz2⟩:=info_parts Zhz;obtain⟨h1,h2,h3,h4⟩:=hown;have hbl:=hu.lt;refine Zai hgd s x 152 ho B 106 i0 (.slice none 0 0) 1 24 Tryz.underlying152 hi hz0 hz1 hz2 rfl (by decide) v gs.length (bs.map (rv n)) (World.ownsRow.alloc h2 _) hs ⟨W.heap.size,0,none⟩ 1 1 [rv n b] hx rfl ?_ ?_ ?_ ?_ ?_ ?_
 ·exact ZaB _ _ _ _ rfl
 ·intro y hy;rw [List.mem_singleton] at hy;subst hy;rfl
 ·unfold maxLen;omega
 ·omega
 ·simp;omega
 ·intro v' w' hown' hg hv;have hBW:Below B W w':=Below.grown ((Below.refl B W).alloc (by omega) _) hg (by simp;omega) (fun j hj=>(World.ownsRow.lt h2 j hj).1);have keep:∀k,k<W.heap.size->v.ownBlock≠some k->w'.heap[k]?=W.heap[k]?:=fun k hk hne=>(hg.block k (by simp;omega) (fun e=>hne e.symm)).trans (Zam hk)
  have hvv:∀k,v'.ownBlock=some k->v.ownBlock=some k\/W.heap.size<=k:=fun k hk=>(hv k hk).imp id (fun h=>by simp at h;omega)
  refine h v' w' ⟨by rw [List.length_append,List.length_append,h1];rfl,by rw [List.length_append,List.map_append];exact hown',fun i c hc=>?_,?_⟩ hBW
  ·rw [List.getElem?_append] at hc;split at hc
   ·rename_i hlt;obtain⟨k1,k2,g',k3,k4,k5⟩:=h3 i c hc;refine⟨k1,fun e=>?_,g',by rw [List.getElem?_append_left (by omega)];exact k3,k4,(keep c k5.lt k2).trans k5⟩;rcases hvv c e with h|h
    ·exact k2 h
    ·have:=k5.lt;omega
   ·rename_i hge
    have hi0:i-bs.length=0:=by
     by_cases h0:i-bs.length=0
     ·exact h0
     ·exfalso
      rw [List.getElem?_eq_none (by simp;omega)] at hc;cases hc
    rw [hi0] at hc;simp only [List.getElem?_cons_zero,Option.some.injEq] at hc;subst hc;have hne:v.ownBlock≠some b:=fun e=>by have:=hvb b e;omega
    refine⟨hBb,fun e=>?_,g,by rw [show i=gs.length by omega];simp,hn,(keep b hbl hne).trans hu⟩;rcases hvv b e with h|h
    ·exact hne h
    ·omega
  ·rw [List.nodup_append];exact⟨h4,List.nodup_cons.2 ⟨by simp,List.nodup_nil⟩,fun c hc d hd e=>by rw [List.mem_singleton] at hd;have:=hb c hc;omega⟩
theorem TabW.set {w:World} {B:Nat} {v:Value} {bs:List Nat} {gs:List (List Int)} {n:Nat} (h:TabW w B v bs gs n) {t s:Nat} (ht:t<gs.length) (hs:s<n) :
  ∃gv cap b y,v=.slice (some ⟨gv,0,none⟩) gs.length cap/\w.cell? ⟨gv,t,none⟩=some (.slice (some ⟨b,0,none⟩) n n)/\w.cell? ⟨b,s,none⟩=some (.int .i64 y)/\w.frozen? ⟨b,s,none⟩=false/\B<=b /\
   ∀x:Int,TabW (w.setCell ⟨b,s,none⟩ (.int .i64 x)) B v bs (gs.set t ((gs.getD t []).set s x)) n:=by
 obtain⟨h1,h2,h3,h4⟩:=h;have hbt:bs[t]?=some (bs[t]'(by omega)):=List.getElem?_eq_getElem (by omega);obtain⟨k1,k2,g,k3,k4,k5⟩:=h3 t _ hbt;obtain⟨c1,c2,c3⟩:=k5.cell (i:=s) (by omega);have h2':=h2;rcases h2'.2 with⟨rfl,h0⟩|⟨gv,cap,cur,rfl,hgB,hg,_⟩
 ·omega
 have hgt:gs.getD t []=g:=by rw [List.getD_eq_getElem?_getD,k3];rfl
 have hgtb:gs[t]'ht=g:=by
  have:=List.getElem?_eq_getElem ht;rw [k3] at this;exact(Option.some.inj this).symm
 refine⟨gv,cap,bs[t]'(by omega),_,rfl,?_,c1,c2,k1,fun x=>?_⟩
 ·rw [h2.cellAt t (by omega),List.getElem?_map,hbt];rfl
 ·rw [hgt];refine⟨by rw [List.length_set,h1],by rw [List.length_set];exact Zag h2 (fun k hk=>heap_setCell_other _ _ _ _ (fun e=>k2 (by have e':k=bs[t]'(by omega):=e;rw [<-e'];exact hk))),fun i b hi=>?_,h4⟩;obtain⟨m1,m2,g',m3,m4,m5⟩:=h3 i b hi;by_cases e:i=t
  ·subst e;rw [hbt] at hi;cases hi;exact⟨m1,m2,g.set s x,by rw [List.getElem?_set_self ht],by rw [List.length_set];exact k4,c3 x⟩
  ·refine⟨m1,m2,g',by rw [List.getElem?_set_ne (fun h=>e h.symm)];exact m3,m4,(heap_setCell_other _ _ _ _ (fun h=>?_)).trans m5⟩;have hib:=(List.getElem?_eq_some_iff.1 hi)
   obtain⟨hib1,hib2⟩:=hib;have:=(List.getElem_inj (h₀:=hib1) (h₁:=by omega) h4 (i:=i) (j:=t)).1 (by rw [hib2];exact h);exact e this
theorem ZlP (v:Value) (cs:List Int) (n:Int) (w:World) (hv:IsInts w v cs) (hB:Bnds w) (hcs:Nums cs) (h3:3<=cs.length) (h258:cs.length<=258) (hn1:1<=n) (hn2:n<=1099511627776) :
  Calls Tryz.prog 168 #[v,.int .i64 n] w fun e w'=>∃u,e=.returned u/\IsRR w' u (firstM cs n)/\Below w.heap.size w w':=by
 have HV:=zh hv;have HCS:=zh hcs;obtain⟨ad,cap,rfl,_⟩:=hv;obtain⟨N,hN⟩:∃N,cs.length=N:=⟨_,rfl⟩
 have HN:=zh hN;rw [hN] at h3 h258 HV ⊢;obtain⟨T,hT⟩:∃T,nTab n=T:=⟨_,rfl⟩
 have HT:=zh hT;have hTb:=Zc8 n;rw [hT] at hTb;obtain⟨hT2,hT6⟩:=hTb;have HNU:=zh (ZkN n w hB);rw [hT] at HNU;have HR0:Hid (∀p,fRow cs n 0 p=List.replicate N 15):=zh (fun p=>by rw [Zo7,hN]);have HTB:Hid (∀k,min (sm cs k) (n-1)*(T:Int) / n=(tb cs n k:Int)/\tb cs n k<T):=zh (fun k=>by rw [<-hT];exact Znt (fun x hx=>(hcs x hx).1) hn1 k);have HSM:Hid (∀k,k<=N->0<=sm cs k/\sm cs k<=1099511627776*(k:Int)):=zh (fun k hk=>⟨Zns (fun x hx=>(hcs x hx).1) k,Zta hcs (by omega)⟩);have HSS:Hid (∀k,k<N->sm cs (k+1)=sm cs k+cs.getD k 0):=zh (fun k hk=>Zhx cs (by omega));have HFK:Hid (∀k,k<N->firstK cs n (k+1)=(firstK cs n k).set (tb cs n k) (((firstK cs n k).getD (tb cs n k) []).set k 0)):=zh (fun k hk=>ZlL cs n k (by omega) (Znt (fun x hx=>(hcs x hx).1) hn1 k).2);have HFL:Hid (∀k,(firstK cs n k).length=T):=zh (fun k=>by rw [Zca,hT])
 have HF0:Hid (∀j,j<=T->List.replicate j (List.replicate N (15:Int))=(List.range j).map (fRow cs n 0)):=zh (fun j hj=>by
  apply List.ext_getElem
  ·simp
  ·intro i h1 h2;simp only [List.getElem_replicate,List.getElem_map,List.getElem_range];exact(HR0.out i).symm)
 clear hcs hN hT hB;go_enter Tryz.func168,Tryz.ntmps168;go_wp2_with fail;refine HNU.out.mono ?_;rintro e w' ⟨rfl,rfl⟩;go_wp2_with fail
 go_loopw [5,12] (fun vt vj wr=>∃(j:Nat) (bs:List Nat),vj=.int .i64 (j:Int)/\j<=T/\TabW wr w'.heap.size vt bs (List.replicate j (List.replicate N 15)) N/\Below w'.heap.size w' wr) (fun _ vj _=>T-(intOf vj).toNat)
 case atStart=>exact⟨0,[],rfl,by omega,TabW.nil _ _ _,Below.refl _ _⟩
 case round=>
  rename_i vt _;obtain⟨j,bs,rfl,hj,hW,hB⟩:=hrel;have HW:=zh hW;have HB:=zh hB;obtain⟨av,cv,rfl⟩:=hW.slice;rw [List.length_replicate] at HW ⊢;clear hW hB;by_cases hjT:j<T
  ·have hji:(j:Int)<(T:Int):=by omega
   have hB1:=(Below.refl wr.heap.size wr).alloc (Nat.le_refl _) (.cells #[.int .i64 15] 3);have HI1:Hid (IsInts (wr.alloc (.cells #[.int .i64 15] 3)) (.slice (some ⟨wr.heap.size,0,none⟩) 1 1) [15]):=zh (Zgw (rest:=[]) (heap_alloc_new wr _) rfl);have HRP:=zh (ZnB _ 15 N _ HI1.out (by omega) (by omega));have hs1:(wr.alloc (.cells #[.int .i64 15] 3)).heap.size=wr.heap.size+1:=by simp
   rw [hs1] at HRP;have HB1:=zh hB1;clear hB1 hs1;go_wp2_with fail;refine HRP.out.mono ?_;rintro e w2 ⟨rfl,hR2,hB2⟩;have HR2:=zh hR2;have HB2:Hid (Below wr.heap.size wr w2):=zh (HB1.out.trans (hB2.mono (Nat.le_succ _)));have HW2:=zh (HW.out.below HB2.out)
   have hlb:∀c∈bs,c<wr.heap.size+1:=fun c hc=>by
    obtain⟨i,hi,rfl⟩:=List.mem_iff_getElem.1 hc;obtain⟨_,_,g,_,_,k5⟩:=HW.out.2.2.1 i _ (List.getElem?_eq_getElem hi);have:=k5.lt;omega
   have hlv:∀k,(Value.slice av j cv).ownBlock=some k->k<wr.heap.size+1:=fun k hk=>by have:=(World.ownsRow.lt HW.out.2.1 k hk).2;omega
   have hBs:=HB.out.size;have HLB:=zh hlb;have HLV:=zh hlv;clear hR2 hB2 hlb hlv HRP HI1;go_wp2_with (at_builtin;refine Zrb w2 rfl _ _ rfl w'.heap.size _ bs _ N (wr.heap.size+1) (List.replicate N 15) HW2.out HR2.out (by simp) HLB.out HLV.out (by omega) rfl rfl (by simp;omega) ?_);intro v3 w3 hW3 hB3;have HW3:Hid (TabW w3 w'.heap.size v3 (bs++[wr.heap.size+1]) (List.replicate (j+1) (List.replicate N 15)) N):=zh (by rw [List.replicate_succ'];exact hW3);have HB3:Hid (Below w'.heap.size w' w3):=zh (HB.out.trans ((HB2.out.mono hBs).trans hB3));clear hW3 hB3;go_wp2_with fail;go_roundw
   case rel=>exact⟨j+1,_,by go_num,by omega,HW3.out,HB3.out⟩
   case measure=>simp [intOf];omega
  ·obtain rfl:j=T:=by omega
   have HW0:Hid (TabW wr w'.heap.size (.slice av j cv) bs (firstK cs n 0) N):=zh (by
    have:=HW.out;rw [HF0.out j (Nat.le_refl _)] at this;unfold firstK;rw [HT.out];exact this)
   have hji:¬(j:Int)<(j:Int):=by omega
   clear HW;go_wp2_with fail;obtain⟨wz,rfl⟩:∃wz:World,wz=wr:=⟨_,rfl⟩
   go_loopw [6,24] (fun vb vk wr=>∃(k:Nat),vk=.int .i64 (k:Int)/\k<=N/\vb=.int .i64 (sm cs k)/\TabW wr w'.heap.size (.slice av j cv) bs (firstK cs n k) N/\Below w'.heap.size w' wr) (fun _ vk _=>N-(intOf vk).toNat)
   case atStart=>exact⟨0,rfl,by omega,by rw [Zhw],HW0.out,HB.out⟩
   case round=>
    clear HW0 HB;obtain⟨k,rfl,hk,rfl,hW,hB⟩:=hrel;have HW:=zh hW;have HB:=zh hB;have hsmk:=HSM.out k hk;clear hW hB;by_cases hkN:k<N
    ·have hki:(k:Int)<(N:Int):=by omega
     have HV2:=zh (HV.out.below HB.out);obtain⟨b1,o1,k1,he1,c1⟩:=HV2.out.cell (show k<cs.length by rw [HN.out];exact hkN);rw [HN.out] at he1;simp only [Value.slice.injEq] at he1;obtain⟨rfl,_,rfl⟩:=he1;have hxm:=HCS.out _ (FreqM.getD_mem cs k (by rw [HN.out];exact hkN));have hss:=HSS.out k hkN;obtain⟨x,hx⟩:∃x,cs.getD k 0=x:=⟨_,rfl⟩
     rw [hx] at c1 hxm hss;obtain⟨hq,htT⟩:=HTB.out k;have hfk:=HFK.out k hkN;obtain⟨t,htt⟩:∃t,tb cs n k=t:=⟨_,rfl⟩
     rw [htt] at hq htT hfk;obtain⟨gv,capv,b,y,he2,c2,c3,f3,hbB,hset⟩:=HW.out.set (t:=t) (s:=k) (by rw [HFL.out];exact htT) hkN;simp only [Value.slice.injEq] at he2;obtain⟨rfl,he2b,rfl⟩:=he2;clear he2b;have HNX:Hid (TabW (wr.setCell ⟨b,k,none⟩ (.int .i64 0)) w'.heap.size (.slice (some ⟨gv,0,none⟩) j cv) bs (firstK cs n (k+1)) N):=zh (by rw [hfk];exact hset 0);have HBN:Hid (Below w'.heap.size w' (wr.setCell ⟨b,k,none⟩ (.int .i64 0))):=zh (HB.out.setCell (p:=⟨b,k,none⟩) hbB _);obtain⟨S,hS⟩:∃S,sm cs k=S:=⟨_,rfl⟩
     rw [hS] at hss hsmk hq ⊢;obtain⟨hS0,hS1⟩:=hsmk;have hti:(t:Int)<(j:Int):=by omega
     have HSS2:=zh hss;have hSb:S<=283673999966208:=by omega
     clear hx htt hfk hset hS hss;by_cases hmin:n-1<S
     ·have hme:min S (n-1)=n-1:=by omega
      rw [hme] at hq;have hP0:0<=(n-1)*(j:Int):=Int.mul_nonneg (by omega) (by omega);have hP1:(n-1)*(j:Int)<=1099511627776*6:=Int.mul_le_mul (by omega) (by omega) (by omega) (by omega);obtain⟨P,hP⟩:∃P,(n-1)*(j:Int)=P:=⟨_,rfl⟩
      rw [hP] at hq hP0 hP1;have hPt:P.tdiv n=(t:Int):=by rw [Int.tdiv_eq_ediv_of_nonneg hP0,hq]
      have hn0:¬n=0:=by omega
      clear hme hq;go_wp2_with fail;go_roundw
      case rel=>exact⟨k+1,by go_num,by omega,by rw [HSS2.out],HNX.out,HBN.out⟩
      case measure=>simp [intOf];omega
     ·have hme:min S (n-1)=S:=by omega
      rw [hme] at hq;have hP0:0<=S*(j:Int):=Int.mul_nonneg (by omega) (by omega);have hP1:S*(j:Int)<=1099511627776*6:=Int.mul_le_mul (by omega) (by omega) (by omega) (by omega);obtain⟨P,hP⟩:∃P,S*(j:Int)=P:=⟨_,rfl⟩
      rw [hP] at hq hP0 hP1;have hPt:P.tdiv n=(t:Int):=by rw [Int.tdiv_eq_ediv_of_nonneg hP0,hq]
      have hn0:¬n=0:=by omega
      clear hme hq;go_wp2_with fail;go_roundw
      case rel=>exact⟨k+1,by go_num,by omega,by rw [HSS2.out],HNX.out,HBN.out⟩
      case measure=>simp [intOf];omega
    ·obtain rfl:k=N:=by omega
     have hki:¬(k:Int)<(k:Int):=by omega
     have HRR:Hid (IsRR wr (.slice av j cv) (firstM cs n)):=zh (by unfold firstM;rw [HN.out];exact HW.out.rr);go_wp2_with fail;go_ret;exact⟨_,rfl,HRR.out,HB.out⟩
theorem IsRR.at_ {w:World} {v:Value} {gs:List (List Int)} (h:IsRR w v gs) {k:Nat} (hk:k<gs.length):∃b off cap u,v=.slice (some ⟨b,off,none⟩) gs.length cap/\w.cell? ⟨b,off+k,none⟩=some u/\IsInts w u (rw_ gs k):=by
 obtain⟨a,cap,hv,hc⟩:=h;obtain⟨b,off,u,ha,hcell,hi⟩:=hc k _ (List.getElem?_eq_getElem hk);refine⟨b,off,cap,u,by rw [hv,ha],hcell,?_⟩;unfold rw_;rw [List.getD_eq_getElem?_getD,List.getElem?_eq_getElem hk];exact hi
def lst (g:List Int) (rows:List (List Int)) (k:Nat):Int:=if k=0 then 1099511627776 else costS g (rw_ rows (pk g rows k))
theorem ZkQ (vg vr:Value) (g:List Int) (rows:List (List Int)) (N:Nat) (w:World) (hg:IsInts w vg g) (hr:IsRR w vr rows) (hsy:Syms g (N:Int)) (hok:TabOk N rows) (hg50:g.length<=50) (hN:N<=258) :
  Calls Tryz.prog 203 #[vg,vr] w fun e w'=>e=.returned (.int .i64 (pickM g rows:Int))/\w'=w:=by
 have HR:=zh hr;have HOK:=zh hok;obtain⟨hl2,hl6,_⟩:=hok;have HCO:=zh (fun k (hk:k<rows.length) (u:Value) (hu:IsInts w u (rw_ rows k))=>Zra vg u g (rw_ rows k) w hg hu (by omega) (by rw [(HOK.out.at_ hk).1];omega))
 have HCK:Hid (∀k n err,k<rows.length->CostP g (rw_ rows k) n err->n=costS g (rw_ rows k)/\err=0/\0<=n/\n<=1000):=zh (fun k n err hk hp=>by
  obtain⟨h1,h2⟩:=HOK.out.at_ hk;have h3:=Zg9 hsy h1 h2;rcases hp with⟨h,_⟩|⟨_,h,h4⟩
  ·exact absurd ⟨by rw [h1];exact hsy,fun x hx=>by have:=h2 x hx;omega⟩ h
  ·rw [Zgk _ (by omega)] at h;exact⟨h,h4,by omega,by omega⟩)
 obtain⟨ar,cr,rfl,_⟩:=hr;obtain⟨T,hT⟩:∃T,rows.length=T:=⟨_,rfl⟩
 have HT:=zh hT;obtain⟨M,hM⟩:∃M,pickM g rows=M:=⟨_,rfl⟩
 have HM:Hid (pk g rows T=M):=zh (by rw [<-hT];exact hM);rw [hM];rw [hT] at hl2 hl6 HCO HCK ⊢;clear hT hM hg hsy;go_enter Tryz.func203,Tryz.ntmps203;go_wp2_with fail
 go_loopw [5,6,13] (fun vp vl vk wr=>∃k:Nat,vk=.int .i64 (k:Int)/\k<=T/\vp=.int .i64 (pk g rows k:Int)/\vl=.int .i64 (lst g rows k)/\wr=w) (fun _ _ vk _=>T-(intOf vk).toNat)
 case atStart=>exact⟨0,rfl,by omega,rfl,rfl,rfl⟩
 case round=>
  obtain⟨k,rfl,hk,rfl,rfl,rfl⟩:=hrel;by_cases hkT:k<T
  ·have hki:(k:Int)<(T:Int):=by omega
   obtain⟨b,off,cap,u,he,c1,hI⟩:=HR.out.at_ (show k<rows.length by rw [HT.out];exact hkT);rw [HT.out] at he;simp only [Value.slice.injEq] at he;obtain⟨rfl,he2,rfl⟩:=he;clear he2;have HCOK:=zh (HCO.out k hkT u hI);have HPS:Hid (pk g rows (k+1)=if costS g (rw_ rows k)<costS g (rw_ rows (pk g rows k)) then k else pk g rows k):=zh rfl;have hle:=ZlM g rows k;obtain⟨p,hp⟩:∃p,pk g rows k=p:=⟨_,rfl⟩
   obtain⟨L,hL⟩:∃L,lst g rows k=L:=⟨_,rfl⟩
   have HL:=zh hL;have HP:=zh hp;rw [hp] at HPS hle ⊢;rw [hL];clear hp hL hI;go_wp2_with fail;refine HCOK.out.mono ?_;rintro e w' ⟨n,err,rfl,rfl,hcp⟩;obtain⟨hn,rfl,hn0,hn1⟩:=HCK.out k n err hkT hcp;have HN:=zh hn;clear hcp hn;by_cases hlt:n<L
   ·have HNX:Hid (pk g rows (k+1)=k/\lst g rows (k+1)=n):=zh (by
     have h1:pk g rows (k+1)=k:=by
      rw [HPS.out];by_cases h0:k=0
      ·subst h0;have:p=0:=by omega
       rw [this];split<;>rfl
      ·have h2:=HL.out;unfold lst at h2;rw [if_neg h0,HP.out] at h2;rw [if_pos (by rw [h2,<-HN.out];exact hlt)]
     refine⟨h1,?_⟩;unfold lst;rw [if_neg (by omega),h1,HN.out])
    go_wp2_with fail;go_roundw
    case rel=>exact⟨k+1,by go_num,by omega,by rw [HNX.out.1],by rw [HNX.out.2],by trivial⟩
    case measure=>simp [intOf];omega
   ·have HNX:Hid (pk g rows (k+1)=p/\lst g rows (k+1)=L):=zh (by
     have h0:k≠0:=fun h0=>by
      subst h0;have h2:=HL.out;unfold lst at h2;rw [if_pos rfl] at h2;omega
     have h2:=HL.out;unfold lst at h2;rw [if_neg h0,HP.out] at h2
     have h1:pk g rows (k+1)=p:=by
      rw [HPS.out,if_neg (by rw [h2,<-HN.out];exact hlt)]
     refine⟨h1,?_⟩;unfold lst;rw [if_neg (by omega),h1,h2])
    go_wp2_with fail;go_roundw
    case rel=>exact⟨k+1,by go_num,by omega,by rw [HNX.out.1],by rw [HNX.out.2],by trivial⟩
    case measure=>simp [intOf];omega
  ·obtain rfl:k=T:=by omega
   have hki:¬(k:Int)<(k:Int):=by omega
   rw [HM.out];go_wp2_with fail;go_ret;exact⟨rfl,rfl⟩
end
end Go.Proofs.YtlfpbcadcfaboaaGreatDoor

import Derived.Test.YtlfpbcadcfaboaaGreatDoorTcA
import Derived.IntWalk
import Derived.Shelf.Abstract
import Derived.WalkKit
import Derived.Deep.RegionLaw
import Derived.BigQuiet
set_option linter.unusedVariables false
set_option linter.unusedSimpArgs false
set_option maxHeartbeats 8000000
set_option maxRecDepth 100000
namespace Go.Proofs.YtlfpbcadcfaboaaGreatDoor
section
open Go.RowKit RleM
structure Sizes (w:World):Prop where
 c0:w.cell? ⟨1,0,none⟩=some (.int .i64 0)
 c1:w.cell? ⟨1,1,none⟩=some (.int .i64 1)
 c2:w.cell? ⟨1,2,none⟩=some (.int .i64 2)
 c3:w.cell? ⟨1,3,none⟩=some (.int .i64 3)
 c4:w.cell? ⟨1,4,none⟩=some (.int .i64 5)
theorem Sizes.lt {w:World} (h:Sizes w):1<w.heap.size:=World.block_lt_of_cell? w ⟨1,0,none⟩ h.c0
theorem Sizes.touch {w w':World} {S:Nat->Prop} (h:Sizes w) (ht:Touch S w w') (hS:¬S 1):Sizes w':=by
 have e:∀o,w'.cell? ⟨1,o,none⟩=w.cell? ⟨1,o,none⟩:=fun o=>by
  have:=ht.block _ h.lt hS;simp only [World.cell?,this]
 exact⟨(e 0).trans h.c0,(e 1).trans h.c1,(e 2).trans h.c2,(e 3).trans h.c3,(e 4).trans h.c4⟩
theorem Sizes.below {w w':World} {B:Nat} (h:Sizes w) (hb:Below B w w') (hB:1<B):Sizes w':=by
 have e:∀o,w'.cell? ⟨1,o,none⟩=w.cell? ⟨1,o,none⟩:=fun o=>hb.cell (p:=⟨1,o,none⟩) hB
 exact⟨(e 0).trans h.c0,(e 1).trans h.c1,(e 2).trans h.c2,(e 3).trans h.c3,(e 4).trans h.c4⟩
theorem Sizes.same {w w':World} (h:Sizes w) (e:w'.heap=w.heap):Sizes w':=by
 have e:∀o,w'.cell? ⟨1,o,none⟩=w.cell? ⟨1,o,none⟩:=fun o=>by simp only [World.cell?,e]
 exact⟨(e 0).trans h.c0,(e 1).trans h.c1,(e 2).trans h.c2,(e 3).trans h.c3,(e 4).trans h.c4⟩
def rlsz (n:Nat):Nat:=if n<4 then n else 5
theorem Zmm (p:Pc):(packP p).length=rlsz p.2:=ZcF p
theorem Zmn (n:Nat) (w:World) (hT:Sizes w) (hn:n<=9223372036854775807):Calls Tryz.prog 188 #[.int .i64 (n:Int)] w fun e w'=>e=.returned (.int .i64 (rlsz n:Int))/\w=w':=by
 obtain⟨X,hX⟩:∃X:Int,(n:Int)=X:=⟨_,rfl⟩
 have HX:=zh hX;rw [hX];obtain⟨c0,c1,c2,c3,c4⟩:=hT;rcases(by omega:X=0\/X=1\/X=2\/X=3\/X=4\/4<X) with rfl|rfl|rfl|rfl|rfl|h
 ·clear hX;go_enter Tryz.func188,Tryz.ntmps188;go_wp2;go_ret;exact⟨ZaP (by have:=HX.out;unfold rlsz;rw [if_pos (by omega)];omega),rfl⟩
 ·clear hX;go_enter Tryz.func188,Tryz.ntmps188;go_wp2;go_ret;exact⟨ZaP (by have:=HX.out;unfold rlsz;rw [if_pos (by omega)];omega),rfl⟩
 ·clear hX;go_enter Tryz.func188,Tryz.ntmps188;go_wp2;go_ret;exact⟨ZaP (by have:=HX.out;unfold rlsz;rw [if_pos (by omega)];omega),rfl⟩
 ·clear hX;go_enter Tryz.func188,Tryz.ntmps188;go_wp2;go_ret;exact⟨ZaP (by have:=HX.out;unfold rlsz;rw [if_pos (by omega)];omega),rfl⟩
 ·clear hX;go_enter Tryz.func188,Tryz.ntmps188;go_wp2;go_ret;exact⟨ZaP (by have:=HX.out;unfold rlsz;rw [if_neg (by omega)];rfl),rfl⟩
 ·clear hX;go_enter Tryz.func188,Tryz.ntmps188;go_wp2;go_ret;exact⟨ZaP (by have:=HX.out;unfold rlsz;rw [if_neg (by omega)];rfl),rfl⟩
structure Counts (w0:World) (b:Nat) (n:Nat) (w:World):Prop where
 block:w.heap[b]?=some (.cells #[.int .i64 (n:Int)] 3 (0,0))
 below:Below w0.heap.size w0 w
theorem Counts.drewN {w0 w:World} {b n:Nat} (h:Counts w0 b n w) (m:Nat):Counts w0 b n (w.drewN m):=
 ⟨h.block,h.below.trans ⟨rfl,rfl,rfl,Nat.le_refl _,fun _ _=>rfl⟩⟩
theorem Counts.set {w0 w:World} {b n:Nat} (h:Counts w0 b n w) (hb:w0.heap.size<=b) (m:Nat):Counts w0 b m (w.setCell ⟨b,0,none⟩ (.int .i64 (m:Int))):=
 ⟨heap_setCell_same _ _ 0 _ _ _ h.block,h.below.trans ((Below.refl _ _).setCell hb _)⟩
theorem Counts.put {w0 w:World} {b n:Nat} (h:Counts w0 b n w) (hb:w0.heap.size<=b) (m:Nat) (X:Int) (hX:X=(m:Int)):Counts w0 b m (w.setCell ⟨b,0,none⟩ (.int .i64 X)):=hX▸h.set hb m
def ZdP (c:UInt8) (k:Nat) (x:UInt8):List UInt8:=List.replicate k c++(List.replicate (4-k) 0++[x])
theorem Zkm (c:UInt8) (k:Nat) (x:UInt8) (h:k<=4):(ZdP c k x).length=5:=by simp [ZdP];omega
theorem Zog (c:UInt8) (k:Nat) (h:k<4):((ZdP c k 0).map u8v).toArray.setIfInBounds k (.int .u8 (c.toNat:Int))=((ZdP c (k+1) 0).map u8v).toArray:=by
 rcases(by omega:k=0\/k=1\/k=2\/k=3) with rfl|rfl|rfl|rfl<;>simp [ZdP,u8v]
theorem Zm9 (c:UInt8) (y:UInt8):((ZdP c 4 0).map u8v).toArray.setIfInBounds 4 (.int .u8 (y.toNat:Int))=((ZdP c 4 y).map u8v).toArray:=by
 simp [ZdP,u8v]
def ZhS (p:Pc):List UInt8:=if p.2<4 then ZdP p.1 p.2 0 else ZdP p.1 4 (UInt8.ofNat (p.2-4))
theorem Zeq (p:Pc):(ZhS p).length=5:=by
 unfold ZhS;split<;>exact Zkm _ _ _ (by omega)
theorem Zna (p:Pc):(ZhS p).take (rlsz p.2)=packP p:=by
 unfold ZhS packP rlsz;split
 ·rw [ZdP,List.take_left' (by simp)]
 ·simp [ZdP]
theorem Ztr (c:UInt8):(#[.int .u8 0,.int .u8 0,.int .u8 0,.int .u8 0,.int .u8 0]:Array Value)=((ZdP c 0 0).map u8v).toArray:=by simp [ZdP,u8v]
structure Pk (w:World) (c:UInt8) (n:Nat) (l:List UInt8) (wr:World):Prop where
 b0:wr.heap[w.heap.size]?=some (.cells #[.int .u8 (c.toNat:Int),.int .i64 (n:Int)] 93 (0,0))
 b1:wr.heap[w.heap.size+1]?=some (.cells ((ZdP c 0 0).map u8v).toArray 223 (0,0))
 b2:wr.heap[w.heap.size+1+1]?=some (.cells (l.map u8v).toArray 223 (0,0))
 below:Below w.heap.size w wr
theorem Pk.set {w wr:World} {c:UInt8} {n:Nat} {l l2:List UInt8} (h:Pk w c n l wr) (k:Nat) (v:Value) (e:(l.map u8v).toArray.setIfInBounds k v=(l2.map u8v).toArray):Pk w c n l2 (wr.setCell ⟨w.heap.size+1+1,k,none⟩ v):=
 ⟨(heap_setCell_other wr ⟨w.heap.size+1+1,k,none⟩ _ v (by show w.heap.size≠w.heap.size+1+1;omega)).trans h.b0,
  (heap_setCell_other wr ⟨w.heap.size+1+1,k,none⟩ _ v (by show w.heap.size+1≠w.heap.size+1+1;omega)).trans h.b1,
  by rw [heap_setCell_same _ _ k _ _ _ h.b2,e],h.below.setCell (p:=⟨w.heap.size+1+1,k,none⟩) (by show w.heap.size<=w.heap.size+1+1;omega) _⟩
theorem Pk.start (w:World) (c:UInt8) (n:Nat):Pk w c n (ZdP c 0 0) (((w.alloc (.cells #[.int .u8 (c.toNat:Int),.int .i64 (n:Int)] 93)).alloc (.cells #[.int .u8 0,.int .u8 0,.int .u8 0,.int .u8 0,.int .u8 0] 223)).alloc (.cells #[.int .u8 0,.int .u8 0,.int .u8 0,.int .u8 0,.int .u8 0] 223)):=by
 rw [Ztr c];refine⟨?_,?_,?_,(((Below.refl _ _).alloc (Nat.le_refl _) _).alloc (by simp) _).alloc (by simp;omega) _⟩
 ·rw [Below.heap_alloc _ _ _ (by simp;omega),Below.heap_alloc _ _ _ (by simp)];exact heap_alloc_new _ _
 ·rw [Below.heap_alloc _ _ _ (by simp)];have:=heap_alloc_new (w.alloc (.cells #[.int .u8 (c.toNat:Int),.int .i64 (n:Int)] 93)) (.cells ((ZdP c 0 0).map u8v).toArray 223);simpa using this
 ·have:=heap_alloc_new ((w.alloc (.cells #[.int .u8 (c.toNat:Int),.int .i64 (n:Int)] 93)).alloc (.cells ((ZdP c 0 0).map u8v).toArray 223)) (.cells ((ZdP c 0 0).map u8v).toArray 223);simpa using this
theorem Zgg {w z:World} (h:Below w.heap.size w z) (o:Nat) (v:Value):Below w.heap.size w (z.setCell ⟨w.heap.size+1,o,none⟩ v):=h.setCell (p:=⟨w.heap.size+1,o,none⟩) (by show w.heap.size<=w.heap.size+1;omega) _
theorem Zlo {l:List UInt8} (h:l.length=5):∃x0 x1 x2 x3 x4,l=[x0,x1,x2,x3,x4]:=by
 match l,h with
 | [x0,x1,x2,x3,x4],_=>exact⟨_,_,_,_,_,rfl⟩
theorem Zqk (c:UInt8) (k:Nat) (h:k<4):((ZdP c k 0).map u8v).toArray[k]?=some (.int .u8 0):=by
 rcases(by omega:k=0\/k=1\/k=2\/k=3) with rfl|rfl|rfl|rfl<;>simp [ZdP,u8v]
theorem Znb (p:Pc) (w:World) (hT:Sizes w) (h1:1<=p.2) (h2:p.2<=255) :
  Calls Tryz.prog 156 #[pcv p] w fun e w'=>e=.returned (.tuple #[.agg ((ZhS p).map u8v).toArray,.int .i64 (rlsz p.2:Int)])/\Below w.heap.size w w':=by
 obtain⟨c,n⟩:=p;simp only at h1 h2;have HT:=zh hT;clear hT;obtain⟨M,hM⟩:∃M:Int,(if 4<(n:Int) then(4:Int) else(n:Int))=M:=⟨_,rfl⟩
 have m1:M<=4:=by rw [<-hM];split<;>omega
 have m2:Hid (M=if 4<(n:Int) then(4:Int) else(n:Int)):=zh hM.symm;unfold pcv;simp only;go_enter Tryz.func156,Tryz.ntmps156;go_wp2_with fail
 go_loopw [5,9] (fun _ i wr=>∃k:Nat,(k:Int)<=M/\i=.int .i64 k/\Hid (Pk w c n (ZdP c k 0) wr)) (fun _ i _=>4-(intOf i).toNat)
 case atStart=>exact⟨0,by rw [<-hM];split<;>omega,rfl,zh (Pk.start w c n)⟩
 case round=>
  obtain⟨k,hk,rfl,hP⟩:=hrel;have a0:wr.cell? ⟨w.heap.size,0,none⟩=some (.int .u8 (c.toNat:Int)):=by rw [cell_of_row _ _ _ _ _ _ hP.out.b0];rfl
  have a1:wr.cell? ⟨w.heap.size,1,none⟩=some (.int .i64 (n:Int)):=by rw [cell_of_row _ _ _ _ _ _ hP.out.b0];rfl
  by_cases hlt:(k:Int)<M
  ·have hk4:k<4:=by omega
   have a2:wr.cell? ⟨w.heap.size+1+1,k,none⟩=some (.int .u8 0):=by rw [cell_of_row _ _ _ _ _ _ hP.out.b2];exact Zqk c k hk4
   have a3:wr.frozen? ⟨w.heap.size+1+1,k,none⟩=false:=frozen_of_row _ _ _ _ _ hP.out.b2;go_wp2_with fail;go_roundw
   case rel=>exact⟨k+1,by omega,by go_num,zh (hP.out.set k _ (Zog c k hk4))⟩
   case measure=>simp [intOf];omega
  ·by_cases h4:(4:Int)<=n
   ·have hkM:k=4:=by
     have:=m2.out;split at this<;>omega
    subst hkM;have a2:wr.cell? ⟨w.heap.size+1+1,4,none⟩=some (.int .u8 0):=by rw [cell_of_row _ _ _ _ _ _ hP.out.b2];simp [ZdP,u8v]
    have a3:wr.frozen? ⟨w.heap.size+1+1,4,none⟩=false:=frozen_of_row _ _ _ _ _ hP.out.b2;have hd:decide ((4:Int)<M)=false:=by simp only [decide_eq_false_iff_not];omega
    go_wp2_with fail
    have hP2:Pk w c n (ZhS (c,n)) (wr.setCell ⟨w.heap.size+1+1,4,none⟩ (.int .u8 ((n:Int)-4))):=by
     refine hP.out.set 4 _ ?_;unfold ZhS;rw [if_neg (by simp;omega)];have e:((n:Int)-4)=((UInt8.ofNat (n-4)).toNat:Int):=by rw [UInt8.toNat_ofNat'];omega
     rw [e];exact Zm9 c _
    obtain⟨x0,x1,x2,x3,x4,hx⟩:∃x0 x1 x2 x3 x4,ZhS (c,n)=[x0,x1,x2,x3,x4]:=Zlo (Zeq _);rw [hx] at hP2;have HX:=zh hx;generalize wr.setCell ⟨w.heap.size+1+1,4,none⟩ (.int .u8 ((n:Int)-4))=wz at *;have z0:wz.cell? ⟨w.heap.size+1+1,0,none⟩=some (.int .u8 (x0.toNat:Int)):=by rw [cell_of_row _ _ _ _ _ _ hP2.b2];rfl
    have z1:wz.cell? ⟨w.heap.size+1+1,1,none⟩=some (.int .u8 (x1.toNat:Int)):=by rw [cell_of_row _ _ _ _ _ _ hP2.b2];rfl
    have z2:wz.cell? ⟨w.heap.size+1+1,2,none⟩=some (.int .u8 (x2.toNat:Int)):=by rw [cell_of_row _ _ _ _ _ _ hP2.b2];rfl
    have z3:wz.cell? ⟨w.heap.size+1+1,3,none⟩=some (.int .u8 (x3.toNat:Int)):=by rw [cell_of_row _ _ _ _ _ _ hP2.b2];rfl
    have z4:wz.cell? ⟨w.heap.size+1+1,4,none⟩=some (.int .u8 (x4.toNat:Int)):=by rw [cell_of_row _ _ _ _ _ _ hP2.b2];rfl
    have y0:wz.cell? ⟨w.heap.size+1,0,none⟩=some (.int .u8 0):=by rw [cell_of_row _ _ _ _ _ _ hP2.b1];rfl
    have y1:wz.cell? ⟨w.heap.size+1,1,none⟩=some (.int .u8 0):=by rw [cell_of_row _ _ _ _ _ _ hP2.b1];rfl
    have y2:wz.cell? ⟨w.heap.size+1,2,none⟩=some (.int .u8 0):=by rw [cell_of_row _ _ _ _ _ _ hP2.b1];rfl
    have y3:wz.cell? ⟨w.heap.size+1,3,none⟩=some (.int .u8 0):=by rw [cell_of_row _ _ _ _ _ _ hP2.b1];rfl
    have y4:wz.cell? ⟨w.heap.size+1,4,none⟩=some (.int .u8 0):=by rw [cell_of_row _ _ _ _ _ _ hP2.b1];rfl
    have yf:∀o,wz.frozen? ⟨w.heap.size+1,o,none⟩=false:=fun o=>frozen_of_row _ _ _ _ _ hP2.b1
    have n1:wz.cell? ⟨w.heap.size,1,none⟩=some (.int .i64 (n:Int)):=by rw [cell_of_row _ _ _ _ _ _ hP2.b0];rfl
    have HTZ:=zh (HT.out.below hP2.below HT.out.lt);have HP2:=zh hP2;clear hP2 hx
    go_region_with (first|(go_at_call 188;refine(Zmn n _ (by exact HTZ.out.same rfl) (by omega)).mono ?_;rintro e w' ⟨rfl,rfl⟩))
    all_goals
     go_wp2_with fail;refine bodyPost_ret (v:=.tuple #[.agg #[.int .u8 (x0.toNat:Int),.int .u8 (x1.toNat:Int),.int .u8 (x2.toNat:Int),.int .u8 (x3.toNat:Int),.int .u8 (x4.toNat:Int)],.int .i64 (rlsz n:Int)]) ?_ rfl ?_
     ·simp [results,Tryz.results156,go_sem,y0,y1,y2,y3,y4]
     ·exact⟨by rw [HX.out];rfl,(Zgg (Zgg (Zgg (Zgg (Zgg HP2.out.below _ _) _ _) _ _) _ _) _ _).drew⟩
   ·have hkM:k=n:=by
     have:=m2.out;split at this<;>omega
    subst hkM;have hd:decide ((k:Int)<M)=false:=by simp only [decide_eq_false_iff_not];omega
    go_wp2_with fail
    have hP2:Pk w c k (ZhS (c,k)) wr:=by
     unfold ZhS;rw [if_pos (by simp;omega)];exact hP.out
    obtain⟨x0,x1,x2,x3,x4,hx⟩:∃x0 x1 x2 x3 x4,ZhS (c,k)=[x0,x1,x2,x3,x4]:=Zlo (Zeq _);rw [hx] at hP2;have HX:=zh hx;generalize wr=wz at *;have z0:wz.cell? ⟨w.heap.size+1+1,0,none⟩=some (.int .u8 (x0.toNat:Int)):=by rw [cell_of_row _ _ _ _ _ _ hP2.b2];rfl
    have z1:wz.cell? ⟨w.heap.size+1+1,1,none⟩=some (.int .u8 (x1.toNat:Int)):=by rw [cell_of_row _ _ _ _ _ _ hP2.b2];rfl
    have z2:wz.cell? ⟨w.heap.size+1+1,2,none⟩=some (.int .u8 (x2.toNat:Int)):=by rw [cell_of_row _ _ _ _ _ _ hP2.b2];rfl
    have z3:wz.cell? ⟨w.heap.size+1+1,3,none⟩=some (.int .u8 (x3.toNat:Int)):=by rw [cell_of_row _ _ _ _ _ _ hP2.b2];rfl
    have z4:wz.cell? ⟨w.heap.size+1+1,4,none⟩=some (.int .u8 (x4.toNat:Int)):=by rw [cell_of_row _ _ _ _ _ _ hP2.b2];rfl
    have y0:wz.cell? ⟨w.heap.size+1,0,none⟩=some (.int .u8 0):=by rw [cell_of_row _ _ _ _ _ _ hP2.b1];rfl
    have y1:wz.cell? ⟨w.heap.size+1,1,none⟩=some (.int .u8 0):=by rw [cell_of_row _ _ _ _ _ _ hP2.b1];rfl
    have y2:wz.cell? ⟨w.heap.size+1,2,none⟩=some (.int .u8 0):=by rw [cell_of_row _ _ _ _ _ _ hP2.b1];rfl
    have y3:wz.cell? ⟨w.heap.size+1,3,none⟩=some (.int .u8 0):=by rw [cell_of_row _ _ _ _ _ _ hP2.b1];rfl
    have y4:wz.cell? ⟨w.heap.size+1,4,none⟩=some (.int .u8 0):=by rw [cell_of_row _ _ _ _ _ _ hP2.b1];rfl
    have yf:∀o,wz.frozen? ⟨w.heap.size+1,o,none⟩=false:=fun o=>frozen_of_row _ _ _ _ _ hP2.b1
    have n1:wz.cell? ⟨w.heap.size,1,none⟩=some (.int .i64 (k:Int)):=by rw [cell_of_row _ _ _ _ _ _ hP2.b0];rfl
    have HTZ:=zh (HT.out.below hP2.below HT.out.lt);have HP2:=zh hP2;clear hP2 hx
    go_region_with (first|(go_at_call 188;refine(Zmn k _ (by exact HTZ.out.same rfl) (by omega)).mono ?_;rintro e w' ⟨rfl,rfl⟩))
    all_goals
     go_wp2_with fail;refine bodyPost_ret (v:=.tuple #[.agg #[.int .u8 (x0.toNat:Int),.int .u8 (x1.toNat:Int),.int .u8 (x2.toNat:Int),.int .u8 (x3.toNat:Int),.int .u8 (x4.toNat:Int)],.int .i64 (rlsz k:Int)]) ?_ rfl ?_
     ·simp [results,Tryz.results156,go_sem,y0,y1,y2,y3,y4]
     ·exact⟨by rw [HX.out];rfl,(Zgg (Zgg (Zgg (Zgg (Zgg HP2.out.below _ _) _ _) _ _) _ _) _ _).drew⟩
end
section
namespace BitM
open Go.RowKit
def bn (b:Bool):Nat:=if b then 1 else 0
def num (l:List Bool):Nat:=l.foldl (fun a b=>2*a+bn b) 0
theorem ZhW (l:List Bool):∀a,l.foldl (fun a b=>2*a+bn b) a=a*2^l.length+num l:=by
 induction l with
 | nil=>intro a;simp [num]
 | cons b l ih=>
  intro a
  have h0:num (b::l)=bn b*2^l.length+num l:=by
   show l.foldl _ (2*0+bn b)=_;rw [ih];simp
  rw [List.foldl_cons,ih,h0,List.length_cons,Nat.pow_succ,Nat.add_mul,Nat.add_assoc];congr 1;rw [Nat.mul_comm 2 a,Nat.mul_assoc,Nat.mul_comm 2]
theorem ZaZ (l m:List Bool):num (l++m)=num l*2^m.length+num m:=by
 show(l++m).foldl _ 0=_;rw [List.foldl_append];exact ZhW m _
theorem ZdC (l:List Bool) (b:Bool):num (l++[b])=2*num l+bn b:=by
 rw [ZaZ];show num l*2^1+(2*0+bn b)=_;omega
theorem Zoj (b:Bool):bn b<2:=by cases b<;>decide
theorem Zbg (l:List Bool):num l<2^l.length:=by
 induction l with
 | nil=>decide
 | cons b l ih=>
  have e:num (b::l)=bn b*2^l.length+num l:=by
   show l.foldl _ (2*0+bn b)=_;rw [ZhW];simp
  have hb:=Zoj b;rw [e,List.length_cons,Nat.pow_succ];have:bn b*2^l.length<=1*2^l.length:=Nat.mul_le_mul_right _ (by omega);omega
theorem Zqo (l:List Bool) (m:Nat) (_h:m<=l.length):num (l.take m)=num l / 2^(l.length-m):=by
 conv=>rhs;rw [<-List.take_append_drop m l,ZaZ]
 have hl:(l.drop m).length=l.length-m:=by simp
 rw [hl];have h2:(l.take m++l.drop m).length-m=l.length-m:=by rw [List.take_append_drop]
 rw [h2,Nat.mul_comm,Nat.mul_add_div (Nat.two_pow_pos _),Nat.div_eq_of_lt (by have:=Zbg (l.drop m);rwa [hl] at this)];rfl
theorem Zmp (l:List Bool) (m:Nat) (_h:m<=l.length):num (l.drop m)=num l % 2^(l.length-m):=by
 conv=>rhs;rw [<-List.take_append_drop m l,ZaZ]
 have hl:(l.drop m).length=l.length-m:=by simp
 have h2:(l.take m++l.drop m).length-m=l.length-m:=by rw [List.take_append_drop]
 rw [hl,h2,Nat.mul_add_mod_self_right,Nat.mod_eq_of_lt (by have:=Zbg (l.drop m);rwa [hl] at this)]
theorem Zlq (l:List Bool) (i n:Nat) (h:i+n<=l.length):num ((l.drop i).take n)=num l / 2^(l.length-i-n) % 2^n:=by
 rw [Zqo _ _ (by simp;omega),Zmp _ _ (by omega),List.length_drop];have e:2^(l.length-i)=2^(l.length-i-n)*2^n:=by rw [<-Nat.pow_add];congr 1;omega
 rw [e,Nat.mod_mul_right_div_self]
def field (v:Nat):Nat->List Bool
 | 0=>[]
 | n+1=>field (v / 2) n++[v % 2==1]
theorem Zaa (v n:Nat):(field v n).length=n:=by
 induction n generalizing v with
 | zero=>rfl
 | succ n ih=>simp [field,ih]
theorem Zax (v n:Nat):num (field v n)=v % 2^n:=by
 induction n generalizing v with
 | zero=>simp [field,num,Nat.mod_one]
 | succ n ih=>
  rw [field,ZdC,ih]
  have hb:bn (v % 2==1)=v % 2:=by
   have:v % 2=0\/v % 2=1:=by omega
   rcases this with h|h<;>simp [h,bn]
  rw [hb,Nat.pow_succ,Nat.mul_comm (2^n) 2,Nat.mod_mul];omega
theorem ZcO:∀(l m:List Bool),l.length=m.length->num l=num m->l=m
 | [],[],_,_=>rfl
 | a::l,b::m,hl,h=>by
  have hl':l.length=m.length:=by simpa using hl
  have e1:num (a::l)=bn a*2^l.length+num l:=by show l.foldl _ (2*0+bn a)=_;rw [ZhW];simp
  have e2:num (b::m)=bn b*2^m.length+num m:=by show m.foldl _ (2*0+bn b)=_;rw [ZhW];simp
  have l1:=Zbg l;have l2:=Zbg m;rw [e1,e2,<-hl'] at h;rw [<-hl'] at l2
  have hab:a=b:=by
   cases a<;>cases b<;>simp [bn] at h ⊢<;>omega
  subst hab;rw [ZcO l m hl' (by omega)]
theorem ZhX (l:List Bool):field (num l) l.length=l:=
 ZcO _ _ (by rw [Zaa]) (by rw [Zax,Nat.mod_eq_of_lt (Zbg l)])
def byts (q:List Bool):List UInt8:=(List.range (q.length / 8)).map fun i=>UInt8.ofNat (num ((q.drop (8*i)).take 8))
theorem Zav (q:List Bool):(byts q).length=q.length / 8:=by simp [byts]
def tail (q:List Bool):List Bool:=q.drop (8*(q.length / 8))
theorem ZdQ (q:List Bool):(tail q).length=q.length % 8:=by simp [tail];omega
theorem ZdR (q f:List Bool):byts (q++f)=byts q++byts (tail q++f):=by
 have h1:(q++f).length / 8=q.length / 8+(tail q++f).length / 8:=by
  rw [List.length_append,List.length_append,ZdQ];omega
 unfold byts;rw [h1,List.range_add,List.map_append,List.map_map];congr 1
 ·apply List.map_congr_left;intro i hi;have hi':=List.mem_range.1 hi;rw [List.drop_append_of_le_length (by omega),List.take_append_of_le_length (by simp;omega)]
 ·apply List.map_congr_left;intro i _;show UInt8.ofNat _=UInt8.ofNat _
  have:(q++f).drop (8*(q.length / 8+i))=(tail q++f).drop (8*i):=by
   unfold tail;rw [Nat.mul_add,<-List.drop_drop,List.drop_append_of_le_length (by omega:8*(q.length / 8)<=q.length)]
  rw [this]
theorem Zlr (q f:List Bool):tail (q++f)=(tail q++f).drop (8*((tail q++f).length / 8)):=by
 have h1:(q++f).length / 8=q.length / 8+(tail q++f).length / 8:=by
  rw [List.length_append,List.length_append,ZdQ];omega
 show(q++f).drop (8*((q++f).length / 8))=_;rw [h1,Nat.mul_add,<-List.drop_drop,List.drop_append_of_le_length (by omega:8*(q.length / 8)<=q.length)];rfl
theorem ZtA (t:List Bool) (j:Nat) (h:8*j+8<=t.length):num ((t.drop (8*j)).take 8)=num t / 2^(t.length-8*j-8) % 256:=Zlq t (8*j) 8 h
def bitsOf (l:List UInt8):List Bool:=l.flatMap fun c=>field c.toNat 8
theorem ZaJ (l:List UInt8):(bitsOf l).length=8*l.length:=by
 induction l with
 | nil=>rfl
 | cons c l ih=>
  show(field c.toNat 8++bitsOf l).length=_;rw [List.length_append,Zaa,ih,List.length_cons];omega
theorem ZbE (a b:List UInt8):bitsOf (a++b)=bitsOf a++bitsOf b:=by simp [bitsOf]
theorem Zls (l:List UInt8) (n:Nat):bitsOf (l.take n)=(bitsOf l).take (8*n):=by
 by_cases h:n<=l.length
 ·conv=>rhs;rw [<-List.take_append_drop n l,ZbE]
  rw [List.take_left' (by rw [ZaJ];simp;omega)]
 ·rw [List.take_of_length_le (by omega),List.take_of_length_le (by rw [ZaJ];omega)]
theorem Zlt (l:List UInt8) (n:Nat):bitsOf (l.drop n)=(bitsOf l).drop (8*n):=by
 by_cases h:n<=l.length
 ·conv=>rhs;rw [<-List.take_append_drop n l,ZbE]
  rw [List.drop_left' (by rw [ZaJ];simp;omega)]
 ·rw [List.drop_of_length_le (by omega),List.drop_of_length_le (by rw [ZaJ];omega)];rfl
theorem Zne (t:List Bool) (h:t.length=8):byts t=[UInt8.ofNat (num t)]/\tail t=[]:=by
 constructor
 ·unfold byts;rw [h];simp [List.take_of_length_le (Nat.le_of_eq h)]
 ·unfold tail;rw [h];exact List.drop_of_length_le (by omega)
theorem Zid:∀(n:Nat) (q:List Bool),q.length=8*n->bitsOf (byts q)=q
 | 0,q,h=>by
  obtain rfl:q=[]:=List.eq_nil_of_length_eq_zero (by omega);rfl
 | n+1,q,h=>by
  have h8:(q.take 8).length=8:=by simp;omega
  obtain⟨e1,e2⟩:=Zne (q.take 8) h8
  have hq:byts q=UInt8.ofNat (num (q.take 8))::byts (q.drop 8):=by
   conv=>lhs;rw [<-List.take_append_drop 8 q,ZdR,e1,e2]
   rfl
  rw [hq];show field (UInt8.ofNat (num (q.take 8))).toNat 8++bitsOf (byts (q.drop 8))=q;rw [Zid n (q.drop 8) (by simp;omega)];have hlt:=Zbg (q.take 8);rw [h8] at hlt;have e3:(UInt8.ofNat (num (q.take 8))).toNat=num (q.take 8):=by rw [UInt8.toNat_ofNat'];exact Nat.mod_eq_of_lt hlt
  have e4:field (num (q.take 8)) 8=q.take 8:=by
   have:=ZhX (q.take 8)
   rwa [h8] at this
  rw [e3,e4,List.take_append_drop]
theorem Zqp (l:List UInt8) (fr n:Nat) (h:fr+n<=8*l.length) :
  num (bitsOf ((l.drop (fr / 8)).take ((fr+n+7) / 8-fr / 8))) / 2^((8-(fr+n) % 8) % 8) % 2^n=num (((bitsOf l).drop fr).take n):=by
 have hc:(bitsOf ((l.drop (fr / 8)).take ((fr+n+7) / 8-fr / 8))).length=8*((fr+n+7) / 8-fr / 8):=by
  rw [ZaJ,List.length_take,List.length_drop];omega
 have h1:=Zlq (bitsOf ((l.drop (fr / 8)).take ((fr+n+7) / 8-fr / 8))) (fr % 8) n (by rw [hc];omega);rw [hc,show 8*((fr+n+7) / 8-fr / 8)-fr % 8-n=(8-(fr+n) % 8) % 8 by omega] at h1;rw [<-h1,Zls,Zlt,List.drop_take,List.drop_drop,List.take_take];rw [show 8*(fr / 8)+fr % 8=fr by omega,show min n (8*((fr+n+7) / 8-fr / 8)-fr % 8)=n by omega]
theorem Zie (l:List UInt8) (c:UInt8):num (bitsOf (l++[c]))=num (bitsOf l)*256+c.toNat:=by
 rw [ZbE,ZaZ];have:bitsOf [c]=field c.toNat 8:=by simp [bitsOf]
 rw [this,Zaa,Zax,Nat.mod_eq_of_lt (by have:=c.toNat_lt;omega)]
end BitM
end
section
open Go.RowKit BitM
theorem ZhH (n:Int) (w:World) (h:0<=n) (h2:n<=32):Calls Tryz.prog 58 #[.int .i64 n] w fun e w'=>e=.returned (.bool true)/\w=w':=by
 go_enter Tryz.func58,Tryz.ntmps58;go_wp2;go_ret;exact⟨rfl,rfl⟩
theorem Zr0 (n:Int) (w:World) (h:n<0\/32<n):Calls Tryz.prog 58 #[.int .i64 n] w fun e w'=>e=.returned (.bool false)/\w=w':=by
 rcases h with h|h
 ·go_enter Tryz.func58,Tryz.ntmps58;go_wp2;go_ret;exact⟨rfl,rfl⟩
 ·have h0:0<=n:=by omega
  have hd:decide (n<=32)=false:=by simp;omega
  go_enter Tryz.func58,Tryz.ntmps58;go_wp2;go_ret;exact⟨rfl,rfl⟩
theorem Zfu (N:Int) (n:Nat) (hN:N=(n:Int)) (w:World) (hn:n<=70368744177664):Calls Tryz.prog 67 #[.int .i64 N] w fun e w'=>e=.returned (.int .i64 (((8-n % 8) % 8:Nat):Int))/\w=w':=by
 subst hN;have e:((8:Int)-(n:Int) % 8) % 8=(((8-n % 8) % 8:Nat):Int):=by omega
 have H:=zh e;clear e;go_enter Tryz.func67,Tryz.ntmps67;go_wp2;go_ret;rw [<-H.out];exact⟨rfl,rfl⟩
def IsWriter (w:World) (b:Nat) (v:Value) (q:List Bool) (tk:Nat):Prop:=
 w.heap[b]?=some (.cells #[v,.int .u64 (num (tail q):Int),.int .i64 (q.length:Int)] 101 (0,0))/\tk<=q.length / 8/\w.ownsRow (b+1) 5 1 v (q.length / 8-tk) (((byts q).drop tk).map u8v)
theorem IsWriter.cells {w:World} {b:Nat} {v:Value} {q:List Bool} {tk:Nat} (h:IsWriter w b v q tk) :
  w.cell? ⟨b,0,none⟩=some v/\w.cell? ⟨b,1,none⟩=some (.int .u64 (num (tail q):Int))/\w.cell? ⟨b,2,none⟩=some (.int .i64 (q.length:Int)) /\
  w.frozen? ⟨b,0,none⟩=false/\w.frozen? ⟨b,1,none⟩=false/\w.frozen? ⟨b,2,none⟩=false:=by
 obtain⟨h,_,_⟩:=h;refine⟨?_,?_,?_,frozen_of_row _ _ _ _ _ h,frozen_of_row _ _ _ _ _ h,frozen_of_row _ _ _ _ _ h⟩<;>(rw [cell_of_row _ _ _ _ _ _ h];rfl)
theorem IsWriter.lt {w:World} {b:Nat} {v:Value} {q:List Bool} {tk:Nat} (h:IsWriter w b v q tk):∀k,foot b v k->k<w.heap.size/\b<=k:=by
 intro k hk;rcases hk with rfl|hk
 ·exact⟨(Array.getElem?_eq_some_iff.1 h.1).1,Nat.le_refl _⟩
 ·have:=h.2.2.lt k hk;exact⟨this.2,by omega⟩
theorem IsWriter.other {w w':World} {b:Nat} {v:Value} {q:List Bool} {tk:Nat} (h:IsWriter w b v q tk) {S:Nat->Prop} (ht:Touch S w w') (hS:∀k,foot b v k->¬S k):IsWriter w' b v q tk:=
 ⟨(ht.block b (h.lt b (Or.inl rfl)).1 (hS b (Or.inl rfl))).trans h.1,h.2.1,Zag h.2.2 (fun k hk=>ht.block k (h.lt k (Or.inr hk)).1 (hS k (Or.inr hk)))⟩
theorem ZdD (w:World):Calls Tryz.prog 34 #[] w fun e w'=>e=.returned (.pointer (some ⟨w.heap.size,0,none⟩))/\IsWriter w' w.heap.size (.slice none 0 0) [] 0/\Below w.heap.size w w':=by
 go_enter Tryz.func34,Tryz.ntmps34;go_wp2;go_ret;exact⟨rfl,⟨heap_alloc_new _ _,by decide,World.ownsRow_nil _ _ _ _⟩,(Below.refl _ _).alloc (Nat.le_refl _) _⟩
theorem Zmq (b:Nat) (v:Value) (q:List Bool) (tk:Nat) (w:World) (h:IsWriter w b v q tk):Calls Tryz.prog 68 #[.pointer (some ⟨b,0,none⟩)] w fun e w'=>e=.returned (.int .i64 (q.length:Int))/\w=w':=by
 obtain⟨c0,c1,c2,f0,f1,f2⟩:=h.cells;clear h;go_enter Tryz.func68,Tryz.ntmps68;go_wp2;go_ret;exact⟨rfl,rfl⟩
theorem Zif (b:Nat) (v:Value) (q:List Bool) (tk:Nat) (w:World) (h:IsWriter w b v q tk):Calls Tryz.prog 37 #[.pointer (some ⟨b,0,none⟩)] w fun e w'=>
  e=.returned (.string ⟨((byts q).drop tk).toArray⟩)/\IsWriter w' b (.slice none 0 0) q (q.length / 8)/\Touch (foot b v) w w':=by
 obtain⟨c0,c1,c2,f0,f1,f2⟩:=h.cells;have hk:=ZjN h.2.2;have H:=zh h;clear h;go_enter Tryz.func37,Tryz.ntmps37;go_wp2;go_ret;refine⟨rfl,⟨heap_setCell_same _ _ 0 _ _ _ H.out.1,Nat.le_refl _,?_⟩,(Touch.refl _ _).setCell (Or.inl (Or.inl rfl)) _⟩;rw [List.drop_of_length_le (by rw [Zav];exact Nat.le_refl _),Nat.sub_self];exact World.ownsRow_nil _ _ _ _
theorem Zok (q:List Bool) (X n:Nat) (hX:X<2^n) (hn:n<=32):bits BinOp.or IntKind.u64 (IntKind.u64.wrap ((num (tail q):Int)*2^n)) (X:Int)=(num (tail q++field X n):Int):=by
 have hr:num (tail q)<2^8:=Nat.lt_of_lt_of_le (Zbg _) (Nat.pow_le_pow_right (by omega) (by rw [ZdQ];omega));have h32:2^n<=2^32:=Nat.pow_le_pow_right (by omega) hn
 have hm:num (tail q)*2^n<2^40:=by
  have:num (tail q)*2^n<=255*2^32:=Nat.mul_le_mul (by omega) h32;omega
 have e1:(num (tail q):Int)*2^n=((num (tail q)*2^n:Nat):Int):=by simp
 have e2:IntKind.u64.wrap ((num (tail q)*2^n:Nat):Int)=((num (tail q)*2^n:Nat):Int):=by
  simp only [IntKind.wrap,IntKind.bits,IntKind.signed];simp;omega
 rw [e1,e2,u64_or_nat _ _ (by omega) (by omega),nat_join n _ _ (by simp) hX,ZaZ,Zaa,Zax,Nat.mod_eq_of_lt hX]
theorem Zqq (t:List Bool) (j m:Nat) (h:8*j+8<=t.length) (hm:m=t.length-8*j-8):∃(y:UInt8),(byts t)[j]?=some y/\(num t:Int) / 2^m % 256=(y.toNat:Int):=by
 have hj:j<(byts t).length:=by rw [Zav];omega
 refine⟨_,List.getElem?_eq_getElem hj,?_⟩;subst hm;simp only [byts,List.getElem_map,List.getElem_range,ZtA t j h];rw [UInt8.toNat_ofNat'];simp
structure PutLoop (w wr:World) (b:Nat) (v v1:Value) (q t:List Bool) (tk j:Nat):Prop where
 block:wr.heap[b]?=some (.cells #[v1,.int .u64 (num t:Int),.int .i64 (q.length:Int)] 101 (0,0))
 row:wr.ownsRow (b+1) 5 1 v1 (q.length / 8-tk+j) (((byts q).drop tk++(byts t).take j).map u8v)
 touch:Touch (foot b v) w wr
 fresh:∀k,v1.ownBlock=some k->v.ownBlock=some k\/w.heap.size<=k
theorem PutLoop.cells {w wr:World} {b:Nat} {v v1:Value} {q t:List Bool} {tk j:Nat} (h:PutLoop w wr b v v1 q t tk j) :
  wr.cell? ⟨b,0,none⟩=some v1/\wr.cell? ⟨b,1,none⟩=some (.int .u64 (num t:Int))/\wr.cell? ⟨b,2,none⟩=some (.int .i64 (q.length:Int))/\wr.frozen? ⟨b,0,none⟩=false/\wr.frozen? ⟨b,1,none⟩=false/\wr.frozen? ⟨b,2,none⟩=false:=by
 have h:=h.block;refine⟨?_,?_,?_,frozen_of_row _ _ _ _ _ h,frozen_of_row _ _ _ _ _ h,frozen_of_row _ _ _ _ _ h⟩<;>(rw [cell_of_row _ _ _ _ _ _ h];rfl)
theorem PutLoop.start {w:World} {b:Nat} {v:Value} {q t:List Bool} {tk:Nat} (h:IsWriter w b v q tk):PutLoop w (w.setCell ⟨b,1,none⟩ (.int .u64 (num t:Int))) b v v q t tk 0 where
 block:=heap_setCell_same _ _ 1 _ _ _ h.1
 row:=by
  simp only [Nat.add_zero,List.take_zero,List.append_nil];exact Zag h.2.2 (fun k hk=>heap_setCell_other _ _ _ _ (by have:=(h.2.2.lt k hk).1;simp;omega))
 touch:=(Touch.refl _ _).setCell (Or.inl (Or.inl rfl)) _
 fresh:=fun k hk=>Or.inl hk
theorem PutLoop.step {w wr w1:World} {b:Nat} {v v1 v2:Value} {q t:List Bool} {tk j:Nat} {y:UInt8} (h:PutLoop w wr b v v1 q t tk j) (hb:b<w.heap.size) (hy:(byts t)[j]?=some y) (O:Obj)
  (ho:w1.ownsRow (b+1) 5 1 v2 (q.length / 8-tk+j+1) (((byts q).drop tk++(byts t).take j).map u8v++[u8v y])) (hg:(wr.alloc O).drew.grownBy w1 v1.ownBlock)
  (hf:∀k,v2.ownBlock=some k->v1.ownBlock=some k\/(wr.alloc O).drew.heap.size<=k) :
  PutLoop w (w1.setCell ⟨b,0,none⟩ v2) b v v2 q t tk (j+1)/\w1.cell? ⟨b,0,none⟩=some v1/\w1.frozen? ⟨b,0,none⟩=false:=by
 have hsz:=h.touch.size
 have hbb:w1.heap[b]?=some (.cells #[v1,.int .u64 (num t:Int),.int .i64 (q.length:Int)] 101 (0,0)):=by
  rw [hg.block b (by simp;omega) (fun e=>by have:=(h.row.lt b e.symm).1;omega)];show(wr.alloc O).heap[b]?=_;rw [Below.heap_alloc _ _ _ (by omega)];exact h.block
 refine⟨⟨heap_setCell_same _ _ 0 _ _ _ hbb,?_,?_,?_⟩,by rw [cell_of_row _ _ _ _ _ _ hbb];rfl,frozen_of_row _ _ _ _ _ hbb⟩
 ·have e:((byts q).drop tk++(byts t).take (j+1)).map u8v=((byts q).drop tk++(byts t).take j).map u8v++[u8v y]:=by
   obtain⟨hj,hy'⟩:=List.getElem?_eq_some_iff.1 hy;rw [List.take_succ_eq_append_getElem hj,hy'];simp
  rw [e];exact Zag ho (fun k hk=>heap_setCell_other _ _ _ _ (by have:=(ho.lt k hk).1;simp;omega))
 ·exact((h.touch.alloc O).drew.grown hg (fun k hk=>by
   rcases h.fresh k hk with g|g
   ·exact Or.inl (Or.inr g)
   ·exact Or.inr g)).setCell (Or.inl (Or.inl rfl)) _
 ·intro k hk;rcases hf k hk with g|g
  ·exact h.fresh k g
  ·exact Or.inr (by simp at g;omega)
theorem PutLoop.done {w wr:World} {b:Nat} {v v1:Value} {q f t:List Bool} {tk:Nat} (h:PutLoop w wr b v v1 q t tk (t.length / 8)) (hW:IsWriter w b v q tk) (ht:t=tail q++f) (L:Int) (hL:L=((q++f).length:Int)) :
  IsWriter ((wr.setCell ⟨b,1,none⟩ (.int .u64 (num (tail (q++f)):Int))).setCell ⟨b,2,none⟩ (.int .i64 L)) b v1 (q++f) tk/\Touch (foot b v) w ((wr.setCell ⟨b,1,none⟩ (.int .u64 (num (tail (q++f)):Int))).setCell ⟨b,2,none⟩ (.int .i64 L)):=by
 subst hL;have hb2:=heap_setCell_same wr b 1 _ _ (.int .u64 (num (tail (q++f)):Int)) h.block
 have hlen:(q++f).length / 8=q.length / 8+t.length / 8:=by
  rw [ht,List.length_append,List.length_append,ZdQ];omega
 have htk:=hW.2.1;refine⟨⟨heap_setCell_same _ _ 2 _ _ _ hb2,by omega,?_⟩,(h.touch.setCell (Or.inl (Or.inl rfl)) _).setCell (Or.inl (Or.inl rfl)) _⟩;have hr:=h.row;rw [List.take_of_length_le (by rw [Zav];exact Nat.le_refl _)] at hr
 have e1:(byts (q++f)).drop tk=(byts q).drop tk++byts t:=by
  rw [ZdR,<-ht,List.drop_append_of_le_length (by rw [Zav];exact htk)]
 rw [e1,show(q++f).length / 8-tk=q.length / 8-tk+t.length / 8 by omega]
 exact Zag hr (fun k hk=>by
  have:=(hr.lt k hk).1;rw [heap_setCell_other _ _ _ _ (by simp;omega),heap_setCell_other _ _ _ _ (by simp;omega)])
theorem Zqr (t:List Bool) (e:Nat) (he:e=t.length-8*(t.length / 8)) (h64:t.length<=40) :
  bits BinOp.and IntKind.u64 (num t:Int) (IntKind.u64.wrap (IntKind.u64.wrap (2^e)-1))=(num (t.drop (8*(t.length / 8))):Int):=by
 have h1:=Zbg t;have h2:2^t.length<=2^40:=Nat.pow_le_pow_right (by omega) h64;have he8:e<8:=by omega
 have h3:2^e<=2^7:=Nat.pow_le_pow_right (by omega) (by omega);have h4:0<2^e:=Nat.two_pow_pos e;have e1:(2:Int)^e=((2^e:Nat):Int):=by simp
 have e2:IntKind.u64.wrap (IntKind.u64.wrap ((2^e:Nat):Int)-1)=((2^e-1:Nat):Int):=by
  generalize 2^e=z at *;simp only [IntKind.wrap,IntKind.bits,IntKind.signed];simp;omega
 rw [e1,e2,u64_and_nat _ _ (by omega) (by omega),Nat.and_two_pow_sub_one_eq_mod,Zmp _ _ (by omega),he]
theorem Zgv (b:Nat) (v:Value) (q:List Bool) (tk X n:Nat) (w:World) (h:IsWriter w b v q tk) (hn:n<=32) (hX:X<2^n) (hq:q.length<=1099511627776) :
  Calls Tryz.prog 35 #[.pointer (some ⟨b,0,none⟩),.int .u32 (X:Int),.int .i64 (n:Int)] w fun e w'=>
   e=.returned (.int .i64 0)/\∃v1,IsWriter w' b v1 (q++field X n) tk/\Touch (foot b v) w w'/\(∀k,v1.ownBlock=some k->v.ownBlock=some k\/w.heap.size<=k):=by
 obtain⟨c0,c1,c2,f0,f1,f2⟩:=h.cells;have H:=zh h;have hX32:X<4294967296:=Nat.lt_of_lt_of_le hX (Nat.pow_le_pow_right (by omega) hn:2^n<=2^32)
 have hz:((X:Int) / 2^n != 0)=false:=by
  have e:(X:Int) / 2^n=((X / 2^n:Nat):Int):=by simp
  rw [e,Nat.div_eq_of_lt hX];rfl
 have hor:=Zok q X n hX hn;have htl:(tail q++field X n).length=q.length % 8+n:=by rw [List.length_append,ZdQ,Zaa]
 have HS:=zh (PutLoop.start (t:=tail q++field X n) h);have HA:=zh (ZdR q (field X n));have HT:=zh (Zlr q (field X n));generalize ht:tail q++field X n=t at *;have HTT:=zh ht;have HTL:=zh htl;obtain⟨i0,hi,hz0,hz1,hz2⟩:=info_parts Zqc;have HI:=zh hi;have HZ0:=zh hz0;have HZ1:=zh hz1;have HZ2:=zh hz2;clear h ht htl hi hz0 hz1 hz2;go_enter Tryz.func35,Tryz.ntmps35;go_wp2_with fail;refine(ZhH _ _ (by omega) (by omega)).mono ?_;rintro e w' ⟨rfl,rfl⟩;go_wp2_with fail
 go_loopw [7,41] (fun l i wr=>∃(j:Nat) (v1:Value),j<=(q.length % 8+n) / 8/\i=.int .i64 j/\l=.int .i64 ((q.length % 8+n-8*j:Nat):Int)/\PutLoop w wr b v v1 q t tk j) (fun _ i _=>(q.length % 8+n) / 8-(intOf i).toNat)
 case atStart=>exact⟨0,v,by omega,rfl,iv (by omega),HS.out⟩
 case round=>
  clear c0 c1 c2 f0 f1 f2;obtain⟨j,v1,hj,rfl,rfl,hP⟩:=hrel;obtain⟨c0,c1,c2,f0,f1,f2⟩:=hP.cells;have HP:=zh hP;clear hP;by_cases hlt:j<(q.length % 8+n) / 8
  ·have hjl:8*j+8<=t.length:=by have:=HTL.out;omega
   obtain⟨y,hy,hsh⟩:=Zqq t j (q.length % 8+n-8*j-8) hjl (by have:=HTL.out;omega);have hsh2:IntKind.u8.wrap ((num t:Int) / 2^(q.length % 8+n-8*j-8))=(y.toNat:Int):=by rw [IntKind.wrap_u8'];exact hsh
   have he:((q.length % 8+n-8*j:Nat):Int)-8=((q.length % 8+n-8*j-8:Nat):Int):=by omega
   have hrow:=HP.out.row;have HR:=zh hrow;have hbs:=(H.out.lt b (Or.inl rfl)).1;have hbr:=HP.out.touch.size;have HY:=zh hy;clear hrow hjl hy;go_wp2_with fail;have hbase:b+1<=(wr.alloc (.cells #[.int .u8 (y.toNat:Int)] 5)).drew.heap.size:=by simp;omega
   have HB:=zh hbase;have hca:(wr.alloc (.cells #[.int .u8 (y.toNat:Int)] 5)).cell? ⟨b,0,none⟩=some v1:=(((Below.refl wr.heap.size wr).alloc (Nat.le_refl _) _).cell (p:=⟨b,0,none⟩) (by simp;omega)).trans c0;have hcb:(wr.alloc (.cells #[.int .u8 (y.toNat:Int)] 5)).cell? ⟨b,1,none⟩=some (.int .u64 (num t:Int)):=(((Below.refl wr.heap.size wr).alloc (Nat.le_refl _) _).cell (p:=⟨b,1,none⟩) (by simp;omega)).trans c1;have hsm:q.length / 8-tk+j+1<=maxLen:=by unfold maxLen;omega
   have hsm2:(q.length / 8-tk+j+1)*1<=140737488355328:=by omega
   have HS1:=zh hsm;have HS2:=zh hsm2;clear hbase hsm hsm2
   go_region_law ((refine Zdz rfl _ _ 73 rfl (b+1) 5 i0 (.int .u8 0) 1 1 Tryz.underlying73 HI.out HZ0.out HZ1.out HZ2.out rfl (by decide) _ _ _ rfl ((HR.out.alloc _).drew) ⟨wr.heap.size,0,none⟩ 1 1 [.int .u8 (y.toNat:Int)] rfl rfl (cell_one_new _ _ _) (by intro u hu;simp at hu;subst hu;rfl) HS1.out HS2.out HB.out ?_;intro v2 w1 ho hg hf;obtain⟨a2,cap2,rfl⟩:=Zao ho;obtain⟨hst,hcl,hfr⟩:=PutLoop.step HP.out hbs HY.out _ ho hg hf;have HST:=zh hst;clear hst ho hg hf))
   all_goals
    go_wp2_with fail;go_roundw
    case rel=>exact⟨j+1,_,by omega,by go_num,iv (by omega),HST.out⟩
    case measure=>simp [intOf];omega
  ·obtain rfl:j=(q.length % 8+n) / 8:=by omega
   have hand:=Zqr t (q.length % 8+n-8*((q.length % 8+n) / 8)) (by have:=HTL.out;omega) (by have:=HTL.out;omega);rw [<-HT.out] at hand;go_wp2_with fail
   go_region
   go_wp2_with fail;go_ret;have hL:(q.length:Int)+(n:Int)=((q++field X n).length:Int):=by rw [List.length_append,Zaa];omega
   have hP:=HP.out;rw [<-HTL.out] at hP;obtain⟨d1,d2⟩:=PutLoop.done hP H.out HTT.out.symm _ hL;exact⟨rfl,v1,d1,d2.drew,HP.out.fresh⟩
def padding (q:List Bool):List Bool:=field 0 ((8-q.length % 8) % 8)
theorem Zf0 (b:Nat) (v:Value) (q:List Bool) (tk:Nat) (w:World) (h:IsWriter w b v q tk) (hq:q.length<=1099511627776) :
  Calls Tryz.prog 46 #[.pointer (some ⟨b,0,none⟩)] w fun e w'=>
   e=.returned (.tuple #[])/\∃v1,IsWriter w' b v1 (q++padding q) tk/\Touch (foot b v) w w'/\(∀k,v1.ownBlock=some k->v.ownBlock=some k\/w.heap.size<=k):=by
 have H:=zh h;clear h;go_enter Tryz.func46,Tryz.ntmps46;go_wp2_with fail;refine(Zmq b v q tk w H.out).mono ?_;rintro e w' ⟨rfl,rfl⟩;go_wp2_with fail;refine(Zfu _ q.length rfl _ (by omega)).mono ?_;rintro e w' ⟨rfl,rfl⟩;go_wp2_with fail;refine(Zgv b v q tk 0 ((8-q.length % 8) % 8) w H.out (by omega) (Nat.two_pow_pos _) hq).mono ?_;rintro e w' ⟨rfl,hp⟩;have HP:=zh hp;clear hp;go_wp2_with fail;go_end0;exact⟨rfl,HP.out⟩
def IsRowB (w:World) (v:Value) (l:List UInt8):Prop:=
 (v=.slice none 0 0/\l=[])\/∃g off cap,v=.slice (some ⟨g,off,none⟩) l.length cap/\g<w.heap.size/\l.length<=cap/\cap<=maxLen /\
  (∀(i:Nat) (x:UInt8),l[i]?=some x->w.cell? ⟨g,off+i,none⟩=some (u8v x))/\(∀i,i<cap->∃n,w.cell? ⟨g,off+i,none⟩=some (.int .u8 n))/\(∀i,i<cap->w.frozen? ⟨g,off+i,none⟩=false)
def IsReader (w:World) (b:Nat) (v:Value) (l:List UInt8) (dr sp p:Nat):Prop:=
 w.heap[b]?=some (.cells #[v,.int .i64 (dr:Int),.int .i64 (sp:Int),.int .i64 (p:Int)] 184 (0,0))/\IsRowB w v l/\(∀k,v.ownBlock=some k->b≠k)/\8*dr<=p/\p<=8*(dr+l.length)
theorem IsReader.cells {w:World} {b:Nat} {v:Value} {l:List UInt8} {dr sp p:Nat} (h:IsReader w b v l dr sp p) :
  w.cell? ⟨b,0,none⟩=some v/\w.cell? ⟨b,1,none⟩=some (.int .i64 (dr:Int))/\w.cell? ⟨b,2,none⟩=some (.int .i64 (sp:Int))/\w.cell? ⟨b,3,none⟩=some (.int .i64 (p:Int)) /\
  w.frozen? ⟨b,0,none⟩=false/\w.frozen? ⟨b,1,none⟩=false/\w.frozen? ⟨b,2,none⟩=false/\w.frozen? ⟨b,3,none⟩=false:=by
 have h:=h.1;refine⟨?_,?_,?_,?_,frozen_of_row _ _ _ _ _ h,frozen_of_row _ _ _ _ _ h,frozen_of_row _ _ _ _ _ h,frozen_of_row _ _ _ _ _ h⟩<;>(rw [cell_of_row _ _ _ _ _ _ h];rfl)
theorem IsRowB.slice {w:World} {v:Value} {l:List UInt8} (h:IsRowB w v l):∃a cap,v=.slice a l.length cap/\l.length<=cap/\cap<=maxLen:=by
 rcases h with⟨rfl,rfl⟩|⟨g,off,cap,rfl,_,h1,h2,_⟩
 ·exact⟨none,0,rfl,Nat.le_refl _,by decide⟩
 ·exact⟨_,cap,rfl,h1,h2⟩
theorem IsRowB.cell {w:World} {v:Value} {l:List UInt8} (h:IsRowB w v l) {i:Nat} {x:UInt8} (hx:l[i]?=some x):∃g off cap,v=.slice (some ⟨g,off,none⟩) l.length cap/\w.cell? ⟨g,off+i,none⟩=some (.int .u8 (x.toNat:Int)):=by
 rcases h with⟨rfl,rfl⟩|⟨g,off,cap,rfl,hg,h1,h2,hc,_⟩
 ·simp at hx
 ·exact⟨g,off,cap,rfl,hc i x hx⟩
theorem IsRowB.other {w w':World} {v:Value} {l:List UInt8} (h:IsRowB w v l) (he:∀k,v.ownBlock=some k->w'.heap[k]?=w.heap[k]?):IsRowB w' v l:=by
 rcases h with h|⟨g,off,cap,rfl,hg,h1,h2,hc,ha,hf⟩
 ·exact Or.inl h
 ·have e:=he g rfl;refine Or.inr ⟨g,off,cap,rfl,(Array.getElem?_eq_some_iff.1 (e.trans (Array.getElem?_eq_getElem hg))).1,h1,h2,fun i x hx=>?_,fun i hi=>?_,fun i hi=>?_⟩
  ·rw [World.cell?_of_block (w:=w) (a:=⟨g,off+i,none⟩) e];exact hc i x hx
  ·rw [World.cell?_of_block (w:=w) (a:=⟨g,off+i,none⟩) e];exact ha i hi
  ·rw [World.frozen?_of_block (w:=w) (a:=⟨g,off+i,none⟩) e];exact hf i hi
theorem IsRowB.lt {w:World} {v:Value} {l:List UInt8} (h:IsRowB w v l):∀k,v.ownBlock=some k->k<w.heap.size:=by
 intro k hk;rcases h with⟨rfl,_⟩|⟨g,off,cap,rfl,hg,r⟩
 ·simp [Value.ownBlock] at hk
 ·simp [Value.ownBlock] at hk;subst hk;exact hg
theorem IsReader.lt {w:World} {b:Nat} {v:Value} {l:List UInt8} {dr sp p:Nat} (h:IsReader w b v l dr sp p):∀k,foot b v k->k<w.heap.size:=by
 intro k hk;rcases hk with rfl|hk
 ·exact(Array.getElem?_eq_some_iff.1 h.1).1
 ·exact h.2.1.lt k hk
theorem IsReader.other {w w':World} {b:Nat} {v:Value} {l:List UInt8} {dr sp p:Nat} (h:IsReader w b v l dr sp p) {S:Nat->Prop} (ht:Touch S w w') (hS:∀k,foot b v k->¬S k):IsReader w' b v l dr sp p:=
 ⟨(ht.block b (h.lt b (Or.inl rfl)) (hS b (Or.inl rfl))).trans h.1,h.2.1.other (fun k hk=>ht.block k (h.lt k (Or.inr hk)) (hS k (Or.inr hk))),h.2.2⟩
theorem IsReader.at_ {w:World} {b:Nat} {v:Value} {l:List UInt8} {dr sp p:Nat} (h:IsReader w b v l dr sp p) (q:Nat) (h1:8*dr<=q) (h2:q<=8*(dr+l.length)) (Q:Int) (hQ:Q=(q:Int)) :
  IsReader (w.setCell ⟨b,3,none⟩ (.int .i64 Q)) b v l dr sp q/\Touch (·=b) w (w.setCell ⟨b,3,none⟩ (.int .i64 Q)):=by
 subst hQ;exact⟨⟨heap_setCell_same _ _ 3 _ _ _ h.1,h.2.1.other (fun k hk=>heap_setCell_other _ _ _ _ (fun e=>h.2.2.1 k hk e.symm)),h.2.2.1,h1,h2⟩,Touch.setCell (S:=(·=b)) (Touch.refl _ _) (Or.inl rfl) _⟩
theorem Zqs (b:Nat) (v:Value) (l:List UInt8) (dr sp p E:Nat) (w:World) (h:IsReader w b v l dr sp p) (hs:dr+l.length<=1099511627776) (hE:8*(dr+l.length)=E) :
  Calls Tryz.prog 157 #[.pointer (some ⟨b,0,none⟩)] w fun e w'=>e=.returned (.int .i64 (E:Int))/\∃n,w'=w.drewN n:=by
 obtain⟨c0,c1,c2,c3,f0,f1,f2,f3⟩:=h.cells;obtain⟨a,cap,rfl,_,_⟩:=h.2.1.slice;clear h;have hb1:(dr:Int)<=1099511627776:=by omega
 have hb2:(l.length:Int)<=1099511627776:=by omega
 have HE:=zh (show(8:Int)*((dr:Int)+(l.length:Int))=(E:Int) by omega);clear hE;go_enter Tryz.func157,Tryz.ntmps157;go_wp2_with fail
 go_quiet (fail)
 go_wp2_with fail;go_ret;rw [HE.out];exact⟨rfl,_,rfl⟩
theorem IsReader.drewN {w:World} {b:Nat} {v:Value} {l:List UInt8} {dr sp p:Nat} (h:IsReader w b v l dr sp p) (n:Nat):IsReader (w.drewN n) b v l dr sp p:=
 h.other (Zan (fun _=>False) w n) (fun _ _ hf=>hf)
theorem Zol (b:Nat) (v:Value) (l:List UInt8) (dr sp p L:Nat) (w:World) (h:IsReader w b v l dr sp p) (hs:dr+l.length<=1099511627776) (hL:8*(dr+l.length)-p=L) :
  Calls Tryz.prog 123 #[.pointer (some ⟨b,0,none⟩)] w fun e w'=>e=.returned (.int .i64 (L:Int))/\∃n,w'=w.drewN n:=by
 obtain⟨c0,c1,c2,c3,f0,f1,f2,f3⟩:=h.cells;have h1:=h.2.2.2.1;have h2:=h.2.2.2.2;have H:=zh h;obtain⟨E,hE⟩:∃E,8*(dr+l.length)=E:=⟨_,rfl⟩
 have hb1:(E:Int)<=8796093022208:=by omega
 have hb2:(p:Int)<=(E:Int):=by omega
 have hb3:(0:Int)<=p:=by omega
 have HE:=zh (show(E:Int)-(p:Int)=(L:Int) by omega);have HEE:=zh hE;clear h hE hL h1 h2;go_enter Tryz.func123,Tryz.ntmps123;go_wp2_with fail
 go_quiet ((go_at_call 157;exact Calls.quiet_of (Zqs b v l dr sp p E _ (H.out.drewN _) hs HEE.out)))
 go_wp2_with fail;go_ret;rw [HE.out];exact⟨rfl,_,rfl⟩
theorem Zqt (V x:Nat) (hV:V<2^32) (hx:x<256):bits BinOp.or IntKind.u64 (IntKind.u64.wrap ((V:Int)*256)) (x:Int)=((V*256+x:Nat):Int):=by
 have e:IntKind.u64.wrap ((V:Int)*256)=((V*256:Nat):Int):=by
  simp only [IntKind.wrap,IntKind.bits,IntKind.signed];simp;omega
 rw [e,u64_or_nat _ _ (by omega) (by omega),nat_join 8 _ _ (by omega) (by omega)]
theorem Zmr (V u n:Nat) (hV:V<2^40) (hn:n<=32):bits BinOp.and IntKind.u64 ((V:Int) / 2^u) (IntKind.u64.wrap (IntKind.u64.wrap (2^n)-1)) % 4294967296=((V / 2^u % 2^n:Nat):Int):=by
 have h32:2^n<=2^32:=Nat.pow_le_pow_right (by omega) hn;have h1:1<=2^n:=Nat.two_pow_pos n;have e0:(V:Int) / 2^u=((V / 2^u:Nat):Int):=by simp
 have hVu:V / 2^u<=V:=Nat.div_le_self _ _;have e1:(2:Int)^n=((2^n:Nat):Int):=by simp
 have e2:IntKind.u64.wrap (IntKind.u64.wrap ((2^n:Nat):Int)-1)=((2^n-1:Nat):Int):=by
  generalize 2^n=z at *;simp only [IntKind.wrap,IntKind.bits,IntKind.signed];simp;omega
 rw [e0,e1,e2,u64_and_nat _ _ (by omega) (by omega),Nat.and_two_pow_sub_one_eq_mod];have hm:V / 2^u % 2^n<2^n:=Nat.mod_lt _ (by omega);omega
theorem Zom (sub:List UInt8) (h:sub.length<=5):num (bitsOf sub)<2^40:=by
 refine Nat.lt_of_lt_of_le (Zbg _) (Nat.pow_le_pow_right (by omega) ?_);rw [ZaJ];omega
theorem ZsX (sub:List UInt8) (k:Nat) (hk:k<=4):num (bitsOf (sub.take k))<2^32:=by
 refine Nat.lt_of_lt_of_le (Zbg _) (Nat.pow_le_pow_right (by omega) ?_);rw [ZaJ,List.length_take];omega
theorem Zon (b:Nat) (v:Value) (l:List UInt8) (dr sp p n:Nat) (w:World) (h:IsReader w b v l dr sp p) (hs:dr+l.length<=1099511627776) (hn:n<=32) (hp:p+n<=8*(dr+l.length)) :
  Calls Tryz.prog 124 #[.pointer (some ⟨b,0,none⟩),.int .i64 (n:Int)] w fun e w'=>e=.returned (.int .u32 (num (((bitsOf l).drop (p-8*dr)).take n):Int))/\∃n,w'=w.drewN n:=by
 obtain⟨c0,c1,c2,c3,f0,f1,f2,f3⟩:=h.cells;have h1:=h.2.2.2.1;have HR:=zh h.2.1;obtain⟨a,cap,hv,hcap,hcm⟩:=h.2.1.slice;unfold maxLen at hcm;obtain⟨fr,hfr⟩:∃fr,p-8*dr=fr:=⟨_,rfl⟩
 rw [hfr];have hf0:(p:Int)-8*(dr:Int)=(fr:Int):=by omega
 have hb1:(dr:Int)<=1099511627776:=by omega
 have hb2:(p:Int)<=17592186044416:=by omega
 have hft:fr+n<=8*l.length:=by omega
 clear h h1 hp hfr;subst hv;have hsub:((l.drop (fr / 8)).take ((fr+n+7) / 8-fr / 8)).length=(fr+n+7) / 8-fr / 8:=by simp;omega
 have HM:=zh (Zqp l fr n hft);generalize hs0:(l.drop (fr / 8)).take ((fr+n+7) / 8-fr / 8)=sub at *;have HS0:=zh hs0;have hcnt:(fr+n+7) / 8-fr / 8<=5:=by omega
 have HSUB:=zh hsub;clear hs0 hsub;by_cases hcf:cap=fr / 8
 ·have hc0:(fr+n+7) / 8-fr / 8=0:=by omega
  go_enter Tryz.func124,Tryz.ntmps124;go_wp2_with fail
  go_quiet (fail)
  go_wp2_with fail
  go_loop [7,9,34] (fun v _ i=>∃k:Nat,k<=(fr+n+7) / 8-fr / 8/\i=.int .i64 k/\v=.int .u64 (num (bitsOf (sub.take k)):Int)) (fun _ _ i=>((fr+n+7) / 8-fr / 8)-(intOf i).toNat)
  case atStart=>exact⟨0,by omega,rfl,rfl⟩
  case round=>
   obtain⟨k,hk,rfl,rfl⟩:=hrel;by_cases hlt:k<(fr+n+7) / 8-fr / 8
   ·exfalso;omega
   ·obtain rfl:k=(fr+n+7) / 8-fr / 8:=by omega
    go_wp2_with fail;refine(Zfu _ (fr+n) (by omega) _ (by omega)).mono ?_;rintro e w' ⟨rfl,rfl⟩;go_wp2_with fail;go_ret;have hs0:sub=[]:=List.eq_nil_of_length_eq_zero (HSUB.out.trans hc0);have hm:=HM.out;rw [hs0] at hm;rw [Zmr _ _ _ (Zom [] (by decide)) hn,hm];exact⟨rfl,_,rfl⟩
 ·go_enter Tryz.func124,Tryz.ntmps124;go_wp2_with fail
  go_quiet (fail)
  go_wp2_with fail
  go_loop [7,9,34] (fun v _ i=>∃k:Nat,k<=(fr+n+7) / 8-fr / 8/\i=.int .i64 k/\v=.int .u64 (num (bitsOf (sub.take k)):Int)) (fun _ _ i=>((fr+n+7) / 8-fr / 8)-(intOf i).toNat)
  case atStart=>exact⟨0,by omega,rfl,rfl⟩
  case round=>
   obtain⟨k,hk,rfl,rfl⟩:=hrel;by_cases hlt:k<(fr+n+7) / 8-fr / 8
   ·have hx:∃x,sub[k]?=some x:=⟨sub[k]'(by have:=HSUB.out;omega),List.getElem?_eq_getElem _⟩
    obtain⟨x,hx⟩:=hx
    have hx2:l[fr / 8+k]?=some x:=by
     have:=hx;rw [<-HS0.out,List.getElem?_take,if_pos hlt,List.getElem?_drop] at this;exact this
    obtain⟨g,off,cap2,hv2,hc2⟩:=HR.out.cell hx2;simp only [Value.slice.injEq] at hv2;obtain⟨rfl,_,_⟩:=hv2;rw [<-Nat.add_assoc] at hc2
    have HT:Hid (num (bitsOf (sub.take (k+1)))=num (bitsOf (sub.take k))*256+x.toNat):=by
     obtain⟨hk1,hk2⟩:=List.getElem?_eq_some_iff.1 hx;rw [List.take_succ_eq_append_getElem hk1,Zie,hk2];rfl
    have hxl:=x.toNat_lt;clear hx hx2;go_wp2_with fail
    go_round
    case rel=>
     refine⟨k+1,by omega,by go_num,?_⟩;rw [Zqt _ _ (ZsX sub k (by omega)) hxl,HT.out]
    case measure=>simp [intOf];omega
   ·obtain rfl:k=(fr+n+7) / 8-fr / 8:=by omega
    go_wp2_with fail;refine(Zfu _ (fr+n) (by omega) _ (by omega)).mono ?_;rintro e w' ⟨rfl,rfl⟩;go_wp2_with fail;go_ret;have hl5:sub.length<=5:=by rw [HSUB.out];exact hcnt
    rw [List.take_of_length_le (Nat.le_of_eq HSUB.out),Zmr _ _ _ (Zom sub hl5) hn,HM.out];exact⟨rfl,_,rfl⟩
theorem Zr1 (b:Nat) (v:Value) (l:List UInt8) (dr sp p n:Nat) (w:World) (h:IsReader w b v l dr sp p) (hs:dr+l.length<=1099511627776) (hn:n<=32) (hp:p+n<=8*(dr+l.length)) :
  Calls Tryz.prog 88 #[.pointer (some ⟨b,0,none⟩),.int .i64 (n:Int)] w fun e w'=>
   e=.returned (.tuple #[.int .u32 (num (((bitsOf l).drop (p-8*dr)).take n):Int),.int .i64 0])/\IsReader w' b v l dr sp (p+n)/\Touch (·=b) w w':=by
 obtain⟨c0,c1,c2,c3,f0,f1,f2,f3⟩:=h.cells;obtain⟨L,hL⟩:∃L,8*(dr+l.length)-p=L:=⟨_,rfl⟩
 have hn1:(n:Int)<=L:=by omega
 have hpp:(p:Int)<=8796093022208:=by omega
 have h8:8*dr<=p:=h.2.2.2.1;have H:=zh h;have HL:=zh hL;clear h hL;go_enter Tryz.func88,Tryz.ntmps88;go_wp2_with fail;refine(ZhH _ _ (by omega) (by omega)).mono ?_;rintro e w' ⟨rfl,rfl⟩;go_wp2_with fail;refine(Zol b v l dr sp p L w H.out hs HL.out).mono ?_;rintro e w' ⟨rfl,m,rfl⟩;go_wp2_with fail;refine(Zon b v l dr sp p n _ (H.out.drewN m) hs hn hp).mono ?_;rintro e w' ⟨rfl,m2,rfl⟩;go_wp2_with fail;go_ret2;obtain⟨d1,d2⟩:=(H.out.drewN (m+m2)).at_ (p+n) (by omega) hp ((p:Int)+(n:Int)) (by omega);exact⟨rfl,d1,(Zan (·=b) w (m+m2)).trans d2 (fun i hi=>Or.inl hi)⟩
theorem ZjR (s:ByteArray) (w:World) (hs:s.size<=maxLen) :
  Calls Tryz.prog 86 #[.string s] w fun e w'=>∃b v,e=.returned (.pointer (some ⟨b,0,none⟩))/\IsReader w' b v s.data.toList 0 0 0/\Below w.heap.size w w'/\(∀k,foot b v k->w.heap.size<=k):=by
 have hcv:=run_bytes_of_string (P:=Tryz.prog) w 9 73 5 s Tryz.underlying9 Tryz.underlying73 Tryz.underlying5;have hge:=grownCap_ge w s.size 0 5;have hle:=grownCap_le_maxLen w s.size 0 5 hs
 have hsz:(bytesRow s (grownCap w s.size 0 5)).size=grownCap w s.size 0 5:=by
  have:s.data.size=s.size:=rfl;simp [bytesRow];omega
 have HB:Hid (∀i,i<grownCap w s.size 0 5->∃n,(bytesRow s (grownCap w s.size 0 5))[i]?=some (.int .u8 n)):=zh fun i hi=>by
  by_cases h:i<s.data.size
  ·exact⟨_,bytesRow_at s _ i h⟩
  ·refine⟨0,?_⟩;have e:s.data.size=s.size:=rfl;unfold bytesRow;rw [Array.getElem?_append_right (by simp;omega),Array.getElem?_replicate,if_pos (by rw [Array.size_map,e];omega)]
 generalize grownCap w s.size 0 5=C at *
 have HBA:Hid (∀(i:Nat) (x:UInt8),s.data.toList[i]?=some x->(bytesRow s C)[i]?=some (u8v x)):=zh fun i x hx=>by
  obtain⟨hi,rfl⟩:=List.getElem?_eq_some_iff.1 hx;exact bytesRow_at s _ i (by simpa using hi)
 generalize bytesRow s C=R at *;have HGE:=zh hge;have HLE:=zh hle;have HSZ:=zh hsz;clear hge hle hsz;go_enter Tryz.func86,Tryz.ntmps86;go_wp2_with fail;go_ret;have e:s.data.toList.length=s.size:=rfl;have ho:=heap_alloc2_old w (.cells R 5 (R.size,R.size+1)) (.cells #[.slice (some ⟨w.heap.size,0,none⟩) s.size C,.int .i64 0,.int .i64 0,.int .i64 0] 184);refine⟨w.heap.size+1,.slice (some ⟨w.heap.size,0,none⟩) s.size C,rfl,⟨heap_alloc2_new _ _ _,Or.inr ⟨w.heap.size,0,C,rfl,(Array.getElem?_eq_some_iff.1 ho).1,by rw [e];exact HGE.out,HLE.out,fun i x hx=>?_,fun i hi=>?_,fun i hi=>?_⟩,?_,by omega,by omega⟩,?_,?_⟩
 ·exact(cell_of_row _ _ _ _ _ _ ho).trans (by rw [Nat.zero_add];exact HBA.out i x hx)
 ·exact(HB.out i hi).imp fun n hn=>(cell_of_row _ _ _ _ _ _ ho).trans (by rw [Nat.zero_add];exact hn)
 ·have hi2:i<R.size:=by rw [HSZ.out];exact hi
  refine Eq.trans (b:=decide (R.size<=0+i) && decide (0+i<R.size+1)) ?_ (by simp;omega)
  have hx:∀(X:World),X.heap[w.heap.size]?=some (.cells R 5 (R.size,R.size+1))->X.frozen? ⟨w.heap.size,0+i,none⟩=(decide (R.size<=0+i) && decide (0+i<R.size+1)):=fun X hX=>by
   unfold World.frozen?;rw [hX]
  exact hx _ ho
 ·intro k hk;simp [Value.ownBlock] at hk;omega
 ·exact(((Below.refl _ _).alloc (Nat.le_refl _) _).alloc (by simp) _).drew
 ·intro k hk;rcases hk with rfl|hk
  ·omega
  ·simp [Value.ownBlock] at hk;omega
end
end Go.Proofs.YtlfpbcadcfaboaaGreatDoor

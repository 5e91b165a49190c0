import Derived.Test.YtnachbjhhpnadaaGreatDoorBcA
import Derived.Test.YtnachbjhhpnadaaGreatDoorBcB
import Derived.Test.YtnachbjhhpnadaaGreatDoorBcC
import Derived.Test.YtnachbjhhpnadaaGreatDoorBcD
import Derived.Test.YtnachbjhhpnadaaGreatDoorBcE
import Derived.Test.YtnachbjhhpnadaaGreatDoorBcF
import Derived.Test.YtnachbjhhpnadaaGreatDoorBcG
import Derived.Test.YtnachbjhhpnadaaGreatDoorBcH
import Derived.Test.YtnachbjhhpnadaaGreatDoorBcI
import Derived.Test.YtnachbjhhpnadaaGreatDoorBcJ
import Derived.Test.YtnachbjhhpnadaaGreatDoorBcK
import Derived.Test.YtnachbjhhpnadaaGreatDoorBcL
import Derived.Test.YtnachbjhhpnadaaGreatDoorBsA
import Derived.Deep.Cut
import Derived.Laws.StandIn
import Derived.Laws.CopyRow
import Derived.StillTailTactics
import Derived.WalkKit
import Derived.BigRegion
import Derived.BigQuiet
import Derived.IntWalk
import Derived.Deep.RegionLaw
import Derived.ProofKit
import Derived.OpenShut
import Derived.ShutString
import Derived.ChangeOld
import Derived.Below
import Derived.Lib.Hide
import Derived.Lib.SmallJoins
import Derived.Deep.Slices
import Derived.Shelf.Abstract
import Derived.Lib.SliceRun
import Derived.Deep.LoopGhost
import Derived.Laws.BitsAllLaws
import Derived.Deep.RegionHeld3
import Derived.Deep.AppendSrc
import Derived.Deep.Upon
import Derived.Deep.MidRow
set_option linter.unusedVariables false
set_option linter.unusedSimpArgs false
set_option maxHeartbeats 8000000
set_option maxRecDepth 100000
namespace Go.Proofs.YtnachbjhhpnadaaGreatDoor
section
open Go.RowKit ZerM
def RdVar (w:World) (b:Nat) (n:Int) (most:Nat) (s:St) (u:Value):Prop:=w.heap[b]?=some (.cells (rdc n most (s.out.length:Int) u s.done) 170 (0,0))
theorem ZkJ (n:Int) (most:Nat) (told:Int) (a:Option Addr) (N cap:Nat) (d:Bool):(rdc n most told (.slice a N cap) d).all (·.oneCell')=true:=by kernel_rfl
theorem RdVar.lt {w:World} {b:Nat} {n:Int} {most:Nat} {s:St} {u:Value} (h:RdVar w b n most s u):b<w.heap.size:=(Array.getElem?_eq_some_iff.1 h).1
theorem RdVar.below {w w':World} {b:Nat} {n:Int} {most:Nat} {s:St} {u:Value} (h:RdVar w b n most s u) (hb:Below w.heap.size w w'):RdVar w' b n most s u:=(hb.block b h.lt).trans h
def StVar (w:World) (b:Nat) (n:Int) (most:Nat) (told:Int) (u:Value) (d:Bool) (z p e:Int):Prop:=w.heap[b]?=some (.cells (stc n most told u d z p e) 172 (0,0))
theorem StVar.lt {w:World} {b:Nat} {n:Int} {most:Nat} {told:Int} {u:Value} {d:Bool} {z p e:Int} (h:StVar w b n most told u d z p e):b<w.heap.size:=(Array.getElem?_eq_some_iff.1 h).1
theorem StVar.cells {w:World} {b:Nat} {n:Int} {most:Nat} {told:Int} {u:Value} {d:Bool} {z p e:Int} (h:StVar w b n most told u d z p e) :
  w.cell? ⟨b,0,none⟩=some (.int .i64 n)/\w.cell? ⟨b,1,none⟩=some (.int .i64 (most:Int))/\w.cell? ⟨b,2,none⟩=some (.int .i64 told)/\w.cell? ⟨b,3,none⟩=some u/\w.cell? ⟨b,4,none⟩=some (.bool d) /\
  w.cell? ⟨b,5,none⟩=some (.int .i64 z)/\w.cell? ⟨b,6,none⟩=some (.int .i64 p)/\w.cell? ⟨b,7,none⟩=some (.int .i64 e):=by
 refine⟨?_,?_,?_,?_,?_,?_,?_,?_⟩<;>(rw [cell_of_row _ _ _ _ _ _ h];rfl)
theorem RdVar.cells {w:World} {b:Nat} {n:Int} {most:Nat} {s:St} {u:Value} (h:RdVar w b n most s u) :
  w.cell? ⟨b,0,none⟩=some (.int .i64 n)/\w.cell? ⟨b,1,none⟩=some (.int .i64 (most:Int))/\w.cell? ⟨b,2,none⟩=some (.int .i64 (s.out.length:Int))/\w.cell? ⟨b,3,none⟩=some u/\w.cell? ⟨b,4,none⟩=some (.bool s.done):=by
 refine⟨?_,?_,?_,?_,?_⟩<;>(rw [cell_of_row _ _ _ _ _ _ h];rfl)
def RD (w:World) (n:Int) (M:Nat) (zs:List Int) (k:Nat) (s:St) (u v:Value) (wr:World):Prop:=
 RdVar wr w.heap.size n M s u/\OwnI wr (w.heap.size+1) u s.rc/\OwnI wr (w.heap.size+1) v s.out/\(∀k,u.ownBlock=some k->v.ownBlock≠some k)/\Ok M s/\dec n M ini zs=dec n M s (zs.drop k)/\Below w.heap.size w wr
def RE (w:World) (n:Int) (M:Nat) (s s2:St) (u u2:Value) (S:Nat) (z p:Int) (l:List Int) (v:Value) (wr:World):Prop:=
 RdVar wr w.heap.size n M s u/\OwnI wr (w.heap.size+1) u2 s2.rc/\OwnI wr (w.heap.size+1) v l/\StVar wr S n M (s2.out.length:Int) u2 s2.done z p 0/\w.heap.size+1<=S/\v.ownBlock≠some S/\u2.ownBlock≠some S/\(∀k,u2.ownBlock=some k->v.ownBlock≠some k)/\Below w.heap.size w wr
theorem RE.push {w:World} {n:Int} {M:Nat} {s s2:St} {u u2:Value} {S:Nat} {z p:Int} {l:List Int} {v v':Value} {wr w':World} {x:Int} (h:RE w n M s s2 u u2 S z p l v wr)
  (h1:OwnI w' (w.heap.size+1) v' (l++[x])) (h2:Below (w.heap.size+1) wr w') (h3:∀k,k<wr.heap.size->v.ownBlock≠some k->w'.heap[k]?=wr.heap[k]?) (h4:∀k,v'.ownBlock=some k->v.ownBlock=some k\/wr.heap.size<=k) :
  RE w n M s s2 u u2 S z p (l++[x]) v' w':=by
 obtain⟨a1,a2,a3,a4,a5,a6,a7,a8,a9⟩:=h;refine⟨(h2.block _ (by omega)).trans a1,a2.same (fun k hk=>h3 k (a2.lt k hk).2 (a8 k hk)),h1,(h3 S a4.lt a6).trans a4,a5,?_,a7,?_,a9.trans (h2.mono (by omega))⟩
 ·intro e;rcases h4 S e with h|h
  ·exact a6 h
  ·have:=a4.lt;omega
 ·intro k hk e;rcases h4 k e with h|h
  ·exact a8 k hk h
  ·have:=(a2.lt k hk).2;omega
theorem RE.fin {w:World} {n:Int} {M:Nat} {s s2:St} {u u2:Value} {S:Nat} {z p:Int} {l:List Int} {v:Value} {wr:World} {zs:List Int} {k:Nat} (h:RE w n M s s2 u u2 S z p l v wr) (hl:s2.out=l) (hk:Ok M s2)
  (hd:dec n M ini zs=dec n M s2 (zs.drop k)):RD w n M zs k s2 u2 v (wr.setRow w.heap.size (rdc n M (s2.out.length:Int) u2 s2.done)):=by
 obtain⟨a1,a2,a3,a4,a5,a6,a7,a8,a9⟩:=h;subst hl;exact⟨setRow_heap wr _ _ _ _ (0,0) a1,a2.setRow _ _ (by omega),a3.setRow _ _ (by omega),a8,hk,hd,Zae a9 (Nat.le_refl _) _⟩
theorem ZkK (v0:Value) (zs:List Int) (n most:Int) (w:World) (hv:IsInts w v0 zs) (hz:zs.length<=1000000) (hms:DecOk n most->most<=1000000) :
  Calls Tryz.prog 67 #[v0,.int .i64 n,.int .i64 most] w fun e w'=>∃(u:Value) (ys:List Int) (err:Nat),e=.returned (.tuple #[u,.int .i64 (err:Int)])/\IsInts w' u ys/\Below w.heap.size w w'/\DecP zs n most ys err:=by
 have HV:=zh hv;obtain⟨a,cap,rfl,_⟩:=hv;by_cases hn1:n<1
 ·go_enter Tryz.func67,Tryz.ntmps67;go_wp2_with fail;go_ret2;exact⟨_,[],1,rfl,IsInts.nil _,Below.refl _ _,Or.inl ⟨fun h=>by have:=h.1;omega,rfl,rfl⟩⟩
 by_cases hn2:256<n
 ·go_enter Tryz.func67,Tryz.ntmps67;go_wp2_with fail;go_ret2;exact⟨_,[],1,rfl,IsInts.nil _,Below.refl _ _,Or.inl ⟨fun h=>by have:=h.2.1;omega,rfl,rfl⟩⟩
 by_cases hm1:most<0
 ·go_enter Tryz.func67,Tryz.ntmps67;go_wp2_with fail;go_ret2;exact⟨_,[],1,rfl,IsInts.nil _,Below.refl _ _,Or.inl ⟨fun h=>by have:=h.2.2.1;omega,rfl,rfl⟩⟩
 by_cases hm2:1099511627776<most
 ·go_enter Tryz.func67,Tryz.ntmps67;go_wp2_with fail;go_ret2;exact⟨_,[],1,rfl,IsInts.nil _,Below.refl _ _,Or.inl ⟨fun h=>by have:=h.2.2.2;omega,rfl,rfl⟩⟩
 have hok:DecOk n most:=⟨by omega,by omega,by omega,by omega⟩
 have hmo:=hms hok;obtain⟨M,rfl⟩:∃M:Nat,most=(M:Int):=⟨most.toNat,by omega⟩
 have HOK:=zh hok;have h1n:1<=n:=by omega
 have hn256:n<=256:=by omega
 have HPUT:=zh (fun s c u w (hu:OwnI w 0 u s.rc) (ho:Ok M s)=>ZlZ n M s c u w hu h1n hn256 ho (by omega));have HB0:=zh ((Below.refl w.heap.size w).alloc (Nat.le_refl _) (.cells #[.int .i64 n,.int .i64 (M:Int),.int .i64 0,.slice none 0 0,.bool false] 170));have HR0:=zh (heap_alloc_new w (.cells #[.int .i64 n,.int .i64 (M:Int),.int .i64 0,.slice none 0 0,.bool false] 170));clear hok hms;go_enter Tryz.func67,Tryz.ntmps67;go_wp2_with fail;generalize w.alloc (.cells #[.int .i64 n,.int .i64 (M:Int),.int .i64 0,.slice none 0 0,.bool false] 170)=w1 at *
 go_loopw [9,32] (fun o i wr=>∃(k:Nat) (s:St) (u v:Value),k<=zs.length/\i=.int .i64 k/\v=o/\RD w n M zs k s u v wr) (fun _ i _=>zs.length-(intOf i).toNat)
 case atStart=>exact⟨0,ini,.slice none 0 0,.slice none 0 0,by omega,rfl,rfl,HR0.out,OwnI.nil _ _,OwnI.nil _ _,fun k h=>by simp [Value.ownBlock] at h,Ok.ini M,rfl,HB0.out⟩
 case round=>
  clear HB0 HR0;obtain⟨k,s,u,v,hk,rfl,rfl,hR,hU,hO,hA,hK,hD,hB⟩:=hrel;have HR:=zh hR;have HU:=zh hU;have HO:=zh hO;have HA:=zh hA;have HK:=zh hK;have HD:=zh hD;have HB:=zh hB;have hcl:=hK.le;have hcv:cnt s=s.out.length+val s.rc:=rfl;obtain⟨d0,d1,d2,d3,d4⟩:=hR.cells;have hG:=hR.lt;clear hR hU hO hA hK hD hB;by_cases hlk:k<zs.length
  ·have hki:(k:Int)<(zs.length:Int):=by omega
   have HV2:=zh (HV.out.below HB.out);obtain⟨b1,o1,k1,he1,c1⟩:=HV2.out.cell hlk;simp only [Value.slice.injEq] at he1;obtain⟨rfl,_,rfl⟩:=he1;obtain⟨x,hx⟩:∃x,zs.getD k 0=x:=⟨_,rfl⟩
   have HDR:Hid (zs.drop k=x::zs.drop (k+1)):=zh (by rw [<-hx];exact Zi9 zs k hlk);rw [hx] at c1;rw [HDR.out] at HD;clear hx
   obtain⟨au,Nu,cu,hus⟩:∃au Nu cu,u=.slice au Nu cu:=by
    obtain⟨au,cu,h⟩:=HU.out.slice;exact⟨au,_,cu,h⟩
   subst hus;go_wp2_with fail;refine(HPUT.out s x (.slice au Nu cu) wr HU.out.weak HK.out).mono ?_;rintro e w2 ⟨hb2,hp⟩;have HB2:=zh (HB.out.trans (hb2.mono HB.out.size));rcases hp with⟨hput,u2,hu2,rfl⟩|⟨hput,rfl⟩
   ·have HD2:Hid (dec n M ini zs=dec n M (putS n s x) (zs.drop (k+1))):=zh (by rw [HD.out,dec_go hput]);have HK2:=zh (HK.out.put hput);obtain⟨_,hx0,hx1⟩:=Zs6 hput;have hs2:=hb2.size
    obtain⟨au2,Nu2,cu2,rfl⟩:∃a N c,u2=.slice a N c:=by
     obtain⟨au,cu,h⟩:=hu2.slice;exact⟨au,_,cu,h⟩
    have HRE:Hid (RE w n M s (putS n s x) (.slice au Nu cu) (.slice au2 Nu2 cu2) w2.heap.size (putZ s x:Int) (putP n x) s.out v (w2.alloc (.cells (stc n M ((putS n s x).out.length:Int) (.slice au2 Nu2 cu2) (putS n s x).done (putZ s x:Int) (putP n x) 0) 172))):=zh ⟨
     (HR.out.below hb2).below ((Below.refl _ _).alloc (Nat.le_refl _) _),(hu2.lower (by omega)).alloc _,(HO.out.below hb2).alloc _,heap_alloc_new _ _,by omega,
     fun e=>by have:=(HO.out.lt _ e).2;omega,fun e=>by have:=(hu2.lt _ e).2;omega,fun j hj e=>by have h1:=(hu2.lt _ hj).1;have h2:=(HO.out.lt _ e).2;omega,HB2.out.alloc HB2.out.size _⟩
    have hout:(putS n s x).out=s.out++List.replicate (putZ s x) 0++(if 0<=putP n x then[putP n x] else[]):=by
     by_cases h2:x<2
     ·have hZ:putZ s x=0:=by unfold putZ;rw [if_pos h2]
      have hP:putP n x=-1:=by unfold putP;rw [if_pos (Or.inl h2)]
      rw [hZ,hP,putS_part h2];simp
     ·have hZ:putZ s x=val s.rc:=by unfold putZ;rw [if_neg h2]
      by_cases h3:x=n+1
      ·have hP:putP n x=-1:=by unfold putP;rw [if_pos (Or.inr h3)]
       rw [hZ,hP,putS_end h2 h3];simp
      ·have hP:putP n x=x-1:=by unfold putP;rw [if_neg (by omega)]
       rw [hZ,hP,putS_one h2 h3,if_pos (by omega)]
    have hpr:-1<=putP n x:=by unfold putP;split<;>omega
    have HOUT:=zh hout
    have hzl:putZ s x<=1000000:=by
     unfold putZ;split<;>omega
    have hsl:s.out.length<=1000000:=by omega
    clear hu2 hb2 hout HB2 HPUT d0 d1 d2 d3 d4 hput;generalize putS n s x=s2 at *;generalize putZ s x=Z at *;generalize putP n x=p at *;unfold stc;go_wp2_with fail
    go_loopw [9,49] (fun o i wr=>∃(j:Nat) (v:Value),j<=Z/\i=.int .i64 j/\v=o/\RE w n M s s2 (.slice au Nu cu) (.slice au2 Nu2 cu2) w2.heap.size (Z:Int) p (s.out++List.replicate j 0) v wr) (fun _ i _=>Z-(intOf i).toNat)
    case atStart=>exact⟨0,v,by omega,rfl,rfl,by rw [List.replicate_zero,List.append_nil];exact HRE.out⟩
    case round=>
     clear HRE;obtain⟨j,v,hj,rfl,rfl,hE⟩:=hrel;have hbw:=hE.2.2.2.2.2.2.2.2.size;have hlt:=hE.2.2.2.1.lt;have hS:=hE.2.2.2.2.1;have HE:=zh hE;clear hE;by_cases hjz:j<Z
     ·have hjI:(j:Int)<(Z:Int):=by omega
      have hln:(s.out++List.replicate j 0).length+1<=17592186044416:=by simp;omega
      go_wp2_with (at_builtin;go_loud (refine Zi8 wr rfl _ _ rfl (w.heap.size+1) _ (s.out++List.replicate j 0) 0 HE.out.2.2.1 rfl rfl hln (by omega) ?_));intro v3 w3 hO3 hB3 hK3 hV3
      have HE3:Hid (RE w n M s s2 (.slice au Nu cu) (.slice au2 Nu2 cu2) w2.heap.size (Z:Int) p (s.out++List.replicate (j+1) 0) v3 w3):=zh (by
       rw [List.replicate_succ',<-List.append_assoc];exact HE.out.push (by simpa only [List.append_assoc] using hO3) hB3 hK3 hV3)
      clear hO3 hB3 hK3 hV3;go_wp2_with fail;go_roundw
      case rel=>exact⟨j+1,v3,by omega,by go_num,rfl,HE3.out⟩
      case measure=>simp [intOf];omega
     ·obtain rfl:j=Z:=by omega
      obtain⟨d0,d1,d2,d3,d4,d5,d6,d7⟩:=HE.out.2.2.2.1.cells;by_cases hp:0<=p
      ·have hln:(s.out++List.replicate j 0).length+1<=17592186044416:=by simp;omega
       go_upto_region 19 with(at_builtin;go_loud (refine Zi8 wr rfl _ _ rfl (w.heap.size+1) _ (s.out++List.replicate j 0) p HE.out.2.2.1 rfl rfl hln (by omega) ?_))
       intro v3 w3 hO3 hB3 hK3 hV3;have HE3:=zh (HE.out.push (by simpa only [List.append_assoc] using hO3) hB3 hK3 hV3);clear hO3 hB3 hK3 hV3 d0 d1 d2 d3 d4 d5 d6 d7;obtain⟨d0,d1,d2,d3,d4,d5,d6,d7⟩:=HE3.out.2.2.2.1.cells;rw [if_pos hp] at HOUT;have HX:=zh HE3.out.1;have HF:=zh (HE3.out.fin HOUT.out HK2.out HD2.out);go_wp2_with (refine wpList_store_row rfl 170 _ _ rfl w.heap.size (rdc n M (s2.out.length:Int) (.slice au2 Nu2 cu2) s2.done) rfl rfl 170 _ HX.out ZcN rfl (ZkJ ..) ?_);go_roundw
       case rel=>exact⟨k+1,s2,_,v3,by omega,by go_num,rfl,HF.out⟩
       case measure=>simp [intOf];omega
      ·have hp1:p<0:=by omega
       rw [if_neg hp,List.append_nil] at HOUT;have HX:=zh HE.out.1;have HF:=zh (HE.out.fin HOUT.out HK2.out HD2.out);go_wp2_with (refine wpList_store_row rfl 170 _ _ rfl w.heap.size (rdc n M (s2.out.length:Int) (.slice au2 Nu2 cu2) s2.done) rfl rfl 170 _ HX.out ZcN rfl (ZkJ ..) ?_);go_roundw
       case rel=>exact⟨k+1,s2,_,v,by omega,by go_num,rfl,HF.out⟩
       case measure=>simp [intOf];omega
   ·have HE:Hid (dec n M ini zs=([],if putE n M s x=7 then 25 else putE n M s x)):=zh (by rw [HD.out,dec_stop hput]);obtain⟨E,hE⟩:∃E,putE n M s x=E:=⟨_,rfl⟩
    rw [hE] at HE hput;rw [hE];clear hb2 HPUT d0 d1 d2 d3 d4 hE;unfold stc;by_cases h7:E=7
    ·subst h7;rw [if_pos rfl] at HE;go_wp2_with fail;go_ret2;exact⟨_,[],25,rfl,IsInts.nil _,HB2.out.alloc HB2.out.size _,Or.inr ⟨HOK.out,HE.out.symm⟩⟩
    ·rw [if_neg h7] at HE;have h7b:((E:Int)==7)=false:=by rw [beq_eq_false_iff_ne];omega
     have h0b:((E:Int) != 0)=true:=by rw [bne_iff_ne];omega
     clear h7 hput;go_wp2_with fail
     go_quiet (fail)
     go_wp2_with fail;go_ret2;exact⟨_,[],E,rfl,IsInts.nil _,(HB2.out.alloc HB2.out.size _).trans ⟨rfl,rfl,rfl,Nat.le_refl _,fun _ _=>rfl⟩,Or.inr ⟨HOK.out,HE.out.symm⟩⟩
  ·obtain rfl:k=zs.length:=by omega
   rw [List.drop_length] at HD;by_cases hd:s.done=true
   ·have HE:Hid (dec n M ini zs=(s.out,0)):=zh (by rw [HD.out];simp only [dec];rw [if_pos hd]);rw [hd] at d4;go_wp2_with fail;go_ret2;exact⟨_,s.out,0,rfl,HO.out.ints,HB.out,Or.inr ⟨HOK.out,HE.out.symm⟩⟩
   ·have HE:Hid (dec n M ini zs=([],24)):=zh (by rw [HD.out];simp only [dec];rw [if_neg hd]);rw [show s.done=false by simpa using hd] at d4;go_wp2_with fail;go_ret2;exact⟨_,[],24,rfl,IsInts.nil _,HB.out,Or.inr ⟨HOK.out,HE.out.symm⟩⟩
end
section
open Go.RowKit PkM BitM
theorem ZrP (p:Nat) (hp:p<6) (W:World):(Instr.index 9 (.string ⟨#[48,49,50,51,52,53]⟩) (.int .i64 (p:Int))).run Tryz.prog W=.ok (.int .u8 ((48+p:Nat):Int)) W:=by
 rw [run_index_string W 9 _ .i64 (p:Int) Tryz.underlying9];rcases(by omega:p=0\/p=1\/p=2\/p=3\/p=4\/p=5) with rfl|rfl|rfl|rfl|rfl|rfl<;>rfl
theorem Zku (p:Nat) (hp:p<6):(UInt8.ofNat (48+p)).toNat=48+p:=by
 rcases(by omega:p=0\/p=1\/p=2\/p=3\/p=4\/p=5) with rfl|rfl|rfl|rfl|rfl|rfl<;>rfl
end
section
namespace CanM
open Go.RowKit HufM BitM
def nxtL:List Bool->List Bool×Bool
 | []=>([],true)
 | b::t=>((b != (nxtL t).2)::(nxtL t).1,(nxtL t).2 && b)
theorem Zay:∀t,(nxtL t).1.length=t.length
 | []=>rfl
 | b::t=>by simp only [nxtL,List.length_cons,Zay t]
theorem ZdR (b:Bool) (t:List Bool):num (b::t)=bn b*2^t.length+num t:=by
 have:=ZaE [b] t;rw [List.singleton_append] at this;rw [this,show num [b]=bn b from Nat.zero_add _]
theorem ZfT:∀t,num (nxtL t).1+bn (nxtL t).2*2^t.length=num t+1
 | []=>rfl
 | b::t=>by
  have ih:=ZfT t;have h1:=ZaB t;have h2:=ZaB (nxtL t).1;rw [Zay] at h2;simp only [nxtL,List.length_cons];rw [ZdR,ZdR,Zay,Nat.pow_succ];generalize num (nxtL t).1=A at *;generalize num t=T at *;generalize 2^t.length=P at *;generalize (nxtL t).2=c at *;cases b<;>cases c<;>simp [bn] at*<;> omega
def nxtC (C:List Bool) (n:Nat):List Bool:=(nxtL C).1++List.replicate (n-C.length) false
theorem Zkx {C:List Bool} {n X:Nat} (hm:C.length<=n) (hX:(num C+1)*2^(n-C.length)=X) (hlt:X<2^n):nxtC C n=field X n:=by
 have h1:=ZfT C;have hl:=Zay C;have hp:0<2^(n-C.length):=Nat.pow_pos (by decide);have hn:2^n=2^C.length*2^(n-C.length):=by rw [<-Nat.pow_add];congr 1;omega
 have h2:num C+1<2^C.length:=by
  rw [<-hX,hn] at hlt;exact Nat.lt_of_mul_lt_mul_right hlt
 have h3:num (nxtL C).1=num C+1:=by
  cases h:(nxtL C).2
  ·rw [h] at h1;simp [bn] at h1;exact h1
  ·rw [h] at h1;simp only [bn,if_true,Nat.one_mul] at h1;omega
 apply Zcr
 ·unfold nxtC;rw [List.length_append,List.length_replicate,hl,Zac];omega
 ·unfold nxtC;rw [ZbR,h3,hX,Zau,Nat.mod_eq_of_lt hlt]
theorem Zei (n:Nat):field 0 n=List.replicate n false:=by
 apply Zcr
 ·rw [Zac,List.length_replicate]
 ·rw [Zau,Nat.zero_mod];have:=ZbR [] n;rw [List.nil_append] at this;rw [this];simp [num]
def nxtX (l:List Int) (n i:Nat):Nat:=fcod l n+rank l n i
theorem ZfU {l:List Int} {n i:Nat} (h:¬ln l i=n):nxtX l n (i+1)=nxtX l n i:=by
 unfold nxtX;rw [Zbh,if_neg (show ¬(l.getD i 0).toNat=n from h)];rfl
theorem ZfV {l:List Int} {n i:Nat} (h:ln l i=n):nxtX l n (i+1)=nxtX l n i+1:=by
 unfold nxtX;rw [Zbh,if_pos (show(l.getD i 0).toNat=n from h)];omega
theorem ZfW {l:List Int} {n:Nat} (h:n<20):nxtX l (n+1) 0=2*nxtX l n l.length:=by
 unfold nxtX;rw [Zcv l h];show _+0=_;rfl
theorem ZhH {l:List Int} {n i:Nat} (hi:i<l.length) (h:ln l i=n):nxtX l n i=cod l (ln l i,i):=by
 rw [h,ZeI hi n h];rfl
def CodeAt (C:List Bool) (n X:Nat):Prop:=(C=[]/\X=0)\/(C≠[]/\C.length<=n/\(num C+1)*2^(n-C.length)=X)
theorem CodeAt.next {C:List Bool} {n X:Nat} (h:CodeAt C n X):CodeAt C (n+1) (2*X):=by
 rcases h with⟨h1,h2⟩|⟨h1,h2,h3⟩
 ·exact Or.inl ⟨h1,by rw [h2]⟩
 ·refine Or.inr ⟨h1,by omega,?_⟩;rw [<-h3,show n+1-C.length=n-C.length+1 by omega,Nat.pow_succ,<-Nat.mul_assoc,Nat.mul_comm]
theorem CodeAt.took {n X:Nat} (h1:1<=n) (hX:X<2^n):CodeAt (field X n) n (X+1):=by
 refine Or.inr ⟨?_,by rw [Zac];exact Nat.le_refl _,?_⟩
 ·intro h;have:=Zac X n;rw [h] at this;simp at this;omega
 ·rw [Zac,Zau,Nat.mod_eq_of_lt hX,Nat.sub_self,Nat.pow_zero,Nat.mul_one]
end CanM
end
section
open Go.RowKit CanM HufM BitM
theorem ZhI (q:List Bool) (k:Nat) (hk:k<q.length) (h:k<(txt q).size):(txt q)[k]=chr q[k]:=by
 have h2:(txt q).data[k]'(by simpa [txt] using hk)=chr q[k]:=by simp [txt]
 exact h2
theorem Zcq (b:Bool) (q:List Bool):txt [b]++txt q=txt (b::q):=Zal [b] q
theorem ZhJ (C:List Bool) (n:Nat) (w:World) (hC:C.length<=n) (hn:n<=20) :
  Calls Tryz.prog 177 #[.string (txt C),.int .i64 (n:Int)] w fun e w'=>e=.returned (.string (txt (nxtC C n)))/\w'=w:=by
 obtain⟨m,hm⟩:∃m,C.length=m:=⟨_,rfl⟩
 have hsz:(txt C).size=m:=by rw [Zaf,hm]
 have HM:=zh hm;rw [hm] at hC;clear hm;go_enter Tryz.func177,Tryz.ntmps177;go_wp2_with fail
 go_loopw [5,6,7] (fun vo vc vi wr=>∃t:Nat,vi=.int .i64 ((t:Int)-1)/\t<=m/\vo=.string (txt (nxtL (C.drop t)).1)/\vc=.bool (nxtL (C.drop t)).2/\wr=w) (fun _ _ vi _=>(intOf vi+1).toNat)
 case atStart=>
  have e:C.drop m=[]:=List.drop_of_length_le (by rw [HM.out];exact Nat.le_refl _);exact⟨m,rfl,Nat.le_refl _,by rw [e];rfl,by rw [e];rfl,rfl⟩
 case round=>
  obtain⟨t,rfl,ht,rfl,rfl,rfl⟩:=hrel;have hol:(nxtL (C.drop t)).1.length<=20:=by rw [Zay,List.length_drop,HM.out];omega
  by_cases ht0:0<t
  ·obtain⟨s,rfl⟩:∃s,t=s+1:=⟨t-1,by omega⟩
   have hi:(((s+1:Nat):Int)-1)=(s:Int):=by omega
   rw [hi];have hsC:s<C.length:=by rw [HM.out];omega
   have hsm:(s:Int)<(m:Int):=by omega
   have hdrop:C.drop s=C[s]::C.drop (s+1):=List.drop_eq_getElem_cons hsC;obtain⟨b,hb⟩:∃b,C[s]=b:=⟨_,rfl⟩
   have hidx:∀h:s<(txt C).size,(((txt C)[s]'h).toNat:Int)=((chr b).toNat:Int):=fun h=>by rw [ZhI C s hsC h,hb]
   rw [hb] at hdrop;have HN:Hid ((nxtL (C.drop s)).1=(b != (nxtL (C.drop (s+1))).2)::(nxtL (C.drop (s+1))).1/\(nxtL (C.drop s)).2=((nxtL (C.drop (s+1))).2 && b)):=zh (by rw [hdrop];exact⟨rfl,rfl⟩);obtain⟨o,ho⟩:∃o,(nxtL (C.drop (s+1))).1=o:=⟨_,rfl⟩
   obtain⟨cc,hcc⟩:∃cc,(nxtL (C.drop (s+1))).2=cc:=⟨_,rfl⟩
   rw [ho,hcc] at HN;rw [ho] at hol;rw [ho,hcc];have hos:(txt o).size<=20:=by rw [Zaf];exact hol
   clear hdrop hb ho hcc hi hol hsC;cases b
   ·have hidx0:∀h:s<(txt C).size,(((txt C)[s]'h).toNat:Int)=48:=hidx;clear hidx;cases cc
    ·go_wp2_with fail;go_roundw
     case rel=>exact⟨s,by go_num,by omega,by rw [HN.out.1];exact congrArg Value.string (Zcq false o),by rw [HN.out.2];rfl,by first|rfl|trivial⟩
     case measure=>first|(simp [intOf];done)|(simp [intOf];omega)
    ·go_wp2_with fail;go_roundw
     case rel=>exact⟨s,by go_num,by omega,by rw [HN.out.1];exact congrArg Value.string (Zcq true o),by rw [HN.out.2];rfl,by first|rfl|trivial⟩
     case measure=>first|(simp [intOf];done)|(simp [intOf];omega)
   ·have hidx0:∀h:s<(txt C).size,(((txt C)[s]'h).toNat:Int)=49:=hidx;clear hidx;cases cc
    ·go_wp2_with fail;go_roundw
     case rel=>exact⟨s,by go_num,by omega,by rw [HN.out.1];exact congrArg Value.string (Zcq true o),by rw [HN.out.2];rfl,by first|rfl|trivial⟩
     case measure=>first|(simp [intOf];done)|(simp [intOf];omega)
    ·go_wp2_with fail;go_roundw
     case rel=>exact⟨s,by go_num,by omega,by rw [HN.out.1];exact congrArg Value.string (Zcq false o),by rw [HN.out.2];rfl,by first|rfl|trivial⟩
     case measure=>first|(simp [intOf];done)|(simp [intOf];omega)
  ·obtain rfl:t=0:=by omega
   rw [List.drop_zero] at hol ⊢;obtain⟨o,ho⟩:∃o,(nxtL C).1=o:=⟨_,rfl⟩
   obtain⟨cc,hcc⟩:∃cc,(nxtL C).2=cc:=⟨_,rfl⟩
   have HOL:Hid (o.length=m):=zh (by rw [<-ho,Zay,HM.out]);have HRES:Hid (nxtC C n=o++List.replicate (n-m) false):=zh (by unfold nxtC;rw [ho,HM.out]);rw [ho,hcc];clear ho hcc hol;go_wp2_with fail;obtain⟨wz,hwz⟩:∃wz:World,wz=wr:=⟨_,rfl⟩
   subst hwz
   go_loopw [5] (fun vo wr=>∃e:Nat,m+e<=n/\vo=.string (txt (o++List.replicate e false))/\wr=wz) (fun vo _=>n-(match vo with|.string s=>s.size|_=>0))
   case atStart=>exact⟨0,by omega,by simp,rfl⟩
   case round=>
    obtain⟨e,he,rfl,rfl⟩:=hrel;have hs1:(txt (o++List.replicate e false)).size=m+e:=by rw [Zaf,List.length_append,List.length_replicate,HOL.out]
    have HT:Hid (txt (o++List.replicate e false)++txt [false]=txt (o++List.replicate (e+1) false)):=zh (by rw [Zal,List.append_assoc,List.replicate_succ']);have hs2:Hid ((txt (o++List.replicate (e+1) false)).size=m+(e+1)):=zh (by rw [Zaf,List.length_append,List.length_replicate,HOL.out]);by_cases hen:m+e<n
    ·have heni:((m+e:Nat):Int)<(n:Int):=by omega
     generalize txt (o++List.replicate e false)=T at *;go_wp2_with fail;go_roundw
     case rel=>exact⟨e+1,by omega,congrArg Value.string HT.out,by first|rfl|trivial⟩
     case measure=>
      have h2:=hs2.out;rw [<-HT.out] at h2;have h3:(T++(⟨#[48]⟩:ByteArray)).size=m+(e+1):=h2;simp only [h3,hs1];omega
    ·have heni:¬((m+e:Nat):Int)<(n:Int):=by omega
     have HE:Hid (nxtC C n=o++List.replicate e false):=zh (by rw [HRES.out,show n-m=e by omega]);go_wp2_with fail;go_ret;rw [HE.out];exact⟨rfl,rfl⟩
end
section
open Go.RowKit
def RowS (w:World) (g N:Nat) (F:Nat->ByteArray):Prop:=w.heap[g]?=some (.cells (cellsF N (fun i=>.string (F i))) 9 (0,0))
theorem RowS.lt {w:World} {g N:Nat} {F:Nat->ByteArray} (h:RowS w g N F):g<w.heap.size:=(Array.getElem?_eq_some_iff.1 h).1
theorem RowS.below {w w':World} {g N:Nat} {F:Nat->ByteArray} (h:RowS w g N F) (hb:Below w.heap.size w w'):RowS w' g N F:=(hb.block g h.lt).trans h
theorem RowS.other {w w':World} {g N:Nat} {F:Nat->ByteArray} (h:RowS w g N F) {S:Nat->Prop} (ht:Touch S w w') (hS:¬S g):RowS w' g N F:=(ht.block g h.lt hS).trans h
theorem RowS.drewN {w:World} {g N:Nat} {F:Nat->ByteArray} (h:RowS w g N F) (n:Nat):RowS (w.drewN n) g N F:=h
theorem Zb5 {M:Nat} {F G:Nat->Value} (h:∀i,i<M->F i=G i):cellsF M F=cellsF M G:=by
 unfold cellsF;congr 1;exact List.map_congr_left fun i hi=>h i (List.mem_range.1 hi)
theorem RowS.ext {w:World} {g N:Nat} {F G:Nat->ByteArray} (h:RowS w g N F) (he:∀i,i<N->F i=G i):RowS w g N G:=by
 unfold RowS at h ⊢;rw [h,Zb5 (G:=fun i=>.string (G i)) (fun i hi=>by rw [he i hi])]
theorem RowS.cell {w:World} {g N:Nat} {F:Nat->ByteArray} (h:RowS w g N F) {i:Nat} (hi:i<N):w.cell? ⟨g,i,none⟩=some (.string (F i))/\w.frozen? ⟨g,i,none⟩=false /\
  ∀x:ByteArray,RowS (w.setCell ⟨g,i,none⟩ (.string x)) g N (fun k=>if k=i then x else F k):=by
 refine⟨(cell_of_row _ _ _ _ _ _ h).trans (ZaY N _ hi),frozen_of_row _ _ _ _ _ h,fun x=>?_⟩;have:=heap_setCell_same w g i _ _ (.string x) h;rw [ZbQ] at this;unfold RowS;rw [this,Zb5 (G:=fun k=>.string (if k=i then x else F k))];intro j _;unfold upd;split<;>rfl
theorem RowS.made (w:World) (n:Nat):RowS (w.alloc (.cells (madeCells #[Value.string ⟨#[]⟩] n) 9)) w.heap.size n (fun _=>⟨#[]⟩):=by
 have e:madeCells #[Value.string ⟨#[]⟩] n=cellsF n (fun _=>.string ⟨#[]⟩):=by
  apply Array.toList_inj.1;rw [toList_madeCells_one];unfold cellsF;show List.replicate n _=(List.range n).map fun _=>_
  rw [List.map_const',List.length_range]
 unfold RowS;rw [<-e];exact heap_alloc_new _ _
theorem ZfX (n:Nat) (hn:n<=1000000) (W:World):(Instr.makeSlice 160 (.int .i64 (n:Int)) (.int .i64 (n:Int))).run Tryz.prog W=.ok (.slice (some ⟨W.heap.size,0,none⟩) n n) (W.alloc (.cells (madeCells #[Value.string ⟨#[]⟩] n) 9)):=by
 obtain⟨i0,hi,hz0,hz1,hz2⟩:=info_parts (show(Tryz.prog.info? 9).map (fun i=>(i.zero,i.size,i.bytes))=some (some (.string ⟨#[]⟩),1,16) by kernel_rfl);have:=run_make (P:=Tryz.prog) W 160 9 i0 (.string ⟨#[]⟩) Tryz.underlying160 hi hz0 .i64 .i64 (n:Int) (n:Int) (by omega) (by omega) (by rw [hz2];omega) (by omega);rw [hz1] at this;simpa [Value.cells] using this
end
section
open Go.RowKit CanM HufM BitM
theorem Zs7 {p q:List Bool} (h:txt p=txt q):p=q:=by
 have h1:(p.map chr).toArray=(q.map chr).toArray:=congrArg ByteArray.data h;have h2:p.map chr=q.map chr:=by simpa using congrArg Array.toList h1
 exact(List.map_inj_right (fun a b hab=>by cases a<;>cases b<;>first|rfl|exact absurd hab (by decide))).1 h2
theorem Zru (p q:List Bool) (r:Bool) (h:r=true↔p=q):((txt p).toList==(txt q).toList)=r:=ZbL _ _ r (h.trans ⟨fun e=>by rw [e],Zs7⟩)
theorem ZcM (q:List Bool) (r:Bool) (h:r=true↔q=[]):(txt q).toList.isEmpty=r:=by
 rw [Bool.eq_iff_iff,h,ByteArray.toList_eq,List.isEmpty_iff];constructor
 ·intro e;cases q with
  | nil=>rfl
  | cons a t=>cases e
 ·rintro rfl;rfl
def CodesAt (zs:List Int) (n i:Nat) (F:Nat->ByteArray):Prop:=∀j,j<zs.length->(ln zs j<n\/(ln zs j=n/\j<i))->F j=txt (code zs j)
theorem CodesAt.skip {zs:List Int} {n i:Nat} {F:Nat->ByteArray} (h:CodesAt zs n i F) (hn:¬ln zs i=n):CodesAt zs n (i+1) F:=fun j hj hc=>h j hj (by
 rcases hc with h1|⟨h1,h2⟩
 ·exact Or.inl h1
 ·refine Or.inr ⟨h1,?_⟩;rcases Nat.lt_succ_iff_lt_or_eq.1 h2 with h3|h3
  ·exact h3
  ·exact absurd (h3▸h1) hn)
theorem CodesAt.take {zs:List Int} {n i:Nat} {F:Nat->ByteArray} (h:CodesAt zs n i F) (x:ByteArray) (hx:x=txt (code zs i)):CodesAt zs n (i+1) (fun k=>if k=i then x else F k):=fun j hj hc=>by
 show(if j=i then x else F j)=_;by_cases e:j=i
 ·rw [if_pos e,hx,e]
 ·rw [if_neg e];exact h j hj (by omega)
theorem CodesAt.next {zs:List Int} {n:Nat} {F:Nat->ByteArray} (h:CodesAt zs n zs.length F):CodesAt zs (n+1) 0 F:=fun j hj hc=>h j hj (by omega)
theorem ZfY (v:Value) (zs:List Int) (w:World) (hv:IsInts w v zs) (h258:zs.length<=258) (hwh:WholeP zs) :
  Calls Tryz.prog 121 #[v] w fun e w'=>e=.returned (.slice (some ⟨w.heap.size,0,none⟩) zs.length zs.length)/\RowS w' w.heap.size zs.length (fun j=>txt (code zs j))/\Below w.heap.size w w':=by
 have HV:=zh hv;have HW:=zh hwh;obtain⟨a,cap,rfl,_⟩:=hv;obtain⟨N,hN⟩:∃N,zs.length=N:=⟨_,rfl⟩
 have HN:=zh hN;rw [hN] at h258 ⊢;have hmk:=ZfX N (by omega) w;have HR0:=zh (RowS.made w N);have HB0:=zh ((Below.refl w.heap.size w).alloc (Nat.le_refl _) (.cells (madeCells #[Value.string ⟨#[]⟩] N) 9));generalize hw1:w.alloc (.cells (madeCells #[Value.string ⟨#[]⟩] N) 9)=w1 at *;clear hw1 hwh hN;go_enter Tryz.func121,Tryz.ntmps121;go_wp2_with fail;generalize hg:w.heap.size=g at *;have HG:=zh hg;clear hg
 go_loopw [4,5] (fun vc vn wr=>∃(n:Nat) (C:List Bool) (F:Nat->ByteArray),vn=.int .i64 (n:Int)/\1<=n/\n<=21/\vc=.string (txt C)/\C.length<=20/\(n<=20->CodeAt C n (nxtX zs n 0))/\CodesAt zs n 0 F/\RowS wr g N F/\Below g w wr) (fun _ vn _=>21-(intOf vn).toNat)
 case atStart=>exact⟨1,[],_,rfl,by omega,by omega,rfl,by simp,fun _=>Or.inl ⟨rfl,by
  unfold nxtX;rw [Zcv zs (by decide:0<20),Ze7,Zdr (fun z hz=>(HW.out.1 z hz).1)];rfl⟩,fun j hj hc=>by have:=(Zc8 (fun z hz=>HW.out.1 z hz) hj).1;omega,HR0.out,HB0.out⟩
 case round=>
  clear HR0 HB0 hmk;obtain⟨n,C,F,rfl,hn1,hn21,rfl,hCl,hCA,hCs,hR,hB⟩:=hrel;have HCA:=zh hCA;have HCS:=zh hCs;have HR:=zh hR;have HB:=zh hB;have HCL:=zh hCl;clear hCA hCs hR hB hCl;by_cases hn20:n<=20
  ·have hni:(n:Int)<=20:=by omega
   have HCA0:=zh (HCA.out hn20);clear HCA;go_wp2_with fail
   try rw [HN.out]
   go_loopw [4,17] (fun vc vi wr2=>∃(i:Nat) (C:List Bool) (F:Nat->ByteArray),vi=.int .i64 (i:Int)/\i<=N/\vc=.string (txt C)/\C.length<=n/\CodeAt C n (nxtX zs n i)/\CodesAt zs n i F/\RowS wr2 g N F/\Below g w wr2) (fun _ vi _=>N-(intOf vi).toNat)
   case atStart=>exact⟨0,C,F,rfl,by omega,rfl,HCA0.out.elim (fun h=>by rw [h.1];exact Nat.zero_le _) (fun h=>h.2.1),HCA0.out,HCS.out,HR.out,HB.out⟩
   case round=>
    clear HCA0 HCS HR HB HCL;obtain⟨i,C,F,rfl,hi,rfl,hCl,hCA,hCs,hR,hB⟩:=hrel;have HCA:=zh hCA;have HCS:=zh hCs;have HR:=zh hR;have HB:=zh hB;clear hCA hCs hR hB;by_cases hlk:i<N
    ·have hki:(i:Int)<(N:Int):=by omega
     have hlz:i<zs.length:=by rw [HN.out];exact hlk
     have HV2:=zh (HV.out.below (HG.out▸HB.out));obtain⟨b1,o1,k1,he1,c1⟩:=HV2.out.cell hlz;simp only [Value.slice.injEq] at he1;obtain⟨rfl,_,rfl⟩:=he1;obtain⟨x,hx⟩:∃x,zs.getD i 0=x:=⟨_,rfl⟩
     have hxr:=HW.out.1 x (by rw [<-hx];exact getD_mem hlz);have hln:Hid (ln zs i=x.toNat):=zh (by unfold ln;rw [hx]);rw [hx] at c1;clear hx;by_cases hxn:x=(n:Int)
     ·subst hxn;have hlnn:Hid (ln zs i=n):=zh (by rw [hln.out];omega);have hXc:=ZhH hlz hlnn.out;have hcl:=Zh4 (x:=(ln zs i,i)) (Zcx hlz) HW.out.2 (by show ln zs i<=20;rw [hlnn.out];exact hn20)
      have hcode:code zs i=field (nxtX zs n i) n:=by
       unfold code;rw [<-hXc,hlnn.out]
      rw [<-hXc] at hcl
      have hcl:nxtX zs n i<2^n:=by
       have h2:nxtX zs n i<2^ln zs i:=hcl;rw [hlnn.out] at h2;exact h2
      have HNX:Hid (CodeAt (field (nxtX zs n i) n) n (nxtX zs n (i+1))):=zh (by
       rw [ZfV hlnn.out];exact CodeAt.took hn1 hcl)
      have HCODE:=zh hcode;have HCLT:=zh hcl;obtain⟨d0,d1,d2⟩:=HR.out.cell (i:=i) hlk;have HD2:=zh (d2 (txt (code zs i)));have HB2:=zh (HB.out.setCell (p:=⟨g,i,none⟩) (Nat.le_refl _) (.string (txt (code zs i))));clear hXc hcl hcode d2;by_cases hCe:C=[]
      ·subst hCe
       have hz:nxtX zs n i=0:=by
        rcases HCA.out with h|h
        ·exact h.2
        ·exact absurd rfl h.1
       have HFZ:Hid (code zs i=List.replicate n false):=zh (by rw [HCODE.out,hz,Zei]);have hte:=ZcM [] true ⟨fun _=>rfl,fun _=>rfl⟩;clear hz;go_wp2_with fail;obtain⟨wz,hwz⟩:∃wz:World,wz=wr:=⟨_,rfl⟩
       subst hwz
       go_loopw [4,28] (fun vc vk wr3=>∃k:Nat,vk=.int .i64 (k:Int)/\k<=n/\vc=.string (txt (List.replicate k false))/\wr3=wz) (fun _ vk _=>n-(intOf vk).toNat)
       case atStart=>exact⟨0,rfl,by omega,rfl,rfl⟩
       case round=>
        obtain⟨k,rfl,hk,rfl,rfl⟩:=hrel;by_cases hkn:k<n
        ·have hkni:(k:Int)<(n:Int):=by omega
         have hs1:(txt (List.replicate k false)).size<=20:=by rw [Zaf,List.length_replicate];omega
         have HT:Hid (txt (List.replicate k false)++txt [false]=txt (List.replicate (k+1) false)):=zh (by rw [Zal,List.replicate_succ']);generalize txt (List.replicate k false)=T at *;go_wp2_with fail;go_roundw
         case rel=>exact⟨k+1,by go_num,by omega,congrArg Value.string HT.out,by first|rfl|trivial⟩
         case measure=>simp [intOf];omega
        ·obtain rfl:k=n:=by omega
         rw [<-HFZ.out];go_wp2_with fail;go_roundw
         case rel=>exact⟨i+1,code zs i,_,by go_num,by omega,rfl,by rw [Zat,hlnn.out];exact Nat.le_refl _,by rw [HCODE.out];exact HNX.out,HCS.out.take _ rfl,HD2.out,HB2.out⟩
         case measure=>simp [intOf];omega
      ·have hte:=ZcM C false ⟨fun h=>(by cases h),fun h=>absurd h hCe⟩
       have HNE:Hid (nxtC C n=code zs i):=zh (by
        rcases HCA.out with h|h
        ·exact absurd h.1 hCe
        ·rw [HCODE.out];exact Zkx h.2.1 h.2.2 HCLT.out)
       clear hCe;go_wp2_with fail;refine(ZhJ C n _ hCl hn20).mono ?_;rintro e w3 ⟨rfl,rfl⟩;rw [HNE.out];go_wp2_with fail;go_roundw
       case rel=>exact⟨i+1,code zs i,_,by go_num,by omega,rfl,by rw [Zat,hlnn.out];exact Nat.le_refl _,by rw [HCODE.out];exact HNX.out,HCS.out.take _ rfl,HD2.out,HB2.out⟩
       case measure=>simp [intOf];omega
     ·have hxn2:(x==(n:Int))=false:=by rw [beq_eq_false_iff_ne];exact hxn
      have hlnn:Hid (¬ln zs i=n):=zh (by rw [hln.out];omega);go_wp2_with fail;go_roundw
      case rel=>exact⟨i+1,C,F,by go_num,by omega,rfl,hCl,by rw [ZfU hlnn.out];exact HCA.out,HCS.out.skip hlnn.out,HR.out,HB.out⟩
      case measure=>simp [intOf];omega
    ·obtain rfl:i=N:=by omega
     go_wp2_with fail;go_roundw
     case rel=>exact⟨n+1,C,F,by go_num,by omega,by omega,rfl,by omega,fun h=>by rw [ZfW (by omega),HN.out];exact HCA.out.next,CodesAt.next (by rw [HN.out];exact HCS.out),HR.out,HB.out⟩
     case measure=>simp [intOf];omega
  ·obtain rfl:n=21:=by omega
   go_wp2_with fail;go_ret;rw [HG.out];exact⟨rfl,HR.out.ext (fun j hj=>HCS.out j (by rw [HN.out];exact hj) (Or.inl (by have:=(Zc8 (fun z hz=>HW.out.1 z hz) (show j<zs.length by rw [HN.out];exact hj)).2;omega))),HB.out⟩
theorem ZgS {zs:List Int} (hwh:WholeP zs) {i:Nat} (hi:i<zs.length) (q:List Bool):CanM.Begins zs (ln zs i,i) q↔(code zs i).length<=q.length/\q.take (code zs i).length=code zs i:=by
 rw [Zat];unfold CanM.Begins;refine and_congr_right fun hl=>?_
 have hc:cod zs (ln zs i,i)<2^ln zs i:=Zh4 (x:=(ln zs i,i)) (Zcx hi) hwh.2 (Zc8 (fun z hz=>hwh.1 z hz) hi).2;have hlen:(q.take (ln zs i)).length=ln zs i:=by rw [List.length_take];exact Nat.min_eq_left hl
 constructor
 ·intro h;have h2:=ZeC (q.take (ln zs i));rw [hlen,h] at h2;exact h2.symm
 ·intro h;show num (q.take (ln zs i))=_;rw [h];unfold code;rw [Zau,Nat.mod_eq_of_lt hc]
theorem ZgT (q C:List Bool) (r:Bool) (w:World) (hq:q.length<=1099511627776) (hr:r=true↔C.length<=q.length/\q.take C.length=C) :
  Calls Tryz.prog 181 #[.string (txt q),.string (txt C)] w fun e w'=>e=.returned (.bool r)/\w'=w:=by
 have hsq:=Zaf q;have hsc:=Zaf C;by_cases hl:C.length<=q.length
 ·have hb:=Zru (q.take C.length) C r (by rw [hr];exact⟨fun h=>h.2,fun h=>⟨hl,h⟩⟩);rw [<-ZcY q C.length hl,<-hsc] at hb;have hli:((txt C).size:Int)<=(txt q).size:=by omega
  have hqb:(txt q).size<=1099511627776:=by omega
  clear hr hl hsq hsc;generalize txt q=S at *;generalize txt C=T at *;go_enter Tryz.func181,Tryz.ntmps181;go_wp2_with fail;go_ret;exact⟨rfl,rfl⟩
 ·obtain rfl:r=false:=by rw [Bool.eq_false_iff,Ne,hr];exact fun h=>hl h.1
  have hli:¬((txt C).size:Int)<=(txt q).size:=by omega
  have hqb:(txt q).size<=1099511627776:=by omega
  clear hr hl hsq hsc;generalize txt q=S at *;generalize txt C=T at *;go_enter Tryz.func181,Tryz.ntmps181;go_wp2_with fail;go_ret;exact⟨rfl,rfl⟩
def GetR (zs:List Int) (q:List Bool) (x:Int):Prop:=(∃i,i<zs.length/\CanM.Begins zs (ln zs i,i) q/\x=(i:Int))\/((∀i,i<zs.length->¬CanM.Begins zs (ln zs i,i) q)/\x=-1)
theorem Zl0 (g N:Nat) (zs:List Int) (q:List Bool) (w:World) (hN:zs.length=N) (h258:N<=258) (hwh:WholeP zs) (hR:RowS w g N (fun j=>txt (code zs j))) (hq:q.length<=1099511627776) :
  Calls Tryz.prog 124 #[.slice (some ⟨g,0,none⟩) N N,.string (txt q)] w fun e w'=>∃x:Int,e=.returned (.int .i64 x)/\GetR zs q x/\w'=w:=by
 have HN:=zh hN;have HW:=zh hwh;have HR:=zh hR;clear hN hwh hR;have hqs:(txt q).size<=1099511627776:=by rw [Zaf];exact hq
 go_enter Tryz.func124,Tryz.ntmps124;go_wp2_with fail
 go_loopw [9] (fun vi wr=>∃i:Nat,vi=.int .i64 (i:Int)/\i<=N/\(∀j,j<i->¬CanM.Begins zs (ln zs j,j) q)/\wr=w) (fun vi _=>N-(intOf vi).toNat)
 case atStart=>exact⟨0,rfl,by omega,fun j hj=>by omega,rfl⟩
 case round=>
  obtain⟨i,rfl,hi,hno,rfl⟩:=hrel;have HNO:=zh hno;clear hno;by_cases hlk:i<N
  ·have hki:(i:Int)<(N:Int):=by omega
   have hlz:i<zs.length:=by rw [HN.out];exact hlk
   obtain⟨d0,_,_⟩:=HR.out.cell (i:=i) hlk;have hcl:(code zs i).length<=20:=by rw [Zat];exact(Zc8 (fun z hz=>HW.out.1 z hz) hlz).2
   obtain⟨C,hC⟩:∃C,code zs i=C:=⟨_,rfl⟩
   rw [hC] at d0;have HC:=zh hC;have hcs:(txt C).size<=20:=by rw [Zaf,<-hC];exact hcl
   clear hC hcl;by_cases hb:CanM.Begins zs (ln zs i,i) q
   ·have HB:=zh hb;have HBG:=zh (ZgT q C true wr hq ⟨fun _=>by rw [<-HC.out];exact(ZgS HW.out hlz q).1 hb,fun _=>rfl⟩);clear hb;go_wp2_with fail;refine HBG.out.mono ?_;rintro e w2 ⟨rfl,rfl⟩;go_wp2_with fail;go_ret;exact⟨(i:Int),rfl,Or.inl ⟨i,hlz,HB.out,rfl⟩,rfl⟩
   ·have HNX:Hid (∀j,j<i+1->¬CanM.Begins zs (ln zs j,j) q):=zh (fun j hj=>by
     rcases Nat.lt_succ_iff_lt_or_eq.1 hj with h|h
     ·exact HNO.out j h
     ·rw [h];exact hb)
    have HBG:=zh (ZgT q C false wr hq ⟨fun h=>(by cases h),fun h=>absurd ((ZgS HW.out hlz q).2 (by rw [HC.out];exact h)) hb⟩);clear hb;go_wp2_with fail;refine HBG.out.mono ?_;rintro e w2 ⟨rfl,rfl⟩;go_wp2_with fail;go_roundw
    case rel=>exact⟨i+1,by go_num,by omega,HNX.out,by first|rfl|trivial⟩
    case measure=>simp [intOf];omega
  ·obtain rfl:i=N:=by omega
   go_wp2_with fail;go_ret;exact⟨-1,rfl,Or.inr ⟨fun j hj=>HNO.out j (by rw [<-HN.out];exact hj),rfl⟩,rfl⟩
end
section
open Go.RowKit HufM
abbrev T3:=Tr×List Int
variable {X : Nat}
def tv (t:T3) (u:Value):Value:=.agg #[.int .i64 (t.1.1:Int),.int .i64 (t.1.2:Int),u]
end
section
open Go.RowKit BitM HufM CanM CodM TabM FreqM
def rowV (N b:Nat):Value:=.slice (some ⟨b,0,none⟩) N N
def SCodes (w:World) (base N:Nat) (v:Value) (gs:List (List Int)):Prop:=
 ∃bs:List Nat,w.ownsRow base 160 1 v bs.length (bs.map (rowV N))/\bs.length=gs.length/\base<=w.heap.size/\∀i,i<gs.length->RowS w (bs.getD i 0) N (fun j=>txt (code (gs.getD i []) j))/\base<=bs.getD i 0/\v.ownBlock≠some (bs.getD i 0)
theorem SCodes.nil (w:World) (base N:Nat) (h:base<=w.heap.size):SCodes w base N (.slice none 0 0) []:=⟨[],World.ownsRow_nil _ _ _ _,rfl,h,fun i hi=>absurd hi (Nat.not_lt_zero _)⟩
theorem SCodes.below {w w':World} {base N:Nat} {v:Value} {gs:List (List Int)} (h:SCodes w base N v gs) (hb:Below w.heap.size w w'):SCodes w' base N v gs:=by
 obtain⟨bs,h1,h2,h3,h4⟩:=h;exact⟨bs,Zah h1 (fun k hk=>hb.block k (World.ownsRow.lt h1 k hk).2),h2,Nat.le_trans h3 hb.size,fun i hi=>⟨(h4 i hi).1.below hb,(h4 i hi).2⟩⟩
theorem SCodes.slice {w:World} {base N:Nat} {v:Value} {gs:List (List Int)} (h:SCodes w base N v gs):∃a cap,v=.slice a gs.length cap:=by
 obtain⟨bs,h1,h2,_⟩:=h;obtain⟨a,c,e⟩:=Zax h1;exact⟨a,c,by rw [e,h2]⟩
theorem SCodes.at_ {w:World} {base N:Nat} {v:Value} {gs:List (List Int)} (h:SCodes w base N v gs) {i:Nat} (hi:i<gs.length):∃g cap b,v=.slice (some ⟨g,0,none⟩) gs.length cap/\w.cell? ⟨g,i,none⟩=some (.slice (some ⟨b,0,none⟩) N N)/\RowS w b N (fun j=>txt (code (gs.getD i []) j)):=by
 obtain⟨bs,h1,h2,h3,h4⟩:=h;have hib:i<bs.length:=by omega
 rcases h1.2 with⟨rfl,h0⟩|⟨g,cap,cur,rfl,_,hg,_⟩
 ·omega
 ·have h5:=World.ownsRow.cells h1 (g:=g) rfl i (rowV N (bs.getD i 0)) (by rw [List.getElem?_map,List.getElem?_eq_getElem hib,List.getD_eq_getElem?_getD,List.getElem?_eq_getElem hib];rfl);rw [Addr.add_lit,Nat.zero_add] at h5;exact⟨g,cap,bs.getD i 0,by rw [h2],h5,(h4 i hi).1⟩
theorem ZkC:(Tryz.prog.info? 160).map (fun i=>(i.zero,i.size,i.bytes))=some (some (.slice none 0 0),1,24):=by kernel_rfl
theorem SCodes.old {w:World} {base N:Nat} {v:Value} {gs:List (List Int)} (h:SCodes w base N v gs):∀k,v.ownBlock=some k->k<w.heap.size:=fun k hk=>by
 obtain⟨bs,h1,_⟩:=h;exact(World.ownsRow.lt h1 k hk).2
end
section
open Go.RowKit DelM BitM
theorem ZbM (a:Option Addr) (m c:Nat) (x y:Int):(#[Value.slice a m c,.int .i64 x,.int .i64 y]:Array Value).all (·.oneCell')=true:=by simp [Value.oneCell']
def ReadP (q:List Bool) (N:Nat) (ls:List Int) (k:Nat) (err:Int):Prop:=
 match rd q N with
 | .short=>ls=[]/\k=0/\err=3
 | .table=>ls=[]/\k=0/\err=22
 | .ok l n=>ls=l/\k=n/\err=0
theorem ReadP.short {q:List Bool} {N:Nat} (h:rd q N=.short):ReadP q N [] 0 3:=by unfold ReadP;rw [h];exact⟨rfl,rfl,rfl⟩
theorem ReadP.table {q:List Bool} {N:Nat} (h:rd q N=.table):ReadP q N [] 0 22:=by unfold ReadP;rw [h];exact⟨rfl,rfl,rfl⟩
theorem ReadP.ok {q:List Bool} {N:Nat} {l:List Int} {n:Nat} (h:rd q N=.ok l n):ReadP q N l n 0:=by unfold ReadP;rw [h];exact⟨rfl,rfl,rfl⟩
def RdInv (w wr:World) (q:List Bool) (N p:Nat) (now:Int) (u:Value) (ls:List Int):Prop:=
 rd q N=(run (q.drop p) (N-ls.length) now).add ls p/\OwnI wr (w.heap.size+1) u ls/\Below w.heap.size w wr/\wr.heap[w.heap.size]?=some (.cells #[.slice none 0 0,.int .i64 0,.int .i64 0] 238 (0,0))
theorem ZkL (q:List Bool) (N:Nat) (w:World) (hq:q.length<=1000000) (hN:N<=258) :
  Calls Tryz.prog 179 #[.string (txt q),.int .i64 (N:Int)] w fun e w'=>∃(u:Value) (ls:List Int) (k:Nat) (err:Int),e=.returned (.agg #[u,.int .i64 (k:Int),.int .i64 err])/\IsInts w' u ls/\Below w.heap.size w w'/\ReadP q N ls k err/\(∀j,u.ownBlock=some j->w.heap.size<=j/\j<w'.heap.size):=by
 have hts:=Zaf q;have hg0:(w.alloc (.cells #[.slice none 0 0,.int .i64 0,.int .i64 0] 238)).heap[w.heap.size]?=some (.cells #[.slice none 0 0,.int .i64 0,.int .i64 0] 238 (0,0)):=heap_alloc_new _ _;have hi:(Tryz.prog.info? 238).map (·.size)=some 3:=by kernel_rfl
 have HTS:=zh hts;have hu:=Tryz.underlying238;by_cases hlen:q.length<5
 ·have hz:((txt q).size:Int)<5:=by omega
  have HN:=zh (ReadP.short (q:=q) (N:=N) (by unfold rd;rw [if_pos hlen]));clear hts;generalize txt q=T at *;go_enter Tryz.func179,Tryz.ntmps179;go_wp2_with (refine wpList_store_row rfl 238 _ _ rfl w.heap.size #[.slice none 0 0,.int .i64 0,.int .i64 3] rfl rfl 238 _ hg0 hi rfl (ZbM _ _ _ _ _) ?_);refine bodyPost_ret (v:=.agg #[.slice none 0 0,.int .i64 0,.int .i64 3]) (results_cell_row rfl _ _ w.heap.size 238 _ (0,0) _ rfl (setRow_heap _ _ _ _ _ _ hg0) hu rfl hi) rfl ⟨.slice none 0 0,[],0,3,rfl,IsInts.nil _,Zae ((Below.refl _ _).alloc (Nat.le_refl _) _) (Nat.le_refl _) _,HN.out,fun j hj=>absurd hj (by simp [Value.ownBlock])⟩
 ·have h5:5<=q.length:=by omega
  have hz:¬((txt q).size:Int)<5:=by omega
  have htk:Hid ((txt q).extract 0 5=txt (q.take 5)):=zh (ZcY q 5 h5);have hzb:(txt q).size<=1000000:=by omega
  have h5z:(5:Int)<=((txt q).size:Int):=by omega
  have hnl:num (q.take 5)<32:=by
   have:=ZaB (q.take 5);rw [List.length_take,Nat.min_eq_left h5] at this;exact this
  have HNUM:=zh (fun W=>Za9 (q.take 5) W (by rw [List.length_take];omega));have HRD:Hid (rd q N=if (num (q.take 5):Int)<1\/20<(num (q.take 5):Int) then .table else(run (q.drop 5) N (num (q.take 5))).add [] 5):=zh (by unfold rd;rw [if_neg hlen]);obtain⟨v,hv⟩:∃v,num (q.take 5)=v:=⟨_,rfl⟩
  rw [hv] at hnl HNUM HRD;clear hv;have HTT:=zh (Zjb q);have hzq:((txt q).size:Int)<=1000000:=by omega
  have HB0:Hid (Below w.heap.size w (w.alloc (.cells #[.slice none 0 0,.int .i64 0,.int .i64 0] 238))):=zh ((Below.refl _ _).alloc (Nat.le_refl _) _);clear hts;by_cases hv1:(v:Int)<1
  ·have HN:=zh (ReadP.table (q:=q) (N:=N) (by rw [HRD.out,if_pos (Or.inl hv1)]));go_enter Tryz.func179,Tryz.ntmps179;go_wp2_with fail;rw [htk.out];refine(HNUM.out _).mono ?_;rintro e w' ⟨rfl,rfl⟩;go_wp2_with (refine wpList_store_row rfl 238 _ _ rfl w.heap.size #[.slice none 0 0,.int .i64 0,.int .i64 22] rfl rfl 238 _ hg0 hi rfl (ZbM _ _ _ _ _) ?_);refine bodyPost_ret (v:=.agg #[.slice none 0 0,.int .i64 0,.int .i64 22]) (results_cell_row rfl _ _ w.heap.size 238 _ (0,0) _ rfl (setRow_heap _ _ _ _ _ _ hg0) hu rfl hi) rfl ⟨.slice none 0 0,[],0,22,rfl,IsInts.nil _,Zae ((Below.refl _ _).alloc (Nat.le_refl _) _) (Nat.le_refl _) _,HN.out,fun j hj=>absurd hj (by simp [Value.ownBlock])⟩
  by_cases hv2:(20:Int)<(v:Int)
  ·have HN:=zh (ReadP.table (q:=q) (N:=N) (by rw [HRD.out,if_pos (Or.inr hv2)]));go_enter Tryz.func179,Tryz.ntmps179;go_wp2_with fail;rw [htk.out];refine(HNUM.out _).mono ?_;rintro e w' ⟨rfl,rfl⟩;go_wp2_with (refine wpList_store_row rfl 238 _ _ rfl w.heap.size #[.slice none 0 0,.int .i64 0,.int .i64 22] rfl rfl 238 _ hg0 hi rfl (ZbM _ _ _ _ _) ?_);refine bodyPost_ret (v:=.agg #[.slice none 0 0,.int .i64 0,.int .i64 22]) (results_cell_row rfl _ _ w.heap.size 238 _ (0,0) _ rfl (setRow_heap _ _ _ _ _ _ hg0) hu rfl hi) rfl ⟨.slice none 0 0,[],0,22,rfl,IsInts.nil _,Zae ((Below.refl _ _).alloc (Nat.le_refl _) _) (Nat.le_refl _) _,HN.out,fun j hj=>absurd hj (by simp [Value.ownBlock])⟩
  have HI0:Hid (RdInv w (w.alloc (.cells #[.slice none 0 0,.int .i64 0,.int .i64 0] 238)) q N 5 (v:Int) (.slice none 0 0) []):=zh ⟨by rw [HRD.out,if_neg (by omega)];rfl,OwnI.nil _ _,HB0.out,hg0⟩;clear HB0 hg0;have hv3:1<=(v:Int)/\(v:Int)<=20:=by omega
  go_enter Tryz.func179,Tryz.ntmps179;go_wp2_with fail;rw [htk.out];refine(HNUM.out _).mono ?_;rintro e w' ⟨rfl,rfl⟩;go_wp2_with fail
  go_loopw [5,6,7] (fun vn vl vp wr=>∃(now:Int) (ls:List Int) (p:Nat),vn=.int .i64 now/\1<=now/\now<=20/\vp=.int .i64 (p:Int)/\p<=q.length/\ls.length<=N/\RdInv w wr q N p now vl ls) (fun _ _ vp _=>q.length-(intOf vp).toNat)
  case atStart=>exact⟨(v:Int),[],5,rfl,hv3.1,hv3.2,rfl,h5,Nat.zero_le _,HI0.out⟩
  case round=>
   clear HI0 HNUM htk hv1 hv2 hv3;rename_i vl _;obtain⟨now,ls,p,rfl,hn1,hn20,rfl,hp,hls,hI⟩:=hrel;obtain⟨hI1,hO,hB,hg⟩:=hI;have HI:=zh hI1;have HO:=zh hO;have HB:=zh hB;obtain⟨al,cl,rfl⟩:=hO.slice;have hlw:w.heap.size<wr.heap.size:=(Array.getElem?_eq_some_iff.1 hg).1;clear hI1 hO hB;by_cases hdone:ls.length<N
   ·have hdi:(ls.length:Int)<(N:Int):=by omega
    obtain⟨M,hM⟩:∃M,N-ls.length=M+1:=⟨N-ls.length-1,by omega⟩
    have HM:=zh hM;rw [hM] at HI;clear hM;by_cases hend:p<q.length
    ·have hpz:p<(txt q).size:=by have:=HTS.out;omega
     have hpi:(p:Int)<((txt q).size:Int):=by omega
     have hne:((p:Int)==((txt q).size:Int))=false:=by rw [beq_eq_false_iff_ne];omega
     have hgk:=HTT.out p hend hpz;have hdc:=ZgR q p hend;have hp1:(p:Int)<=1000000:=by omega
     by_cases hb:q.getD p false=true
     ·rw [hb] at hgk hdc;have hgk2:((txt q)[p].toNat:Int)=49:=hgk;rw [hdc] at HI;clear hgk hdc hb;by_cases hend2:p+1<q.length
      ·have hp1z:p+1<(txt q).size:=by have:=HTS.out;omega
       have hp1i:(p:Int)+1<((txt q).size:Int):=by omega
       have hne2:((p:Int)+1==((txt q).size:Int))=false:=by rw [beq_eq_false_iff_ne];omega
       obtain⟨m,hm⟩:∃m,p+1=m:=⟨_,rfl⟩
       have hmi:(p:Int)+1=(m:Int):=by omega
       have hmz:m<(txt q).size:=by omega
       have hmzi:(m:Int)<((txt q).size:Int):=by omega
       have hmw:IntKind.i64.wrap (m:Int)=(m:Int):=IntWalk.i64_in _ (by omega);have hPM:Hid (p+2=m+1):=zh (by omega);have hmb:m<q.length:=by omega
       have hgk3:=HTT.out m hmb hmz;rw [hm,ZgR q m hmb] at HI;rw [hmi] at hne2;obtain⟨b,hbb⟩:∃b,q.getD m false=b:=⟨_,rfl⟩
       rw [hbb] at HI hgk3;clear hbb hp1z hp1i hm;cases b with
       | false=>
        have hgk4:((txt q)[m].toNat:Int)=48:=hgk3;clear hgk3;by_cases hbad:(20:Int)<now+1
        ·have HN:=zh (ReadP.table (q:=q) (N:=N) (by rw [HI.out,run_bad false _ _ now (Or.inr hbad)];rfl));go_wp2_with (refine wpList_store_row rfl 238 _ _ rfl w.heap.size #[.slice none 0 0,.int .i64 0,.int .i64 22] rfl rfl 238 _ hg hi rfl (ZbM _ _ _ _ _) ?_);refine bodyPost_ret (v:=.agg #[.slice none 0 0,.int .i64 0,.int .i64 22]) (results_cell_row rfl _ _ w.heap.size 238 _ (0,0) _ rfl (setRow_heap _ _ _ _ _ _ hg) hu rfl hi) rfl ⟨.slice none 0 0,[],0,22,rfl,IsInts.nil _,Zae HB.out (Nat.le_refl _) _,HN.out,fun j hj=>absurd hj (by simp [Value.ownBlock])⟩
        ·have HI2:Hid (rd q N=(run (q.drop (p+2)) (N-ls.length) (now+1)).add ls (p+2)):=zh (by
          rw [HI.out,run_move _ _ _ _ (by show ¬(now+1<1\/20<now+1);omega),add_add,List.append_nil,HM.out,hPM.out];rfl)
         have hb1:¬now+1<1:=by omega
         go_wp2_with fail;go_roundw
         case rel=>exact⟨now+1,ls,p+2,by go_num,by omega,by omega,by go_num,by omega,hls,HI2.out,HO.out,HB.out,hg⟩
         case measure=>simp [intOf];omega
       | true=>
        have hgk4:((txt q)[m].toNat:Int)=49:=hgk3;clear hgk3;by_cases hbad:now-1<1
        ·have HN:=zh (ReadP.table (q:=q) (N:=N) (by rw [HI.out,run_bad true _ _ now (Or.inl hbad)];rfl));go_wp2_with (refine wpList_store_row rfl 238 _ _ rfl w.heap.size #[.slice none 0 0,.int .i64 0,.int .i64 22] rfl rfl 238 _ hg hi rfl (ZbM _ _ _ _ _) ?_);refine bodyPost_ret (v:=.agg #[.slice none 0 0,.int .i64 0,.int .i64 22]) (results_cell_row rfl _ _ w.heap.size 238 _ (0,0) _ rfl (setRow_heap _ _ _ _ _ _ hg) hu rfl hi) rfl ⟨.slice none 0 0,[],0,22,rfl,IsInts.nil _,Zae HB.out (Nat.le_refl _) _,HN.out,fun j hj=>absurd hj (by simp [Value.ownBlock])⟩
        ·have HI2:Hid (rd q N=(run (q.drop (p+2)) (N-ls.length) (now-1)).add ls (p+2)):=zh (by
          rw [HI.out,run_move _ _ _ _ (by show ¬(now-1<1\/20<now-1);omega),add_add,List.append_nil,HM.out,hPM.out];rfl)
         have hb1:¬(20:Int)<now-1:=by omega
         go_wp2_with fail;go_roundw
         case rel=>exact⟨now-1,ls,p+2,by go_num,by omega,by omega,by go_num,by omega,hls,HI2.out,HO.out,HB.out,hg⟩
         case measure=>simp [intOf];omega
      ·have hne2:((p:Int)+1==((txt q).size:Int))=true:=by rw [beq_iff_eq];have:=HTS.out;omega
       have hdn:q.drop (p+1)=[]:=List.drop_of_length_le (by omega);have HN:=zh (ReadP.short (q:=q) (N:=N) (by rw [HI.out,hdn];rfl));clear hdn;go_wp2_with (refine wpList_store_row rfl 238 _ _ rfl w.heap.size #[.slice none 0 0,.int .i64 0,.int .i64 3] rfl rfl 238 _ hg hi rfl (ZbM _ _ _ _ _) ?_);refine bodyPost_ret (v:=.agg #[.slice none 0 0,.int .i64 0,.int .i64 3]) (results_cell_row rfl _ _ w.heap.size 238 _ (0,0) _ rfl (setRow_heap _ _ _ _ _ _ hg) hu rfl hi) rfl ⟨.slice none 0 0,[],0,3,rfl,IsInts.nil _,Zae HB.out (Nat.le_refl _) _,HN.out,fun j hj=>absurd hj (by simp [Value.ownBlock])⟩
     ·have hbf:q.getD p false=false:=by simpa using hb
      rw [hbf] at hgk hdc;have hgk2:((txt q)[p].toNat:Int)=48:=hgk
      have HI2:Hid (rd q N=(run (q.drop (p+1)) (N-(ls++[now]).length) now).add (ls++[now]) (p+1)):=zh (by
       rw [HI.out,hdc,run_same,add_add,List.length_append,show N-(ls.length+[now].length)=M from by have:=HM.out;show N-(ls.length+1)=M;omega])
      have HLN:Hid ((ls++[now]).length<=N):=zh (by rw [List.length_append];exact hdone);clear hgk hdc hb hbf HI;have hl258:ls.length+1<=17592186044416:=by omega
      go_wp2_with (at_builtin;refine Zar wr rfl _ _ rfl (w.heap.size+1) _ ls now HO.out rfl rfl hl258 (by omega) ?_);intro v3 w3 hO3 hB3;have HO3:=zh hO3;have HB3:=zh (HB.out.trans (hB3.mono (Nat.le_succ _)));have hg3:=(hB3.block w.heap.size (Nat.lt_succ_self _)).trans hg;clear hO3 hB3;go_wp2_with fail;go_roundw
      case rel=>exact⟨now,ls++[now],p+1,rfl,hn1,hn20,by go_num,by omega,HLN.out,HI2.out,HO3.out,HB3.out,hg3⟩
      case measure=>simp [intOf];omega
    ·have hpe:p=q.length:=by omega
     have hne:((p:Int)==((txt q).size:Int))=true:=by rw [beq_iff_eq];have:=HTS.out;omega
     have hdn:q.drop p=[]:=List.drop_of_length_le (by omega);have HN:=zh (ReadP.short (q:=q) (N:=N) (by rw [HI.out,hdn];rfl));clear hdn hpe;go_wp2_with (refine wpList_store_row rfl 238 _ _ rfl w.heap.size #[.slice none 0 0,.int .i64 0,.int .i64 3] rfl rfl 238 _ hg hi rfl (ZbM _ _ _ _ _) ?_);refine bodyPost_ret (v:=.agg #[.slice none 0 0,.int .i64 0,.int .i64 3]) (results_cell_row rfl _ _ w.heap.size 238 _ (0,0) _ rfl (setRow_heap _ _ _ _ _ _ hg) hu rfl hi) rfl ⟨.slice none 0 0,[],0,3,rfl,IsInts.nil _,Zae HB.out (Nat.le_refl _) _,HN.out,fun j hj=>absurd hj (by simp [Value.ownBlock])⟩
   ·have hdi:¬(ls.length:Int)<(N:Int):=by omega
    have hlN:N-ls.length=0:=by omega
    have HN:Hid (ReadP q N ls p 0):=zh (ReadP.ok (by rw [HI.out,hlN,run_zero];show Res.ok (ls++[]) (p+0)=_;rw [List.append_nil];rfl));clear hlN;go_wp2_with (refine wpList_store_row rfl 238 _ _ rfl w.heap.size #[.slice al ls.length cl,.int .i64 (p:Int),.int .i64 0] rfl rfl 238 _ hg hi rfl (ZbM _ _ _ _ _) ?_);refine bodyPost_ret (v:=.agg #[.slice al ls.length cl,.int .i64 (p:Int),.int .i64 0]) (results_cell_row rfl _ _ w.heap.size 238 _ (0,0) _ rfl (setRow_heap _ _ _ _ _ _ hg) hu rfl hi) rfl ⟨_,ls,p,0,rfl,?_,Zae HB.out (Nat.le_refl _) _,HN.out,fun j hj=>by have h5:=HO.out.lt j hj;exact⟨by omega,by rw [Zaw];exact h5.2⟩⟩;exact(HO.out.setRow w.heap.size _ (Nat.lt_succ_self _)).ints
end
section
open Go.RowKit BitM HufM CanM CodM TabM FreqM
theorem Zjd {ops:Array Oper} {o:Oper} {a:Act} {K:Act->World->Prop} {Q:Exit->Act->World->Prop} {E:Prop} (W:World) (hgd:o.guard=none) (s x:Operand)
  (ho:o.op=.call { callee:=.builtin .append,args:=#[s,x],argTypes:=#[158,158] })
  (base N:Nat) (v:Value) (gs:List (List Int)) (ls:List Int) (cb:Nat) (hown:SCodes W base N v gs) (hrow:RowS W cb N (fun j=>txt (code ls j))) (hcb:base<=cb) (hcv:v.ownBlock≠some cb) (hs:a.eval s=v) (hx:a.eval x=.slice (some ⟨W.heap.size,0,none⟩) 1 1)
  (hlen:gs.length+1<=1000000)
  (h:∀v' w',SCodes w' base N v' (gs++[ls])->Below base W w'->(∀k,v'.ownBlock=some k->base<=k)->K (a.put o.dst v') w') :
  if Region.wanted o (yielded ops a.tmps)=true then Oper.wp Tryz.prog o a (W.alloc (.cells #[.slice (some ⟨cb,0,none⟩) N N] 160)) K Q else E:=by
 obtain⟨bs,h1,h2,h3,h4⟩:=hown;obtain⟨i0,hi,hz0,hz1,hz2⟩:=info_parts ZkC;refine ZaS hgd s x 158 ho base 160 i0 (.slice none 0 0) 1 24 Tryz.underlying158 hi hz0 hz1 hz2 rfl (by decide) v bs.length (bs.map (rowV N)) hs (World.ownsRow.alloc h1 _) ⟨W.heap.size,0,none⟩ 1 1 [rowV N cb] hx rfl ?_ ?_ ?_ ?_ ?_ ?_
 ·exact ZaD _ _ _ _ rfl
 ·intro u hu;simp at hu;subst hu;rfl
 ·unfold maxLen;omega
 ·omega
 ·simp;omega
 ·intro v' w' hown' hg hv;have hBW:Below base W w':=Below.grown ((Below.refl base W).alloc h3 _) hg (by simp;omega) (fun j hj=>(World.ownsRow.lt h1 j hj).1);have keep:∀k,k<W.heap.size->v.ownBlock≠some k->w'.heap[k]?=W.heap[k]?:=fun k hk hne=>(hg.block k (by simp;omega) (fun e=>hne e.symm)).trans (Zam hk)
  have hvv:∀k,v'.ownBlock=some k->v.ownBlock=some k\/W.heap.size<=k:=fun k hk=>(hv k hk).imp id (fun h=>by simp at h;omega)
  have hT:Touch (fun j=>v.ownBlock=some j) W w':=⟨hBW.os,hBW.tape,hBW.output,hBW.size,fun j hj hn=>keep j hj hn⟩
  refine h v' w' ⟨bs++[cb],?_,by rw [List.length_append,List.length_append,h2];rfl,Nat.le_trans h3 hBW.size,fun i hi2=>?_⟩ hBW (fun k hk=>(World.ownsRow.lt hown' k hk).1)
  ·rw [List.length_append,List.map_append];exact hown'
  ·rw [List.length_append] at hi2;have hi3:i<gs.length+1:=hi2;by_cases h5:i<gs.length
   ·rw [Zbs bs cb 0 (by omega),Zbs gs ls [] h5];obtain⟨a1,a2,a3⟩:=h4 i h5
    exact⟨a1.other hT a3,a2,fun e=>by
     rcases hvv _ e with e2|e2
     ·exact a3 e2
     ·have:=a1.lt;omega⟩
   ·rw [Zbt bs cb 0 (by omega),Zbt gs ls [] (by omega)]
    exact⟨hrow.other hT hcv,hcb,fun e=>by
     rcases hvv _ e with e2|e2
     ·exact hcv e2
     ·have:=hrow.lt;omega⟩
theorem ZpA:(Tryz.prog.info? 166).map (·.size)=some 3:=by kernel_rfl
theorem Zl1 (a:Option Addr) (m c:Nat) (x y:Int):(#[Value.slice a m c,.int .i64 x,.int .i64 y]:Array Value).all (·.oneCell')=true:=by simp [Value.oneCell']
theorem ZhO (a:Option Addr) (m c:Nat) (x:Int):Tryz.prog.built 166 [(0,.slice a m c),(2,.int .i64 x)]=some #[.slice a m c,.int .i64 0,.int .i64 x]:=by kernel_rfl
theorem ZpB:Tryz.prog.built 166 []=some #[.slice none 0 0,.int .i64 0,.int .i64 0]:=by kernel_rfl
def RdTs (w wr:World) (Q:List Bool) (N n a:Nat) (vc:Value) (gs:List (List Int)):Prop:=
 RtT Q N n a gs/\a<=Q.length/\SCodes wr (w.heap.size+2) N vc gs/\Below w.heap.size w wr /\
 wr.heap[w.heap.size]?=some (.cells #[.slice none 0 0,.int .i64 0,.int .i64 0] 166 (0,0))/\wr.heap[w.heap.size+1]?=some (.cells #[vc,.int .i64 (a:Int),.int .i64 0] 166 (0,0))
theorem SCodes.touch {w w':World} {base N:Nat} {v:Value} {gs:List (List Int)} (h:SCodes w base N v gs) {S:Nat->Prop} (ht:Touch S w w') (hS:∀k,S k->k<base):SCodes w' base N v gs:=by
 obtain⟨bs,h1,h2,h3,h4⟩:=h;exact⟨bs,Zah h1 (fun k hk=>ht.block k (World.ownsRow.lt h1 k hk).2 (fun e=>by have:=hS k e;have:=(World.ownsRow.lt h1 k hk).1;omega)),h2,Nat.le_trans h3 ht.size,fun i hi=>⟨(h4 i hi).1.other ht (fun e=>by have:=hS _ e;have:=(h4 i hi).2.1;omega),(h4 i hi).2⟩⟩
theorem ZpC (b:Nat) (w:World) (cs:Array Value):Touch (·=b) w (w.setRow b cs):=⟨rfl,rfl,rfl,by simp [World.setRow],fun j hj hn=>setRow_other _ _ j _ (fun e=>hn (by omega))⟩
theorem ZkM:∀(q:List Bool) (m:Nat) (now:Int) (l:List Int) (n:Nat),DelM.run q m now=.ok l n->n<=q.length
 | q,0,now,l,n,h=>by
  rw [DelM.run_zero] at h;cases h;exact Nat.zero_le _
 | [],m+1,now,l,n,h=>by cases h
 | [true],m+1,now,l,n,h=>by cases h
 | false::t,m+1,now,l,n,h=>by
  rw [DelM.run_same] at h;cases hr:DelM.run t m now with
  | short=>rw [hr] at h;cases h
  | table=>rw [hr] at h;cases h
  | ok a c=>
   rw [hr] at h;have:=ZkM t m now a c hr;cases h;rw [List.length_cons];omega
 | true::b::t,m+1,now,l,n,h=>by
  by_cases hb:DelM.nx now b<1\/20<DelM.nx now b
  ·rw [DelM.run_bad _ _ _ _ hb] at h;cases h
  ·rw [DelM.run_move _ _ _ _ hb] at h;cases hr:DelM.run t (m+1) (DelM.nx now b) with
   | short=>rw [hr] at h;cases h
   | table=>rw [hr] at h;cases h
   | ok a c=>
    rw [hr] at h;have:=ZkM t (m+1) (DelM.nx now b) a c hr;cases h;rw [List.length_cons,List.length_cons];omega
theorem ZrQ {q:List Bool} {m:Nat} {l:List Int} {n:Nat} (h:DelM.rd q m=.ok l n):n<=q.length:=by
 unfold DelM.rd at h;split at h
 ·cases h
 ·rename_i h5;split at h
  ·cases h
  ·cases hr:DelM.run (q.drop 5) m (num (q.take 5)) with
   | short=>rw [hr] at h;cases h
   | table=>rw [hr] at h;cases h
   | ok a c=>
    rw [hr] at h;have:=ZkM _ _ _ _ _ hr;rw [List.length_drop] at this;cases h;omega
theorem Zl2 {t:Nat} (ht:t<=6):∀(m:Nat) (q:List Bool) (o l:List Nat) (n:Nat),PkM.Ord t o->PkM.run t q m o=.ok l n->∀x∈l,x<t
 | 0,q,o,l,n,_,h=>by
  rw [PkM.run] at h;cases h;intro x hx;cases hx
 | m+1,q,o,l,n,ho,h=>by
  rw [PkM.run] at h;split at h
  ·cases h
  ·rename_i hl;split at h
   ·cases h
   ·cases hr:PkM.run t (q.drop (PkM.lead q+1)) m (PkM.tch o (PkM.lead q)) with
    | short=>rw [hr] at h;cases h
    | bad _=>rw [hr] at h;cases h
    | ok a c=>
     rw [hr] at h;have ih:=Zl2 ht m _ _ a c (ho.tch ht (by omega)) hr;cases h;intro x hx;rcases List.mem_append.1 hx with h1|h1
     ·rw [List.mem_singleton] at h1;subst h1;have hlo:PkM.lead q<o.length:=by rw [ho.1];omega
      refine(ho.2 _).2 ?_;rw [List.getD_eq_getElem?_getD,List.getElem?_eq_getElem hlo];exact List.mem_take_iff_getElem.2 ⟨PkM.lead q,by omega,rfl⟩
     ·exact ih x h1
theorem Zje {Q:List Bool} {ps:List Nat} {k:Nat} (h:PkM.rd Q=.ok ps k):Hd Q ps (num (Q.take 3))/\k<=Q.length:=by
 have h0:=h;unfold PkM.rd at h;split at h
 ·cases h
 ·rename_i h18;split at h
  ·cases h
  ·rename_i hb;cases hr:PkM.run (num (Q.take 3)) (Q.drop 18) (num ((Q.drop 3).take 15)) [0,1,2,3,4,5] with
   | short=>rw [hr] at h;cases h
   | bad _=>rw [hr] at h;cases h
   | ok a c=>
    rw [hr] at h;have h1:=PkM.run_len _ _ _ _ _ hr;rw [List.length_drop] at h1;have h6:num (Q.take 3)<=6:=by omega
    have h2:=Zl2 h6 _ _ _ _ _ (PkM.Ord.start h6) hr;have h3:=ZaB ((Q.drop 3).take 15);have h4:((Q.drop 3).take 15).length=15:=by rw [List.length_take,List.length_drop];omega
    rw [h4] at h3;cases h;refine⟨⟨⟨_,h0⟩,rfl,h6,by omega,?_,?_,?_⟩,by omega⟩
    ·rw [List.nil_append];omega
    ·rw [List.nil_append];omega
    ·rw [List.nil_append];exact h2
def RtOut (Q:List Bool) (n N:Nat) (w:World) (e:Ending) (w':World):Prop:=
 ∃(ad:Option Addr) (m c:Nat) (gs:List (List Int)) (a:Nat) (er:Int),e=.returned (.agg #[.slice ad m c,.int .i64 (a:Int),.int .i64 er])/\TabP Q N n gs a er/\(er=0->a<=Q.length/\m=gs.length/\SCodes w' (w.heap.size+2) N (.slice ad m c) gs)/\Below w.heap.size w w'
theorem RtOut.err {Q:List Bool} {n N:Nat} {w w':World} {e:Ending} {ad:Option Addr} {m c:Nat} {er:Int} (he:e=.returned (.agg #[.slice ad m c,.int .i64 0,.int .i64 er])) (hT:∀gs a,TabP Q N n gs a er) (hn:er≠0) (hb:Below w.heap.size w w'):RtOut Q n N w e w':=
 ⟨ad,m,c,[],0,er,he,hT _ _,fun h=>absurd h hn,hb⟩
theorem Zf1 (Q:List Bool) (n N:Nat) (w:World) (hQ:Q.length<=1000000) (h3:3<=N) (h258:N<=258) (hn:n<=6) :
  Calls Tryz.prog 123 #[.string (txt Q),.int .i64 (n:Int),.int .i64 (N:Int)] w (RtOut Q n N w):=by
 have hts:=Zaf Q;have HTS:=zh hts;have hi:=ZpA;have hu:=Tryz.underlying166;have hz0:=ZpB
 have HS0:Hid (RdTs w ((w.alloc (.cells #[.slice none 0 0,.int .i64 0,.int .i64 0] 166)).alloc (.cells #[.slice none 0 0,.int .i64 0,.int .i64 0] 166)) Q N n 0 (.slice none 0 0) []):=zh (by
  have hs1:(w.alloc (.cells #[.slice none 0 0,.int .i64 0,.int .i64 0] 166)).heap.size=w.heap.size+1:=by simp
  have hb1:=(Below.refl w.heap.size w).alloc (Nat.le_refl _) (.cells #[.slice none 0 0,.int .i64 0,.int .i64 0] 166);have hg:=heap_alloc_new (w.alloc (.cells #[.slice none 0 0,.int .i64 0,.int .i64 0] 166)) (.cells #[.slice none 0 0,.int .i64 0,.int .i64 0] 166);rw [hs1] at hg;exact⟨RtT.start _ _ _,Nat.zero_le _,SCodes.nil _ _ _ (by simp),hb1.alloc hb1.size _,(Zam (by omega)).trans (heap_alloc_new w _),hg⟩)
 obtain⟨S,hS⟩:∃S,txt Q=S:=⟨_,rfl⟩
 have HS:=zh hS;rw [hS] at hts ⊢;clear hS;go_enter Tryz.func123,Tryz.ntmps123;go_wp2_with (refine ZaM rfl 166 rfl _ hz0 ?_)
 go_loopw [11] (fun vk wr=>∃(k a:Nat) (vc:Value) (gs:List (List Int)),vk=.int .i64 (k:Int)/\k<=n/\gs.length=k/\RdTs w wr Q N n a vc gs) (fun vk _=>n-(intOf vk).toNat)
 case atStart=>exact⟨0,0,_,[],rfl,by omega,rfl,HS0.out⟩
 case round=>
  clear HS0;obtain⟨k,a,vc,gs,rfl,hk,hgl,hR,haq,hsc,hb,hbH,hbC⟩:=hrel;have HRT:=zh hR;have HSC:=zh hsc;have HB:=zh hb;have HBH:=zh hbH;have HBC:=zh hbC;obtain⟨aC,cC,rfl⟩:=hsc.slice;obtain⟨C,hC⟩:∃C,w.heap.size+1=C:=⟨_,rfl⟩
  have HC:=zh hC;have c0:wr.cell? ⟨w.heap.size+1,0,none⟩=some (.slice aC gs.length cC):=by rw [cell_of_row _ _ _ _ _ _ hbC];rfl
  have c1:wr.cell? ⟨w.heap.size+1,1,none⟩=some (.int .i64 (a:Int)):=by rw [cell_of_row _ _ _ _ _ _ hbC];rfl
  have HGL:=zh hgl;rw [hgl] at c0 HBC HSC;have hCw:Hid (w.heap.size+1<wr.heap.size):=zh (Array.getElem?_eq_some_iff.1 hbC).1;clear hR hsc hb hbH hbC hC hgl;by_cases hkn:k<n
  ·have hki:(k:Int)<(n:Int):=by omega
   have HDR:=zh (Zbo Q a haq);rw [HS.out,hts] at HDR;have ha0:(0:Int)<=(a:Int):=by omega
   have haz:(a:Int)<=(S.size:Int):=by omega
   have HRD:=zh (ZkL (Q.drop a) N wr (by rw [List.length_drop];omega) h258);have HSTP:=zh (HRT.out.step (by rw [HGL.out];exact hkn));go_wp2_with fail;rw [HDR.out];refine HRD.out.mono ?_;rintro e w2 ⟨u,ls,k2,er,rfl,hi2,hb2,hrp,hown⟩;obtain⟨au,cu,rfl,hcu⟩:=hi2;obtain⟨M,hM⟩:∃M,ls.length=M:=⟨_,rfl⟩
   have HM:=zh hM;have HI2:Hid (IsInts w2 (.slice au ls.length cu) ls):=zh ⟨au,cu,rfl,hcu⟩;rw [hM] at HI2 ⊢;have hb3:=(Below.refl w2.heap.size w2).alloc (Nat.le_refl _) (.cells #[.slice au M cu,.int .i64 (k2:Int),.int .i64 er] 238);have hg3:=heap_alloc_new w2 (.cells #[.slice au M cu,.int .i64 (k2:Int),.int .i64 er] 238);have HI3:=zh (HI2.out.below hb3);have hb23:=hb2.trans (hb3.mono hb2.size);have HSC3:=zh (HSC.out.below hb23);have HB3:=zh (HB.out.trans (hb23.mono HB.out.size));have HBH3:=zh ((hb23.block _ (by have:=hCw.out;omega)).trans HBH.out);have hbc3:=(hb23.block _ hCw.out).trans HBC.out;have hG:Hid (w.heap.size+1<w2.heap.size):=zh (by have:=hCw.out;have:=hb2.size;omega);have HOW:Hid (∀j,(Value.slice au M cu).ownBlock=some j->j≠w.heap.size+1):=zh (fun j hj=>by rw [<-hM] at hj;have h1:=(hown j hj).1;have:=hCw.out;omega);have hq:=hrp;unfold ReadP at hq;clear hM hcu hb2 hb23 hb3 hrp hown HI2 HRD HSC HB HBH HBC c0 c1
   go_upto_region 5 with fail
   generalize w2.alloc (.cells #[.slice au M cu,.int .i64 (k2:Int),.int .i64 er] 238)=W3 at *;generalize w2.heap.size=G at *;have d0:W3.cell? ⟨w.heap.size+1,0,none⟩=some (.slice aC k cC):=by rw [cell_of_row _ _ _ _ _ _ hbc3];rfl
   have d1:W3.cell? ⟨w.heap.size+1,1,none⟩=some (.int .i64 (a:Int)):=by rw [cell_of_row _ _ _ _ _ _ hbc3];rfl
   have f1:W3.frozen? ⟨w.heap.size+1,1,none⟩=false:=frozen_of_row _ _ _ _ _ hbc3;have e0:W3.cell? ⟨G,0,none⟩=some (.slice au M cu):=by rw [cell_of_row _ _ _ _ _ _ hg3];rfl
   have e1:W3.cell? ⟨G,1,none⟩=some (.int .i64 (k2:Int)):=by rw [cell_of_row _ _ _ _ _ _ hg3];rfl
   have e2:W3.cell? ⟨G,2,none⟩=some (.int .i64 er):=by rw [cell_of_row _ _ _ _ _ _ hg3];rfl
   have HBC3:=zh hbc3;have HG3:=zh hg3;clear hbc3 hg3;cases hrd:DelM.rd (Q.drop a) N with
   | short=>
    rw [hrd] at hq;obtain⟨rfl,rfl,rfl⟩:=hq;have HT:=zh (HSTP.out.1 hrd);have hbt:=ZhO aC k cC 3;clear hrd;go_wp2_with (first|(refine ZaH rfl 166 0 2 _ _ rfl _ _ rfl rfl _ hbt ?_)|(refine wpList_store_row rfl 166 _ _ rfl w.heap.size #[.slice aC k cC,.int .i64 0,.int .i64 3] rfl rfl 166 _ HBH3.out hi rfl (Zl1 _ _ _ _ _) ?_));refine bodyPost_ret (v:=.agg #[.slice aC k cC,.int .i64 0,.int .i64 3]) (results_cell_row rfl _ _ w.heap.size 166 _ (0,0) _ rfl (setRow_heap _ _ _ _ _ _ HBH3.out) hu rfl hi) rfl (RtOut.err rfl HT.out (by decide) (Zae HB3.out (Nat.le_refl _) _))
   | table=>
    rw [hrd] at hq;obtain⟨rfl,rfl,rfl⟩:=hq;have HT:=zh (HSTP.out.2.1 hrd);have hbt:=ZhO aC k cC 22;clear hrd;go_wp2_with (first|(refine ZaH rfl 166 0 2 _ _ rfl _ _ rfl rfl _ hbt ?_)|(refine wpList_store_row rfl 166 _ _ rfl w.heap.size #[.slice aC k cC,.int .i64 0,.int .i64 22] rfl rfl 166 _ HBH3.out hi rfl (Zl1 _ _ _ _ _) ?_));refine bodyPost_ret (v:=.agg #[.slice aC k cC,.int .i64 0,.int .i64 22]) (results_cell_row rfl _ _ w.heap.size 166 _ (0,0) _ rfl (setRow_heap _ _ _ _ _ _ HBH3.out) hu rfl hi) rfl (RtOut.err rfl HT.out (by decide) (Zae HB3.out (Nat.le_refl _) _))
   | ok ls' j=>
    rw [hrd] at hq;obtain⟨rfl,rfl,rfl⟩:=hq;obtain⟨hlN,hno,hyes⟩:=HSTP.out.2.2 ls k2 hrd;have hMN:M=N:=HM.out.symm.trans hlN;have hk2:=ZrQ hrd;rw [List.length_drop] at hk2;have hsum:(a:Int)+(k2:Int)=((a+k2:Nat):Int):=by omega
    obtain⟨A2,hA2⟩:∃A2,a+k2=A2:=⟨_,rfl⟩
    rw [hA2] at hsum;have hAw:IntKind.i64.wrap (A2:Int)=(A2:Int):=IntWalk.i64_in _ (by omega);have HA2:=zh hA2;have HK2:=zh hk2;have HNO:=zh hno;have HYES:=zh hyes;obtain⟨W4,hW4⟩:∃W4,W3.setCell ⟨w.heap.size+1,1,none⟩ (.int .i64 (A2:Int))=W4:=⟨_,rfl⟩
    have hT4:Touch (·=w.heap.size+1) W3 W4:=by rw [<-hW4];exact Zaa (Touch.refl _ _)
    have hbc4:W4.heap[w.heap.size+1]?=some (.cells #[.slice aC k cC,.int .i64 (A2:Int),.int .i64 0] 166 (0,0)):=by rw [<-hW4];exact heap_setCell_same _ _ 1 _ _ _ HBC3.out
    have HI4:=zh (HI3.out.other hT4 (fun j hj e=>HOW.out j hj e));have HSC4:=zh (HSC3.out.touch hT4 (fun j hj=>by have:j=w.heap.size+1:=hj;omega));have HB4:Hid (Below w.heap.size w W4):=zh (HB3.out.trans (hT4.below (by have:=HB3.out.size;omega) (fun i hi=>by have:i=w.heap.size+1:=hi;omega)));have HBH4:=zh ((hT4.block w.heap.size (Array.getElem?_eq_some_iff.1 HBH3.out).1 (by omega)).trans HBH3.out);have HBC4:=zh hbc4;have hwt:w.heap.size+1<W4.heap.size:=(Array.getElem?_eq_some_iff.1 hbc4).1;have g4:W4.heap[G]?=_:=(hT4.block G (Array.getElem?_eq_some_iff.1 HG3.out).1 (fun e=>by have h1:=hG.out;have h2:G=w.heap.size+1:=e;omega)).trans HG3.out;have k0:W4.cell? ⟨w.heap.size+1,0,none⟩=some (.slice aC k cC):=by rw [cell_of_row _ _ _ _ _ _ hbc4];rfl
    have z0:W4.frozen? ⟨w.heap.size+1,0,none⟩=false:=frozen_of_row _ _ _ _ _ hbc4;have y0:W4.cell? ⟨G,0,none⟩=some (.slice au M cu):=by rw [cell_of_row _ _ _ _ _ _ g4];rfl
    have HM2:=zh hMN;by_cases hwh:WholeP ls
    ·have HWH:=zh (ZgO (.slice au M cu) ls true W4 HI4.out (by rw [HM.out];omega) ⟨fun _=>hwh,fun _=>rfl⟩);have HR2:Hid (RtT Q N n A2 (gs++[ls])):=zh (by rw [<-HA2.out];exact HYES.out hwh);obtain⟨cb,hcb⟩:∃cb,W4.heap.size=cb:=⟨_,rfl⟩
     have HCB:=zh hcb
     have HCO:Hid (Calls Tryz.prog 121 #[.slice au M cu] (W4.drewN 1) fun e w'=>e=.returned (.slice (some ⟨cb,0,none⟩) N N)/\RowS w' cb N (fun j=>txt (code ls j))/\Below cb W4 w'):=zh (by
      refine(ZfY (.slice au M cu) ls (W4.drewN 1) (HI4.out.below ⟨rfl,rfl,rfl,Nat.le_refl _,fun _ _=>rfl⟩) (by rw [HM.out];omega) hwh).mono ?_;rintro e w' ⟨rfl,h1,h2⟩;have e1:(W4.drewN 1).heap.size=cb:=hcb;rw [e1] at h1 h2 ⊢;rw [hlN] at h1 ⊢;exact⟨rfl,h1,(⟨rfl,rfl,rfl,Nat.le_refl _,fun _ _=>rfl⟩:Below cb W4 (W4.drewN 1)).trans h2⟩)
     have hcv:Hid ((Value.slice aC k cC).ownBlock≠some cb):=zh (fun e=>by have:=HSC4.out.old cb e;omega);have hcb2:Hid (w.heap.size+2<=cb):=zh (by omega);have HLE:Hid (gs.length+1<=1000000):=zh (by rw [HGL.out];omega);have y1:(W4.drewN 1).cell? ⟨G,0,none⟩=some (.slice au M cu):=y0;clear hlN hno hyes hk2 hA2 hT4 hbc4 hwt g4 hMN hcb HYES HNO hwh HSTP;go_wp2_with fail;refine HWH.out.mono ?_;rintro e w5 ⟨rfl,hw5⟩;subst hw5;go_wp2_with fail
     go_region_law (first
       | (refine Zjd wA (by rfl) _ _ (by rfl) (w.heap.size+2) N _ gs ls cb HSCA.out HRSA.out hcb2.out hcv.out (by rfl) (by rfl) HLE.out ?_;intro v6 w6 hsc6 hb6 hv6;obtain⟨a6,c6,e6⟩:=hsc6.slice;obtain⟨L6,hL6⟩:∃L6,(gs++[ls]).length=L6:=⟨_,rfl⟩;rw [hL6] at e6;subst e6;have HL6:=zh hL6;clear hL6;have HSC6:=zh hsc6;have HB6:=zh hb6;have hbc6:=(hb6.block (w.heap.size+1) (by omega)).trans HBCA.out;have HBC6:=zh hbc6;have k6:w6.cell? ⟨w.heap.size+1,0,none⟩=some (.slice aC k cC):=(by rw [cell_of_row _ _ _ _ _ _ hbc6];rfl);have z6:w6.frozen? ⟨w.heap.size+1,0,none⟩=false:=frozen_of_row _ _ _ _ _ hbc6;clear hsc6 hb6 hv6 hbc6)
       | (go_simp;go_at_call 121;refine HCO.out.mono ?_;rintro e wA ⟨rfl,hrs,hbA⟩;have HRSA:=zh hrs;have HBA:=zh hbA;have HSCA:=zh (HSC4.out.below (by rw [HCB.out];exact hbA));have hbca:=(hbA.block (w.heap.size+1) (by have:=hcb2.out;omega)).trans HBC4.out;have HBCA:=zh hbca;have kA:wA.cell? ⟨w.heap.size+1,0,none⟩=some (.slice aC k cC):=(by rw [cell_of_row _ _ _ _ _ _ hbca];rfl);have kA2:(wA.alloc (.cells #[.slice (some ⟨cb,0,none⟩) N N] 160)).cell? ⟨w.heap.size+1,0,none⟩=some (.slice aC k cC):=((World.cell?_alloc_some _ _ _ (by rw [kA];rfl)).trans kA);clear hrs hbA hbca))
     all_goals
      go_wp2_with fail;go_roundw
      case rel=>
       have hT7:Touch (·=w.heap.size+1) w6 (w6.setCell ⟨w.heap.size+1,0,none⟩ (.slice a6 L6 c6)):=Zaa (Touch.refl _ _);have hB6:Below w.heap.size w w6:=(HB4.out.trans (HBA.out.mono (by have:=hcb2.out;omega))).trans (HB6.out.mono (by omega));refine⟨k+1,A2,_,gs++[ls],by go_num,by omega,by rw [List.length_append,HGL.out];rfl,HR2.out,by have:=HA2.out;have:=HK2.out;omega,HSC6.out.touch hT7 (fun j hj=>by have:j=w.heap.size+1:=hj;omega),hB6.trans (hT7.below hB6.size (fun i hi=>by have:i=w.heap.size+1:=hi;omega)),?_,heap_setCell_same _ _ 0 _ _ _ HBC6.out⟩;have h0:w6.heap[w.heap.size]?=_:=((HB6.out.block w.heap.size (by omega)).trans (HBA.out.block w.heap.size (by have:=hcb2.out;omega))).trans HBH4.out;exact(hT7.block w.heap.size (Array.getElem?_eq_some_iff.1 h0).1 (by omega)).trans h0
      case measure=>simp [intOf];omega
    ·have HWH:=zh (ZgO (.slice au M cu) ls false W4 HI4.out (by rw [HM.out];omega) ⟨fun e=>(by cases e),fun h=>absurd h hwh⟩);have HT:=zh (HNO.out hwh);have hbt:=ZhO aC k cC 22;clear hlN hno hyes hk2 hA2 hT4 hbc4 hwt g4 hMN HYES HNO hwh HSTP;go_wp2_with fail;refine HWH.out.mono ?_;rintro e w5 ⟨rfl,hw5⟩;subst hw5;go_wp2_with (first|(refine ZaH rfl 166 0 2 _ _ rfl _ _ rfl rfl _ hbt ?_)|(refine wpList_store_row rfl 166 _ _ rfl w.heap.size #[.slice aC k cC,.int .i64 0,.int .i64 22] rfl rfl 166 _ HBH4.out hi rfl (Zl1 _ _ _ _ _) ?_));refine bodyPost_ret (v:=.agg #[.slice aC k cC,.int .i64 0,.int .i64 22]) (results_cell_row rfl _ _ w.heap.size 166 _ (0,0) _ rfl (setRow_heap _ _ _ _ _ _ HBH4.out) hu rfl hi) rfl (RtOut.err rfl HT.out (by decide) (Zae HB4.out (Nat.le_refl _) _))
  ·obtain rfl:k=n:=by omega
   have hki:¬(k:Int)<(k:Int):=by omega
   have HT:=zh (HRT.out.all HGL.out);go_wp2_with (first|(refine wpList_load_row rfl 166 _ rfl (w.heap.size+1) rfl 166 #[.slice aC k cC,.int .i64 (a:Int),.int .i64 0] (0,0) _ HBC.out hu rfl hi ?_)|(refine wpList_store_row rfl 166 _ _ rfl w.heap.size #[.slice aC k cC,.int .i64 (a:Int),.int .i64 0] rfl rfl 166 _ HBH.out hi rfl (Zl1 _ _ _ _ _) ?_));refine bodyPost_ret (v:=.agg #[.slice aC k cC,.int .i64 (a:Int),.int .i64 0]) (results_cell_row rfl _ _ w.heap.size 166 _ (0,0) _ rfl (setRow_heap _ _ _ _ _ _ HBH.out) hu rfl hi) rfl ⟨aC,k,cC,gs,a,0,rfl,HT.out,fun _=>⟨haq,HGL.out.symm,?_⟩,Zae HB.out (Nat.le_refl _) _⟩;exact HSC.out.touch (ZpC w.heap.size _ _) (fun j hj=>by have:j=w.heap.size:=hj;omega)
end
end Go.Proofs.YtnachbjhhpnadaaGreatDoor

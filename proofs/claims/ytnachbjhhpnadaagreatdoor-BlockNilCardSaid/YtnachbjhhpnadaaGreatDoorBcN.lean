import Derived.Test.YtnachbjhhpnadaaGreatDoorBcA
import Derived.Test.YtnachbjhhpnadaaGreatDoorBcB
import Derived.Test.YtnachbjhhpnadaaGreatDoorBcC
import Derived.Test.YtnachbjhhpnadaaGreatDoorBcD
import Derived.Test.YtnachbjhhpnadaaGreatDoorBcH
import Derived.Test.YtnachbjhhpnadaaGreatDoorBcJ
import Derived.Test.YtnachbjhhpnadaaGreatDoorBcM
import Derived.Deep.RegionHeld3
import Derived.BigQuiet
set_option linter.unusedVariables false
set_option linter.unusedSimpArgs false
set_option maxHeartbeats 8000000
set_option maxRecDepth 100000
namespace Go.Proofs.YtnachbjhhpnadaaGreatDoor
section
open Go.RowKit BitM
section
variable {t : Nat} {room : Int} {begun : Bool} {sum origin : Int} {list row places : Value} {fr ot : Int} {last : Value} {wrong : Int} {done : Bool}
end
end
section
open Go.RowKit BitM
section
variable {t : Nat} {room : Int} {begun : Bool} {sum origin : Int} {list row places : Value} {fr ot : Int} {last : Value} {wrong : Int} {done : Bool}
theorem IsBk.setSum {w:World} (h:IsBk w t room begun sum origin list row places fr ot last wrong done) (x:Int):IsBk (w.setCell ⟨t,2,none⟩ (.int .u32 x)) t room begun x origin list row places fr ot last wrong done:=⟨heap_setCell_same _ _ 2 _ _ _ h.obj⟩
theorem IsBk.setOrigin {w:World} (h:IsBk w t room begun sum origin list row places fr ot last wrong done) (x:Int):IsBk (w.setCell ⟨t,3,none⟩ (.int .i64 x)) t room begun sum x list row places fr ot last wrong done:=⟨heap_setCell_same _ _ 3 _ _ _ h.obj⟩
theorem IsBk.setBegun {w:World} (h:IsBk w t room begun sum origin list row places fr ot last wrong done) (x:Bool):IsBk (w.setCell ⟨t,1,none⟩ (.bool x)) t room x sum origin list row places fr ot last wrong done:=⟨heap_setCell_same _ _ 1 _ _ _ h.obj⟩
theorem Zhr (rb:Nat) (v:Value) (l:List UInt8) (dr sp p:Nat) (w:World) (h:IsBk w t room begun sum origin list row places fr ot last wrong done) (hR:IsReader w rb v l dr sp p) (hs:dr+l.length<=1099511627776)
  (hne:∀k,foot rb v k->k≠t) :
  Calls Tryz.prog 127 #[.pointer (some ⟨t,0,none⟩),.pointer (some ⟨rb,0,none⟩)] w fun e w'=>
   (8*(dr+l.length)<p+57/\e=.returned (.int .i64 3)/\∃m,w'=w.drewN m) \/
   (p+57<=8*(dr+l.length)/\num (((bitsOf l).drop (p+32-8*dr)).take 1)≠0/\e=.returned (.int .i64 25)/\IsReader w' rb v l dr sp (p+57)/\Touch (·=rb) w w') \/
   (p+57<=8*(dr+l.length)/\num (((bitsOf l).drop (p+32-8*dr)).take 1)=0/\e=.returned (.int .i64 0)/\IsReader w' rb v l dr sp (p+57) /\
    IsBk w' t room true (num (((bitsOf l).drop (p-8*dr)).take 32):Int) (num (((bitsOf l).drop (p+33-8*dr)).take 24):Int) list row places fr ot last wrong done/\Touch (fun k=>k=t\/k=rb) w w'):=by
 obtain⟨L,hL⟩:∃L,8*(dr+l.length)-p=L:=⟨_,rfl⟩
 have hpb:=hR.2.2.2.2;have HLE:=zh (Zdt rb v l dr sp p L w hR hs hL);have HR:=zh hR;have H:=zh h;have HNE:=zh hne;by_cases hsh:8*(dr+l.length)<p+57
 ·have hl:(L:Int)<57:=by omega
  have HSH:=zh hsh;clear hL hR h hne hpb hsh hs;go_enter Tryz.func127,Tryz.ntmps127;go_wp2_with fail;refine HLE.out.mono ?_;rintro e w1 ⟨rfl,m,rfl⟩;go_wp2_with fail;go_ret;exact Or.inl ⟨HSH.out,rfl,_,rfl⟩
 ·have hl:¬(L:Int)<57:=by omega
  have hok:p+57<=8*(dr+l.length):=by omega
  have HOK:=zh hok;obtain⟨A,hA⟩:∃A,num (((bitsOf l).drop (p-8*dr)).take 32)=A:=⟨_,rfl⟩
  obtain⟨F,hF⟩:∃F,num (((bitsOf l).drop (p+32-8*dr)).take 1)=F:=⟨_,rfl⟩
  obtain⟨C,hC⟩:∃C,num (((bitsOf l).drop (p+33-8*dr)).take 24)=C:=⟨_,rfl⟩
  have hCb:C<=16777216:=by
   have h1:=ZaB (((bitsOf l).drop (p+33-8*dr)).take 24);have h2:(((bitsOf l).drop (p+33-8*dr)).take 24).length<=24:=by rw [List.length_take];omega
   have h3:=Nat.pow_le_pow_right (n:=2) (by omega) h2;rw [hC] at h1;omega
  have hCw:IntKind.i64.wrap (C:Int)=(C:Int):=IntWalk.i64_in _ (by omega);have HG1:=zh (fun W (k:IsReader W rb v l dr sp p)=>Zce rb v l dr sp p 32 W k hs (by omega) (by omega));have HG2:=zh (fun W (k:IsReader W rb v l dr sp (p+32))=>Zce rb v l dr sp (p+32) 1 W k hs (by omega) (by omega));have HG3:=zh (fun W (k:IsReader W rb v l dr sp (p+33))=>Zce rb v l dr sp (p+33) 24 W k hs (by omega) (by omega));rw [hA] at HG1;rw [hF] at HG2;rw [hC] at HG3;rw [hA,hF,hC];have hrt:Hid (rb≠t):=zh (hne rb (Or.inl rfl));clear hL hR h hne hpb hsh hs hok hA hF hC;by_cases hf0:F=0
  ·have hfb:((F:Int) != 0)=false:=by rw [hf0];rfl
   have HF0:=zh hf0;clear hf0;go_enter Tryz.func127,Tryz.ntmps127;go_wp2_with fail;refine HLE.out.mono ?_;rintro e w1 ⟨rfl,m,hw1⟩;have HR1:Hid (IsReader w1 rb v l dr sp p):=zh (by rw [hw1];exact HR.out.drewN m);have HT1:Hid (Touch (·=rb) w w1):=zh (by rw [hw1];exact Zad _ w m);clear hw1;go_wp2_with fail;refine(HG1.out _ HR1.out).mono ?_;rintro e w2 ⟨rfl,hr2,ht2⟩;have HR2:=zh hr2;have HT2:=zh (HT1.out.trans ht2 (fun i hi=>Or.inl hi));clear hr2 ht2;go_wp2_with fail;refine(HG2.out _ HR2.out).mono ?_;rintro e w3 ⟨rfl,hr3,ht3⟩;have HR3:=zh hr3;have HT3:=zh (HT2.out.trans ht3 (fun i hi=>Or.inl hi));clear hr3 ht3;go_wp2_with fail;refine(HG3.out _ HR3.out).mono ?_;rintro e w4 ⟨rfl,hr4,ht4⟩;have HR4:=zh hr4;have ht5:=HT3.out.trans ht4 (fun i hi=>Or.inl hi);have HT4:=zh ht5;have hk4:=H.out.other ht5 (fun e=>hrt.out e.symm);have HK4:=zh hk4;have c1:=hk4.cell 1;have c2:=hk4.cell 2;have c3:=hk4.cell 3;simp only [bkV] at c1 c2 c3;have f1:=hk4.frozen 1;have f2:=hk4.frozen 2;have f3:=hk4.frozen 3;clear hr4 ht4 ht5 hk4;go_wp2_with fail;go_ret;have hT:Touch (·=t) w4 (((w4.setCell ⟨t,2,none⟩ (.int .u32 (A:Int))).setCell ⟨t,3,none⟩ (.int .i64 (C:Int))).setCell ⟨t,1,none⟩ (.bool true)):=Zaa (Zaa (Zaa (Touch.refl _ _)));exact Or.inr (Or.inr ⟨HOK.out,HF0.out,rfl,HR4.out.other hT (fun k hk e=>HNE.out k hk e),((HK4.out.setSum _).setOrigin _).setBegun _,(HT4.out.mono (fun i hi=>Or.inr hi)).trans hT (fun i hi=>Or.inl (Or.inl hi))⟩)
  ·have hfb:((F:Int) != 0)=true:=by simp;omega
   have HF0:=zh hf0;clear hf0;go_enter Tryz.func127,Tryz.ntmps127;go_wp2_with fail;refine HLE.out.mono ?_;rintro e w1 ⟨rfl,m,hw1⟩;have HR1:Hid (IsReader w1 rb v l dr sp p):=zh (by rw [hw1];exact HR.out.drewN m);have HT1:Hid (Touch (·=rb) w w1):=zh (by rw [hw1];exact Zad _ w m);clear hw1;go_wp2_with fail;refine(HG1.out _ HR1.out).mono ?_;rintro e w2 ⟨rfl,hr2,ht2⟩;have HR2:=zh hr2;have HT2:=zh (HT1.out.trans ht2 (fun i hi=>Or.inl hi));clear hr2 ht2;go_wp2_with fail;refine(HG2.out _ HR2.out).mono ?_;rintro e w3 ⟨rfl,hr3,ht3⟩;have HR3:=zh hr3;have HT3:=zh (HT2.out.trans ht3 (fun i hi=>Or.inl hi));clear hr3 ht3;go_wp2_with fail;refine(HG3.out _ HR3.out).mono ?_;rintro e w4 ⟨rfl,hr4,ht4⟩;have HR4:=zh hr4;have HT4:=zh (HT3.out.trans ht4 (fun i hi=>Or.inl hi));clear hr4 ht4;go_wp2_with fail;go_ret;exact Or.inr (Or.inl ⟨HOK.out,HF0.out,rfl,HR4.out,HT4.out⟩)
end
end
section
open Go.RowKit
def OwnY (W:World) (B:Nat) (v:Value) (l:List UInt8):Prop:=W.ownsRow B 5 1 v l.length (l.map u8v)
theorem OwnY.nil (W:World) (B:Nat):OwnY W B (.slice none 0 0) []:=World.ownsRow_nil _ _ _ _
theorem OwnY.slice {W:World} {B:Nat} {v:Value} {l:List UInt8} (h:OwnY W B v l):∃a cap,v=.slice a l.length cap:=Zax h
theorem OwnY.lt {W:World} {B:Nat} {v:Value} {l:List UInt8} (h:OwnY W B v l):∀k,v.ownBlock=some k->B<=k/\k<W.heap.size:=World.ownsRow.lt h
theorem OwnY.same {W W':World} {B:Nat} {v:Value} {l:List UInt8} (h:OwnY W B v l) (he:∀k,v.ownBlock=some k->W'.heap[k]?=W.heap[k]?):OwnY W' B v l:=Zah h he
theorem ZiC:(Tryz.prog.info? 5).map (fun i=>(i.zero,i.size,i.bytes))=some (some (.int .u8 0),1,1):=by kernel_rfl
theorem ZbP {ops:Array Oper} {o:Oper} {a:Act} {K:Act->World->Prop} {Q:Exit->Act->World->Prop} {E:Prop} (W:World) (hg:o.guard=none) (s x:Operand)
  (ho:o.op=.call { callee:=.builtin .append,args:=#[s,x],argTypes:=#[71,71] })
  (B G:Nat) (v:Value) (l:List UInt8) (y:UInt8) (hown:OwnY W B v l) (hs:a.eval s=v) (hx:a.eval x=.slice (some ⟨G,0,none⟩) 1 1) (hG:W.cell? ⟨G,0,none⟩=some (u8v y))
  (hlen:l.length<=1000000) (hb:B<=W.heap.size)
  (h:∀v' w',OwnY w' B v' (l++[y])->Below B W w'->(∀k,k<W.heap.size->v.ownBlock≠some k->w'.heap[k]?=W.heap[k]?)->(∀k,v'.ownBlock=some k->v.ownBlock=some k\/W.heap.size<=k)->K (a.put o.dst v') w') :
  if Region.wanted o (yielded ops a.tmps)=true then Oper.wp Tryz.prog o a W K Q else E:=by
 obtain⟨i0,hi,hz0,hz1,hz2⟩:=info_parts ZiC;refine ZaS hg s x 71 ho B 5 i0 (.int .u8 0) 1 1 Tryz.underlying71 hi hz0 hz1 hz2 rfl (by decide) v l.length (l.map u8v) hs hown ⟨G,0,none⟩ 1 1 [u8v y] hx rfl ?_ ?_ ?_ ?_ hb ?_
 ·intro j u hu;have hj:j<1:=(List.getElem?_eq_some_iff.1 hu).1;obtain rfl:j=0:=by omega
  have e:u8v y=u:=by simpa using hu
  rw [Addr.add_lit,<-e];exact hG
 ·intro u hu;rw [List.mem_singleton] at hu;subst hu;rfl
 ·unfold maxLen;omega
 ·omega
 ·intro v' w' hown' hg' hv;refine h v' w' ?_ (Below.grown (Below.refl B W) hg' hb (fun j hj=>(World.ownsRow.lt hown j hj).1)) (fun k hk hne=>hg'.block k hk (fun e=>hne e.symm)) hv;unfold OwnY;rw [List.length_append,List.map_append];exact hown'
end
section
open Go.RowKit BitM MtfM
theorem Ztx {ops:Array Oper} {rest:List Oper} {o:Oper} {a:Act} {Q:Exit->Act->World->Prop} (W:World) (hgd:o.guard=none) (s x:Operand)
  (ho:o.op=.call { callee:=.builtin .append,args:=#[s,x],argTypes:=#[71,71] })
  (base:Nat) (v:Value) (zs:List UInt8) (c:UInt8) (C:Int) (hC:C=(c.toNat:Int)) (hown:OwnY W base v zs) (hs:a.eval s=v) (G:Nat) (hG:W.heap.size=G) (hx:a.eval x=.slice (some ⟨G,0,none⟩) 1 1)
  (hlen:zs.length<=1000000) (hb:base<=W.heap.size)
  (h:∀v' w',OwnY w' base v' (zs++[c])->Touch (fun k=>v.ownBlock=some k) W w'->(∀k,v'.ownBlock=some k->v.ownBlock=some k\/W.heap.size<=k)->wpList Tryz.prog ops Q rest (a.put o.dst v') w') :
  wpList Tryz.prog ops Q (o::rest) a (W.alloc (.cells #[.int .u8 C] 5)):=by
 subst hC;subst hG;obtain⟨i0,hi,hz0,hz1,hz2⟩:=info_parts ZiC;refine Zas hgd s x 71 ho base 5 i0 (.int .u8 0) 1 1 Tryz.underlying71 hi hz0 hz1 hz2 rfl (by decide) v zs.length (zs.map u8v) (World.ownsRow.alloc hown _) hs ⟨W.heap.size,0,none⟩ 1 1 [u8v c] hx rfl ?_ ?_ ?_ ?_ ?_ ?_
 ·exact ZaD _ _ _ _ rfl
 ·intro u hu;simp at hu;subst hu;rfl
 ·unfold maxLen;omega
 ·omega
 ·simp;omega
 ·intro v' w' hown' hg hv;refine h v' w' ?_ ?_ (fun k hk=>(hv k hk).imp id (fun h=>by simp at h;omega))
  ·unfold OwnY;rw [List.length_append,List.map_append];exact hown'
  ·exact⟨hg.os,hg.tape,hg.output,by have:=hg.size;simp at this;omega,fun k hk hn=>(hg.block k (by simp;omega) (fun e=>hn e.symm)).trans (Zam hk)⟩
section
variable {t : Nat} {room : Int} {begun : Bool} {sum origin : Int} {row places : Value} {fr ot : Int} {last : Value} {wrong : Int} {done : Bool}
theorem IsBk.setLast {w:World} {list:Value} (h:IsBk w t room begun sum origin list row places fr ot last wrong done) (x:Value):IsBk (w.setCell ⟨t,9,none⟩ x) t room begun sum origin list row places fr ot x wrong done:=⟨heap_setCell_same _ _ 9 _ _ _ h.obj⟩
theorem Zj0 (b i B:Nat) (x:UInt8) (zs ys:List UInt8) (w:World) (h:IsBk w t room begun sum origin (.pointer (some ⟨b,0,none⟩)) row places fr ot last wrong done) (hl:IsList w b zs) (ho:OwnY w B last ys)
  (h0:fr<=1000000000000) (hi:(if 0<fr then 0 else ot)=(i:Int)) (hx:zs[i]?=some x) (hy:ys.length<=1000000) (hB:B<=w.heap.size)
  (hbt:b≠t) (hlt:∀k,last.ownBlock=some k->k≠t/\k≠b) :
  Calls Tryz.prog 126 #[.pointer (some ⟨t,0,none⟩)] w fun e w'=>e=.returned (.tuple #[]) /\
   ∃v',IsBk w' t room begun sum origin (.pointer (some ⟨b,0,none⟩)) row places (if 0<fr then fr-1 else fr) (if 0<fr then ot else 0) v' wrong done/\IsList w' b (touch zs i)/\OwnY w' B v' (ys++[x]) /\
    Touch (fun k=>k=t\/k=b\/last.ownBlock=some k) w w'/\(∀k,v'.ownBlock=some k->last.ownBlock=some k\/w.heap.size<=k):=by
 have hbd:Below w.heap.size w (w.drewN 1):=⟨rfl,rfl,rfl,Nat.le_refl _,fun _ _=>rfl⟩
 have HTD:Hid (Touch (fun k=>k=t\/k=b\/last.ownBlock=some k) w (w.drewN 1)):=zh (Zad _ w 1);have HD:=zh (h.below hbd);have HLD:Hid (IsList (w.drewN 1) b zs):=zh (hl.drewN 1);have HOD:Hid (OwnY (w.drewN 1) B last ys):=zh (ho.same (fun k _=>rfl));have c4:w.cell? ⟨t,4,none⟩=some (.pointer (some ⟨b,0,none⟩)):=h.cell 4;have HI:=zh hi;have HX:=zh hx;have HBT:=zh hbt;have HSP:=zh hlt;have HBB:=zh hB;have HH0:=zh h0;have HY:=zh hy;obtain⟨a,cap,hv⟩:=ho.slice;obtain⟨L,hL⟩:∃L,ys.length=L:=⟨_,rfl⟩
 rw [hL] at hv;obtain⟨fr2,hfr2⟩:∃fr2,(if 0<fr then fr-1 else fr)=fr2:=⟨_,rfl⟩
 obtain⟨ot2,hot2⟩:∃ot2,(if 0<fr then ot else 0)=ot2:=⟨_,rfl⟩
 have HNX:Hid (Calls Tryz.prog 185 #[.pointer (some ⟨t,7,none⟩)] (w.drewN 1) fun e w'=>e=.returned (.int .i64 (i:Int))/\IsBk w' t room begun sum origin (.pointer (some ⟨b,0,none⟩)) row places fr2 ot2 last wrong done/\Touch (·=t) (w.drewN 1) w'):=zh (by
  have:=ZjZ (w.drewN 1) HD.out h0;rw [hi,hfr2,hot2] at this;exact this)
 rw [hfr2,hot2];subst hv;clear h hl ho hi hx hbt hlt hB h0 hy hL hfr2 hot2 hbd;go_enter Tryz.func126,Tryz.ntmps126;go_wp2_with fail
 go_region_held3 (fun W=>W.cell? ⟨t,4,none⟩=some (.pointer (some ⟨b,0,none⟩))) (go_keep)
  (first
   | (go_at_call 185;refine HNX.out.mono ?_;rintro e w1 ⟨rfl,hk1,ht1⟩;have HK1:=zh hk1;have HL1:=zh (HLD.out.other ht1 HBT.out);have HO1:=zh (HOD.out.same (fun k hk=>ht1.block k (HOD.out.lt k hk).2 (HSP.out k hk).1));have HT1:=zh (HTD.out.trans ht1 (fun k hk=>Or.inl (Or.inl hk)));have z4:=hk1.cell 4;simp only [bkV] at z4;clear hk1 ht1)
   | (go_at_call 184;refine(Zp8 b i x zs _ (by exact HL1.out) HX.out).mono ?_;rintro e w2 ⟨rfl,hl2,ht2⟩;have HL2:=zh hl2;have HK2:=zh (HK1.out.other ht2 (fun e=>HBT.out e.symm));have HO2:=zh (HO1.out.same (fun k hk=>ht2.block k (HO1.out.lt k hk).2 (HSP.out k hk).2));have HT2:=zh (HT1.out.trans ht2 (fun k hk=>Or.inl (Or.inr (Or.inl hk))));have y4:=HK2.out.cell 4;simp only [bkV] at y4;clear hl2 ht2))
 all_goals
  have d9:=HK2.out.cell 9;simp only [bkV] at d9;have f9:=HK2.out.frozen 9;have hb2:B<=w2.heap.size:=Nat.le_trans HBB.out HT2.out.size;clear y4 z4 c4 HNX;go_wp2_with (at_builtin;go_loud (refine Ztx w2 rfl _ _ rfl B (.slice a L cap) ys x _ rfl HO2.out rfl w2.heap.size rfl rfl HY.out hb2 ?_));intro v5 w5 hO5 hT5 hv5;have HK5:=zh (HK2.out.other hT5 (fun e=>(HSP.out t e).1 rfl));have HL5:=zh (HL2.out.other hT5 (fun e=>(HSP.out b e).2 rfl));have HO5:=zh hO5;have HT5:=zh (HT2.out.trans hT5 (fun k hk=>Or.inl (Or.inr (Or.inr hk))));have HV5:Hid (∀k,v5.ownBlock=some k->(Value.slice a L cap).ownBlock=some k\/w.heap.size<=k):=zh (fun k hk=>(hv5 k hk).imp id (fun e=>Nat.le_trans HT2.out.size e))
  have hVT:Hid (∀k,v5.ownBlock=some k->k≠t):=zh (fun k hk e=>by
   rcases hv5 k hk with h|h
   ·exact(HSP.out k h).1 e
   ·have:=HK2.out.lt;omega)
  have g9:=HK5.out.cell 9;simp only [bkV] at g9;have k9:=HK5.out.frozen 9;obtain⟨a5,cap5,hv⟩:=hO5.slice;obtain⟨L5,hL5⟩:∃L5,(ys++[x]).length=L5:=⟨_,rfl⟩
  rw [hL5] at hv;subst hv;clear hO5 hT5 hv5 d9 f9 hL5 hb2;go_wp2_with fail;have hT6:Touch (·=t) w5 (w5.setCell ⟨t,9,none⟩ (.slice a5 L5 cap5)):=Zaa (Touch.refl _ _);refine bodyPost_end (results_none rfl _ _ _) rfl ⟨rfl,_,HK5.out.setLast _,HL5.out.other hT6 (fun e=>HBT.out e),HO5.out.same (fun k hk=>hT6.block k (HO5.out.lt k hk).2 (hVT.out k hk)),HT5.out.trans hT6 (fun k hk=>Or.inl (Or.inl hk)),HV5.out⟩
end
end
section
open Go.RowKit ZerM
def IsZR (w:World) (b:Nat) (n:Int) (most:Nat) (s:St):Prop:=
 w.heap[b]?=some (.cells #[.int .i64 n,.int .i64 (most:Int),.int .i64 (cnt s:Int),.int .i64 (val s.rc:Int),.int .i64 (s.rc.length:Int),.bool s.done] 290 (0,0))
theorem IsZR.cells {w:World} {b:Nat} {n:Int} {most:Nat} {s:St} (h:IsZR w b n most s) :
  w.cell? ⟨b,0,none⟩=some (.int .i64 n)/\w.cell? ⟨b,1,none⟩=some (.int .i64 (most:Int))/\w.cell? ⟨b,2,none⟩=some (.int .i64 (cnt s:Int))/\w.cell? ⟨b,3,none⟩=some (.int .i64 (val s.rc:Int)) /\
  w.cell? ⟨b,4,none⟩=some (.int .i64 (s.rc.length:Int))/\w.cell? ⟨b,5,none⟩=some (.bool s.done) /\
  w.frozen? ⟨b,2,none⟩=false/\w.frozen? ⟨b,3,none⟩=false/\w.frozen? ⟨b,4,none⟩=false/\w.frozen? ⟨b,5,none⟩=false:=by
 refine⟨?_,?_,?_,?_,?_,?_,frozen_of_row _ _ _ _ _ h,frozen_of_row _ _ _ _ _ h,frozen_of_row _ _ _ _ _ h,frozen_of_row _ _ _ _ _ h⟩<;>(rw [cell_of_row _ _ _ _ _ _ h];rfl)
theorem IsZR.lt {w:World} {b:Nat} {n:Int} {most:Nat} {s:St} (h:IsZR w b n most s):b<w.heap.size:=(Array.getElem?_eq_some_iff.1 h).1
theorem IsZR.other {w w':World} {b:Nat} {n:Int} {most:Nat} {s:St} (h:IsZR w b n most s) {S:Nat->Prop} (ht:Touch S w w') (hS:¬S b):IsZR w' b n most s:=(ht.block b h.lt hS).trans h
theorem IsZR.drewN {w:World} {b:Nat} {n:Int} {most:Nat} {s:St} (h:IsZR w b n most s) (m:Nat):IsZR (w.drewN m) b n most s:=h
theorem Zou (c n:Int) (w:World) (h1:1<=n) (h2:n<=256) (h:c<0\/n+1<c):Calls Tryz.prog 238 #[.int .i64 c,.int .i64 n] w fun e w'=>e=.returned (.int .i64 0)/\w=w':=by
 have hw:IntKind.i64.wrap (n+1)=n+1:=IntWalk.i64_in _ (by omega);by_cases h0:c<0
 ·go_enter Tryz.func238,Tryz.ntmps238;go_wp2_with fail;go_ret;exact⟨rfl,rfl⟩
 ·have h3:n+1<c:=by omega
  clear h;go_enter Tryz.func238,Tryz.ntmps238;go_wp2_with fail;go_ret;exact⟨rfl,rfl⟩
theorem Zov (c n:Int) (w:World) (h1:1<=n) (h2:n<=256) (h3:0<=c) (h4:c<2):Calls Tryz.prog 238 #[.int .i64 c,.int .i64 n] w fun e w'=>e=.returned (.int .i64 1)/\w=w':=by
 have hw:IntKind.i64.wrap (n+1)=n+1:=IntWalk.i64_in _ (by omega);have h5:c<=n+1:=by omega
 have h6:c<=1:=by omega
 go_enter Tryz.func238,Tryz.ntmps238;go_wp2_with fail;go_ret;exact⟨rfl,rfl⟩
theorem ZqH (c n:Int) (w:World) (h1:1<=n) (h2:n<=256) (h3:2<=c) (h4:c<=n):Calls Tryz.prog 238 #[.int .i64 c,.int .i64 n] w fun e w'=>e=.returned (.int .i64 2)/\w=w':=by
 have hw:IntKind.i64.wrap (n+1)=n+1:=IntWalk.i64_in _ (by omega);have h5:c<=n+1:=by omega
 have h6:1<c:=by omega
 have h7:¬c<0:=by omega
 go_enter Tryz.func238,Tryz.ntmps238;go_wp2_with fail;go_ret;exact⟨rfl,rfl⟩
theorem ZqI (n:Int) (w:World) (h1:1<=n) (h2:n<=256):Calls Tryz.prog 238 #[.int .i64 (n+1),.int .i64 n] w fun e w'=>e=.returned (.int .i64 3)/\w=w':=by
 obtain⟨c,hc⟩:∃c,n+1=c:=⟨_,rfl⟩
 rw [hc];have hw:IntKind.i64.wrap (n+1)=c:=by rw [hc];exact IntWalk.i64_in _ (by omega)
 have h6:1<c:=by omega
 have h7:¬c<0:=by omega
 have h8:n<c:=by omega
 clear hc;go_enter Tryz.func238,Tryz.ntmps238;go_wp2_with fail;go_ret;exact⟨rfl,rfl⟩
theorem ZiD (b:Nat) (n:Int) (most:Nat) (s:St) (c:Int) (X:Nat) (w:World) (h:IsZR w b n most s) (hc:c=0\/c=1) (hL:s.rc.length<=40) (hX:(1+c.toNat)*2^s.rc.length=X) :
  Calls Tryz.prog 239 #[.pointer (some ⟨b,0,none⟩),.int .i64 1,.int .i64 c] w fun e w'=>e=.returned (.int .i64 (X:Int))/\w=w':=by
 obtain⟨c0,c1,c2,c3,c4,c5,_⟩:=h.cells;clear h;generalize s.rc.length=L at *;have hp:2^L<=2^40:=Nat.pow_le_pow_right (by omega) hL;obtain⟨P,hP⟩:∃P,2^L=P:=⟨_,rfl⟩
 have hPI:(2:Int)^L=(P:Int):=by rw [<-hP];simp
 rw [hP] at hp hX;simp at hp;have hLI:(L:Int)<=40:=by omega
 have ht:(L:Int).toNat=L:=by simp
 clear hP;rcases hc with rfl|rfl
 ·obtain rfl:P=X:=by simpa using hX
  have hw:IntKind.i64.wrap (P:Int)=(P:Int):=IntWalk.i64_in _ (by omega);clear hX;go_enter Tryz.func239,Tryz.ntmps239;go_wp2_with fail;go_ret;exact⟨rfl,rfl⟩
 ·have hX2:(2:Int)*(P:Int)=(X:Int):=by simp at hX;omega
  have hw:IntKind.i64.wrap (X:Int)=(X:Int):=IntWalk.i64_in _ (by omega);clear hX;go_enter Tryz.func239,Tryz.ntmps239;go_wp2_with fail;go_ret;exact⟨rfl,rfl⟩
theorem Zj1 (v c:Value) (w:World):Calls Tryz.prog 239 #[v,.int .i64 2,c] w fun e w'=>e=.returned (.int .i64 1)/\w=w':=by
 go_enter Tryz.func239,Tryz.ntmps239;go_wp2_with fail;go_ret;exact⟨rfl,rfl⟩
theorem Zj2 (v c:Value) (w:World):Calls Tryz.prog 239 #[v,.int .i64 3,c] w fun e w'=>e=.returned (.int .i64 0)/\w=w':=by
 go_enter Tryz.func239,Tryz.ntmps239;go_wp2_with fail;go_ret;exact⟨rfl,rfl⟩
def ZPutP (n:Int) (most:Nat) (s:St) (c:Int) (b:Nat) (w:World) (e:Ending) (w':World):Prop:=
 Touch (·=b) w w'/\((putE n most s c=0/\e=.returned (.tuple #[.int .i64 (putZ s c:Int),.int .i64 (putP n c),.int .i64 0])/\IsZR w' b n most (putS n s c)) \/
  (putE n most s c≠0/\e=.returned (.tuple #[.int .i64 0,.int .i64 0,.int .i64 (putE n most s c:Int)])/\IsZR w' b n most s))
theorem ZqJ {w:World} {b:Nat} {n:Int} {most:Nat} {s:St} {C V L:Int} {D:Bool}
  (h:w.heap[b]?=some (.cells #[.int .i64 n,.int .i64 (most:Int),.int .i64 C,.int .i64 V,.int .i64 L,.bool D] 290 (0,0)))
  (hC:(cnt s:Int)=C) (hV:(val s.rc:Int)=V) (hL:(s.rc.length:Int)=L) (hD:s.done=D):IsZR w b n most s:=by
 subst hC hV hL hD;exact h
theorem Zow (b:Nat) (n:Int) (most:Nat) (s:St) (c:Int) (w:World) (h:IsZR w b n most s) (h1:1<=n) (h2:n<=256) (hs:s.done=true\/c<0\/n+1<c) :
  Calls Tryz.prog 192 #[.pointer (some ⟨b,0,none⟩),.int .i64 c] w (ZPutP n most s c b w):=by
 have H:=zh h;obtain⟨c0,c1,c2,c3,c4,c5,_⟩:=h.cells;clear h;by_cases hd:s.done=true
 ·have hE:Hid (putE n most s c=7):=zh (by unfold putE;rw [if_pos hd]);rw [hd] at c5;clear hs;go_enter Tryz.func192,Tryz.ntmps192;go_wp2_with fail;go_ret3;exact⟨Touch.refl _ _,Or.inr ⟨by rw [hE.out];decide,by rw [hE.out];rfl,H.out⟩⟩
 ·have hc:c<0\/n+1<c:=by rcases hs with h|h;exact absurd h hd;exact h
  have hE:Hid (putE n most s c=25):=zh (by unfold putE;rw [if_neg hd,if_pos hc]);have HK:=zh (Zou c n w h1 h2 hc);rw [show s.done=false by simpa using hd] at c5;clear hs hc;go_enter Tryz.func192,Tryz.ntmps192;go_wp2_with fail;refine HK.out.mono ?_;rintro e w' ⟨rfl,rfl⟩;go_wp2_with fail;go_ret3;exact⟨Touch.refl _ _,Or.inr ⟨by rw [hE.out];decide,by rw [hE.out];rfl,H.out⟩⟩
theorem Zox (b:Nat) (n:Int) (most:Nat) (s:St) (c:Int) (w:World) (h:IsZR w b n most s) (h1:1<=n) (h2:n<=256) (hok:Ok most s) (hm:most<=1099511627776) (hd:s.done=false) (hc0:0<=c) (hc2:c<2) :
  Calls Tryz.prog 192 #[.pointer (some ⟨b,0,none⟩),.int .i64 c] w (ZPutP n most s c b w):=by
 have H:=zh h;obtain⟨c0,c1,c2,c3,c4,c5,f2,f3,f4,f5⟩:=h.cells;obtain⟨X,hX⟩:∃X,(1+c.toNat)*2^s.rc.length=X:=⟨_,rfl⟩
 have hL:=hok.len hm;have HK:=zh (Zov c n w h1 h2 hc0 hc2);have HF:=zh (ZiD b n most s c X w h (by omega) hL hX)
 have hXl:X<=2199023255552:=by
  have hp:2^s.rc.length<=2^40:=Nat.pow_le_pow_right (by omega) hL;rw [<-hX];simp at hp;rcases(show c=0\/c=1 by omega) with rfl|rfl<;>(simp;omega)
 have hcl:=hok.le;have hcv:val s.rc<=cnt s:=by unfold cnt;omega
 have hcnt:cnt (putS n s c)=cnt s+X:=by rw [Zlm hc2,hX]
 have hval:val (putS n s c).rc=val s.rc+X:=by rw [putS_part hc2];simp only [];rw [Zhf,hX]
 have hlen:(putS n s c).rc.length=s.rc.length+1:=by rw [putS_part hc2];simp
 have hdn:(putS n s c).done=false:=by rw [putS_part hc2]
 have hZ:putZ s c=0:=by unfold putZ;rw [if_pos hc2]
 have hP:putP n c=-1:=by unfold putP;rw [if_pos (Or.inl hc2)]
 have HZ:=zh hZ;have HP:=zh hP;rw [hd] at c5;by_cases hov:most<cnt s+X
 ·have hE:Hid (putE n most s c=2):=zh (by unfold putE;rw [if_neg (by simp [hd]),if_neg (by omega),if_pos (by omega)]);have hov2:(most:Int)<(cnt s:Int)+(X:Int):=by omega
  have hw1:IntKind.i64.wrap ((cnt s:Int)+(X:Int))=(cnt s:Int)+(X:Int):=IntWalk.i64_in _ (by omega);clear h hX hcnt hval hlen hdn hZ hP hok hd;generalize cnt s=C at *;generalize val s.rc=V at *;generalize s.rc.length=L at *;go_enter Tryz.func192,Tryz.ntmps192;go_wp2_with fail;refine HK.out.mono ?_;rintro e w' ⟨rfl,rfl⟩;go_wp2_with fail;refine HF.out.mono ?_;rintro e w' ⟨rfl,rfl⟩;go_wp2_with fail
  go_quiet (fail)
  go_wp2_with fail;go_ret3;exact⟨Zad _ _ _,Or.inr ⟨by rw [hE.out];decide,by rw [hE.out];rfl,H.out.drewN _⟩⟩
 ·have hE:Hid (putE n most s c=0):=zh (Zby hd hc0 (by omega) (by omega));have hov2:¬(most:Int)<(cnt s:Int)+(X:Int):=by omega
  have hw1:IntKind.i64.wrap ((cnt s:Int)+(X:Int))=(cnt s:Int)+(X:Int):=IntWalk.i64_in _ (by omega);have hw2:IntKind.i64.wrap ((val s.rc:Int)+(X:Int))=(val s.rc:Int)+(X:Int):=IntWalk.i64_in _ (by omega);have hw3:IntKind.i64.wrap ((s.rc.length:Int)+1)=(s.rc.length:Int)+1:=IntWalk.i64_in _ (by omega);have hcI:Hid ((cnt (putS n s c):Int)=(cnt s:Int)+(X:Int)):=zh (by rw [hcnt];simp);have hvI:Hid ((val (putS n s c).rc:Int)=(val s.rc:Int)+(X:Int)):=zh (by rw [hval];simp);have hlI:Hid (((putS n s c).rc.length:Int)=(s.rc.length:Int)+1):=zh (by rw [hlen];simp);have hdI:=zh hdn
  have hH:Hid (w.heap[b]?=some (.cells #[.int .i64 n,.int .i64 (most:Int),.int .i64 (cnt s:Int),.int .i64 (val s.rc:Int),.int .i64 (s.rc.length:Int),.bool false] 290 (0,0))):=zh (by
   have:=h;unfold IsZR at this;rw [hd] at this;exact this)
  clear h hX hcnt hval hlen hdn hZ hP hok hd;generalize cnt s=C at *;generalize val s.rc=V at *;generalize s.rc.length=L at *;go_enter Tryz.func192,Tryz.ntmps192;go_wp2_with fail;refine HK.out.mono ?_;rintro e w' ⟨rfl,rfl⟩;go_wp2_with fail;refine HF.out.mono ?_;rintro e w' ⟨rfl,rfl⟩;go_wp2_with fail
  go_quiet (fail)
  go_wp2_with fail;go_ret3;refine⟨Zaa (Zaa (Zaa (Zad _ _ _))),Or.inl ⟨hE.out,by rw [HZ.out,HP.out];rfl,?_⟩⟩;refine ZqJ (heap_setCell_same _ b 4 _ _ _ (heap_setCell_same _ b 3 _ _ _ (heap_setCell_same _ b 2 _ _ _ hH.out))) hcI.out hvI.out hlI.out hdI.out
theorem ZqK (b:Nat) (n:Int) (most:Nat) (s:St) (w:World) (h:IsZR w b n most s) (h1:1<=n) (h2:n<=256) (hok:Ok most s) (hm:most<=1099511627776) (hd:s.done=false) :
  Calls Tryz.prog 192 #[.pointer (some ⟨b,0,none⟩),.int .i64 (n+1)] w (ZPutP n most s (n+1) b w):=by
 have H:=zh h;obtain⟨c0,c1,c2,c3,c4,c5,f2,f3,f4,f5⟩:=h.cells;have HK:=zh (ZqI n w h1 h2);have HF:=zh (Zj2 (.pointer (some ⟨b,0,none⟩)) (.int .i64 (n+1)) w);have hcl:=hok.le;have hn2:¬n+1<2:=by omega
 have hcnt:cnt (putS n s (n+1))=cnt s:=ZjI hn2 rfl;have hval:val (putS n s (n+1)).rc=0:=by rw [putS_end hn2 rfl];rfl
 have hlen:(putS n s (n+1)).rc.length=0:=by rw [putS_end hn2 rfl];rfl
 have hdn:(putS n s (n+1)).done=true:=by rw [putS_end hn2 rfl]
 have HZ:Hid (putZ s (n+1)=val s.rc):=zh (by unfold putZ;rw [if_neg hn2]);have HP:Hid (putP n (n+1)=-1):=zh (by unfold putP;rw [if_pos (Or.inr rfl)]);rw [hd] at c5;have hE:Hid (putE n most s (n+1)=0):=zh (Zby hd (by omega) (by omega) (by omega));have hov2:¬(most:Int)<(cnt s:Int):=by omega
 have hw1:IntKind.i64.wrap (cnt s:Int)=(cnt s:Int):=IntWalk.i64_in _ (by omega);have hcI:Hid ((cnt (putS n s (n+1)):Int)=(cnt s:Int)):=zh (by rw [hcnt]);have hvI:Hid ((val (putS n s (n+1)).rc:Int)=0):=zh (by rw [hval];rfl);have hlI:Hid (((putS n s (n+1)).rc.length:Int)=0):=zh (by rw [hlen];rfl);have hdI:=zh hdn
 have hH:Hid (w.heap[b]?=some (.cells #[.int .i64 n,.int .i64 (most:Int),.int .i64 (cnt s:Int),.int .i64 (val s.rc:Int),.int .i64 (s.rc.length:Int),.bool false] 290 (0,0))):=zh (by
  have:=h;unfold IsZR at this;rw [hd] at this;exact this)
 clear h hcnt hval hlen hdn hok hd;generalize cnt s=C at *;generalize val s.rc=V at *;generalize s.rc.length=L at *;generalize n+1=c at *;go_enter Tryz.func192,Tryz.ntmps192;go_wp2_with fail;refine HK.out.mono ?_;rintro e w' ⟨rfl,rfl⟩;go_wp2_with fail;refine HF.out.mono ?_;rintro e w' ⟨rfl,rfl⟩;go_wp2_with fail
 go_quiet (fail)
 go_wp2_with fail;go_ret3;refine⟨Zaa (Zaa (Zaa (Zaa (Zad _ _ _)))),Or.inl ⟨hE.out,by rw [HZ.out,HP.out];rfl,?_⟩⟩;refine ZqJ (heap_setCell_same _ b 5 _ _ _ (heap_setCell_same _ b 4 _ _ _ (heap_setCell_same _ b 3 _ _ _ (heap_setCell_same _ b 2 _ _ _ hH.out)))) hcI.out hvI.out hlI.out hdI.out
theorem ZqL (b:Nat) (n:Int) (most:Nat) (s:St) (c:Int) (w:World) (h:IsZR w b n most s) (h1:1<=n) (h2:n<=256) (hok:Ok most s) (hm:most<=1099511627776) (hd:s.done=false) (hc0:2<=c) (hc2:c<=n) :
  Calls Tryz.prog 192 #[.pointer (some ⟨b,0,none⟩),.int .i64 c] w (ZPutP n most s c b w):=by
 have H:=zh h;obtain⟨c0,c1,c2,c3,c4,c5,f2,f3,f4,f5⟩:=h.cells;have HK:=zh (ZqH c n w h1 h2 hc0 hc2);have HF:=zh (Zj1 (.pointer (some ⟨b,0,none⟩)) (.int .i64 c) w);have hcl:=hok.le;have hn2:¬c<2:=by omega
 have hn3:c≠n+1:=by omega
 have hcnt:cnt (putS n s c)=cnt s+1:=ZjJ hn2 hn3;have hval:val (putS n s c).rc=0:=by rw [putS_one hn2 hn3];rfl
 have hlen:(putS n s c).rc.length=0:=by rw [putS_one hn2 hn3];rfl
 have hdn:(putS n s c).done=false:=by rw [putS_one hn2 hn3]
 have HZ:Hid (putZ s c=val s.rc):=zh (by unfold putZ;rw [if_neg hn2]);have HP:Hid (putP n c=c-1):=zh (by unfold putP;rw [if_neg (by omega)]);rw [hd] at c5;have hw1:IntKind.i64.wrap ((cnt s:Int)+1)=(cnt s:Int)+1:=IntWalk.i64_in _ (by omega);by_cases hov:most<cnt s+1
 ·have hE:Hid (putE n most s c=2):=zh (by unfold putE;rw [if_neg (by simp [hd]),if_neg (by omega),if_pos (by omega)]);have hov2:(most:Int)<(cnt s:Int)+1:=by omega
  clear h hcnt hval hlen hdn hok hd;generalize cnt s=C at *;generalize val s.rc=V at *;generalize s.rc.length=L at *;go_enter Tryz.func192,Tryz.ntmps192;go_wp2_with fail;refine HK.out.mono ?_;rintro e w' ⟨rfl,rfl⟩;go_wp2_with fail;refine HF.out.mono ?_;rintro e w' ⟨rfl,rfl⟩;go_wp2_with fail
  go_quiet (fail)
  go_wp2_with fail;go_ret3;exact⟨Zad _ _ _,Or.inr ⟨by rw [hE.out];decide,by rw [hE.out];rfl,H.out.drewN _⟩⟩
 ·have hE:Hid (putE n most s c=0):=zh (Zby hd (by omega) (by omega) (by omega));have hov2:¬(most:Int)<(cnt s:Int)+1:=by omega
  have hw2:IntKind.i64.wrap (c-1)=c-1:=IntWalk.i64_in _ (by omega);have hcI:Hid ((cnt (putS n s c):Int)=(cnt s:Int)+1):=zh (by rw [hcnt];simp);have hvI:Hid ((val (putS n s c).rc:Int)=0):=zh (by rw [hval];rfl);have hlI:Hid (((putS n s c).rc.length:Int)=0):=zh (by rw [hlen];rfl);have hdI:=zh hdn
  have hH:Hid (w.heap[b]?=some (.cells #[.int .i64 n,.int .i64 (most:Int),.int .i64 (cnt s:Int),.int .i64 (val s.rc:Int),.int .i64 (s.rc.length:Int),.bool false] 290 (0,0))):=zh (by
   have:=h;unfold IsZR at this;rw [hd] at this;exact this)
  clear h hcnt hval hlen hdn hok hd;generalize cnt s=C at *;generalize val s.rc=V at *;generalize s.rc.length=L at *;go_enter Tryz.func192,Tryz.ntmps192;go_wp2_with fail;refine HK.out.mono ?_;rintro e w' ⟨rfl,rfl⟩;go_wp2_with fail;refine HF.out.mono ?_;rintro e w' ⟨rfl,rfl⟩;go_wp2_with fail
  go_quiet (fail)
  go_wp2_with fail;go_ret3;refine⟨Zaa (Zaa (Zaa (Zad _ _ _))),Or.inl ⟨hE.out,by rw [HZ.out,HP.out];rfl,?_⟩⟩;refine ZqJ (heap_setCell_same _ b 4 _ _ _ (heap_setCell_same _ b 3 _ _ _ (heap_setCell_same _ b 2 _ _ _ hH.out))) hcI.out hvI.out hlI.out hdI.out
theorem ZqM (b:Nat) (n:Int) (most:Nat) (s:St) (c:Int) (w:World) (h:IsZR w b n most s) (h1:1<=n) (h2:n<=256) (hok:Ok most s) (hm:most<=1099511627776) :
  Calls Tryz.prog 192 #[.pointer (some ⟨b,0,none⟩),.int .i64 c] w (ZPutP n most s c b w):=by
 by_cases hs:s.done=true\/c<0\/n+1<c
 ·exact Zow b n most s c w h h1 h2 hs
 ·have hd:s.done=false:=by
   rw [Bool.eq_false_iff];exact fun e=>hs (Or.inl e)
  by_cases hc2:c<2
  ·exact Zox b n most s c w h h1 h2 hok hm hd (by omega) hc2
  ·by_cases hc3:c=n+1
   ·subst hc3;exact ZqK b n most s w h h1 h2 hok hm hd
   ·exact ZqL b n most s c w h h1 h2 hok hm hd (by omega) (by omega)
theorem ZtP (n most:Int) (w:World) (h:¬DecOk n most):Calls Tryz.prog 190 #[.int .i64 n,.int .i64 most] w fun e w'=>e=.returned (.tuple #[.pointer none,.int .i64 1])/\w=w':=by
 by_cases hn:1<=n/\n<=256
 ·have HS:=zh (Zb1 n true w ⟨fun _=>hn,fun _=>rfl⟩);by_cases h0:most<0
  ·clear h hn;go_enter Tryz.func190,Tryz.ntmps190;go_wp2_with fail;refine HS.out.mono ?_;rintro e w1 ⟨rfl,rfl⟩;go_wp2_with fail;go_ret2;exact⟨rfl,rfl⟩
  ·have h1:1099511627776<most:=by
    have:¬most<=1099511627776:=fun h1=>h ⟨hn.1,hn.2,by omega,h1⟩
    omega
   clear h hn;go_enter Tryz.func190,Tryz.ntmps190;go_wp2_with fail;refine HS.out.mono ?_;rintro e w1 ⟨rfl,rfl⟩;go_wp2_with fail;go_ret2;exact⟨rfl,rfl⟩
 ·have HS:=zh (Zb1 n false w ⟨fun e=>(by cases e),fun e=>absurd e hn⟩);clear h hn;go_enter Tryz.func190,Tryz.ntmps190;go_wp2_with fail;refine HS.out.mono ?_;rintro e w1 ⟨rfl,rfl⟩;go_wp2_with fail;go_ret2;exact⟨rfl,rfl⟩
theorem Zty (w:World) (n:Int) (most:Nat):IsZR (w.alloc (.cells #[.int .i64 n,.int .i64 (most:Int),.int .i64 0,.int .i64 0,.int .i64 0,.bool false] 290)) w.heap.size n most ini:=
 ZqJ (heap_alloc_new w _) rfl rfl rfl rfl
theorem Zsy (n:Int) (most:Nat) (w:World) (h:DecOk n most):Calls Tryz.prog 190 #[.int .i64 n,.int .i64 (most:Int)] w fun e w'=>e=.returned (.tuple #[.pointer (some ⟨w.heap.size,0,none⟩),.int .i64 0])/\IsZR w' w.heap.size n most ini/\Below w.heap.size w w':=by
 have HS:=zh (Zb1 n true w ⟨fun _=>⟨h.1,h.2.1⟩,fun _=>rfl⟩);have h1:=h.2.2.2;have h0:¬(most:Int)<0:=by omega
 have h2:¬(1099511627776:Int)<(most:Int):=by omega
 clear h;go_enter Tryz.func190,Tryz.ntmps190;go_wp2_with fail;refine HS.out.mono ?_;rintro e w1 ⟨rfl,rfl⟩;go_wp2_with fail;go_ret2;exact⟨rfl,Zty _ _ _,(Below.refl _ _).alloc (Nat.le_refl _) _⟩
end
section
open Go.RowKit
theorem Zaz {P:Program} {ops:Array Oper} {rest:List Oper} {o:Oper} {a:Act} {w:World} {Q:Exit->Act->World->Prop} (hg:o.guard=none) (t:TypeId) (n m k:Nat) (y z x:Operand) (ho:o.op=.build t #[(n,y),(m,z),(k,x)]) (v u r:Value) (hy:a.eval y=v) (hz:a.eval z=u) (hx:a.eval x=r) (Z:Array Value)
  (hb:P.built t [(n,v),(m,u),(k,r)]=some Z) (h:wpList P ops Q rest (a.put o.dst (.agg Z)) w):wpList P ops Q (o::rest) a w:=by
 subst hy hz hx;refine wpList_build hg t #[(n,y),(m,z),(k,x)] ho ?_ ?_
 ·simp [hb]
 ·simpa [hb] using h
end
section
open Go.RowKit BitM
section
variable {t : Nat} {room : Int} {begun : Bool} {sum origin : Int} {list row places : Value} {fr ot : Int} {last : Value} {wrong : Int}
def gotV (ys:List UInt8) (o s:Int):Array Value:=#[.string ⟨ys.toArray⟩,.int .i64 o,.int .u32 s]
theorem ZmG (B:Nat) (ys:List UInt8) (w:World) (h:IsBk w t room begun sum origin list row places fr ot last wrong true) (ho:OwnY w B last ys) :
  Calls Tryz.prog 32 #[.pointer (some ⟨t,0,none⟩)] w fun e w'=>e=.returned (.agg (gotV ys origin sum))/\Below w.heap.size w w':=by
 obtain⟨wq,hwq⟩:∃wq,w.alloc (.cells #[.string ⟨#[]⟩,.int .i64 0,.int .u32 0] 34)=wq:=⟨_,rfl⟩
 have hbq:Below w.heap.size w wq:=by rw [<-hwq];exact(Below.refl _ _).alloc (Nat.le_refl _) _
 have hr0:wq.heap[w.heap.size]?=some (.cells got0 34 (0,0)):=by rw [<-hwq];exact heap_alloc_new _ _
 have HD:=zh (Zde wq (h.below hbq));have k:=h.below hbq;have hoq:OwnY wq B last ys:=ho.same (fun k hk=>hbq.block k (ho.lt k hk).2);obtain⟨S,hS⟩:∃S:ByteArray,(⟨ys.toArray⟩:ByteArray)=S:=⟨_,rfl⟩
 have HSB:Hid (∀W,Below w.heap.size w W->W.cell? ⟨t,9,none⟩=some last/\W.cell? ⟨t,3,none⟩=some (.int .i64 origin)/\W.cell? ⟨t,2,none⟩=some (.int .u32 sum)/\(convert 71 9 last).run Tryz.prog W=.ok (.string S) W):=zh (fun W hb=>by
  have k:=h.below hb;have c2:=k.cell 2;have c3:=k.cell 3;have c9:=k.cell 9;have hv:=ZeJ (W:=W) (ho.same (W':=W) (fun k hk=>hb.block k (ho.lt k hk).2));rw [hS] at hv;exact⟨c9,c3,c2,hv⟩)
 have hbt:Tryz.prog.built 34 [(0,.string S),(1,.int .i64 origin),(2,.int .u32 sum)]=some #[.string S,.int .i64 origin,.int .u32 sum]:=by kernel_rfl
 have HSS:=zh hS;have HBQ:=zh hbq;obtain⟨a,cap,hv⟩:=hoq.slice;obtain⟨L,hL⟩:∃L,ys.length=L:=⟨_,rfl⟩
 rw [hL] at hv;subst hv;clear h ho k hoq hbq hS hL;go_enter Tryz.func32,Tryz.ntmps32;go_wp2_with fail;refine HD.out.mono ?_;rintro e w1 ⟨rfl,hw1⟩;obtain rfl:=hw1.symm;clear HD hwq;go_wp2_with fail;have hbd:Below w.heap.size w wq.drew:=HBQ.out.trans ⟨rfl,rfl,rfl,Nat.le_refl _,fun _ _=>rfl⟩;have hbs:∀x y z,Below w.heap.size w (((wq.drew.setCell ⟨w.heap.size,0,none⟩ x).setCell ⟨w.heap.size,1,none⟩ y).setCell ⟨w.heap.size,2,none⟩ z):=fun x y z=>((hbd.setCell (p:=⟨w.heap.size,0,none⟩) (Nat.le_refl _) x).setCell (p:=⟨w.heap.size,1,none⟩) (Nat.le_refl _) y).setCell (p:=⟨w.heap.size,2,none⟩) (Nat.le_refl _) z
 obtain⟨k9,k3,k2,kv⟩:=HSB.out _ hbd;have hbr:∀cs,Below w.heap.size w (wq.drew.setRow w.heap.size cs):=fun cs=>hbd.trans ⟨rfl,rfl,rfl,by simp [World.setRow],fun j hj=>setRow_other _ _ j _ (by omega)⟩
 have hr1:wq.drew.heap[w.heap.size]?=some (.cells got0 34 (0,0)):=hr0;have e0:wq.drew.cell? ⟨w.heap.size,0,none⟩=some (.string ⟨#[]⟩):=by rw [cell_of_row _ _ 0 _ _ _ hr1];rfl
 have e1:wq.drew.cell? ⟨w.heap.size,1,none⟩=some (.int .i64 0):=by rw [cell_of_row _ _ 1 _ _ _ hr1];rfl
 have e2:wq.drew.cell? ⟨w.heap.size,2,none⟩=some (.int .u32 0):=by rw [cell_of_row _ _ 2 _ _ _ hr1];rfl
 have q0:wq.drew.frozen? ⟨w.heap.size,0,none⟩=false:=frozen_of_row _ _ _ _ _ hr1;have q1:wq.drew.frozen? ⟨w.heap.size,1,none⟩=false:=frozen_of_row _ _ _ _ _ hr1;have q2:wq.drew.frozen? ⟨w.heap.size,2,none⟩=false:=frozen_of_row _ _ _ _ _ hr1;have e0':wq.cell? ⟨w.heap.size,0,none⟩=some (.string ⟨#[]⟩):=e0;have e1':wq.cell? ⟨w.heap.size,1,none⟩=some (.int .i64 0):=e1;have e2':wq.cell? ⟨w.heap.size,2,none⟩=some (.int .u32 0):=e2;have q0':wq.frozen? ⟨w.heap.size,0,none⟩=false:=q0;have q1':wq.frozen? ⟨w.heap.size,1,none⟩=false:=q1;have q2':wq.frozen? ⟨w.heap.size,2,none⟩=false:=q2;have HR1:=zh hr1;clear hr1
 go_region_held3 (fun W=>W.cell? ⟨t,9,none⟩=some (.slice a L cap)/\W.cell? ⟨t,3,none⟩=some (.int .i64 origin)/\W.cell? ⟨t,2,none⟩=some (.int .u32 sum)/\(convert 71 9 (.slice a L cap)).run Tryz.prog W=.ok (.string S) W)
  (first|exact HSB.out _ hbd|exact HSB.out _ (hbr _)|exact HSB.out _ (hbs _ _ _))
  (first|(refine Zaz rfl 34 0 1 2 _ _ _ rfl _ _ _ rfl rfl rfl _ hbt ?_))
 go_wp2_with fail;have hf:=heap_setCell_same _ _ 2 _ _ (.int .u32 sum) (heap_setCell_same _ _ 1 _ _ (.int .i64 origin) (heap_setCell_same _ _ 0 _ _ (.string S) HR1.out));refine bodyPost_ret (v:=.agg #[.string S,.int .i64 origin,.int .u32 sum]) (ZaT rfl _ _ w.heap.size #[.string S,.int .i64 origin,.int .u32 sum] 34 _ rfl hf Tryz.underlying34 rfl (ZbI _ rfl)) rfl ⟨by rw [<-HSS.out];rfl,hbs _ _ _⟩
end
end
section
namespace BwtM
open Go.RowKit
def lle:List UInt8->List UInt8->Prop
 | [],_=>True
 | _::_,[]=>False
 | a::s,b::t=>a.toNat<b.toNat\/(a=b/\lle s t)
def rot (T:List UInt8) (i:Nat):List UInt8:=T.drop i++T.take i
def follow (L:List UInt8) (K:List Nat):Nat->Nat->List UInt8
 | 0,_=>[]
 | k+1,at_=>L.getD (K.getD at_ 0) 0::follow L K k (K.getD at_ 0)
def Ahead (T:List UInt8) (i k:Nat):Prop:=(lle (rot T i) (rot T k)/\rot T i≠rot T k)\/(rot T i=rot T k/\i<k)
def ZlG (T:List UInt8) (P:List Nat):Prop:=P.Perm (List.range T.length)/\P.Pairwise (Ahead T)
end BwtM
end
section
open BwtM
namespace UnM
def by_ (L:List UInt8) (i:Nat):Nat:=(L.getD i 0).toNat
def blk (L:List UInt8) (b:Nat):List Nat:=(List.range L.length).filter fun i=>by_ L i==b
def linksU (L:List UInt8) (m:Nat):List Nat:=(List.range m).flatMap (blk L)
def links (L:List UInt8):List Nat:=linksU L 256
def cnt (L:List UInt8) (k b:Nat):Nat:=((List.range k).filter fun i=>by_ L i==b).length
def fst_ (L:List UInt8):Nat->Nat
 | 0=>0
 | b+1=>fst_ L b+cnt L L.length b
theorem by_lt (L:List UInt8) (i:Nat):by_ L i<256:=UInt8.toNat_lt _
theorem cnt_zero (L:List UInt8) (b:Nat):cnt L 0 b=0:=rfl
theorem cnt_next (L:List UInt8) (k b:Nat):cnt L (k+1) b=cnt L k b+if by_ L k=b then 1 else 0:=by
 unfold cnt;rw [List.range_succ,List.filter_append,List.length_append];congr 1;by_cases h:by_ L k=b
 ·rw [if_pos h];simp [List.filter,h]
 ·rw [if_neg h];have:(by_ L k==b)=false:=by rw [beq_eq_false_iff_ne];exact h
  simp [List.filter,this]
theorem cnt_le (L:List UInt8) (k b:Nat):cnt L k b<=k:=by
 unfold cnt;refine Nat.le_trans (List.length_filter_le _ _) ?_;rw [List.length_range];exact Nat.le_refl _
theorem linksU_next (L:List UInt8) (m:Nat):linksU L (m+1)=linksU L m++blk L m:=by
 unfold linksU;rw [List.range_succ,List.flatMap_append];simp
theorem linksU_len (L:List UInt8):∀m,(linksU L m).length=fst_ L m
 | 0=>rfl
 | m+1=>by
  rw [linksU_next,List.length_append,linksU_len L m];rfl
theorem ZsB (L:List UInt8) {i:Nat} (hi:i<L.length):(blk L (by_ L i))[cnt L i (by_ L i)]?=some i:=by
 unfold blk cnt
 have e:List.range L.length=List.range i++i::(List.range (L.length-i-1)).map (fun x=>i+1+x):=by
  have h1:L.length=i+(1+(L.length-i-1)):=by omega
  conv=>lhs;rw [h1,List.range_add,List.range_add]
  simp [Nat.add_assoc]
 rw [e,List.filter_append,List.getElem?_append_right (Nat.le_refl _),Nat.sub_self,List.filter_cons_of_pos (by simp)];rfl
theorem ZgD (L:List UInt8) (b j:Nat) (hj:j<(blk L b).length):∀m,b<m->(linksU L m)[fst_ L b+j]?=(blk L b)[j]?
 | 0,h=>by omega
 | m+1,h=>by
  rw [linksU_next];by_cases hb:b<m
  ·have ih:=ZgD L b j hj m hb;rw [List.getElem?_eq_getElem hj] at ih;obtain⟨h1,_⟩:=List.getElem?_eq_some_iff.1 ih;rw [List.getElem?_append_left h1,ih,List.getElem?_eq_getElem hj]
  ·obtain rfl:b=m:=by omega
   have hl:=linksU_len L b;rw [List.getElem?_append_right (by omega),hl,Nat.add_sub_cancel_left]
def pos (L:List UInt8) (i:Nat):Nat:=fst_ L (by_ L i)+cnt L i (by_ L i)
theorem ZiE (L:List UInt8) {i:Nat} (hi:i<L.length):(links L)[pos L i]?=some i:=by
 have hb:=ZsB L hi;obtain⟨h1,_⟩:=List.getElem?_eq_some_iff.1 hb;unfold links pos;rw [ZgD L _ _ h1 256 (by_lt L i),hb]
theorem Zfx {L:List UInt8} {b i:Nat}:i∈blk L b↔i<L.length/\by_ L i=b:=by
 unfold blk;rw [List.mem_filter,List.mem_range,beq_iff_eq]
theorem Zd8 {L:List UInt8} {m i:Nat}:i∈linksU L m↔i<L.length/\by_ L i<m:=by
 unfold linksU;rw [List.mem_flatMap];constructor
 ·rintro⟨b,hb,hi⟩;rw [List.mem_range] at hb;rw [Zfx] at hi;exact⟨hi.1,by omega⟩
 ·rintro⟨h1,h2⟩;exact⟨by_ L i,List.mem_range.2 h2,Zfx.2 ⟨h1,rfl⟩⟩
theorem Zck (L:List UInt8):∀m,(linksU L m).Pairwise fun a b=>by_ L a<by_ L b\/(by_ L a=by_ L b/\a<b)
 | 0=>List.Pairwise.nil
 | m+1=>by
  rw [linksU_next,List.pairwise_append];refine⟨Zck L m,?_,fun a ha b hb=>?_⟩
  ·have h:(blk L m).Pairwise (·<·):=List.Pairwise.sublist List.filter_sublist List.pairwise_lt_range;refine List.Pairwise.imp_of_mem (fun {a b} ha hb h=>?_) h;exact Or.inr ⟨(Zfx.1 ha).2.trans (Zfx.1 hb).2.symm,h⟩
  ·rw [Zd8] at ha;rw [Zfx] at hb;exact Or.inl (by omega)
theorem Zfy (L:List UInt8):(links L).Nodup:=by
 refine List.Pairwise.imp ?_ (Zck L 256);rintro a b h rfl;omega
theorem Zd9 (L:List UInt8):(links L).Perm (List.range L.length):=by
 rw [List.perm_ext_iff_of_nodup (Zfy L) List.nodup_range];intro a;unfold links;rw [Zd8,List.mem_range];exact⟨fun h=>h.1,fun h=>⟨h,by_lt L a⟩⟩
theorem links_len (L:List UInt8):(links L).length=L.length:=by rw [(Zd9 L).length_eq,List.length_range]
theorem links_lt {L:List UInt8} {p:Nat} (hp:p<L.length):(links L).getD p 0<L.length:=by
 rw [List.getD_eq_getElem?_getD,List.getElem?_eq_getElem (by rw [links_len];exact hp)];have:=(Zd9 L).mem_iff.1 (List.getElem_mem (l:=links L) (n:=p) (by rw [links_len];exact hp));exact List.mem_range.1 this
theorem pos_lt {L:List UInt8} {i:Nat} (hi:i<L.length):pos L i<L.length:=by
 obtain⟨h,_⟩:=List.getElem?_eq_some_iff.1 (ZiE L hi)
 rwa [links_len] at h
theorem ZsC {L:List UInt8} {i p:Nat} (hi:i<L.length) (hp:p<L.length):(links L).getD p 0=i↔p=pos L i:=by
 have h:=ZiE L hi;constructor
 ·intro e;have hp':p<(links L).length:=by rw [links_len];exact hp
  obtain⟨h1,h2⟩:=List.getElem?_eq_some_iff.1 h;rw [List.getD_eq_getElem?_getD,List.getElem?_eq_getElem hp'] at e;have hnd:=List.pairwise_iff_getElem.1 (Zfy L);rcases Nat.lt_trichotomy p (pos L i) with hlt|heq|hlt
  ·exact absurd (e.trans h2.symm) (hnd p (pos L i) hp' h1 hlt)
  ·exact heq
  ·exact absurd (h2.trans e.symm) (hnd (pos L i) p h1 hp' hlt)
 ·rintro rfl;rw [List.getD_eq_getElem?_getD,h];rfl
def rowAt (L:List UInt8) (k:Nat):List Nat:=(links L).map fun i=>if i<k then i else 0
theorem rowAt_len (L:List UInt8) (k:Nat):(rowAt L k).length=L.length:=by unfold rowAt;rw [List.length_map,links_len]
theorem rowAt_zero (L:List UInt8):rowAt L 0=List.replicate L.length 0:=by
 unfold rowAt;rw [<-links_len];apply List.ext_getElem
 ·simp
 ·intro i h1 h2;simp
theorem rowAt_all (L:List UInt8) {k:Nat} (hk:L.length<=k):rowAt L k=links L:=by
 unfold rowAt
 conv=>rhs;rw [<-List.map_id (links L)]
 refine List.map_congr_left (fun a ha=>?_);have:=List.mem_range.1 ((Zd9 L).mem_iff.1 ha);rw [if_pos (by omega)];rfl
theorem rowAt_next (L:List UInt8) {k:Nat} (hk:k<L.length):rowAt L (k+1)=(rowAt L k).set (pos L k) k:=by
 apply List.ext_getElem
 ·rw [List.length_set,rowAt_len,rowAt_len]
 ·intro p h1 h2;rw [rowAt_len] at h1;have hl:p<(links L).length:=by rw [links_len];exact h1
  have hi:=ZsC (i:=k) hk h1;rw [List.getD_eq_getElem?_getD,List.getElem?_eq_getElem hl] at hi;rw [List.getElem_set];simp only [rowAt,List.getElem_map];by_cases hp:pos L k=p
  ·rw [if_pos hp];have e:(links L)[p]=k:=hi.2 hp.symm;rw [e,if_pos (by omega)]
  ·rw [if_neg hp];have e:¬(links L)[p]=k:=fun e=>hp (hi.1 e).symm
   by_cases h3:(links L)[p]<k
   ·rw [if_pos h3,if_pos (by omega)]
   ·rw [if_neg h3,if_neg (by omega)]
def nxt (L:List UInt8) (k b:Nat):Nat:=fst_ L b+cnt L k b
theorem nxt_next (L:List UInt8) (k b:Nat):nxt L (k+1) b=if b=by_ L k then nxt L k b+1 else nxt L k b:=by
 unfold nxt;rw [cnt_next];by_cases h:by_ L k=b
 ·rw [if_pos h,if_pos h.symm,Nat.add_assoc]
 ·rw [if_neg h,if_neg (fun e=>h e.symm),Nat.add_zero]
theorem fst_le (L:List UInt8) (b:Nat):fst_ L b<=L.length:=by
 rw [<-linksU_len]
 have h:(linksU L b).Nodup:=by
  refine List.Pairwise.imp ?_ (Zck L b);rintro a b h rfl;omega
 have hs:linksU L b ⊆ List.range L.length:=fun a ha=>List.mem_range.2 (Zd8.1 ha).1
 have:=List.Nodup.length_le_of_subset h hs
 rwa [List.length_range] at this
def plc (K:List Nat) (o:Nat):Nat->Nat
 | 0=>o
 | k+1=>K.getD (plc K o k) 0
theorem ZiF (K:List Nat) (o:Nat):∀k,plc K (K.getD o 0) k=plc K o (k+1)
 | 0=>rfl
 | k+1=>by
  show K.getD (plc K (K.getD o 0) k) 0=K.getD (plc K o (k+1)) 0;rw [ZiF K o k]
theorem follow_len (L:List UInt8) (K:List Nat):∀k o,(BwtM.follow L K k o).length=k
 | 0,_=>rfl
 | k+1,o=>by
  show(BwtM.follow L K k (K.getD o 0)).length+1=k+1;rw [follow_len L K k]
theorem follow_next (L:List UInt8) (K:List Nat):∀k o,BwtM.follow L K (k+1) o=BwtM.follow L K k o++[L.getD (plc K o (k+1)) 0]
 | 0,o=>rfl
 | k+1,o=>by
  show L.getD (K.getD o 0) 0::BwtM.follow L K (k+1) (K.getD o 0)=(L.getD (K.getD o 0) 0::BwtM.follow L K k (K.getD o 0))++[L.getD (plc K o (k+2)) 0];rw [follow_next L K k (K.getD o 0),ZiF K o (k+1)];rfl
theorem plc_lt {L:List UInt8} {o:Nat} (ho:o<L.length):∀k,plc (links L) o k<L.length
 | 0=>ho
 | k+1=>links_lt (plc_lt ho k)
end UnM
end
section
open Go.RowKit BwtM
structure InF (F:Nat->Value) (s:ByteArray) (C:Nat->Nat) (lv:Value) (pl:Nat) (tv:Value) (nc nl nf:Nat):Prop where
 f0:F 0=.string s
 fc:∀b,b<256->F (1+b)=.int .i64 (C b:Int)
 f257:F 257=lv
 f258:F 258=.int .i64 (pl:Int)
 f259:F 259=tv
 f260:F 260=.int .i64 (nc:Int)
 f261:F 261=.int .i64 (nl:Int)
 f262:F 262=.int .i64 (nf:Int)
def InObj (w:World) (t:Nat) (s:ByteArray) (C:Nat->Nat) (lv:Value) (pl:Nat) (tv:Value) (nc nl nf:Nat):Prop:=∃F,ObjF 263 255 w t F/\InF F s C lv pl tv nc nl nf
section
variable {w w' : World} {t : Nat} {s : ByteArray} {C : Nat -> Nat} {lv tv : Value} {pl nc nl nf : Nat}
theorem InObj.cells (h:InObj w t s C lv pl tv nc nl nf):w.cell? ⟨t,0,none⟩=some (.string s)/\w.cell? ⟨t,257,none⟩=some (lv)/\w.cell? ⟨t,258,none⟩=some (.int .i64 (pl:Int))/\w.cell? ⟨t,259,none⟩=some (tv)/\w.cell? ⟨t,260,none⟩=some (.int .i64 (nc:Int))/\w.cell? ⟨t,261,none⟩=some (.int .i64 (nl:Int))/\w.cell? ⟨t,262,none⟩=some (.int .i64 (nf:Int)):=by
 obtain⟨F,h1,h2⟩:=h;refine⟨?_,?_,?_,?_,?_,?_,?_⟩
 ·rw [(h1.cell (i:=0) (by omega)).1,h2.f0]
 ·rw [(h1.cell (i:=257) (by omega)).1,h2.f257]
 ·rw [(h1.cell (i:=258) (by omega)).1,h2.f258]
 ·rw [(h1.cell (i:=259) (by omega)).1,h2.f259]
 ·rw [(h1.cell (i:=260) (by omega)).1,h2.f260]
 ·rw [(h1.cell (i:=261) (by omega)).1,h2.f261]
 ·rw [(h1.cell (i:=262) (by omega)).1,h2.f262]
theorem InObj.count (h:InObj w t s C lv pl tv nc nl nf) {b:Nat} (hb:b<256):w.cell? ⟨t,1+b,none⟩=some (.int .i64 (C b:Int)):=by
 obtain⟨F,h1,h2⟩:=h;rw [(h1.cell (i:=1+b) (by omega)).1,h2.fc b hb]
theorem InObj.frozen (h:InObj w t s C lv pl tv nc nl nf) (i:Nat) (hi:i<263):w.frozen? ⟨t,i,none⟩=false:=by
 obtain⟨F,h1,h2⟩:=h;exact(h1.cell hi).2
theorem InObj.lt (h:InObj w t s C lv pl tv nc nl nf):t<w.heap.size:=by
 obtain⟨F,h1,h2⟩:=h;exact h1.lt
theorem InObj.other (h:InObj w t s C lv pl tv nc nl nf) {X:Nat->Prop} (ht:Touch X w w') (hX:¬X t):InObj w' t s C lv pl tv nc nl nf:=by
 obtain⟨F,h1,h2⟩:=h;exact⟨F,h1.other ht hX,h2⟩
theorem InObj.setC (h:InObj w t s C lv pl tv nc nl nf) {b:Nat} (hb:b<256) (x:Nat):InObj (w.setCell ⟨t,1+b,none⟩ (.int .i64 (x:Int))) t s (fun k=>if k=b then x else C k) lv pl tv nc nl nf:=by
 obtain⟨F,h1,h2⟩:=h;refine⟨_,h1.set (1+b) _,(Zab _ _ (by omega)).trans h2.f0,fun k hk=>?_,(Zab _ _ (by omega)).trans h2.f257,(Zab _ _ (by omega)).trans h2.f258,(Zab _ _ (by omega)).trans h2.f259,(Zab _ _ (by omega)).trans h2.f260,(Zab _ _ (by omega)).trans h2.f261,(Zab _ _ (by omega)).trans h2.f262⟩;by_cases e:k=b
 ·subst e;rw [if_pos rfl];exact Zak _ _ _
 ·rw [if_neg e];exact(Zab _ _ (by omega)).trans (h2.fc k hk)
theorem InObj.set258 (h:InObj w t s C lv pl tv nc nl nf) (x:Nat):InObj (w.setCell ⟨t,258,none⟩ (.int .i64 (x:Int))) t s C lv x tv nc nl nf:=by
 obtain⟨F,h1,h2⟩:=h;exact⟨_,h1.set 258 _,(Zab _ _ (by omega)).trans h2.f0,fun k hk=>(Zab _ _ (by omega)).trans (h2.fc k hk),(Zab _ _ (by omega)).trans h2.f257,Zak _ _ _,(Zab _ _ (by omega)).trans h2.f259,(Zab _ _ (by omega)).trans h2.f260,(Zab _ _ (by omega)).trans h2.f261,(Zab _ _ (by omega)).trans h2.f262⟩
theorem InObj.set259 (h:InObj w t s C lv pl tv nc nl nf) (x:Value):InObj (w.setCell ⟨t,259,none⟩ (x)) t s C lv pl x nc nl nf:=by
 obtain⟨F,h1,h2⟩:=h;exact⟨_,h1.set 259 _,(Zab _ _ (by omega)).trans h2.f0,fun k hk=>(Zab _ _ (by omega)).trans (h2.fc k hk),(Zab _ _ (by omega)).trans h2.f257,(Zab _ _ (by omega)).trans h2.f258,Zak _ _ _,(Zab _ _ (by omega)).trans h2.f260,(Zab _ _ (by omega)).trans h2.f261,(Zab _ _ (by omega)).trans h2.f262⟩
theorem InObj.set260 (h:InObj w t s C lv pl tv nc nl nf) (x:Nat):InObj (w.setCell ⟨t,260,none⟩ (.int .i64 (x:Int))) t s C lv pl tv x nl nf:=by
 obtain⟨F,h1,h2⟩:=h;exact⟨_,h1.set 260 _,(Zab _ _ (by omega)).trans h2.f0,fun k hk=>(Zab _ _ (by omega)).trans (h2.fc k hk),(Zab _ _ (by omega)).trans h2.f257,(Zab _ _ (by omega)).trans h2.f258,(Zab _ _ (by omega)).trans h2.f259,Zak _ _ _,(Zab _ _ (by omega)).trans h2.f261,(Zab _ _ (by omega)).trans h2.f262⟩
theorem InObj.set261 (h:InObj w t s C lv pl tv nc nl nf) (x:Nat):InObj (w.setCell ⟨t,261,none⟩ (.int .i64 (x:Int))) t s C lv pl tv nc x nf:=by
 obtain⟨F,h1,h2⟩:=h;exact⟨_,h1.set 261 _,(Zab _ _ (by omega)).trans h2.f0,fun k hk=>(Zab _ _ (by omega)).trans (h2.fc k hk),(Zab _ _ (by omega)).trans h2.f257,(Zab _ _ (by omega)).trans h2.f258,(Zab _ _ (by omega)).trans h2.f259,(Zab _ _ (by omega)).trans h2.f260,Zak _ _ _,(Zab _ _ (by omega)).trans h2.f262⟩
theorem InObj.set262 (h:InObj w t s C lv pl tv nc nl nf) (x:Nat):InObj (w.setCell ⟨t,262,none⟩ (.int .i64 (x:Int))) t s C lv pl tv nc nl x:=by
 obtain⟨F,h1,h2⟩:=h;exact⟨_,h1.set 262 _,(Zab _ _ (by omega)).trans h2.f0,fun k hk=>(Zab _ _ (by omega)).trans (h2.fc k hk),(Zab _ _ (by omega)).trans h2.f257,(Zab _ _ (by omega)).trans h2.f258,(Zab _ _ (by omega)).trans h2.f259,(Zab _ _ (by omega)).trans h2.f260,(Zab _ _ (by omega)).trans h2.f261,Zak _ _ _⟩
end
end
section
open Go.RowKit BwtM
structure IsIn (B:Nat) (w:World) (t g:Nat) (s:ByteArray) (C:Nat->Nat) (zs:List Int) (l:List UInt8) (pl nc nl nf:Nat) (tv:Value):Prop where
 obj:InObj w t s C (.slice (some ⟨g,0,none⟩) s.size s.size) pl tv nc nl nf
 row:RowI w g zs
 len:zs.length=s.size
 told:OwnY w B tv l
 gt:g≠t
 lap:∀j,tv.ownBlock=some j->j≠t/\j≠g
 base:B<=t
 gase:B<=g
section
variable {B t g : Nat} {w w' : World} {s : ByteArray} {C C' : Nat -> Nat} {zs zs' : List Int} {l : List UInt8} {pl nc nl nf pl' nc' nl' nf' : Nat} {tv : Value}
theorem IsIn.own (h:IsIn B w t g s C zs l pl nc nl nf tv) (ht:Touch (·=t) w w') (ho:InObj w' t s C' (.slice (some ⟨g,0,none⟩) s.size s.size) pl' tv nc' nl' nf'):IsIn B w' t g s C' zs l pl' nc' nl' nf' tv:=
 ⟨ho,h.row.other ht h.gt,h.len,h.told.same (fun k hk=>ht.block k (h.told.lt k hk).2 (h.lap k hk).1),h.gt,h.lap,h.base,h.gase⟩
theorem IsIn.linked (h:IsIn B w t g s C zs l pl nc nl nf tv) (ht:Touch (·=g) w w') (hr:RowI w' g zs') (hl:zs'.length=zs.length):IsIn B w' t g s C zs' l pl nc nl nf tv:=
 ⟨h.obj.other ht (fun e=>h.gt e.symm),hr,hl.trans h.len,h.told.same (fun k hk=>ht.block k (h.told.lt k hk).2 (h.lap k hk).2),h.gt,h.lap,h.base,h.gase⟩
theorem IsIn.other (h:IsIn B w t g s C zs l pl nc nl nf tv) {X:Nat->Prop} (ht:Touch X w w') (h1:¬X t) (h2:¬X g) (h3:∀k,tv.ownBlock=some k->¬X k):IsIn B w' t g s C zs l pl nc nl nf tv:=
 ⟨h.obj.other ht h1,h.row.other ht h2,h.len,h.told.same (fun k hk=>ht.block k (h.told.lt k hk).2 (h3 k hk)),h.gt,h.lap,h.base,h.gase⟩
theorem IsIn.below (h:IsIn B w t g s C zs l pl nc nl nf tv) (ht:Below w.heap.size w w'):IsIn B w' t g s C zs l pl nc nl nf tv:=
 h.other (Touch.ofBelow (S:=fun _=>False) ht) (fun e=>e) (fun e=>e) (fun _ _ e=>e)
end
end
end Go.Proofs.YtnachbjhhpnadaaGreatDoor

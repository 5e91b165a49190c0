import Derived.Test.YtlfpbcadcfaboaaGreatDoorTcC
import Derived.Test.YtlfpbcadcfaboaaGreatDoorTcI
import Derived.Test.YtlfpbcadcfaboaaGreatDoorTcM
import Derived.Laws.EntriesVeiled
import Derived.BigQuiet
set_option linter.unusedVariables false
set_option linter.unusedSimpArgs false
set_option maxHeartbeats 8000000
set_option maxRecDepth 100000
namespace Go.Proofs.YtlfpbcadcfaboaaGreatDoor
section
open Go.RowKit BwtM SrtM PkM
theorem pinfo:(Tryz.prog.info? 246).map (·.size)=some 3:=by kernel_rfl
section
variable {B : Nat} {b bo bc ba n : Nat} {vk vw : Value} {kb : List Nat} {S : SS}
theorem Zk4 (w:World) (ps:List Part) (p:Part) (h:IsSo B w b bo bc ba vk vw n kb S) (hps:S.ps=ps++[p]) (hl:ps.length<=1000000) (hlo:p.lo<=p.hi) (hhi:p.hi<=1000000) (hs:p.hi-p.lo<2) (hb:B<=w.heap.size) :
  Calls Tryz.prog 191 #[.pointer (some ⟨b,0,none⟩),.agg #[.int .i64 (p.lo:Int),.int .i64 (p.hi:Int),.bool p.begun]] w fun e w'=>
  PassP B w w' b bo bc ba n vk kb (popS S ps) e:=by
 have hg:=heap_alloc_new w (.cells #[.int .i64 (p.lo:Int),.int .i64 (p.hi:Int),.bool p.begun] 246);have hB0:=(Below.refl w.heap.size w).alloc (Nat.le_refl _) (.cells #[.int .i64 (p.lo:Int),.int .i64 (p.hi:Int),.bool p.begun] 246);have H0:=zh (h.below hB0);have HB0:=zh hB0;have HKB:=zh h.kap;have hu:=Tryz.underlying246;have hi:=pinfo;have HSZ:=zh (fun W=>Zhh p.lo p.hi p.begun W hlo hhi);have hd2:((p.hi-p.lo:Nat):Int)<2:=by omega
 have HPB:=zh h.base.1;obtain⟨d,hd⟩:∃d,p.hi-p.lo=d:=⟨_,rfl⟩
 rw [hd] at HSZ hd2;clear hB0 h hd;go_enter Tryz.func191,Tryz.ntmps191;go_wp2_with fail;generalize w.alloc (.cells #[.int .i64 (p.lo:Int),.int .i64 (p.hi:Int),.bool p.begun] 246)=w1 at *;go_wp2_with (refine wpList_load_row rfl 246 _ rfl w.heap.size rfl 246 #[.int .i64 (p.lo:Int),.int .i64 (p.hi:Int),.bool p.begun] (0,0) _ hg hu rfl hi ?_);refine(HSZ.out _).mono ?_;rintro e w2 ⟨rfl,hb2⟩;have H2:=zh (H0.out.below hb2);have HB2:=zh (HB0.out.trans (hb2.mono HB0.out.size));clear hb2 hg;go_wp2_with fail;refine(ZiG w2 ps p H2.out hps hl).mono ?_;rintro e w3 ⟨rfl,vw',hs3,ht3⟩;have H3:=zh hs3;have HT3:=zh ht3;have HBB:Hid (Below B w w3):=zh ((HB2.out.mono hb).trans (ht3.below (Nat.le_trans hb HB2.out.size) (fun k hk=>by have:=HPB.out;have e:k=b:=hk;omega)))
 have HKS:Hid (KbSame w w3 kb):=zh (fun g hg=>by
  obtain⟨k1,k2,_⟩:=HKB.out g hg;rw [ht3.block g (Nat.lt_of_lt_of_le k1 HB2.out.size) k2];exact HB2.out.block g k1)
 clear hs3 ht3;go_wp2_with fail
 first
  | refine bodyPost_end (results_none rfl _ _ _) rfl ?_
  | refine bodyPost_ret (results_none rfl _ _ _) rfl ?_
 exact⟨rfl,_,H3.out,HBB.out,HKS.out⟩
theorem IsSo.marked {w:World} {ps:List Part} {p:Part} {g L cap:Nat} (h:IsSo B w b bo bc ba vk (.slice (some ⟨g,0,none⟩) (L+1) cap) n kb S) (hL:ps.length=L) (hps:S.ps=ps++[p]) :
  IsSo B (w.setCell ⟨g,L*3+2,none⟩ (.bool true)) b bo bc ba vk (.slice (some ⟨g,0,none⟩) (L+1) cap) n kb { S with ps:=ps++[⟨p.lo,p.hi,true⟩] }/\Touch (·=g) w (w.setCell ⟨g,L*3+2,none⟩ (.bool true)):=by
 subst hL;obtain⟨a1,a2,a3,a4,a5,a6⟩:=h.apart;have t:Touch (·=g) w (w.setCell ⟨g,ps.length*3+2,none⟩ (.bool true)):=Zae (Touch.refl _ _);obtain⟨n1,n2,n3,n4⟩:=h.wap g rfl;have hw:=h.wt;rw [hps] at hw;obtain⟨F,o1,o2⟩:=h.obj;exact⟨⟨⟨F,o1.other t (fun e=>n1 e.symm),⟨o2.f0,o2.f1,o2.f2,o2.f3,o2.f4,o2.f5,o2.f6,o2.f7,o2.f8,o2.f9,o2.f10⟩⟩,h.ro.other t (fun e=>n2 e.symm),h.rc.other t (fun e=>n3 e.symm),h.ra.other t (fun e=>n4 e.symm),h.lo,h.lc,h.la,hw.mark,h.apart,h.wap,h.base,fun g' hg=>⟨Nat.lt_of_lt_of_le (h.kap g' hg).1 t.size,(h.kap g' hg).2⟩⟩,t⟩
theorem ZiH (g m cap:Nat) (hb:m<=1000000) (W:World):(Instr.indexAt 226 (.slice (some ⟨g,0,none⟩) (m+1) cap) (.int .i64 (m:Int))).run Tryz.prog W=.ok (.pointer (some ⟨g,m*3,none⟩)) W:=by
 have hs:(sizeOf (Tryz.prog.elem 226)).run Tryz.prog W=.ok 3 W:=by kernel_rfl
 have e:((m:Int)).toNat=m:=by omega
 rw [run_indexAt_slice W 226 _ _ _ .i64 _ (by kernel_rfl),if_pos (by omega),hs];show Result.ok (Value.pointer (some (Addr.add ⟨g,0,none⟩ (((m:Int)).toNat*3)))) W=_;rw [Addr.add_lit,Nat.zero_add,e]
theorem ZpP {w5 wA w6:World} {L cap g pb:Nat} {lo hi:Int} {bg:Bool} {o:Obj} (h:IsSo B w5 b bo bc ba vk (.slice (some ⟨g,0,none⟩) (L+1) cap) n kb S) (hb:b<w5.heap.size) (hp:pb<w5.heap.size) (hg:g≠pb) (hA:Below w5.heap.size w5 wA)
  (hk:∀k,k<(wA.alloc o).heap.size->(Value.slice (some ⟨g,0,none⟩) (L+1) cap).ownBlock≠some k->w6.heap[k]?=(wA.alloc o).heap[k]?)
  (hS:∀W,Below w5.heap.size w5 W->W.cell? ⟨b,5,none⟩=some (.slice (some ⟨g,0,none⟩) (L+1) cap)/\W.cell? ⟨pb,0,none⟩=some (.int .i64 lo)/\W.cell? ⟨pb,1,none⟩=some (.int .i64 hi)/\W.cell? ⟨pb,2,none⟩=some (.bool bg)) :
  w6.cell? ⟨b,5,none⟩=some (.slice (some ⟨g,0,none⟩) (L+1) cap)/\w6.cell? ⟨pb,0,none⟩=some (.int .i64 lo)/\w6.cell? ⟨pb,1,none⟩=some (.int .i64 hi)/\w6.cell? ⟨pb,2,none⟩=some (.bool bg):=by
 have hs:(wA.alloc o).heap.size=wA.heap.size+1:=by simp
 have hz:=hA.size;obtain⟨s0,s1,s2,s3⟩:=hS _ (hA.alloc hA.size o);have kb6:=hk b (by omega) (fun e=>(h.wap b e).1 rfl);have kp6:=hk pb (by omega) (fun e=>hg (by simpa [Value.ownBlock] using e));exact⟨(World.cell?_of_block (w:=wA.alloc o) (a:=⟨b,5,none⟩) kb6).trans s0,(World.cell?_of_block (w:=wA.alloc o) (a:=⟨pb,0,none⟩) kp6).trans s1,(World.cell?_of_block (w:=wA.alloc o) (a:=⟨pb,1,none⟩) kp6).trans s2,(World.cell?_of_block (w:=wA.alloc o) (a:=⟨pb,2,none⟩) kp6).trans s3⟩
theorem Zl5 {w5 wA w6:World} {L cap g:Nat} {o:Obj} (h:IsSo B w5 b bo bc ba vk (.slice (some ⟨g,0,none⟩) (L+1) cap) n kb S) (hb:b<w5.heap.size) (hA:Below w5.heap.size w5 wA)
  (hk:∀k,k<(wA.alloc o).heap.size->(Value.slice (some ⟨g,0,none⟩) (L+1) cap).ownBlock≠some k->w6.heap[k]?=(wA.alloc o).heap[k]?):w6.frozen? ⟨b,5,none⟩=false:=by
 have hs:(wA.alloc o).heap.size=wA.heap.size+1:=by simp
 have hz:=hA.size;have kb6:=hk b (by omega) (fun e=>(h.wap b e).1 rfl);exact(World.frozen?_of_block (w:=w5) (a:=⟨b,5,none⟩) (kb6.trans ((Zam (by omega)).trans (hA.block b hb)))).trans (h.obj.frozen 5 (by omega))
def halvesS (S:SS) (ps:List Part) (p:Part):SS:={ S with ps:=ps++[⟨p.lo,p.hi,true⟩]++[⟨p.mid,p.hi,false⟩]++[⟨p.lo,p.mid,false⟩] }
theorem ZnO (w:World) (ps:List Part) (p:Part) (h:IsSo B w b bo bc ba vk vw n kb S) (hps:S.ps=ps++[p]) (hl:ps.length<=900000) (hlo:p.lo<=p.hi) (hhi:p.hi<=1000000) (hs:2<=p.hi-p.lo) (hb:B<=w.heap.size) :
  Calls Tryz.prog 191 #[.pointer (some ⟨b,0,none⟩),.agg #[.int .i64 (p.lo:Int),.int .i64 (p.hi:Int),.bool p.begun]] w fun e w'=>
  PassP B w w' b bo bc ba n vk kb (halvesS S ps p) e:=by
 have hg:=heap_alloc_new w (.cells #[.int .i64 (p.lo:Int),.int .i64 (p.hi:Int),.bool p.begun] 246);have hB0:=(Below.refl w.heap.size w).alloc (Nat.le_refl _) (.cells #[.int .i64 (p.lo:Int),.int .i64 (p.hi:Int),.bool p.begun] 246);have H0:=zh (h.below hB0);have HB0:=zh hB0;have HSZ0:Hid ((w.alloc (.cells #[.int .i64 (p.lo:Int),.int .i64 (p.hi:Int),.bool p.begun] 246)).heap.size=w.heap.size+1):=zh (by simp);have HKB:=zh h.kap;have hu:=Tryz.underlying246;have hi:=pinfo;have HSZ:=zh (fun W=>Zhh p.lo p.hi p.begun W hlo hhi);have HMID:=zh (fun W=>Zka p.lo p.hi p.begun W (by omega) hhi);have HBS:=zh h.base.1;have HLT:=zh h.obj.lt;have HWL:=zh (fun k hk=>(h.wt.lt k hk).2);have hd2:¬((p.hi-p.lo:Nat):Int)<2:=by omega
 have hmh:p.mid<=1000000:=by show(p.lo+p.hi) / 2<=_;omega
 have hmb:(⟨p.lo,p.hi,p.begun⟩:Part).mid=p.mid:=rfl;rw [hmb] at HMID;obtain⟨d,hd⟩:∃d,p.hi-p.lo=d:=⟨_,rfl⟩
 rw [hd] at HSZ hd2;have HPS:=zh hps;clear hB0 h hd hps hmb;go_enter Tryz.func191,Tryz.ntmps191;go_wp2_with fail;generalize w.alloc (.cells #[.int .i64 (p.lo:Int),.int .i64 (p.hi:Int),.bool p.begun] 246)=w1 at *;go_wp2_with (refine wpList_load_row rfl 246 _ rfl w.heap.size rfl 246 #[.int .i64 (p.lo:Int),.int .i64 (p.hi:Int),.bool p.begun] (0,0) _ hg hu rfl hi ?_);refine(HSZ.out _).mono ?_;rintro e w2 ⟨rfl,hb2⟩;have H2:=zh (H0.out.below hb2);have HB2:=zh (HB0.out.trans (hb2.mono HB0.out.size));have HG2:Hid (w2.heap[w.heap.size]?=some (.cells #[.int .i64 (p.lo:Int),.int .i64 (p.hi:Int),.bool p.begun] 246 (0,0))):=zh ((hb2.block _ (by rw [HSZ0.out];omega)).trans hg);clear hb2 hg;have hw:=H2.out.wt;rw [HPS.out] at hw;obtain⟨g,cap,rfl,hBg,hgl,hcap,c0,c1,c2,f2⟩:=hw.top;have HGL:=zh hgl;have HBG:=zh hBg;obtain⟨L,hL⟩:∃L,ps.length=L:=⟨_,rfl⟩
 have HL:=zh hL;rw [hL] at H2 hcap c2 f2 hl;have hix:=fun W=>ZiH g L cap (by omega) W
 have hLi2:((L:Int)+1)-1=(L:Int):=by omega
 have hLw:IntKind.i64.wrap (L:Int)=(L:Int):=IntWalk.i64_in _ (by omega);have hLw2:IntKind.i64.wrap ((L:Int)+1-1)=(L:Int):=by rw [hLi2];exact hLw
 obtain⟨_,_,_,_,_,d5,_⟩:=H2.out.obj.cells;have H3:=zh ((H2.out.drewN 1).marked (ps:=ps) (p:=p) hL HPS.out);clear hw hBg hgl c0 c1 hL;go_wp2_with fail
 go_still_tail 12,(by kernel_rfl)
 change wpList _ _ _ _ _ (w2.drewN 1);go_wp2_with fail;have HT3:Hid (Touch (·=g) w2 ((w2.drewN 1).setCell ⟨g,L*3+2,none⟩ (.bool true))):=zh ((Zan (·=g) w2 1).trans H3.out.2 (fun _ h=>Or.inl h));have H3s:=zh H3.out.1;clear c2 f2 d5 hix H3;generalize (w2.drewN 1).setCell ⟨g,L*3+2,none⟩ (.bool true)=w5 at *
 have hgw:g≠w.heap.size:=fun e=>by
  have:=HWL.out g rfl;omega
 obtain⟨pb,hpb⟩:∃pb,w.heap.size=pb:=⟨_,rfl⟩
 have HPBE:=zh hpb;rw [hpb] at HG2 HSZ0 hgw HLT;have hpb2:pb<w2.heap.size:=(Array.getElem?_eq_some_iff.1 HG2.out).1;have HG5:Hid (w5.heap[pb]?=some (.cells #[.int .i64 (p.lo:Int),.int .i64 (p.hi:Int),.bool p.begun] 246 (0,0))):=zh ((HT3.out.block pb hpb2 (fun e=>hgw e.symm)).trans HG2.out);have HBL5:Hid (b<w5.heap.size/\pb<w5.heap.size/\B<=w5.heap.size):=zh ⟨H3s.out.obj.lt,Nat.lt_of_lt_of_le hpb2 HT3.out.size,Nat.le_trans hb (Nat.le_trans HB2.out.size HT3.out.size)⟩;obtain⟨_,_,_,_,_,d5,_⟩:=H3s.out.obj.cells;have q0:w5.cell? ⟨pb,0,none⟩=some (.int .i64 (p.lo:Int)):=by rw [cell_of_row _ _ 0 _ _ _ HG5.out];rfl
 have q1:w5.cell? ⟨pb,1,none⟩=some (.int .i64 (p.hi:Int)):=by rw [cell_of_row _ _ 1 _ _ _ HG5.out];rfl
 have q2:w5.cell? ⟨pb,2,none⟩=some (.bool p.begun):=by rw [cell_of_row _ _ 2 _ _ _ HG5.out];rfl
 have HXX:Hid (∀W,Below w5.heap.size w5 W->W.cell? ⟨b,5,none⟩=some (.slice (some ⟨g,0,none⟩) (L+1) cap)/\W.cell? ⟨pb,0,none⟩=some (.int .i64 (p.lo:Int))/\W.cell? ⟨pb,1,none⟩=some (.int .i64 (p.hi:Int))/\W.cell? ⟨pb,2,none⟩=some (.bool p.begun)/\W.heap[pb]?=some (.cells #[.int .i64 (p.lo:Int),.int .i64 (p.hi:Int),.bool p.begun] 246 (0,0))):=zh (fun W hW=>by
  obtain⟨l1,l2,_⟩:=HBL5.out;exact⟨(hW.cell (p:=⟨b,5,none⟩) l1).trans d5,(hW.cell (p:=⟨pb,0,none⟩) l2).trans q0,(hW.cell (p:=⟨pb,1,none⟩) l2).trans q1,(hW.cell (p:=⟨pb,2,none⟩) l2).trans q2,(hW.block pb l2).trans HG5.out⟩)
 have HDD:Hid (Below w5.heap.size w5 w5.drew):=zh ⟨rfl,rfl,rfl,Nat.le_refl _,fun _ _=>rfl⟩
 have HBX:Hid (∀W:World,∀j u,(pflat [⟨p.mid,p.hi,false⟩,⟨p.lo,p.mid,false⟩])[j]?=some u->(W.alloc (.cells #[.int .i64 (p.mid:Int),.int .i64 (p.hi:Int),.bool false,.int .i64 (p.lo:Int),.int .i64 (p.mid:Int),.bool false] 246)).cell? ⟨W.heap.size,j,none⟩=some u):=zh (fun W j u hu=>by
  have hh:=heap_alloc_new W (.cells #[.int .i64 (p.mid:Int),.int .i64 (p.hi:Int),.bool false,.int .i64 (p.lo:Int),.int .i64 (p.mid:Int),.bool false] 246);rw [cell_of_row _ _ j _ _ _ hh,<-hu];simp [pflat,pcells])
 have HOW:Hid (∀W,Below w5.heap.size w5 W->SOwnP (W.alloc (.cells #[.int .i64 (p.mid:Int),.int .i64 (p.hi:Int),.bool false,.int .i64 (p.lo:Int),.int .i64 (p.mid:Int),.bool false] 246)) B (.slice (some ⟨g,0,none⟩) (L+1) cap) (ps++[⟨p.lo,p.hi,true⟩])):=zh (fun W hW=>by
  have h0:=H3s.out.wt;exact World.ownsRow.alloc (h0.same (fun k hk=>hW.block k (h0.lt k hk).2)) _)
 have HLE:Hid ((ps++[(⟨p.lo,p.hi,true⟩:Part)]).length+2<=1000000):=zh (by rw [List.length_append,HL.out];simp;omega)
 have HWB:Hid (∀W:World,Below w5.heap.size w5 W->B<=(W.alloc (.cells #[.int .i64 (p.mid:Int),.int .i64 (p.hi:Int),.bool false,.int .i64 (p.lo:Int),.int .i64 (p.mid:Int),.bool false] 246)).heap.size):=zh (fun W hW=>by
  have h1:=hW.size;have h2:=HBL5.out.2.2;simp;omega)
 have HGP:Hid (g≠pb):=zh hgw;have HPN:Hid (pb≠b):=zh (by have:=HLT.out;omega);have hSS:(fun W:World=>W.cell? ⟨b,5,none⟩=some (.slice (some ⟨g,0,none⟩) (L+1) cap)/\W.cell? ⟨pb,0,none⟩=some (.int .i64 (p.lo:Int))/\W.cell? ⟨pb,1,none⟩=some (.int .i64 (p.hi:Int))/\W.cell? ⟨pb,2,none⟩=some (.bool p.begun)) w5.drew:=⟨d5,q0,q1,q2⟩
 refine ZeY 19 (fun W:World=>W.cell? ⟨b,5,none⟩=some (.slice (some ⟨g,0,none⟩) (L+1) cap)/\W.cell? ⟨pb,0,none⟩=some (.int .i64 (p.lo:Int))/\W.cell? ⟨pb,1,none⟩=some (.int .i64 (p.hi:Int))/\W.cell? ⟨pb,2,none⟩=some (.bool p.begun)) (by kernel_rfl) ?_;refine Zah (i:=0) rfl (by kernel_rfl) (by kernel_rfl) (by kernel_rfl) (by kernel_rfl) (fun _ _ _ h=>h) (v:=?_) (Or.inl ⟨by rfl,?_⟩) hSS ?_;rotate_left
 ·rintro W ⟨k5,kp0,kp1,kp2⟩
  go_simp
  try with_reducible rfl
 try simp only [Act.put,List.setIfInBounds_toArray,List.set_cons_zero,List.set_cons_succ]
 refine Zah (i:=1) rfl (by kernel_rfl) (by kernel_rfl) (by kernel_rfl) (by kernel_rfl) (fun _ _ _ h=>h) (v:=?_) (Or.inl ⟨by rfl,?_⟩) hSS ?_;rotate_left
 ·rintro W ⟨k5,kp0,kp1,kp2⟩
  go_simp
  try with_reducible rfl
 try simp only [Act.put,List.setIfInBounds_toArray,List.set_cons_zero,List.set_cons_succ]
 refine Zah (i:=2) rfl (by kernel_rfl) (by kernel_rfl) (by kernel_rfl) (by kernel_rfl) (fun _ _ _ h=>h) (v:=?_) (Or.inl ⟨by rfl,?_⟩) hSS ?_;rotate_left
 ·rintro W ⟨k5,kp0,kp1,kp2⟩
  go_simp
  try with_reducible rfl
 try simp only [Act.put,List.setIfInBounds_toArray,List.set_cons_zero,List.set_cons_succ]
 refine Zah (i:=3) rfl (by kernel_rfl) (by kernel_rfl) (by kernel_rfl) (by kernel_rfl) (fun _ _ _ h=>h) (v:=?_) (Or.inl ⟨by rfl,?_⟩) hSS ?_;rotate_left
 ·rintro W ⟨k5,kp0,kp1,kp2⟩
  go_simp
  try with_reducible rfl
 try simp only [Act.put,List.setIfInBounds_toArray,List.set_cons_zero,List.set_cons_succ]
 refine Zah (i:=4) rfl (by kernel_rfl) (by kernel_rfl) (by kernel_rfl) (by kernel_rfl) (fun _ _ _ h=>h) (v:=?_) (Or.inl ⟨by rfl,?_⟩) hSS ?_;rotate_left
 ·rintro W ⟨k5,kp0,kp1,kp2⟩
  go_simp
  try with_reducible rfl
 try simp only [Act.put,List.setIfInBounds_toArray,List.set_cons_zero,List.set_cons_succ]
 refine Zah (i:=5) rfl (by kernel_rfl) (by kernel_rfl) (by kernel_rfl) (by kernel_rfl) (fun _ _ _ h=>h) (v:=?_) (Or.inl ⟨by rfl,?_⟩) hSS ?_;rotate_left
 ·rintro W ⟨k5,kp0,kp1,kp2⟩
  go_simp
  try with_reducible rfl
 try simp only [Act.put,List.setIfInBounds_toArray,List.set_cons_zero,List.set_cons_succ]
 refine Zah (i:=7) rfl (by kernel_rfl) (by kernel_rfl) (by kernel_rfl) (by kernel_rfl) (fun _ _ _ h=>h) (v:=?_) (Or.inl ⟨by rfl,?_⟩) hSS ?_;rotate_left
 ·rintro W ⟨k5,kp0,kp1,kp2⟩
  go_simp
  try with_reducible rfl
 try simp only [Act.put,List.setIfInBounds_toArray,List.set_cons_zero,List.set_cons_succ]
 refine Zah (i:=8) rfl (by kernel_rfl) (by kernel_rfl) (by kernel_rfl) (by kernel_rfl) (fun _ _ _ h=>h) (v:=?_) (Or.inl ⟨by rfl,?_⟩) hSS ?_;rotate_left
 ·rintro W ⟨k5,kp0,kp1,kp2⟩
  go_simp
  try with_reducible rfl
 try simp only [Act.put,List.setIfInBounds_toArray,List.set_cons_zero,List.set_cons_succ]
 refine Zah (i:=10) rfl (by kernel_rfl) (by kernel_rfl) (by kernel_rfl) (by kernel_rfl) (fun _ _ _ h=>h) (v:=?_) (Or.inl ⟨by rfl,?_⟩) hSS ?_;rotate_left
 ·rintro W ⟨k5,kp0,kp1,kp2⟩
  go_simp
  try with_reducible rfl
 try simp only [Act.put,List.setIfInBounds_toArray,List.set_cons_zero,List.set_cons_succ]
 refine Zah (i:=11) rfl (by kernel_rfl) (by kernel_rfl) (by kernel_rfl) (by kernel_rfl) (fun _ _ _ h=>h) (v:=?_) (Or.inl ⟨by rfl,?_⟩) hSS ?_;rotate_left
 ·rintro W ⟨k5,kp0,kp1,kp2⟩
  go_simp
  try with_reducible rfl
 try simp only [Act.put,List.setIfInBounds_toArray,List.set_cons_zero,List.set_cons_succ]
 refine Zah (i:=12) rfl (by kernel_rfl) (by kernel_rfl) (by kernel_rfl) (by kernel_rfl) (fun _ _ _ h=>h) (v:=?_) (Or.inl ⟨by rfl,?_⟩) hSS ?_;rotate_left
 ·rintro W ⟨k5,kp0,kp1,kp2⟩
  go_simp
  try with_reducible rfl
 try simp only [Act.put,List.setIfInBounds_toArray,List.set_cons_zero,List.set_cons_succ]
 have HSS2:Hid (∀W,Below w5.heap.size w5 W->(fun W:World=>W.cell? ⟨b,5,none⟩=some (.slice (some ⟨g,0,none⟩) (L+1) cap)/\W.cell? ⟨pb,0,none⟩=some (.int .i64 (p.lo:Int))/\W.cell? ⟨pb,1,none⟩=some (.int .i64 (p.hi:Int))/\W.cell? ⟨pb,2,none⟩=some (.bool p.begun)) W):=zh (fun W hW=>by
  obtain⟨k5,kp0,kp1,kp2,_⟩:=HXX.out W hW;exact⟨k5,kp0,kp1,kp2⟩)
 clear HXX;refine Zau (rs:=[6]) (by kernel_rfl) (by simp) ?_;intro i hi;simp only [List.mem_cons,List.not_mem_nil,or_false] at hi;subst hi;refine Zbj rfl ?_;intro K hK
 go_simp
 go_at_call 214
 refine(HMID.out _).mono ?_;rintro e wA1 ⟨rfl,hbA⟩;have hbC1:Below w5.heap.size w5 wA1:=HDD.out.trans hbA;have hS1:=HSS2.out wA1 hbC1;refine hK _ _ ⟨fun _=>hS1,?_⟩
 try simp only [Act.put,List.setIfInBounds_toArray,List.set_cons_zero,List.set_cons_succ]
 clear hK hbA;refine Zah (i:=9) rfl (by kernel_rfl) (by kernel_rfl) (by kernel_rfl) (by kernel_rfl) (fun _ _ _ h=>h) (v:=?_) (Or.inl ⟨by rfl,?_⟩) hS1 ?_;rotate_left
 ·rintro W ⟨k5,kp0,kp1,kp2⟩
  go_simp
  try with_reducible rfl
 try simp only [Act.put,List.setIfInBounds_toArray,List.set_cons_zero,List.set_cons_succ]
 refine Zau (rs:=[13]) (by kernel_rfl) (by simp) ?_;intro i hi;simp only [List.mem_cons,List.not_mem_nil,or_false] at hi;subst hi;refine Zbj rfl ?_;intro K hK
 go_simp
 go_at_call 214
 refine(HMID.out _).mono ?_;rintro e wA2 ⟨rfl,hbA⟩;have hbC2:Below w5.heap.size w5 wA2:=hbC1.trans (hbA.mono hbC1.size);have hS2:=HSS2.out wA2 hbC2;refine hK _ _ ⟨fun _=>hS2,?_⟩
 try simp only [Act.put,List.setIfInBounds_toArray,List.set_cons_zero,List.set_cons_succ]
 clear hK hbA;refine Zah (i:=14) rfl (by kernel_rfl) (by kernel_rfl) (by kernel_rfl) (by kernel_rfl) (fun _ _ _ h=>h) (v:=?_) (Or.inl ⟨by rfl,?_⟩) hS2 ?_;rotate_left
 ·rintro W ⟨k5,kp0,kp1,kp2⟩
  go_simp
  try with_reducible rfl
 try simp only [Act.put,List.setIfInBounds_toArray,List.set_cons_zero,List.set_cons_succ]
 have hbX:Below w5.heap.size w5 (wA2.alloc (.cells #[.int .i64 (p.mid:Int),.int .i64 (p.hi:Int),.bool false,.int .i64 (p.lo:Int),.int .i64 (p.mid:Int),.bool false] 246)):=hbC2.alloc hbC2.size _;have hSX:=HSS2.out _ hbX;refine Zau (rs:=[15]) (by kernel_rfl) (by simp) ?_;intro i hi;simp only [List.mem_cons,List.not_mem_nil,or_false] at hi;subst hi;refine Zbj rfl ?_;intro K hK
 go_simp
 refine hK _ _ ⟨fun _=>hSX,?_⟩
 try simp only [Act.put,List.setIfInBounds_toArray,List.set_cons_zero,List.set_cons_succ]
 clear hK;refine Zau (rs:=[16]) (by kernel_rfl) (by simp) ?_;intro i hi;simp only [List.mem_cons,List.not_mem_nil,or_false] at hi;subst hi;refine Zbj rfl ?_;intro K hK;refine ZfN (wA2.alloc (.cells #[.int .i64 (p.mid:Int),.int .i64 (p.hi:Int),.bool false,.int .i64 (p.lo:Int),.int .i64 (p.mid:Int),.bool false] 246)) (by rfl) _ _ (by rfl) B wA2.heap.size 2 (.slice (some ⟨g,0,none⟩) (L+1) cap) (ps++[⟨p.lo,p.hi,true⟩]) [⟨p.mid,p.hi,false⟩,⟨p.lo,p.mid,false⟩] (by rfl) (HOW.out wA2 hbC2) (by rfl) (by rfl) (HBX.out wA2) HLE.out (HWB.out wA2 hbC2) ?_;intro v' w6 hO6 hB6 hk6 hf6;have hS6:=ZpP H3s.out HBL5.out.1 HBL5.out.2.1 (fun e=>HGP.out e) hbC2 hk6 HSS2.out;refine hK _ _ ⟨fun _=>hS6,?_⟩
 try simp only [Act.put,List.setIfInBounds_toArray,List.set_cons_zero,List.set_cons_succ]
 clear hK;have hS6b:=hS6;obtain⟨f5,_⟩:=hS6;have g5:w6.frozen? ⟨b,5,none⟩=false:=Zl5 H3s.out HBL5.out.1 hbC2 hk6;obtain⟨va,vc,hve⟩:=hO6.slice;obtain⟨L6,hL6⟩:∃L6,(ps++[(⟨p.lo,p.hi,true⟩:Part)]++[(⟨p.mid,p.hi,false⟩:Part),⟨p.lo,p.mid,false⟩]).length=L6:=⟨_,rfl⟩
 rw [hL6] at hve;subst hve;refine Zau (rs:=[17]) (by kernel_rfl) (by simp) ?_;intro i hi;simp only [List.mem_cons,List.not_mem_nil,or_false] at hi;subst hi;refine Zbj rfl ?_;intro K hK
 go_simp
 refine hK _ _ ⟨fun _=>hS6b,?_⟩
 try simp only [Act.put,List.setIfInBounds_toArray,List.set_cons_zero,List.set_cons_succ]
 clear hK;refine Zau (rs:=[18]) (by kernel_rfl) (by simp) ?_;intro i hi;simp only [List.mem_cons,List.not_mem_nil,or_false] at hi;subst hi;refine Zbj rfl ?_;intro K hK
 go_simp
 refine hK _ _ ⟨fun _=>hS6b,?_⟩
 try simp only [Act.put,List.setIfInBounds_toArray,List.set_cons_zero,List.set_cons_succ]
 clear hK;refine Zau (rs:=[19]) (by kernel_rfl) (by simp) ?_;intro i hi;simp only [List.mem_cons,List.not_mem_nil,or_false] at hi;subst hi
 have HPU:Hid (Pushed w5 w6 (.slice (some ⟨g,0,none⟩) (L+1) cap) (.slice va L6 vc)):=zh (by
  have hs2:(wA2.alloc (.cells #[.int .i64 (p.mid:Int),.int .i64 (p.hi:Int),.bool false,.int .i64 (p.lo:Int),.int .i64 (p.mid:Int),.bool false] 246)).heap.size=wA2.heap.size+1:=by simp
  have hz:=hbC2.size;exact⟨hB6.os.trans hbC2.os,hB6.tape.trans hbC2.tape,hB6.output.trans hbC2.output,by have:=hB6.size;omega,fun k hk hn=>(hk6 k (by omega) hn).trans ((Zam (by omega)).trans (hbC2.block k hk)),fun k hk=>(hf6 k hk).imp id (fun h=>by omega)⟩)
 have HG:Hid (IsSo B (w6.setCell ⟨b,5,none⟩ (.slice va L6 vc)) b bo bc ba vk (.slice va L6 vc) n kb (halvesS S ps p)):=zh (H3s.out.grown HPU.out hO6 0 (fun _=>trivial) (by unfold halvesS;simp))
 have HBB:Hid (Below B w (w6.setCell ⟨b,5,none⟩ (.slice va L6 vc))):=zh (by
  have h1:Below B w w5:=(HB2.out.mono hb).trans (HT3.out.below (Nat.le_trans hb HB2.out.size) (fun k hk=>by have:=HBG.out;have e:k=g:=hk;omega));have h2:Below B w5 w6:=(hbC2.mono HBL5.out.2.2).trans (((Below.refl B wA2).alloc (by have:=hbC2.size;have:=HBL5.out.2.2;omega) _).trans hB6);exact(h1.trans h2).setCell (p:=⟨b,5,none⟩) HBS.out _)
 have HKS:Hid (KbSame w (w6.setCell ⟨b,5,none⟩ (.slice va L6 vc)) kb):=zh (fun x hx=>by
  obtain⟨k1,k2,k3,k4,k5x,k6⟩:=HKB.out x hx;have hl2:x<w2.heap.size:=Nat.lt_of_lt_of_le k1 HB2.out.size;have hl5:x<w5.heap.size:=Nat.lt_of_lt_of_le hl2 HT3.out.size;rw [heap_setCell_other _ _ _ _ (by exact k2),HPU.out.block x hl5 k6,HT3.out.block x hl2 (fun e=>k6 (by rw [e];rfl))];exact HB2.out.block x k1)
 refine Zbj rfl ?_;intro K hK
 go_simp
 refine hK _ _ ⟨fun h=>absurd rfl h,?_⟩;refine ZeX (by kernel_rfl) ?_ _;refine bodyPost_end (results_none rfl _ _ _) rfl ?_;exact⟨rfl,_,HG.out,HBB.out,HKS.out⟩
end
end
section
open Go.RowKit BwtM SrtM PkM
theorem ZrW (g lo hi n:Nat) (h1:lo<=hi) (h2:hi<=n) (h3:lo<n) (hn:n<=1000000) (W:World):(Instr.slice 106 (.slice (some ⟨g,0,none⟩) n n) (some (.int .i64 (lo:Int))) (some (.int .i64 (hi:Int))) none).run Tryz.prog W=.ok (.slice (some ⟨g,lo,none⟩) (hi-lo) (n-lo)) W:=by
 have hs:(sizeOf (Tryz.prog.elem 106)).run Tryz.prog W=.ok 1 W:=by kernel_rfl
 rw [run_slice_lh W 106 (some ⟨g,0,none⟩) n n (by kernel_rfl) .i64 .i64 _ _ (by omega) (by omega) (by omega),hs];have e1:((lo:Int)).toNat=lo:=by omega
 have e2:((hi:Int)).toNat=hi:=by omega
 have e3:¬n=lo:=by omega
 simp [Result.andThen,sliced,e1,e2,e3,Addr.add];intro h;omega
theorem Ztw (g lo n:Nat) (h3:lo<n) (hn:n<=1000000) (W:World):(Instr.slice 106 (.slice (some ⟨g,0,none⟩) n n) (some (.int .i64 (lo:Int))) none none).run Tryz.prog W=.ok (.slice (some ⟨g,lo,none⟩) (n-lo) (n-lo)) W:=by
 have hs:(sizeOf (Tryz.prog.elem 106)).run Tryz.prog W=.ok 1 W:=by kernel_rfl
 rw [run_slice_l W 106 (some ⟨g,0,none⟩) n n (by kernel_rfl) .i64 _ (by omega) (by omega),hs];have e1:((lo:Int)).toNat=lo:=by omega
 have e3:¬n=lo:=by omega
 simp [Result.andThen,sliced,e1,e3,Addr.add];intro h;omega
theorem Ztm (g off m len cap:Nat) (h:m<=len) (hc:len<=cap) (hn:cap<=1000000) (W:World):(Instr.slice 106 (.slice (some ⟨g,off,none⟩) len cap) none (some (.int .i64 (m:Int))) none).run Tryz.prog W=.ok (.slice (some ⟨g,off,none⟩) m cap) W:=by
 have hs:(sizeOf (Tryz.prog.elem 106)).run Tryz.prog W=.ok 1 W:=by kernel_rfl
 rw [run_slice_h W 106 (some ⟨g,off,none⟩) len cap (by kernel_rfl) .i64 _ (by omega) (by omega),hs];have e1:((m:Int)).toNat=m:=by omega
 simp [Result.andThen,sliced,e1,Addr.add]
theorem ZpQ (W:World) (ty g n k sb so sc m:Nat) (zs ys:List Int) (hR:RowI W g zs) (hz:zs.length=n) (hY:RowI W sb ys) (hk:k+m<=n) (hs:so+m<=ys.length) :
  ∃cs,(Builtin.copy_ #[106,106] ty #[.slice (some ⟨g,k,none⟩) (n-k) (n-k),.slice (some ⟨sb,so,none⟩) m sc]).run Tryz.prog W=.ok (.int .i64 (m:Int)) (W.setRow g cs)/\RowI (W.setRow g cs) g (zs.take k++(ys.drop so).take m++zs.drop (k+m)):=by
 have hm:((ys.drop so).take m).length=m:=by rw [List.length_take,List.length_drop];omega
 have h:=run_copy_row (P:=Tryz.prog) W 106 106 ty 3 g k (n-k) (n-k) ⟨sb,so,none⟩ m sc _ 3 (((ys.drop so).take m).map iv64) Tryz.underlying106 (by kernel_rfl) hR (by rw [List.length_map,hm];exact(Nat.min_eq_left (by omega)).symm) (fun j v hj=>by
  rw [List.getElem?_map] at hj
  have hjm:j<m:=by
   rcases Nat.lt_or_ge j m with c|c
   ·exact c
   ·rw [List.getElem?_eq_none (by omega)] at hj;cases hj
  rw [List.getElem?_take_of_lt hjm,List.getElem?_drop] at hj;have hl:so+j<ys.length:=by omega
  rw [List.getElem?_eq_getElem hl] at hj;rw [Addr.add_lit,(hY.cell hl).1,List.getD_eq_getElem?_getD,List.getElem?_eq_getElem hl];exact hj) (by rw [List.length_map,hm];simp;omega) (fun v hv=>by
  obtain⟨x,_,rfl⟩:=List.mem_map.1 hv;rfl)
 rw [List.length_map,hm] at h;refine⟨_,h,?_⟩;have h2:=setRow_heap W g _ ((zs.map iv64).toArray.toList.take k++((ys.drop so).take m).map iv64++(zs.map iv64).toArray.toList.drop (k+m)).toArray 3 (0,0) hR;unfold RowI;rw [h2];congr 2;apply Array.toList_inj.1;show(zs.map iv64).take k++((ys.drop so).take m).map iv64++(zs.map iv64).drop (k+m)=(zs.take k++(ys.drop so).take m++zs.drop (k+m)).map iv64;simp only [List.map_append,List.map_take,List.map_drop]
theorem ZfO {b:Nat} {w0 w:World} (h:Touch (·=b) w0 w) (cs:Array Value):Touch (·=b) w0 (w.setRow b cs):=
 ⟨h.os,h.tape,h.output,by rw [Zat];exact h.size,fun i hi hs=>(setRow_other _ _ i _ (fun e=>hs (by omega))).trans (h.block i hi hs)⟩
def layS (S:SS) (lo g:Nat):SS:={ S with asd:=S.asd.take S.laid++(S.ord.drop (lo+S.laid)).take g++S.asd.drop (S.laid+g),laid:=S.laid+g }
section
variable {B : Nat} {b bo bc ba n : Nat} {vk vw : Value} {kb : List Nat} {S : SS}
def LayP (B:Nat) (w w':World) (b bo bc ba n:Nat) (vk vw:Value) (kb:List Nat) (S':SS) (g:Nat) (e:Ending):Prop:=
 e=.returned (.int .i64 (g:Int))/\IsSo B w' b bo bc ba vk vw n kb S'/\Below B w w'/\KbSame w w' kb
theorem Zrw (w:World) (p:Part) (k g:Nat) (h:IsSo B w b bo bc ba vk vw n kb S) (hlo:p.lo+S.laid<=p.mid) (hmid:p.mid<n) (hpn:p.hi<=n) (hn:n<=900000) (hk:k<=9223372036854775807) (hg:g=min k (p.mid-p.lo-S.laid)) (hb:B<=w.heap.size) :
  Calls Tryz.prog 192 #[.pointer (some ⟨b,0,none⟩),.agg #[.int .i64 (p.lo:Int),.int .i64 (p.hi:Int),.bool p.begun],.int .i64 (k:Int)] w fun e w'=>
  LayP B w w' b bo bc ba n vk vw kb (layS S p.lo g) g e:=by
 have hg0:=heap_alloc_new w (.cells #[.int .i64 (p.lo:Int),.int .i64 (p.hi:Int),.bool p.begun] 246);have hB0:=(Below.refl w.heap.size w).alloc (Nat.le_refl _) (.cells #[.int .i64 (p.lo:Int),.int .i64 (p.hi:Int),.bool p.begun] 246);have H0:=zh (h.below hB0);have HB0:=zh hB0;have HS0:Hid (w.heap.size<(w.alloc (.cells #[.int .i64 (p.lo:Int),.int .i64 (p.hi:Int),.bool p.begun] 246)).heap.size):=zh (by simp);have HMID:=zh (fun W=>Zka p.lo p.hi p.begun W (by omega) (by omega));have hmb:(⟨p.lo,p.hi,p.begun⟩:Part).mid=p.mid:=rfl;rw [hmb] at HMID;have HKAP:=zh h.kap;have HBS:=zh h.base;obtain⟨a,ha⟩:∃a,p.lo+S.laid=a:=⟨_,rfl⟩
 have hai:(p.lo:Int)+(S.laid:Int)=(a:Int):=by omega
 have haw:IntKind.i64.wrap (a:Int)=(a:Int):=IntWalk.i64_in _ (by omega);rw [ha] at hlo;have hs1:=fun W=>ZrW bo a p.mid n hlo (by omega) (by omega) (by omega) W
 have hs2:=fun W=>Ztw ba S.laid n (by omega) (by omega) W
 have hs3:=fun W=>Ztm bo a g (p.mid-a) (n-a) (by omega) (by omega) (by omega) W
 have HLAY:Hid (∀W,IsSo B W b bo bc ba vk vw n kb S->∃cs,(Builtin.copy_ #[106,106] 3 #[.slice (some ⟨ba,S.laid,none⟩) (n-S.laid) (n-S.laid),.slice (some ⟨bo,a,none⟩) g (n-a)]).run Tryz.prog W=.ok (.int .i64 (g:Int)) (W.setRow ba cs) /\
   IsSo B ((W.setRow ba cs).setCell ⟨b,6,none⟩ (.int .i64 ((S.laid+g:Nat):Int))) b bo bc ba vk vw n kb (layS S p.lo g)/\SoObj (W.setRow ba cs) b bo bc ba n vk vw S):=zh (fun W hW=>by
  obtain⟨cs,h1,h2⟩:=ZpQ W 3 ba n S.laid bo a (n-a) g (toI S.asd) (toI S.ord) hW.ra (by rw [toI_length];exact hW.la) hW.ro (by omega) (by rw [toI_length,hW.lo];omega)
  have e:(toI S.asd).take S.laid++((toI S.ord).drop a).take g++(toI S.asd).drop (S.laid+g)=toI (S.asd.take S.laid++(S.ord.drop (p.lo+S.laid)).take g++S.asd.drop (S.laid+g)):=by
   rw [ha];unfold toI;rw [List.map_append,List.map_append,List.map_take,List.map_take,List.map_drop,List.map_drop]
  rw [e] at h2;have hI:=hW.inAsd (ZfO (Touch.refl _ _) cs) _ (by rw [List.length_append,List.length_append,List.length_take,List.length_take,List.length_drop,List.length_drop,hW.la,hW.lo];omega) h2;exact⟨cs,h1,hI.own (Zae (Touch.refl _ _)) (hI.obj.set6 (S.laid+g)) rfl rfl rfl rfl,hW.obj.other (ZfO (Touch.refl _ _) cs) (fun e=>hW.apart.2.2.1 e)⟩)
 obtain⟨ll,hll⟩:∃ll,p.mid-a=ll:=⟨_,rfl⟩
 have hgm:g=min k ll:=by omega
 have hlg:S.laid+g<=1000000:=by omega
 have hmin:(if ll<k then(ll:Int) else(k:Int))=(g:Int):=by rw [hgm];split<;>omega
 obtain⟨lg,hlgE⟩:∃lg,S.laid+g=lg:=⟨_,rfl⟩
 have hlag:(S.laid:Int)+(g:Int)=(lg:Int):=by omega
 rw [hlgE] at HLAY hlg;rw [hll] at hs1 hs3;clear hB0 hmb ha h hg hgm hlgE;go_enter Tryz.func192,Tryz.ntmps192;go_wp2_with fail;obtain⟨pb,hpb⟩:∃pb,w.heap.size=pb:=⟨_,rfl⟩
 have HPB:=zh hpb;rw [hpb] at hg0 HS0;generalize w.alloc (.cells #[.int .i64 (p.lo:Int),.int .i64 (p.hi:Int),.bool p.begun] 246)=w1 at *;obtain⟨d0,_,d2,_,_,_,d6,_⟩:=H0.out.obj.cells;have q0:∀sb:Beneath w1.heap.size w1,sb.val.cell? ⟨b,0,none⟩=some (.slice (some ⟨bo,0,none⟩) n n):=fun sb=>Beneath.cell d0 H0.out.obj.lt sb
 have q6:∀sb:Beneath w1.heap.size w1,sb.val.cell? ⟨b,6,none⟩=some (.int .i64 (S.laid:Int)):=fun sb=>Beneath.cell d6 H0.out.obj.lt sb
 have p0:∀sb:Beneath w1.heap.size w1,sb.val.cell? ⟨pb,0,none⟩=some (.int .i64 (p.lo:Int)):=fun sb=>Beneath.cell (by rw [cell_of_row _ _ 0 _ _ _ hg0];rfl) HS0.out sb
 have p1:∀sb:Beneath w1.heap.size w1,sb.val.cell? ⟨pb,1,none⟩=some (.int .i64 (p.hi:Int)):=fun sb=>Beneath.cell (by rw [cell_of_row _ _ 1 _ _ _ hg0];rfl) HS0.out sb
 have p2:∀sb:Beneath w1.heap.size w1,sb.val.cell? ⟨pb,2,none⟩=some (.bool p.begun):=fun sb=>Beneath.cell (by rw [cell_of_row _ _ 2 _ _ _ hg0];rfl) HS0.out sb
 clear d0 d2 d6 hg0;refine Zap w1.heap.size w1 (Below.refl _ _) (by kernel_rfl) (by kernel_rfl) ?_
 repeat (go_big_quiet_step (first
  | (go_at_call 214;rename_i sb;exact Calls.beneath sb (Nat.le_refl _) (HMID.out _))))
 refine wpQuiet_nil ?_;rintro _ ⟨sb,rfl⟩;have H2:=zh (H0.out.below sb.is);have HB2:=zh (HB0.out.trans (sb.is.mono HB0.out.size));clear q0 q6 p0 p1 p2;generalize sb.val=w2 at *;obtain⟨_,_,d2,_,_,_,d6,_⟩:=H2.out.obj.cells;obtain⟨cs,hcp,hI,hO⟩:=HLAY.out (w2.drewN 1) (H2.out.drewN 1);have HI:=zh hI;have HO:=zh hO;have HCP:=zh hcp;clear hI hO hcp;go_wp2_with fail
 go_still_tail 15,(by kernel_rfl)
 refine Zi5 rfl _ _ 106 106 rfl _ _ rfl rfl HCP.out ?_;obtain⟨_,_,_,_,_,_,d6b,_⟩:=HO.out.cells;have e6:=HO.out.frozen 6 (by omega)
 have HT:Hid (Touch (fun x=>x=ba\/x=b) w2 (((w2.drewN 1).setRow ba cs).setCell ⟨b,6,none⟩ (.int .i64 (lg:Int)))):=zh (by
  have t1:Touch (·=ba) w2 ((w2.drewN 1).setRow ba cs):=ZfO (Zan _ _ _) cs;have t2:Touch (·=b) ((w2.drewN 1).setRow ba cs) (((w2.drewN 1).setRow ba cs).setCell ⟨b,6,none⟩ (.int .i64 (lg:Int))):=Zae (Touch.refl _ _);exact(t1.mono (fun _ h=>Or.inl h)).trans (t2.mono (fun _ h=>Or.inr h)) (fun _ h=>Or.inl h))
 have HBB:Hid (Below B w (((w2.drewN 1).setRow ba cs).setCell ⟨b,6,none⟩ (.int .i64 (lg:Int)))):=zh ((HB2.out.mono hb).trans (HT.out.below (Nat.le_trans hb HB2.out.size) (fun x hx=>by
  obtain⟨b1,_,_,b4⟩:=HBS.out;rcases hx with e|e
  ·omega
  ·omega)))
 have HKS:Hid (KbSame w (((w2.drewN 1).setRow ba cs).setCell ⟨b,6,none⟩ (.int .i64 (lg:Int))) kb):=zh (fun x hx=>by
  obtain⟨k1,k2,k3,k4,k5,k6⟩:=HKAP.out x hx
  rw [HT.out.block x (Nat.lt_of_lt_of_le k1 HB2.out.size) (fun e=>by
   rcases e with e|e
   ·exact k5 e
   ·exact k2 e)]
  exact HB2.out.block x k1)
 generalize (w2.drewN 1).setRow ba cs=w3 at *;clear d2 d6 HCP;go_wp2_with fail;go_ret;exact⟨rfl,HI.out,HBB.out,HKS.out⟩
end
end
section
open Go.RowKit BwtM SrtM PkM
theorem Zkb:∀args w,(callFunc 189 args).run Tryz.prog w=.ok (.enter 189 args) w:=enters_of Tryz.func189 (by kernel_rfl) rfl
theorem ZhT:∀args w,(callFunc 229 args).run Tryz.prog w=.ok (.enter 229 args) w:=enters_of Tryz.func229 (by kernel_rfl) rfl
theorem Zl6 (s:ByteArray) (g i:Nat) (w:World) (hc:Txt w g s) (hs:s.size<=1000000) (hi:i<s.size):Calls Tryz.prog 189 #[.int .i64 (i:Int),.pointer (some ⟨g,0,none⟩)] w fun e w'=>e=.returned (.int .i64 (bt s.data.toList i:Int))/\w'=w:=by
 unfold Txt at hc;have hb:=ZpG s hi;have hbl:=Ztl s.data.toList i;have hw:IntKind.i64.wrap (bt s.data.toList i:Int)=(bt s.data.toList i:Int):=IntWalk.i64_in _ (by omega);generalize bt s.data.toList i=x at *;go_enter Tryz.func189,Tryz.ntmps189;go_wp2_with fail;go_ret;exact⟨rfl,rfl⟩
theorem ZdK (s:ByteArray) (w:World):Calls Tryz.prog 159 #[.string s] w fun e w'=>e=.returned (.func (.func 189) #[] #[.pointer (some ⟨w.heap.size,0,none⟩)])/\Txt w' w.heap.size s/\Below w.heap.size w w'/\w'.heap.size=w.heap.size+1:=by
 have HT:Hid (Txt (w.alloc (.cells #[.string s] 9)) w.heap.size s):=zh (by unfold Txt;rw [cell_of_row _ _ 0 _ _ _ (heap_alloc_new _ _)];rfl);have HB:Hid (Below w.heap.size w (w.alloc (.cells #[.string s] 9))):=zh ((Below.refl _ _).alloc (Nat.le_refl _) _);have HS:Hid ((w.alloc (.cells #[.string s] 9)).heap.size=w.heap.size+1):=zh (by simp);go_enter Tryz.func159,Tryz.ntmps159;go_wp2_with fail;go_ret;exact⟨rfl,HT.out,HB.out,HS.out⟩
theorem ZpR (s:ByteArray) (w:World) (g bc n:Nat) (C:List Nat) (ht:Txt w g s) (hs:s.size<=1000000) (hn:n=s.size):KeyV w (.func (.func 189) #[] #[.pointer (some ⟨g,0,none⟩)]) [g] bc n C (bt s.data.toList):=by
 refine⟨_,_,rfl,Zkb,fun w' h1 _ i hi=>?_⟩;have ht':Txt w' g s:=(World.cell?_of_block (w:=w) (a:=⟨g,0,none⟩) (h1 g (by simp))).trans ht;refine(Zl6 s g i w' ht' hs (by omega)).mono ?_;rintro e w2 ⟨rfl,rfl⟩;exact⟨rfl,0,rfl⟩
theorem Zi7 (g1 g2 g3 bc n r i:Nat) (C:List Nat) (w:World) (h1:w.cell? ⟨g1,0,none⟩=some (.int .i64 (r:Int))) (h2:w.cell? ⟨g2,0,none⟩=some (.int .i64 (n:Int))) (h3:w.cell? ⟨g3,0,none⟩=some (.slice (some ⟨bc,0,none⟩) n n))
  (hR:RowI w bc (toI C)) (hl:C.length=n) (hr:r<n) (hn:n<=1000000) (hC:∀j,j<n->C.getD j 0<n) (hi:i<n) :
  Calls Tryz.prog 229 #[.int .i64 (i:Int),.pointer (some ⟨g1,0,none⟩),.pointer (some ⟨g2,0,none⟩),.pointer (some ⟨g3,0,none⟩)] w fun e w'=>e=.returned (.int .i64 (keyC n r (fun j=>C.getD j 0) i:Int))/\∃m,w'=w.drewN m:=by
 have hmn:(i+r) % n<n:=Nat.mod_lt _ (by omega);have c1:=(hR.cell (i:=i) (by rw [toI_length,hl];exact hi)).1;have c2:=(hR.cell (i:=(i+r) % n) (by rw [toI_length,hl];exact hmn)).1;rw [toI_getD] at c1 c2;have b1:=hC i hi;have b2:=hC _ hmn;have hkey:keyC n r (fun j=>C.getD j 0) i=C.getD i 0*n+C.getD ((i+r) % n) 0:=rfl
 have hmod:(i+r<n/\(i+r) % n=i+r)\/(n<=i+r/\(i+r) % n=i+r-n):=by
  by_cases c:i+r<n
  ·exact Or.inl ⟨c,Nat.mod_eq_of_lt c⟩
  ·exact Or.inr ⟨by omega,by rw [Nat.mod_eq_sub_mod (by omega),Nat.mod_eq_of_lt (by omega)]⟩
 rw [hkey];have hprod:C.getD i 0*n<=1000000*1000000:=Nat.mul_le_mul (by omega) hn;have hpi:(C.getD i 0:Int)*(n:Int)=((C.getD i 0*n:Nat):Int):=by rw [Int.natCast_mul]
 obtain⟨x,hx⟩:∃x,C.getD i 0=x:=⟨_,rfl⟩
 obtain⟨y,hy⟩:∃y,C.getD ((i+r) % n) 0=y:=⟨_,rfl⟩
 rw [hx] at c1 b1 hpi hprod ⊢;rw [hy] at c2 b2 ⊢;obtain⟨q,hq⟩:∃q,x*n=q:=⟨_,rfl⟩
 rw [hq] at hpi hprod ⊢;obtain⟨z,hz⟩:∃z,q+y=z:=⟨_,rfl⟩
 rw [hz];have hzi:(q:Int)+(y:Int)=(z:Int):=by omega
 have hw1:IntKind.i64.wrap (q:Int)=(q:Int):=IntWalk.i64_in _ (by omega);have hw2:IntKind.i64.wrap (z:Int)=(z:Int):=IntWalk.i64_in _ (by omega);obtain⟨o,ho⟩:∃o,i+r=o:=⟨_,rfl⟩
 have hoi:(i:Int)+(r:Int)=(o:Int):=by omega
 have hii:(i:Int)<(n:Int):=by omega
 have hi0:(0:Int)<=(i:Int):=by omega
 rw [ho] at hmod c2;rcases hmod with⟨h4,h5⟩|⟨h4,h5⟩
 ·rw [h5] at c2;have h6:¬(o:Int)>=(n:Int):=by omega
  have hon:(o:Int)<(n:Int):=by omega
  clear hR hC hx hy hq hz ho h5 hkey hmn;go_enter Tryz.func229,Tryz.ntmps229;go_wp2_with fail
  go_quiet (fail)
  go_wp2_with fail;go_ret;exact⟨rfl,_,rfl⟩
 ·rw [h5] at c2;obtain⟨o2,ho2⟩:∃o2,o-n=o2:=⟨_,rfl⟩
  rw [ho2] at c2;have h7:(o:Int)-(n:Int)=(o2:Int):=by omega
  have h6:(o:Int)>=(n:Int):=by omega
  have hon:(o2:Int)<(n:Int):=by omega
  have honn:o2<n:=by omega
  clear hR hC hx hy hq hz h5 hkey hmn ho2;go_enter Tryz.func229,Tryz.ntmps229;go_wp2_with fail
  go_quiet (fail)
  go_wp2_with fail;go_ret;exact⟨rfl,_,rfl⟩
structure Caught16 (w:World) (g1 g2 g3 bc n r:Nat):Prop where
 c1:w.cell? ⟨g1,0,none⟩=some (.int .i64 ((r % n:Nat):Int))
 c2:w.cell? ⟨g2,0,none⟩=some (.int .i64 (n:Int))
 c3:w.cell? ⟨g3,0,none⟩=some (.slice (some ⟨bc,0,none⟩) n n)
theorem Zk5 (w:World) (g1 g2 g3 bc n r:Nat) (C:List Nat) (h:Caught16 w g1 g2 g3 bc n r) (hl:C.length=n) (hn:n<=1000000) (h0:0<n) (hC:∀j,j<n->C.getD j 0<n) :
  KeyV w (.func (.func 229) #[] #[.pointer (some ⟨g1,0,none⟩),.pointer (some ⟨g2,0,none⟩),.pointer (some ⟨g3,0,none⟩)]) [g1,g2,g3] bc n C (keyC n r (fun j=>C.getD j 0)):=by
 refine⟨_,_,rfl,ZhT,fun w' h1 hR i hi=>?_⟩;have k1:=(World.cell?_of_block (w:=w) (a:=⟨g1,0,none⟩) (h1 g1 (by simp))).trans h.c1;have k2:=(World.cell?_of_block (w:=w) (a:=⟨g2,0,none⟩) (h1 g2 (by simp))).trans h.c2;have k3:=(World.cell?_of_block (w:=w) (a:=⟨g3,0,none⟩) (h1 g3 (by simp))).trans h.c3;refine(Zi7 g1 g2 g3 bc n (r % n) i C w' k1 k2 k3 hR hl (Nat.mod_lt _ h0) hn hC hi).mono ?_;rintro e w2 ⟨rfl,hm⟩;exact⟨by rw [Zrs],hm⟩
end
section
open Go.RowKit BwtM PkM
def RkP (N:Nat) (P:List Nat) (L:List Int):Prop:=P.Nodup/\(∀x∈P,x<N)/\L.length=N/\∀p,p<N->L.getD p 0=if p∈P then(P.idxOf p:Int) else -1
theorem RkP.some {N:Nat} {P:List Nat} {L:List Int} {x:Nat} (h:RkP N P L) (hx:x<N) (hn:L.getD x 0≠-1):x∈P:=by
 by_cases hm:x∈P
 ·exact hm
 ·exact absurd (by rw [h.2.2.2 x hx,if_neg hm]) hn
theorem ZdL {P:Program} {f:FuncId} {args:Array Value} {w:World} {a n:Nat} {v:Value} (h:Calls P f args (w.drewN (a+n)) fun e w'=>e=.returned v/\∃m,w'=(w.drewN (a+n)).drewN m) :
  Calls P f args (w.drewN (a+n)) fun e w''=>e=.returned v/\∃m,w''=w.drewN (a+m):=
 h.mono fun _ _ ⟨he,m,hm⟩=>⟨he,n+m,by rw [hm,World.drewN_drewN,Nat.add_assoc]⟩
end
section
open Go.RowKit BwtM SrtM PkM
section
variable {B : Nat} {b bo bc ba n : Nat} {vk vw : Value} {kb : List Nat} {S : SS}
structure PutSame (S S':SS):Prop where
 cls:S'.cls=S.cls
 asd:S'.asd=S.asd
 reach:S'.reach=S.reach
 ps:S'.ps=S.ps
 laid:S'.laid=S.laid
 made:S'.made=S.made
 steps:S'.steps=S.steps
theorem PutSame.refl (S:SS):PutSame S S:=⟨rfl,rfl,rfl,rfl,rfl,rfl,rfl⟩
def PutAt (B:Nat) (w wr:World) (b bo bc ba n:Nat) (vk vw:Value) (kb:List Nat) (T:List UInt8) (K:Nat->Nat) (S S':SS) (ps:List Part) (p:Part) (A:List Nat) (m R j:Nat):Prop:=
 IsSo B wr b bo bc ba vk vw n kb S'/\Srt T K S' ps p A m (R-j)/\PutSame S S'/\S'.first+S'.second=S.first+S.second+j/\j<=R/\Below B w wr/\KbSame w wr kb
def PutP (B:Nat) (w wr:World) (b bo bc ba n:Nat) (vk vw:Value) (kb:List Nat) (T:List UInt8) (K:Nat->Nat) (S:SS) (ps:List Part) (p:Part) (A:List Nat) (m R j:Nat) (e:Ending):Prop:=
 e=.returned (.int .i64 (j:Int))/\∃S',PutAt B w wr b bo bc ba n vk vw kb T K S S' ps p A m R j
theorem KbSame.trans {w w1 w2:World} {kb:List Nat} (h:KbSame w w1 kb) (g:KbSame w1 w2 kb):KbSame w w2 kb:=fun x hx=>(g x hx).trans (h x hx)
theorem IsSo.putFirst {wr:World} (h:IsSo B wr b bo bc ba vk vw n kb S) (at_ x:Nat) (ha:at_<n) :
  IsSo B ((wr.setCell ⟨bo,at_,none⟩ (.int .i64 (x:Int))).setCell ⟨b,7,none⟩ (.int .i64 ((S.first+1:Nat):Int))) b bo bc ba vk vw n kb { S with ord:=S.ord.set at_ x,first:=S.first+1 } /\
  SoObj (wr.setCell ⟨bo,at_,none⟩ (.int .i64 (x:Int))) b bo bc ba n vk vw S:=by
 have hr:=(h.ro.cell (i:=at_) (by rw [toI_length,h.lo];exact ha)).2.2 (x:Int);have e:(toI S.ord).set at_ (x:Int)=toI (S.ord.set at_ x):=by unfold toI;rw [List.map_set]
 rw [e] at hr;have h1:=h.inOrd (Zae (Touch.refl _ _)) (S.ord.set at_ x) (by rw [List.length_set];exact h.lo) hr;exact⟨h1.own (Zae (Touch.refl _ _)) (h1.obj.set7 (S.first+1)) rfl rfl rfl rfl,h.obj.other (Zae (b:=bo) (Touch.refl _ _)) (fun e=>h.apart.1 e)⟩
theorem IsSo.putSecond {wr:World} (h:IsSo B wr b bo bc ba vk vw n kb S) (at_ x:Nat) (ha:at_<n) :
  IsSo B ((wr.setCell ⟨bo,at_,none⟩ (.int .i64 (x:Int))).setCell ⟨b,8,none⟩ (.int .i64 ((S.second+1:Nat):Int))) b bo bc ba vk vw n kb { S with ord:=S.ord.set at_ x,second:=S.second+1 } /\
  SoObj (wr.setCell ⟨bo,at_,none⟩ (.int .i64 (x:Int))) b bo bc ba n vk vw S:=by
 have hr:=(h.ro.cell (i:=at_) (by rw [toI_length,h.lo];exact ha)).2.2 (x:Int);have e:(toI S.ord).set at_ (x:Int)=toI (S.ord.set at_ x):=by unfold toI;rw [List.map_set]
 rw [e] at hr;have h1:=h.inOrd (Zae (Touch.refl _ _)) (S.ord.set at_ x) (by rw [List.length_set];exact h.lo) hr;exact⟨h1.own (Zae (Touch.refl _ _)) (h1.obj.set8 (S.second+1)) rfl rfl rfl rfl,h.obj.other (Zae (b:=bo) (Touch.refl _ _)) (fun e=>h.apart.1 e)⟩
theorem ZeZ {wr:World} (i j:Nat) (x y:Value):Touch (fun k=>k=bo\/k=b) wr ((wr.setCell ⟨bo,i,none⟩ x).setCell ⟨b,j,none⟩ y):=by
 have t1:Touch (·=bo) wr (wr.setCell ⟨bo,i,none⟩ x):=Zae (Touch.refl _ _);have t2:Touch (·=b) (wr.setCell ⟨bo,i,none⟩ x) ((wr.setCell ⟨bo,i,none⟩ x).setCell ⟨b,j,none⟩ y):=Zae (Touch.refl _ _);exact(t1.mono (fun _ h=>Or.inl h)).trans (t2.mono (fun _ h=>Or.inr h)) (fun _ h=>Or.inl h)
theorem Zrx (T:List UInt8) (K:Nat->Nat) (w:World) (ps:List Part) (p:Part) (A:List Nat) (m R k:Nat) (h:IsSo B w b bo bc ba vk vw n kb S) (hs:Srt T K S ps p A m R) (hbg:p.begun=true) (hlaid:0<k->S.laid=p.mid-p.lo)
  (hkey:KeyV w vk kb bc n S.cls K) (hK:∀i,i<n->K i<=1000000000000) (hTn:T.length=n) (hn:n<=900000) (hk:k<=9223372036854775807) (hb:B<=w.heap.size) :
  Calls Tryz.prog 193 #[.pointer (some ⟨b,0,none⟩),.agg #[.int .i64 (p.lo:Int),.int .i64 (p.hi:Int),.bool p.begun],.int .i64 (k:Int)] w fun e w'=>
  PutP B w w' b bo bc ba n vk vw kb T K S ps p A m R (min k (p.hi-p.lo-(S.first+S.second))) e:=by
 have hfit:=hs.fit;rw [hTn] at hfit;obtain⟨f1,f2,f3,f4,f5⟩:=hfit;have hf2:=(hs.fits p (by simp)).2.2 hbg;have hg0:=heap_alloc_new w (.cells #[.int .i64 (p.lo:Int),.int .i64 (p.hi:Int),.bool p.begun] 246);have hB0:=(Below.refl w.heap.size w).alloc (Nat.le_refl _) (.cells #[.int .i64 (p.lo:Int),.int .i64 (p.hi:Int),.bool p.begun] 246);have H0:=zh (h.below hB0);have HB0:=zh hB0;have HS0:Hid (w.heap.size<(w.alloc (.cells #[.int .i64 (p.lo:Int),.int .i64 (p.hi:Int),.bool p.begun] 246)).heap.size):=zh (by simp);have HMID:=zh (fun W=>Zka p.lo p.hi p.begun W (by omega) (by omega));have HSIZ:=zh (fun W=>Zhh p.lo p.hi p.begun W (by omega) (by omega));have hmb:(⟨p.lo,p.hi,p.begun⟩:Part).mid=p.mid:=rfl;rw [hmb] at HMID;have HSRT:=zh hs;have HBG:=zh hbg;have HLD:=zh hlaid;obtain⟨F,caps,rfl,he,hcall⟩:=hkey;have HCALL:=zh hcall;have HKAP:=zh h.kap;have HKB0:Hid (KbSame w (w.alloc (.cells #[.int .i64 (p.lo:Int),.int .i64 (p.hi:Int),.bool p.begun] 246)) kb):=zh (fun x hx=>Zam (h.kap x hx).1);obtain⟨x1,hx1⟩:∃x1,p.mid-p.lo=x1:=⟨_,rfl⟩
 obtain⟨x2,hx2⟩:∃x2,p.hi-p.mid=x2:=⟨_,rfl⟩
 obtain⟨sz,hsz⟩:∃sz,p.hi-p.lo=sz:=⟨_,rfl⟩
 have hx1i:(p.mid:Int)-(p.lo:Int)=(x1:Int):=by omega
 have hx1w:IntKind.i64.wrap (x1:Int)=(x1:Int):=IntWalk.i64_in _ (by omega);have hs1:=fun W=>Ztm ba 0 x1 n n (by omega) (Nat.le_refl _) (by omega) W
 have hs2:=fun W=>ZrW bo p.mid p.hi n f2 f3 (by omega) (by omega) W
 rw [hx2] at hs2;rw [hsz] at HSIZ ⊢;have hbl:=h.obj.lt;have hbol:=h.ro.lt;have HBL:Hid (b<w.heap.size/\bo<w.heap.size):=zh ⟨hbl,hbol⟩;obtain⟨tot,htot⟩:∃tot,sz-(S.first+S.second)=tot:=⟨_,rfl⟩
 have HTOT:=zh htot;rw [htot];have hxx:x1+x2=sz/\p.lo+x1=p.mid/\p.mid+x2=p.hi/\p.mid<n:=by omega
 obtain⟨hxs,hxl,hxm,hmn⟩:=hxx;have HXL:=zh hxl;have HXM:=zh hxm;have HXS:=zh hxs;clear hB0 hmb h hs hbg hlaid hcall hbl hbol htot f4 hxs hxl hxm;go_enter Tryz.func193,Tryz.ntmps193;go_wp2_with fail;obtain⟨pb,hpb⟩:∃pb,w.heap.size=pb:=⟨_,rfl⟩
 have HPB:=zh hpb;rw [hpb] at hg0 HS0 ⊢;generalize w.alloc (.cells #[.int .i64 (p.lo:Int),.int .i64 (p.hi:Int),.bool p.begun] 246)=w1 at *;have HG0:=zh hg0;obtain⟨d0,_,d2,_⟩:=H0.out.obj.cells;have q0:∀sb:Beneath w1.heap.size w1,sb.val.cell? ⟨b,0,none⟩=some (.slice (some ⟨bo,0,none⟩) n n):=fun sb=>Beneath.cell d0 H0.out.obj.lt sb
 have q2:∀sb:Beneath w1.heap.size w1,sb.val.cell? ⟨b,2,none⟩=some (.slice (some ⟨ba,0,none⟩) n n):=fun sb=>Beneath.cell d2 H0.out.obj.lt sb
 have p0:∀sb:Beneath w1.heap.size w1,sb.val.cell? ⟨pb,0,none⟩=some (.int .i64 (p.lo:Int)):=fun sb=>Beneath.cell (by rw [cell_of_row _ _ 0 _ _ _ hg0];rfl) HS0.out sb
 have p1:∀sb:Beneath w1.heap.size w1,sb.val.cell? ⟨pb,1,none⟩=some (.int .i64 (p.hi:Int)):=fun sb=>Beneath.cell (by rw [cell_of_row _ _ 1 _ _ _ hg0];rfl) HS0.out sb
 have p2:∀sb:Beneath w1.heap.size w1,sb.val.cell? ⟨pb,2,none⟩=some (.bool p.begun):=fun sb=>Beneath.cell (by rw [cell_of_row _ _ 2 _ _ _ hg0];rfl) HS0.out sb
 clear d0 d2 hg0;refine Zap w1.heap.size w1 (Below.refl _ _) (by kernel_rfl) (by kernel_rfl) ?_
 repeat (go_big_quiet_step (first
  | (go_at_call 214;rename_i sb;exact Calls.beneath sb (Nat.le_refl _) (HMID.out _))))
 refine wpQuiet_nil ?_;rintro _ ⟨sb,rfl⟩;have H2:=zh (H0.out.below sb.is);have HB2:Hid (Below B w sb.val):=zh ((HB0.out.trans (sb.is.mono HB0.out.size)).mono hb);have HG2:Hid (sb.val.heap[pb]?=some (.cells #[.int .i64 (p.lo:Int),.int .i64 (p.hi:Int),.bool p.begun] 246 (0,0))):=zh ((sb.is.block pb HS0.out).trans HG0.out);have HK2:Hid (KbSame w sb.val kb):=zh (HKB0.out.trans (fun x hx=>sb.is.block x (H0.out.kap x hx).1));clear q0 q2 p0 p1 p2;generalize sb.val=w2 at *;have hlim:p.lo<=900000/\p.hi<=900000/\x1<=900000/\x2<=900000/\sz<=900000:=by omega
 go_wp2_with fail
 go_loopw [9] (fun vg wr=>∃(j:Nat) (S':SS),vg=.int .i64 (j:Int)/\j<=k/\j<=tot/\PutAt B w wr b bo bc ba n (.func (.func F) #[] caps) vw kb T K S S' ps p A m R j/\wr.heap[pb]?=some (.cells #[.int .i64 (p.lo:Int),.int .i64 (p.hi:Int),.bool p.begun] 246 (0,0))) (fun vg _=>k-(intOf vg).toNat)
 case atStart=>exact⟨0,S,rfl,by omega,by omega,⟨H2.out,by rw [Nat.sub_zero];exact HSRT.out,PutSame.refl S,by omega,by omega,HB2.out,HK2.out⟩,HG2.out⟩
 case round=>
  clear H2 HB2 HG2 HK2;obtain⟨j,S',rfl,hjk,hjt,⟨hI,hS,hSm,hsum,hjR,hB,hKB⟩,hG⟩:=hrel;have HI:=zh hI;have HS:=zh hS;have HSM:=zh hSm;have HB:=zh hB;have HKS:=zh hKB;have HG:=zh hG;have HSUM:=zh hsum;have hbd:=hS.bounds HBG.out;rw [hx1,hx2] at hbd;obtain⟨hb1,hb2⟩:=hbd;obtain⟨d0,_,d2,_,d4,_,_,d7,d8,_⟩:=hI.obj.cells;have hpl:pb<wr.heap.size:=(Array.getElem?_eq_some_iff.1 hG).1;obtain⟨fi,hfi⟩:∃fi,S'.first=fi:=⟨_,rfl⟩
  obtain⟨se,hse⟩:∃se,S'.second=se:=⟨_,rfl⟩
  have HFI:=zh hfi;have HSE:=zh hse;rw [hfi] at d7 hb1 HSUM;rw [hse] at d8 hb2 HSUM;obtain⟨fs,hfs⟩:∃fs,fi+se=fs:=⟨_,rfl⟩
  have hfsi:(fi:Int)+(se:Int)=(fs:Int):=by omega
  have hfsw:IntKind.i64.wrap (fs:Int)=(fs:Int):=IntWalk.i64_in _ (by omega);clear hI hS hSm hB hKB hG hsum hfi hse;have q4:∀sb:Beneath wr.heap.size wr,sb.val.cell? ⟨b,7,none⟩=some (.int .i64 (fi:Int)):=fun sb=>Beneath.cell d7 HI.out.obj.lt sb
  have q5:∀sb:Beneath wr.heap.size wr,sb.val.cell? ⟨b,8,none⟩=some (.int .i64 (se:Int)):=fun sb=>Beneath.cell d8 HI.out.obj.lt sb
  have p0:∀sb:Beneath wr.heap.size wr,sb.val.cell? ⟨pb,0,none⟩=some (.int .i64 (p.lo:Int)):=fun sb=>Beneath.cell (by rw [cell_of_row _ _ 0 _ _ _ HG.out];rfl) hpl sb
  have p1:∀sb:Beneath wr.heap.size wr,sb.val.cell? ⟨pb,1,none⟩=some (.int .i64 (p.hi:Int)):=fun sb=>Beneath.cell (by rw [cell_of_row _ _ 1 _ _ _ HG.out];rfl) hpl sb
  have p2:∀sb:Beneath wr.heap.size wr,sb.val.cell? ⟨pb,2,none⟩=some (.bool p.begun):=fun sb=>Beneath.cell (by rw [cell_of_row _ _ 2 _ _ _ HG.out];rfl) hpl sb
  clear d0 d2 d4 d7 d8;by_cases hjl:j<k
  ·have hji:(j:Int)<(k:Int):=by omega
   by_cases hfl:fs<sz
   ·have hfli:(fs:Int)<(sz:Int):=by omega
    go_wp2_with fail;refine Zap wr.heap.size wr (Below.refl _ _) (by kernel_rfl) (by kernel_rfl) ?_
    repeat (go_big_quiet_step (first
     | (go_at_call 194;rename_i sb;exact Calls.beneath sb (Nat.le_refl _) (HSIZ.out _))))
    refine wpQuiet_nil ?_;rintro _ ⟨sb,rfl⟩;have HI3:=zh (HI.out.below sb.is);have HB3:Hid (Below B w sb.val):=zh (HB.out.trans (sb.is.mono (Nat.le_trans hb HB.out.size)));have HG3:Hid (sb.val.heap[pb]?=some (.cells #[.int .i64 (p.lo:Int),.int .i64 (p.hi:Int),.bool p.begun] 246 (0,0))):=zh ((sb.is.block pb hpl).trans HG.out);have HK3:Hid (KbSame w sb.val kb):=zh (HKS.out.trans (fun x hx=>sb.is.block x (HI.out.kap x hx).1));clear q4 q5 p0 p1 p2 HI HB HG HKS;generalize sb.val=w3 at *;have hxs:=HXS.out;have hxl:=HXL.out;have hxm:=HXM.out;obtain⟨lf,hlf⟩:∃lf,p.lo+fi=lf:=⟨_,rfl⟩
    obtain⟨at_,hat⟩:∃at_,lf+se=at_:=⟨_,rfl⟩
    have hlfi:(p.lo:Int)+(fi:Int)=(lf:Int):=by omega
    have hati:(lf:Int)+(se:Int)=(at_:Int):=by omega
    have hlfw:IntKind.i64.wrap (lf:Int)=(lf:Int):=IntWalk.i64_in _ (by omega);have hatw:IntKind.i64.wrap (at_:Int)=(at_:Int):=IntWalk.i64_in _ (by omega);have hatn:at_<n:=by omega
    have hatni:(at_:Int)<(n:Int):=by omega
    have HATE:Hid (p.lo+fi+se=at_):=zh (by rw [hlf,hat]);have hla:=HI3.out.la;have hlo:=HI3.out.lo;obtain⟨a,haE⟩:∃a,S'.asd.getD fi 0=a:=⟨_,rfl⟩
    obtain⟨c,hcE⟩:∃c,S'.ord.getD (p.mid+se) 0=c:=⟨_,rfl⟩
    have HAE:=zh haE;have HCE:=zh hcE
    have HAN:Hid (fi<x1->a<n/\w3.cell? ⟨ba,fi,none⟩=some (.int .i64 (a:Int))):=zh (fun h=>by
     have h1:=(HS.out.on HBG.out).2.2.2.2 fi (by rw [HSM.out.laid,(HLD.out (by omega))];omega);have h2:=(HI3.out.ra.cell (i:=fi) (by rw [toI_length,hla];omega)).1;rw [toI_getD,haE] at h2;refine⟨?_,h2⟩;rw [<-haE,h1,<-hTn];exact HS.out.lt (by omega))
    have HCN:Hid (se<x2->c<n/\w3.cell? ⟨bo,p.mid+se,none⟩=some (.int .i64 (c:Int))):=zh (fun h=>by
     have h1:=HS.out.ord_get HBG.out (i:=p.mid+se) (by rw [HFI.out,HSE.out];omega);have h2:=(HI3.out.ro.cell (i:=p.mid+se) (by rw [toI_length,hlo];omega)).1;rw [toI_getD,hcE] at h2;refine⟨?_,h2⟩;rw [<-hcE,h1,<-hTn];exact HS.out.lt (by omega))
    have HCC:Hid (∀q m2,q<n->Calls Tryz.prog F (#[.int .i64 (q:Int)]++caps) (w3.drewN m2) fun e w'=>e=.returned (.int .i64 (K q:Int))/\∃m3,w'=(w3.drewN m2).drewN m3):=zh (fun q m2 hq=>HCALL.out (w3.drewN m2) (fun x hx=>HK3.out x hx) (by
     have:=HI3.out.rc;rw [HSM.out.cls] at this;exact this) q hq)
    obtain⟨d0,_,d2,_,d4,_,_,d7,d8,_⟩:=HI3.out.obj.cells;rw [HFI.out] at d7;rw [HSE.out] at d8;have f7:=HI3.out.obj.frozen 7 (by omega);have f8:=HI3.out.obj.frozen 8 (by omega);have hbbo:¬b=bo:=HI3.out.apart.1;have fo:=(HI3.out.ro.cell (i:=at_) (by rw [toI_length,hlo];exact hatn)).2.1;have co:=(HI3.out.ro.cell (i:=at_) (by rw [toI_length,hlo];exact hatn)).1;have g0:w3.cell? ⟨pb,0,none⟩=some (.int .i64 (p.lo:Int)):=by rw [cell_of_row _ _ 0 _ _ _ HG3.out];rfl
    clear haE hcE hla hlo hlf hat hxs hxl hxm;go_wp2_with fail
    go_quiet (fail)
    revert nq
    intro na;have hxs:=HXS.out;by_cases hse2:se=x2
    ·have hE1:((se:Int)==(x2:Int))=true:=by rw [beq_iff_eq];omega
     have hfx:fi<x1:=by omega
     have hfxi:(fi:Int)<(x1:Int):=by omega
     obtain⟨han,ca⟩:=HAN.out hfx;go_wp2_with fail
     go_quiet (fail)
     have HM:=zh (HS.out.first HBG.out (by rw [HSM.out.laid];exact(HLD.out (by omega))) (by rw [HFI.out,hx1];omega) (Or.inl (by rw [HSE.out,hse2,hx2])) (S':={ S' with ord:=S'.ord.set at_ a,first:=fi+1 }) rfl ⟨rfl,by rw [HFI.out],rfl⟩ rfl rfl (by rw [HFI.out,HSE.out,HATE.out];rw [HAE.out]) rfl)
     have HTL:Hid (∀W,Below w3.heap.size w3 W->IsSo B ((W.setCell ⟨bo,at_,none⟩ (.int .i64 (a:Int))).setCell ⟨b,7,none⟩ (.int .i64 ((fi+1:Nat):Int))) b bo bc ba (.func (.func F) #[] caps) vw n kb { S' with ord:=S'.ord.set at_ a,first:=fi+1 }/\Below B w ((W.setCell ⟨bo,at_,none⟩ (.int .i64 (a:Int))).setCell ⟨b,7,none⟩ (.int .i64 ((fi+1:Nat):Int)))/\KbSame w ((W.setCell ⟨bo,at_,none⟩ (.int .i64 (a:Int))).setCell ⟨b,7,none⟩ (.int .i64 ((fi+1:Nat):Int))) kb /\
       ((W.setCell ⟨bo,at_,none⟩ (.int .i64 (a:Int))).setCell ⟨b,7,none⟩ (.int .i64 ((fi+1:Nat):Int))).heap[pb]?=some (.cells #[.int .i64 (p.lo:Int),.int .i64 (p.hi:Int),.bool p.begun] 246 (0,0))):=zh (fun W hW=>by
      have h1:=HI3.out.below hW;have h2:=(h1.putFirst at_ a hatn).1;have t:=ZeZ (bo:=bo) (b:=b) (wr:=W) at_ 7 (.int .i64 (a:Int)) (.int .i64 ((fi+1:Nat):Int));have hz:=hW.size;refine⟨by rw [HFI.out] at h2;exact h2,?_,?_,?_⟩
      ·exact(HB3.out.trans (hW.mono (Nat.le_trans hb HB3.out.size))).trans (t.below (Nat.le_trans (Nat.le_trans hb HB3.out.size) hz) (fun x hx=>by
        obtain⟨b1,b2,_⟩:=HI3.out.base;rcases hx with e|e
        ·omega
        ·omega))
      ·intro x hx;obtain⟨k1,k2,k3,_⟩:=HI3.out.kap x hx
       rw [t.block x (by omega) (fun e=>by
        rcases e with e|e
        ·exact k3 e
        ·exact k2 e),hW.block x k1]
       exact HK3.out x hx
      ·rw [t.block pb (by have:=(Array.getElem?_eq_some_iff.1 HG3.out).1;omega) (fun e=>by
        have h5:=HBL.out;have h6:=HPB.out;rcases e with e|e
        ·omega
        ·omega),hW.block pb (Array.getElem?_eq_some_iff.1 HG3.out).1]
       exact HG3.out)
     go_wp2_with fail;obtain⟨w4,hw4⟩:∃w4,w4=(w3.drewN na).drewN nq:=⟨_,rfl⟩
     rw [<-hw4];have BW4:Hid (Below w3.heap.size w3 (w4.drewN 1)):=zh (by rw [hw4];exact⟨rfl,rfl,rfl,Nat.le_refl _,fun _ _=>rfl⟩);have e0:w4.cell? ⟨b,0,none⟩=some (.slice (some ⟨bo,0,none⟩) n n):=by rw [hw4];exact d0
     have e7:w4.cell? ⟨b,7,none⟩=some (.int .i64 (fi:Int)):=by rw [hw4];exact d7
     have e8:w4.cell? ⟨b,8,none⟩=some (.int .i64 (se:Int)):=by rw [hw4];exact d8
     have c4:=(show w4.cell? ⟨ba,fi,none⟩=some (.int .i64 (a:Int)) from by rw [hw4];exact ca)
     have eo:w4.cell? ⟨bo,at_,none⟩=some (.int .i64 ((toI S'.ord).getD at_ 0)):=by rw [hw4];exact co
     have fo4:w4.frozen? ⟨bo,at_,none⟩=false:=by rw [hw4];exact fo
     have f74:w4.frozen? ⟨b,7,none⟩=false:=by rw [hw4];exact f7
     have f84:w4.frozen? ⟨b,8,none⟩=false:=by rw [hw4];exact f8
     clear hw4 d0 d2 d4 d7 d8 co fo f7 f8 g0
     go_still_tail 13,(by kernel_rfl)
     change wpList _ _ _ _ _ (w4.drewN 1);go_wp2_with fail;go_roundw
     case rel=>exact⟨j+1,{ S' with ord:=S'.ord.set at_ a,first:=fi+1 },by go_num,by omega,by have:=HSUM.out;have:=HTOT.out;omega,⟨(HTL.out _ BW4.out).1,by rw [show R-(j+1)=R-j-1 by omega];exact HM.out.2,⟨HSM.out.cls,HSM.out.asd,HSM.out.reach,HSM.out.ps,HSM.out.laid,HSM.out.made,HSM.out.steps⟩,by have:=HSUM.out;show fi+1+S'.second=_;rw [HSE.out];omega,by have:=HM.out.1;omega,(HTL.out _ BW4.out).2.1,(HTL.out _ BW4.out).2.2.1⟩,(HTL.out _ BW4.out).2.2.2⟩
     case measure=>simp [intOf];omega
    ·have hE1:((se:Int)==(x2:Int))=false:=by rw [beq_eq_false_iff_ne];omega
     have hsx:se<x2:=by omega
     have hsxi:(se:Int)<(x2:Int):=by omega
     obtain⟨hcn,cc⟩:=HCN.out hsx;by_cases hfx:fi<x1
     ·have hfxi:(fi:Int)<(x1:Int):=by omega
      obtain⟨han,ca⟩:=HAN.out hfx;by_cases hkk:K a<=K c
      ·have hkki:(K a:Int)<=(K c:Int):=by omega
       go_wp2_with fail
       go_quiet ((exact ZdL (HCC.out _ _ (by assumption))))
       have HM:=zh (HS.out.first HBG.out (by rw [HSM.out.laid];exact(HLD.out (by omega))) (by rw [HFI.out,hx1];omega) (Or.inr (by rw [HFI.out,HSE.out,HAE.out,HCE.out];exact hkk)) (S':={ S' with ord:=S'.ord.set at_ a,first:=fi+1 }) rfl ⟨rfl,by rw [HFI.out],rfl⟩ rfl rfl (by rw [HFI.out,HSE.out,HATE.out];rw [HAE.out]) rfl)
       have HTL:Hid (∀W,Below w3.heap.size w3 W->IsSo B ((W.setCell ⟨bo,at_,none⟩ (.int .i64 (a:Int))).setCell ⟨b,7,none⟩ (.int .i64 ((fi+1:Nat):Int))) b bo bc ba (.func (.func F) #[] caps) vw n kb { S' with ord:=S'.ord.set at_ a,first:=fi+1 }/\Below B w ((W.setCell ⟨bo,at_,none⟩ (.int .i64 (a:Int))).setCell ⟨b,7,none⟩ (.int .i64 ((fi+1:Nat):Int)))/\KbSame w ((W.setCell ⟨bo,at_,none⟩ (.int .i64 (a:Int))).setCell ⟨b,7,none⟩ (.int .i64 ((fi+1:Nat):Int))) kb /\
         ((W.setCell ⟨bo,at_,none⟩ (.int .i64 (a:Int))).setCell ⟨b,7,none⟩ (.int .i64 ((fi+1:Nat):Int))).heap[pb]?=some (.cells #[.int .i64 (p.lo:Int),.int .i64 (p.hi:Int),.bool p.begun] 246 (0,0))):=zh (fun W hW=>by
        have h1:=HI3.out.below hW;have h2:=(h1.putFirst at_ a hatn).1;have t:=ZeZ (bo:=bo) (b:=b) (wr:=W) at_ 7 (.int .i64 (a:Int)) (.int .i64 ((fi+1:Nat):Int));have hz:=hW.size;refine⟨by rw [HFI.out] at h2;exact h2,?_,?_,?_⟩
        ·exact(HB3.out.trans (hW.mono (Nat.le_trans hb HB3.out.size))).trans (t.below (Nat.le_trans (Nat.le_trans hb HB3.out.size) hz) (fun x hx=>by
          obtain⟨b1,b2,_⟩:=HI3.out.base;rcases hx with e|e
          ·omega
          ·omega))
        ·intro x hx;obtain⟨k1,k2,k3,_⟩:=HI3.out.kap x hx
         rw [t.block x (by omega) (fun e=>by
          rcases e with e|e
          ·exact k3 e
          ·exact k2 e),hW.block x k1]
         exact HK3.out x hx
        ·rw [t.block pb (by have:=(Array.getElem?_eq_some_iff.1 HG3.out).1;omega) (fun e=>by
          have h5:=HBL.out;have h6:=HPB.out;rcases e with e|e
          ·omega
          ·omega),hW.block pb (Array.getElem?_eq_some_iff.1 HG3.out).1]
         exact HG3.out)
       go_wp2_with fail;obtain⟨w4,hw4⟩:∃w4,w4=(w3.drewN na).drewN nq:=⟨_,rfl⟩
       rw [<-hw4];have BW4:Hid (Below w3.heap.size w3 (w4.drewN 1)):=zh (by rw [hw4];exact⟨rfl,rfl,rfl,Nat.le_refl _,fun _ _=>rfl⟩);have e0:w4.cell? ⟨b,0,none⟩=some (.slice (some ⟨bo,0,none⟩) n n):=by rw [hw4];exact d0
       have e7:w4.cell? ⟨b,7,none⟩=some (.int .i64 (fi:Int)):=by rw [hw4];exact d7
       have e8:w4.cell? ⟨b,8,none⟩=some (.int .i64 (se:Int)):=by rw [hw4];exact d8
       have c4:=(show w4.cell? ⟨ba,fi,none⟩=some (.int .i64 (a:Int)) from by rw [hw4];exact ca)
       have eo:w4.cell? ⟨bo,at_,none⟩=some (.int .i64 ((toI S'.ord).getD at_ 0)):=by rw [hw4];exact co
       have fo4:w4.frozen? ⟨bo,at_,none⟩=false:=by rw [hw4];exact fo
       have f74:w4.frozen? ⟨b,7,none⟩=false:=by rw [hw4];exact f7
       have f84:w4.frozen? ⟨b,8,none⟩=false:=by rw [hw4];exact f8
       clear hw4 d0 d2 d4 d7 d8 co fo f7 f8 g0
       go_still_tail 13,(by kernel_rfl)
       change wpList _ _ _ _ _ (w4.drewN 1);go_wp2_with fail;go_roundw
       case rel=>exact⟨j+1,{ S' with ord:=S'.ord.set at_ a,first:=fi+1 },by go_num,by omega,by have:=HSUM.out;have:=HTOT.out;omega,⟨(HTL.out _ BW4.out).1,by rw [show R-(j+1)=R-j-1 by omega];exact HM.out.2,⟨HSM.out.cls,HSM.out.asd,HSM.out.reach,HSM.out.ps,HSM.out.laid,HSM.out.made,HSM.out.steps⟩,by have:=HSUM.out;show fi+1+S'.second=_;rw [HSE.out];omega,by have:=HM.out.1;omega,(HTL.out _ BW4.out).2.1,(HTL.out _ BW4.out).2.2.1⟩,(HTL.out _ BW4.out).2.2.2⟩
       case measure=>simp [intOf];omega
      ·have hkki:¬(K a:Int)<=(K c:Int):=by omega
       have hkkd:decide (K a<=K c)=false:=by simp only [decide_eq_false_iff_not];exact hkk
       go_wp2_with fail
       go_quiet ((exact ZdL (HCC.out _ _ (by assumption))))
       have HM:=zh (HS.out.second HBG.out (by rw [HSM.out.laid];exact(HLD.out (by omega))) (by rw [HSE.out,hx2];omega) (Or.inr (by rw [HFI.out,HSE.out,HAE.out,HCE.out];exact hkk)) (S':={ S' with ord:=S'.ord.set at_ c,second:=se+1 }) rfl ⟨rfl,rfl,by rw [HSE.out]⟩ rfl rfl (by rw [HFI.out,HSE.out,HATE.out];rw [HCE.out]) rfl)
       have HTL:Hid (∀W,Below w3.heap.size w3 W->IsSo B ((W.setCell ⟨bo,at_,none⟩ (.int .i64 (c:Int))).setCell ⟨b,8,none⟩ (.int .i64 ((se+1:Nat):Int))) b bo bc ba (.func (.func F) #[] caps) vw n kb { S' with ord:=S'.ord.set at_ c,second:=se+1 }/\Below B w ((W.setCell ⟨bo,at_,none⟩ (.int .i64 (c:Int))).setCell ⟨b,8,none⟩ (.int .i64 ((se+1:Nat):Int)))/\KbSame w ((W.setCell ⟨bo,at_,none⟩ (.int .i64 (c:Int))).setCell ⟨b,8,none⟩ (.int .i64 ((se+1:Nat):Int))) kb /\
         ((W.setCell ⟨bo,at_,none⟩ (.int .i64 (c:Int))).setCell ⟨b,8,none⟩ (.int .i64 ((se+1:Nat):Int))).heap[pb]?=some (.cells #[.int .i64 (p.lo:Int),.int .i64 (p.hi:Int),.bool p.begun] 246 (0,0))):=zh (fun W hW=>by
        have h1:=HI3.out.below hW;have h2:=(h1.putSecond at_ c hatn).1;have t:=ZeZ (bo:=bo) (b:=b) (wr:=W) at_ 8 (.int .i64 (c:Int)) (.int .i64 ((se+1:Nat):Int));have hz:=hW.size;refine⟨by rw [HSE.out] at h2;exact h2,?_,?_,?_⟩
        ·exact(HB3.out.trans (hW.mono (Nat.le_trans hb HB3.out.size))).trans (t.below (Nat.le_trans (Nat.le_trans hb HB3.out.size) hz) (fun x hx=>by
          obtain⟨b1,b2,_⟩:=HI3.out.base;rcases hx with e|e
          ·omega
          ·omega))
        ·intro x hx;obtain⟨k1,k2,k3,_⟩:=HI3.out.kap x hx
         rw [t.block x (by omega) (fun e=>by
          rcases e with e|e
          ·exact k3 e
          ·exact k2 e),hW.block x k1]
         exact HK3.out x hx
        ·rw [t.block pb (by have:=(Array.getElem?_eq_some_iff.1 HG3.out).1;omega) (fun e=>by
          have h5:=HBL.out;have h6:=HPB.out;rcases e with e|e
          ·omega
          ·omega),hW.block pb (Array.getElem?_eq_some_iff.1 HG3.out).1]
         exact HG3.out)
       go_wp2_with fail;obtain⟨w4,hw4⟩:∃w4,w4=(w3.drewN na).drewN nq:=⟨_,rfl⟩
       rw [<-hw4];have BW4:Hid (Below w3.heap.size w3 (w4.drewN 1)):=zh (by rw [hw4];exact⟨rfl,rfl,rfl,Nat.le_refl _,fun _ _=>rfl⟩);have e0:w4.cell? ⟨b,0,none⟩=some (.slice (some ⟨bo,0,none⟩) n n):=by rw [hw4];exact d0
       have e7:w4.cell? ⟨b,7,none⟩=some (.int .i64 (fi:Int)):=by rw [hw4];exact d7
       have e8:w4.cell? ⟨b,8,none⟩=some (.int .i64 (se:Int)):=by rw [hw4];exact d8
       have c4:=(show w4.cell? ⟨bo,p.mid+se,none⟩=some (.int .i64 (c:Int)) from by rw [hw4];exact cc)
       have eo:w4.cell? ⟨bo,at_,none⟩=some (.int .i64 ((toI S'.ord).getD at_ 0)):=by rw [hw4];exact co
       have fo4:w4.frozen? ⟨bo,at_,none⟩=false:=by rw [hw4];exact fo
       have f74:w4.frozen? ⟨b,7,none⟩=false:=by rw [hw4];exact f7
       have f84:w4.frozen? ⟨b,8,none⟩=false:=by rw [hw4];exact f8
       clear hw4 d0 d2 d4 d7 d8 co fo f7 f8 g0
       go_still_tail 13,(by kernel_rfl)
       change wpList _ _ _ _ _ (w4.drewN 1);go_wp2_with fail;go_roundw
       case rel=>exact⟨j+1,{ S' with ord:=S'.ord.set at_ c,second:=se+1 },by go_num,by omega,by have:=HSUM.out;have:=HTOT.out;omega,⟨(HTL.out _ BW4.out).1,by rw [show R-(j+1)=R-j-1 by omega];exact HM.out.2,⟨HSM.out.cls,HSM.out.asd,HSM.out.reach,HSM.out.ps,HSM.out.laid,HSM.out.made,HSM.out.steps⟩,by have:=HSUM.out;show S'.first+(se+1)=_;rw [HFI.out];omega,by have:=HM.out.1;omega,(HTL.out _ BW4.out).2.1,(HTL.out _ BW4.out).2.2.1⟩,(HTL.out _ BW4.out).2.2.2⟩
       case measure=>simp [intOf];omega
     ·have hfxd:decide (fi<x1)=false:=by simp only [decide_eq_false_iff_not];exact hfx
      have hfe:fi=x1:=by omega
      go_wp2_with fail
      go_quiet (fail)
      have HM:=zh (HS.out.second HBG.out (by rw [HSM.out.laid];exact(HLD.out (by omega))) (by rw [HSE.out,hx2];omega) (Or.inl (by rw [HFI.out,hx1,hfe])) (S':={ S' with ord:=S'.ord.set at_ c,second:=se+1 }) rfl ⟨rfl,rfl,by rw [HSE.out]⟩ rfl rfl (by rw [HFI.out,HSE.out,HATE.out];rw [HCE.out]) rfl)
      have HTL:Hid (∀W,Below w3.heap.size w3 W->IsSo B ((W.setCell ⟨bo,at_,none⟩ (.int .i64 (c:Int))).setCell ⟨b,8,none⟩ (.int .i64 ((se+1:Nat):Int))) b bo bc ba (.func (.func F) #[] caps) vw n kb { S' with ord:=S'.ord.set at_ c,second:=se+1 }/\Below B w ((W.setCell ⟨bo,at_,none⟩ (.int .i64 (c:Int))).setCell ⟨b,8,none⟩ (.int .i64 ((se+1:Nat):Int)))/\KbSame w ((W.setCell ⟨bo,at_,none⟩ (.int .i64 (c:Int))).setCell ⟨b,8,none⟩ (.int .i64 ((se+1:Nat):Int))) kb /\
        ((W.setCell ⟨bo,at_,none⟩ (.int .i64 (c:Int))).setCell ⟨b,8,none⟩ (.int .i64 ((se+1:Nat):Int))).heap[pb]?=some (.cells #[.int .i64 (p.lo:Int),.int .i64 (p.hi:Int),.bool p.begun] 246 (0,0))):=zh (fun W hW=>by
       have h1:=HI3.out.below hW;have h2:=(h1.putSecond at_ c hatn).1;have t:=ZeZ (bo:=bo) (b:=b) (wr:=W) at_ 8 (.int .i64 (c:Int)) (.int .i64 ((se+1:Nat):Int));have hz:=hW.size;refine⟨by rw [HSE.out] at h2;exact h2,?_,?_,?_⟩
       ·exact(HB3.out.trans (hW.mono (Nat.le_trans hb HB3.out.size))).trans (t.below (Nat.le_trans (Nat.le_trans hb HB3.out.size) hz) (fun x hx=>by
         obtain⟨b1,b2,_⟩:=HI3.out.base;rcases hx with e|e
         ·omega
         ·omega))
       ·intro x hx;obtain⟨k1,k2,k3,_⟩:=HI3.out.kap x hx
        rw [t.block x (by omega) (fun e=>by
         rcases e with e|e
         ·exact k3 e
         ·exact k2 e),hW.block x k1]
        exact HK3.out x hx
       ·rw [t.block pb (by have:=(Array.getElem?_eq_some_iff.1 HG3.out).1;omega) (fun e=>by
         have h5:=HBL.out;have h6:=HPB.out;rcases e with e|e
         ·omega
         ·omega),hW.block pb (Array.getElem?_eq_some_iff.1 HG3.out).1]
        exact HG3.out)
      go_wp2_with fail;obtain⟨w4,hw4⟩:∃w4,w4=(w3.drewN na).drewN nq:=⟨_,rfl⟩
      rw [<-hw4];have BW4:Hid (Below w3.heap.size w3 (w4.drewN 1)):=zh (by rw [hw4];exact⟨rfl,rfl,rfl,Nat.le_refl _,fun _ _=>rfl⟩);have e0:w4.cell? ⟨b,0,none⟩=some (.slice (some ⟨bo,0,none⟩) n n):=by rw [hw4];exact d0
      have e7:w4.cell? ⟨b,7,none⟩=some (.int .i64 (fi:Int)):=by rw [hw4];exact d7
      have e8:w4.cell? ⟨b,8,none⟩=some (.int .i64 (se:Int)):=by rw [hw4];exact d8
      have c4:=(show w4.cell? ⟨bo,p.mid+se,none⟩=some (.int .i64 (c:Int)) from by rw [hw4];exact cc)
      have eo:w4.cell? ⟨bo,at_,none⟩=some (.int .i64 ((toI S'.ord).getD at_ 0)):=by rw [hw4];exact co
      have fo4:w4.frozen? ⟨bo,at_,none⟩=false:=by rw [hw4];exact fo
      have f74:w4.frozen? ⟨b,7,none⟩=false:=by rw [hw4];exact f7
      have f84:w4.frozen? ⟨b,8,none⟩=false:=by rw [hw4];exact f8
      clear hw4 d0 d2 d4 d7 d8 co fo f7 f8 g0
      go_still_tail 13,(by kernel_rfl)
      change wpList _ _ _ _ _ (w4.drewN 1);go_wp2_with fail;go_roundw
      case rel=>exact⟨j+1,{ S' with ord:=S'.ord.set at_ c,second:=se+1 },by go_num,by omega,by have:=HSUM.out;have:=HTOT.out;omega,⟨(HTL.out _ BW4.out).1,by rw [show R-(j+1)=R-j-1 by omega];exact HM.out.2,⟨HSM.out.cls,HSM.out.asd,HSM.out.reach,HSM.out.ps,HSM.out.laid,HSM.out.made,HSM.out.steps⟩,by have:=HSUM.out;show S'.first+(se+1)=_;rw [HFI.out];omega,by have:=HM.out.1;omega,(HTL.out _ BW4.out).2.1,(HTL.out _ BW4.out).2.2.1⟩,(HTL.out _ BW4.out).2.2.2⟩
      case measure=>simp [intOf];omega
   ·have hfld:decide (fs<sz)=false:=by simp only [decide_eq_false_iff_not];exact hfl
    go_wp2_with fail;refine Zap wr.heap.size wr (Below.refl _ _) (by kernel_rfl) (by kernel_rfl) ?_
    repeat (go_big_quiet_step (first
     | (go_at_call 194;rename_i sb;exact Calls.beneath sb (Nat.le_refl _) (HSIZ.out _))))
    refine wpQuiet_nil ?_;rintro _ ⟨sb,rfl⟩
    have HR3:Hid (PutP B w sb.val b bo bc ba n (.func (.func F) #[] caps) vw kb T K S ps p A m R (min k tot) (.returned (.int .i64 (j:Int)))):=zh (by
     have e:min k tot=j:=by have:=HTOT.out;have:=HSUM.out;omega
     rw [e];exact⟨rfl,S',HI.out.below sb.is,HS.out,HSM.out,by rw [HFI.out,HSE.out];exact HSUM.out,hjR,HB.out.trans (sb.is.mono (Nat.le_trans hb HB.out.size)),HKS.out.trans (fun x hx=>sb.is.block x (HI.out.kap x hx).1)⟩)
    clear q4 q5 p0 p1 p2 HI HB HG HKS;generalize sb.val=w3 at *;go_wp2_with fail;go_ret;exact HR3.out
  ·have hjid:decide (j<k)=false:=by simp only [decide_eq_false_iff_not];exact hjl
   have HR3:Hid (∀W,Below wr.heap.size wr W->PutP B w W b bo bc ba n (.func (.func F) #[] caps) vw kb T K S ps p A m R (min k tot) (.returned (.int .i64 (j:Int)))):=zh (fun W hW=>by
    have e:min k tot=j:=by omega
    rw [e];exact⟨rfl,S',HI.out.below hW,HS.out,HSM.out,by rw [HFI.out,HSE.out];exact HSUM.out,hjR,HB.out.trans (hW.mono (Nat.le_trans hb HB.out.size)),HKS.out.trans (fun x hx=>hW.block x (HI.out.kap x hx).1)⟩)
   go_wp2_with fail
   go_quiet (fail)
   go_wp2_with fail;go_ret;exact HR3.out _ ⟨rfl,rfl,rfl,Nat.le_refl _,fun _ _=>rfl⟩
end
end
end Go.Proofs.YtlfpbcadcfaboaaGreatDoor

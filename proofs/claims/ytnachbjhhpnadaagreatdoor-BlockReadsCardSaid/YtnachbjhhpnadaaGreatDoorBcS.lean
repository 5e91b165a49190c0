import Derived.Test.YtnachbjhhpnadaaGreatDoorBcH
import Derived.Test.YtnachbjhhpnadaaGreatDoorBcK
import Derived.Test.YtnachbjhhpnadaaGreatDoorBcM
import Derived.Test.YtnachbjhhpnadaaGreatDoorBcN
import Derived.Test.YtnachbjhhpnadaaGreatDoorBcR
set_option linter.unusedVariables false
set_option linter.unusedSimpArgs false
set_option maxHeartbeats 8000000
set_option maxRecDepth 100000
namespace Go.Proofs.YtnachbjhhpnadaaGreatDoor
section
open Go.RowKit BitM MtfM UsedM
theorem Zoy {w w':World} {b:Nat} {v:Value} {l:List UInt8} {dr sp p:Nat} {s:ByteArray} {p':Nat} (h:Told w w' b v l dr sp p s 0 p'):IsSyms s.data.toList/\s.size<=256:=by
 obtain⟨_,_,h⟩:=h;split at h
 ·exact absurd h.2.1 (by decide)
 ·rename_i n S _;rcases h with h|⟨h1,rfl,_,_⟩
  ·exact absurd h.2.2.1 (by decide)
  ·refine⟨Zc4 S ?_,?_⟩
   ·by_cases hx:∃b,b<256/\S b=true
    ·exact hx
    ·exact absurd ((ZeF S).2 (fun b hb=>by
      cases e:S b with
      | false=>rfl
      | true=>exact absurd ⟨b,hb,e⟩ hx)) h1
   ·have:=Zcs S 256;show(syms S 256).toArray.size<=256;simpa using this
section
variable {t : Nat} {room : Int} {begun : Bool} {sum origin : Int} {list row places : Value} {fr ot : Int} {last : Value} {wrong : Int} {done : Bool}
theorem IsBk.setList {w:World} (h:IsBk w t room begun sum origin list row places fr ot last wrong done) (x:Value):IsBk (w.setCell ⟨t,4,none⟩ x) t room begun sum origin x row places fr ot last wrong done:=⟨heap_setCell_same _ _ 4 _ _ _ h.obj⟩
theorem IsBk.setRw {w:World} (h:IsBk w t room begun sum origin list row places fr ot last wrong done) (x:Value):IsBk (w.setCell ⟨t,5,none⟩ x) t room begun sum origin list x places fr ot last wrong done:=⟨heap_setCell_same _ _ 5 _ _ _ h.obj⟩
theorem IsBk.setPl {w:World} (h:IsBk w t room begun sum origin list row places fr ot last wrong done) (x:Value):IsBk (w.setCell ⟨t,6,none⟩ x) t room begun sum origin list row x fr ot last wrong done:=⟨heap_setCell_same _ _ 6 _ _ _ h.obj⟩
theorem Zf7 (rb:Nat) (v:Value) (l:List UInt8) (dr sp p R:Nat) (w:World) (h:IsBk w t (R:Int) begun sum origin list row places fr ot last wrong done) (hR:IsReader w rb v l dr sp p) (hs:dr+l.length<=1099511627776)
  (hRb:R<=900000) (hne:∀k,foot rb v k->k≠t) :
  Calls Tryz.prog 128 #[.pointer (some ⟨t,0,none⟩),.pointer (some ⟨rb,0,none⟩)] w fun e w'=>∃(s:ByteArray) (err p':Nat) (w1:World),Told w w1 rb v l dr sp p s err p' /\
   ((err≠0/\e=.returned (.int .i64 (err:Int))/\w'=w1) \/
    (err=0/\e=.returned (.int .i64 0)/\IsSyms s.data.toList/\IsReader w' rb v l dr sp p'/\∃(b rwb plb:Nat) (O:Nat->Prop),
     IsBk w' t (R:Int) begun sum origin (.pointer (some ⟨b,0,none⟩)) (.pointer (some ⟨rwb,0,none⟩)) (.pointer (some ⟨plb,0,none⟩)) fr ot last wrong done/\IsList w' b s.data.toList/\IsCR w' rwb (s.size+2) O .fields/\IsZR w' plb (s.size:Int) R ZerM.ini /\
     w.heap.size<=b/\w.heap.size<=plb/\b≠plb/\(∀k,O k->w.heap.size<=k/\k≠b/\k≠plb)/\Touch (fun k=>k=t\/k=rb) w w')):=by
 have HU:=zh (ZnY rb v l dr sp p w hR hs);have H:=zh h;have HNE:=zh hne;have hrt:Hid (rb≠t):=zh (hne rb (Or.inl rfl));have HTL:=zh h.lt;clear h hR hs hne;go_enter Tryz.func128,Tryz.ntmps128;go_wp2_with fail;refine HU.out.mono ?_;rintro e w1 ⟨s,err,p',rfl,hT⟩;have HT:=zh hT;have HR1:=zh hT.1;have HT1:=zh hT.2.1;by_cases he:err=0
 ·subst he;obtain⟨hsy,h256⟩:=Zoy hT;have HSY:=zh hsy
  have hpos:1<=s.size:=by
   have:=hsy.2;have e:s.data.toList.length=s.size:=by simp
   have:=List.length_pos_iff.2 this;omega
  have HK1:=zh (H.out.other HT1.out (fun e=>hrt.out e.symm));have HNW:=zh (fun W=>Zik s W h256 hsy);obtain⟨N,hN⟩:∃N,s.size+2=N:=⟨_,rfl⟩
  have hNi:(s.size:Int)+2=(N:Int):=by omega
  have hNw:IntKind.i64.wrap (N:Int)=(N:Int):=IntWalk.i64_in _ (by omega);have HCN:=zh (fun W=>ZqC N W (by omega) (by omega));have HZN:=zh (fun W=>Zsy (s.size:Int) R W ⟨by omega,by omega,by omega,by omega⟩);have HN:=zh hN;clear hT hsy hN;go_wp2_with fail;refine(HNW.out _).mono ?_;rintro e w2 ⟨rfl,hl2,hb2⟩;obtain⟨b,hb⟩:∃b,w1.heap.size=b:=⟨_,rfl⟩
  have HBW:=zh hb;have HK2:=zh (HK1.out.below hb2);have HT2:=zh (Touch.ofBelow (S:=fun _=>False) hb2);rw [hb] at hl2 ⊢;have HL2:=zh hl2;have d4:=HK2.out.cell 4;simp only [bkV] at d4;have f4:=HK2.out.frozen 4;obtain⟨W3,hW3⟩:∃W3,w2.setCell ⟨t,4,none⟩ (.pointer (some ⟨b,0,none⟩))=W3:=⟨_,rfl⟩
  have HK3:=zh (HK2.out.setList (.pointer (some ⟨b,0,none⟩)));have hT3:Touch (·=t) w2 W3:=by rw [<-hW3];exact Zaa (Touch.refl _ _)
  rw [hW3] at HK3;have HT3:=zh hT3;clear hb hl2 hb2 hT3;go_wp2_with fail;refine(HCN.out _).mono ?_;rintro e w4 ⟨rwb,rfl,hc4,hb4⟩;have HC4:=zh hc4;have HK4:=zh (HK3.out.below hb4);have HT4:=zh (Touch.ofBelow (S:=fun _=>False) hb4);have d5:=HK4.out.cell 5;simp only [bkV] at d5;have f5:=HK4.out.frozen 5;obtain⟨W5,hW5⟩:∃W5,w4.setCell ⟨t,5,none⟩ (.pointer (some ⟨rwb,0,none⟩))=W5:=⟨_,rfl⟩
  have HK5:=zh (HK4.out.setRw (.pointer (some ⟨rwb,0,none⟩)));have hT5:Touch (·=t) w4 W5:=by rw [<-hW5];exact Zaa (Touch.refl _ _)
  rw [hW5] at HK5;have HT5:=zh hT5;have e0:=HK5.out.cell 0;simp only [bkV] at e0;clear hc4 hb4 hT5 hW3 d4 f4;go_wp2_with fail;refine(HZN.out _).mono ?_;rintro e w6 ⟨rfl,hz6,hb6⟩;obtain⟨plb,hpl⟩:∃plb,W5.heap.size=plb:=⟨_,rfl⟩
  have HPL:=zh hpl;have HK6:=zh (HK5.out.below hb6);have HT6:=zh (Touch.ofBelow (S:=fun _=>False) hb6);rw [hpl] at hz6 ⊢;have HZ6:=zh hz6;have d6:=HK6.out.cell 6;simp only [bkV] at d6;have f6:=HK6.out.frozen 6;clear hpl hz6 hb6 hW5 d5 f5 e0;go_wp2_with fail;go_ret;have hT7:Touch (·=t) w6 (w6.setCell ⟨t,6,none⟩ (.pointer (some ⟨plb,0,none⟩))):=Zaa (Touch.refl _ _);have s1:=HT1.out.size;have s2:=HL2.out.lt;have s3:=HT3.out.size;have s4:=HT4.out.size;have s5:=HT5.out.size;have hbw:=HBW.out;have hpw:=HPL.out;have htl:=HTL.out;have T47:=((HT5.out.trans HT6.out (fun _ h=>h.elim)).trans hT7 (fun _ h=>Or.inl h))
  have T27:=((HT3.out.trans HT4.out (fun _ h=>h.elim)).trans T47 (fun _ h=>Or.inl h))
  have T17:=((HT2.out.mono (fun _ h=>h.elim)).trans T27 (fun _ h=>Or.inl h):Touch (·=t) w1 _)
  refine⟨s,0,p',w1,HT.out,Or.inr ⟨rfl,rfl,HSY.out,HR1.out.other T17 (fun k hk e=>HNE.out k hk e),b,rwb,plb,_,HK6.out.setPl _,HL2.out.other T27 (fun e=>by omega),by rw [HN.out];exact HC4.out.other T47 (fun k hk e=>by
   obtain⟨h1,h2⟩:=hk;have e2:k=t:=e;omega),HZ6.out.other hT7 (fun e=>by omega),by omega,by omega,by omega,fun k hk=>?_,(HT1.out.mono (fun _ h=>Or.inr h)).trans T17 (fun _ h=>Or.inl (Or.inl h))⟩⟩
  obtain⟨h1,h2⟩:=hk;refine⟨by omega,by omega,by omega⟩
 ·have hei:((err:Int) != 0)=true:=by simp;omega
  have HE:=zh he;clear hT he;go_wp2_with fail;go_ret;exact⟨s,err,p',_,HT.out,Or.inl ⟨HE.out,rfl,rfl⟩⟩
end
end
section
namespace BlkM
open Go.RowKit BitM HufM CanM CodM UsedM MtfM
inductive BSt where
 | start
 | head (sum origin:Nat)
 | row (sum origin:Nat) (s:List UInt8) (c:CSt) (st:ZerM.St) (fr ot:Nat) (ys m:List UInt8)
def BSt.took:BSt->Nat
 | .row _ _ _ _ _ _ _ ys _=>ys.length
 | _=>0
def RtB (Q:List Bool) (room a:Nat):BSt->Prop
 | .start=>a=0
 | .head sum origin=>a=57/\Head Q sum origin
 | .row sum origin s c st fr ot ys m=>Head Q sum origin/\∃j L,rdU (Q.drop 57)=.ok s j/\57+j<=a/\RtC (Q.drop (57+j)) (s.length+2) 400000 (a-(57+j)) L c/\L.length<=a-(57+j)/\zrun (s.length:Int) room L=some st/\st.done=c.done/\Wt s st.out fr ot ys m/\ot<s.length
theorem RtB.took {Q:List Bool} {room a:Nat} {s:BSt} (h:RtB Q room a s):s.took<=room:=by
 cases s with
 | start=>exact Nat.zero_le _
 | head _ _=>exact Nat.zero_le _
 | row sum origin s c st fr ot ys m=>
  obtain⟨_,j,L,_,_,_,_,hz,_,hw,_⟩:=h;have h1:=hw.len.1;have h2:=(Zhi hz).le;have h3:st.out.length+ZerM.val st.rc<=room:=h2;show ys.length<=room;omega
theorem Zoz {Q:List Bool} {room sum origin j:Nat} {s:List UInt8} {L:List Int} {st:ZerM.St} {e:Int} (h:Head Q sum origin) (hu:rdU (Q.drop 57)=.ok s j) (hz:zrun (s.length:Int) room L=some st)
  (hr:rdC (Q.drop (57+j)) (s.length+2) 400000=.err e L):rdB Q room=.err e:=by rw [Zdc h hu,Zn7 hr hz]
theorem Zsz {Q:List Bool} {room sum origin j a:Nat} {s:List UInt8} {L:List Int} {st:ZerM.St} {c:Int} {c':CSt} (h:Head Q sum origin) (hu:rdU (Q.drop 57)=.ok s j) (hz:zrun (s.length:Int) room L=some st)
  (hp:ZerM.putE (s.length:Int) room st c≠0) (hr:RtC (Q.drop (57+j)) (s.length+2) 400000 a (L++[c]) c') (hl:(L++[c]).length<=a) (ha:a<=(Q.drop (57+j)).length) (hQ:Q.length<400000):rdB Q room=.err 25:=by
 obtain⟨t,ht⟩:=RtC.pre hr hl ha (by rw [List.length_drop];omega);rw [Zdc h hu,Zn6 (by rw [ht];exact zrun_not hz hp t)]
theorem ZsA {Q:List Bool} {N most a:Nat} {L:List Int} {c:CSt} (h:RtC Q N most a L c) (hd:c.done=true):heldC Q N=c.held N:=by
 cases c with
 | fields=>cases hd
 | pick t n ps o=>cases hd
 | len t ps gs ls now=>cases hd
 | sym t ps gs cnt done=>
  obtain⟨hh,_,hg,_⟩:=h;rw [Zli hh];show _=ps.length+gs.length*N;rw [hg]
theorem Ztz {Q:List Bool} {N most a:Nat} {L:List Int} {c:CSt} (h:RtC Q N most a L c) (hd:c.done=true):rdC Q N most=.ok L a:=by
 cases c with
 | fields=>cases hd
 | pick t n ps o=>cases hd
 | len t ps gs ls now=>cases hd
 | sym t ps gs cnt done=>
  obtain⟨_,_,_,_,_,hif⟩:=h;obtain rfl:done=true:=hd
  rwa [if_pos rfl] at hif
theorem RtB.fin {Q:List Bool} {room a sum origin:Nat} {s:List UInt8} {c:CSt} {st:ZerM.St} {ys m:List UInt8} (h:RtB Q room a (.row sum origin s c st 0 0 ys m)) (hd:c.done=true) :
  rdB Q room=if ys.length<=origin then .err 23 else .ok ys origin sum a (c.held (s.length+2)+ys.length):=by
 obtain⟨hH,j,L,hu,hj,hr,hl,hz,_,hw,_⟩:=h;rw [Zdc hH hu,Zn8 (Ztz hr hd) hz,ZsA hr hd,hw.all,show 57+j+(a-(57+j))=a by omega]
theorem ZoA {Q q r:List Bool} (hq:Q=q++r) (h:57<=q.length):num ((Q.drop 32).take 1)=num ((q.drop 32).take 1)/\num (Q.take 32)=num (q.take 32)/\num ((Q.drop 33).take 24)=num ((q.drop 33).take 24):=by
 subst hq;refine⟨?_,?_,?_⟩
 ·rw [List.drop_append_of_le_length (by omega),List.take_append_of_le_length (by rw [List.length_drop];omega)]
 ·rw [List.take_append_of_le_length (by omega)]
 ·rw [List.drop_append_of_le_length (by omega),List.take_append_of_le_length (by rw [List.length_drop];omega)]
theorem RtB.rows {Q:List Bool} {room sum origin j:Nat} {s:List UInt8} (h:Head Q sum origin) (hu:rdU (Q.drop 57)=.ok s j):RtB Q room (57+j) (.row sum origin s .fields ZerM.ini 0 0 [] s):=by
 have h1:=Zil hu;refine⟨h,j,[],hu,Nat.le_refl _,?_,Nat.zero_le _,rfl,rfl,Wt.start s,h1.2.2.1⟩;rw [Nat.sub_self];exact RtC.start _ _ _
theorem RtB.take {Q:List Bool} {room a sum origin:Nat} {s:List UInt8} {c:CSt} {st:ZerM.St} {fr ot:Nat} {ys m:List UInt8} (h:RtB Q room a (.row sum origin s c st fr ot ys m)) (hw:0<fr\/0<ot) :
  ∃x,m[if 0<fr then 0 else ot]?=some x/\RtB Q room a (.row sum origin s c st (if 0<fr then fr-1 else fr) (if 0<fr then ot else 0) (ys++[x]) (touch m (if 0<fr then 0 else ot))):=by
 obtain⟨hH,j,L,hu,hj,hr,hl,hz,hd,hwt,ho⟩:=h;obtain⟨x,hx,hw2⟩:=hwt.take hw (by omega) ho;refine⟨x,hx,hH,j,L,hu,hj,hr,hl,hz,hd,hw2,?_⟩;by_cases h0:0<fr
 ·rw [if_pos h0];exact ho
 ·rw [if_neg h0];omega
theorem RtB.sym {Q:List Bool} {room a sum origin j:Nat} {s:List UInt8} {L:List Int} {c':CSt} {st:ZerM.St} {ys m:List UInt8} {i:Nat} (hH:Head Q sum origin) (hu:rdU (Q.drop 57)=.ok s j) (hj:57+j<=a)
  (hr:RtC (Q.drop (57+j)) (s.length+2) 400000 (a-(57+j)) (L++[(i:Int)]) c') (hl:(L++[(i:Int)]).length<=a-(57+j)) (hz:zrun (s.length:Int) room L=some st) (hd:c'.done=decide (i+1=s.length+2)) (hi:i<s.length+2)
  (hw:Wt s st.out 0 0 ys m) (hp:ZerM.putE (s.length:Int) room st (i:Int)=0) :
  RtB Q room a (.row sum origin s c' (ZerM.putS (s.length:Int) st (i:Int)) (ZerM.putZ st (i:Int)) (max (ZerM.putP (s.length:Int) (i:Int)) 0).toNat ys m)/\((max (ZerM.putP (s.length:Int) (i:Int)) 0).toNat:Int)=max (ZerM.putP (s.length:Int) (i:Int)) 0:=by
 have h1:=Zil hu;obtain⟨w1,w2,w3⟩:=hw.put (n:=(s.length:Int)) (c:=(i:Int)) (by omega) (by omega);refine⟨⟨hH,j,_,hu,hj,hr,hl,zrun_put hz hp,?_,w1,?_⟩,w2⟩
 ·rw [hd];by_cases h2:(i:Int)<2
  ·rw [ZerM.putS_part h2]
   symm
   rw [decide_eq_false_iff_not];omega
  ·by_cases h3:(i:Int)=(s.length:Int)+1
   ·rw [ZerM.putS_end h2 h3]
    symm
    rw [decide_eq_true_eq];omega
   ·rw [ZerM.putS_one h2 h3]
    symm
    rw [decide_eq_false_iff_not];omega
 ·have:=w3 (by omega);omega
end BlkM
end
section
open Go.RowKit BitM HufM CanM CodM UsedM MtfM BlkM
section
variable {t : Nat} {room : Int} {begun : Bool} {sum origin : Int} {list row places : Value} {fr ot : Int} {last : Value} {wrong : Int} {done : Bool}
theorem IsBk.setWait {w:World} (h:IsBk w t room begun sum origin list row places fr ot last wrong done) (x y:Int):IsBk ((w.setCell ⟨t,7,none⟩ (.int .i64 x)).setCell ⟨t,8,none⟩ (.int .i64 y)) t room begun sum origin list row places x y last wrong done:=(h.setFr x).setOt y
end
def OutK (w w':World) (t rb rwb plb N R:Nat) (O:Nat->Prop) (sum origin:Int) (list last:Value) (v:Value) (l:List UInt8) (dr sp p:Nat) (Q q r:List Bool) (most a:Nat) (L:List Int) (c:CSt) (st:ZerM.St) (e:Ending):Prop:=
 ∃(er:Int) (used:Nat) (O':Nat->Prop),e=.returned (.int .i64 er)/\IsReader w' rb v l dr sp (p+used)/\Touch (fun k=>(O k\/k=rb)\/k=t\/k=plb) w w'/\(∀k,O' k->O k\/w.heap.size<=k)/\used<=q.length /\
  ((er=0/\1<=used/\∃c',IsCR w' rwb N O' c' /\
    ((c'.done=false/\RtC Q N most (a+used) L c'/\IsBk w' t (R:Int) true sum origin list (.pointer (some ⟨rwb,0,none⟩)) (.pointer (some ⟨plb,0,none⟩)) 0 0 last 0 false/\IsZR w' plb ((N-2:Nat):Int) R st) \/
     (∃i:Nat,i<N/\c'.done=decide (i+1=N)/\RtC Q N most (a+used) (L++[(i:Int)]) c'/\ZerM.putE ((N-2:Nat):Int) R st (i:Int)=0 /\
      IsBk w' t (R:Int) true sum origin list (.pointer (some ⟨rwb,0,none⟩)) (.pointer (some ⟨plb,0,none⟩)) (ZerM.putZ st (i:Int):Int) (max (ZerM.putP ((N-2:Nat):Int) (i:Int)) 0) last 0 false/\IsZR w' plb ((N-2:Nat):Int) R (ZerM.putS ((N-2:Nat):Int) st (i:Int))))) \/
   (er=25/\1<=used/\IsBk w' t (R:Int) true sum origin list (.pointer (some ⟨rwb,0,none⟩)) (.pointer (some ⟨plb,0,none⟩)) 0 0 last 0 false/\∃(i:Nat) (c':CSt),RtC Q N most (a+used) (L++[(i:Int)]) c'/\ZerM.putE ((N-2:Nat):Int) R st (i:Int)≠0) \/
   (er≠0/\er≠3/\IsBk w' t (R:Int) true sum origin list (.pointer (some ⟨rwb,0,none⟩)) (.pointer (some ⟨plb,0,none⟩)) 0 0 last 0 false/\rdC Q N most=.err er L) \/
   (er=3/\used=0/\IsCR w' rwb N O' c/\IsBk w' t (R:Int) true sum origin list (.pointer (some ⟨rwb,0,none⟩)) (.pointer (some ⟨plb,0,none⟩)) 0 0 last 0 false/\IsZR w' plb ((N-2:Nat):Int) R st/\(r=[]->rdC Q N most=.err 3 L)))
theorem Zhs (x y:Int):Tryz.prog.built 106 [(0,.int .i64 x),(1,.int .i64 y)]=some #[.int .i64 x,.int .i64 y]:=by kernel_rfl
theorem Zj3 (t rb rwb plb N R:Nat) (O:Nat->Prop) (sum origin:Int) (list last:Value) (v:Value) (l:List UInt8) (dr sp p:Nat) (w:World) (Q r:List Bool) (most a:Nat) (L:List Int) (c:CSt) (st:ZerM.St)
  (hB:IsBk w t (R:Int) true sum origin list (.pointer (some ⟨rwb,0,none⟩)) (.pointer (some ⟨plb,0,none⟩)) 0 0 last 0 false) (hC:IsCR w rwb N O c) (hZ:IsZR w plb ((N-2:Nat):Int) R st) (hR:IsReader w rb v l dr sp p) (hs:dr+l.length<=1099511627776)
  (hne:∀k,foot rb v k->¬O k/\k≠t/\k≠plb) (hO:¬O t/\¬O plb/\t≠plb) (hq:Q.drop a=(bitsOf l).drop (p-8*dr)++r) (hrt:RtC Q N most a L c) (h3:3<=N) (h258:N<=258) (hd:c.done=false) (hcnt:c.cnt<=10000000)
  (hok:ZerM.Ok R st) (hRb:R<=900000) (hLm:L.length<most) :
  Calls Tryz.prog 129 #[.pointer (some ⟨t,0,none⟩),.pointer (some ⟨rb,0,none⟩)] w fun e w'=>OutK w w' t rb rwb plb N R O sum origin list last v l dr sp p Q ((bitsOf l).drop (p-8*dr)) r most a L c st e:=by
 have HB:=zh hB;have HZ:=zh hZ;have HNE:=zh hne;have HO:=zh hO;have c5:=hB.cell 5;simp only [bkV] at c5;have HST:=zh (Zot rwb rb N c O v l dr sp p w Q r most a L hC hR hs (fun k hk=>(hne k hk).1) hq hrt h3 h258 hd hcnt);have HOK:=zh hok;have HPT:=zh (fun(x:Int) W (h:IsZR W plb ((N-2:Nat):Int) R st)=>ZqM plb ((N-2:Nat):Int) R st x W h (by omega) (by omega) hok (by omega));have hLT:Hid (plb<w.heap.size/\t<w.heap.size):=zh ⟨hZ.lt,hB.lt⟩;clear hB hC hZ hR hne hO hq hrt hd hcnt hok;go_enter Tryz.func129,Tryz.ntmps129;go_wp2_with fail;refine HST.out.mono ?_;rintro e w1 ⟨x,er,used,O1,rfl,hR1,hT1,hF1,hu1,hcase⟩;have HR1:=zh hR1;have HT1:=zh hT1;have HF1:=zh hF1;have HU1:=zh hu1
 have HB1:=zh (HB.out.other hT1 (fun e=>by
  rcases e with e|e
  ·exact HO.out.1 e
  ·exact(HNE.out rb (Or.inl rfl)).2.1 e.symm))
 have HZ1:=zh (HZ.out.other hT1 (fun e=>by
  rcases e with e|e
  ·exact HO.out.2.1 e
  ·exact(HNE.out rb (Or.inl rfl)).2.2 e.symm))
 have HS1:=zh hT1.size;have hTT:Hid (∀w2,Touch (fun k=>k=t\/k=plb) w1 w2->Touch (fun k=>(O k\/k=rb)\/k=t\/k=plb) w w2):=zh (fun w2 h=>(HT1.out.mono (fun k hk=>Or.inl hk)).trans h (fun k hk=>Or.inl (Or.inr hk)));clear hR1 hT1 hF1 hu1 HST;rcases hcase with⟨rfl,hus,c',hC',hx⟩|⟨he0,he3,rfl,hB',hrd⟩|⟨rfl,rfl,rfl,hC',hrd⟩
 ·have HC':=zh hC';have HUS:=zh hus;rcases hx with⟨rfl,hdn,hrt,hcn⟩|⟨i,hiN,rfl,hcn,hdn,hre,hrt⟩
  ·have HRT:=zh hrt;have HDN:=zh hdn;clear hdn hrt hcn hC' hus;go_wp2_with fail;go_ret;exact⟨0,used,O1,rfl,HR1.out,hTT.out _ (Touch.refl _ _),HF1.out,HU1.out,Or.inl ⟨rfl,HUS.out,c',HC'.out,Or.inl ⟨HDN.out,HRT.out,HB1.out,HZ1.out⟩⟩⟩
  ·have HRT:=zh (hrt hLm);have HDN:=zh hdn;have HIN:=zh hiN;have c6:=HB1.out.cell 6;simp only [bkV] at c6;have hi0:¬(i:Int)<0:=by omega
   clear hdn hrt hre hcn hC' hus;go_wp2_with fail;refine(HPT.out _ _ HZ1.out).mono ?_;rintro e w2 ⟨hT2,hcase2⟩;have HT2:=zh hT2;have hnp:Hid (t≠plb):=zh HO.out.2.2;have HB2:=zh (HB1.out.other hT2 (fun e=>hnp.out e));have HR2:=zh (HR1.out.other hT2 (fun k hk e=>(HNE.out k hk).2.2 e))
   have HC2:=zh ((HC'.out.shrink).other hT2 (fun k hk e=>by
    obtain⟨hk1,hk2⟩:=hk;rw [show k=plb from e] at hk1;rcases HF1.out plb hk1 with h|h
    ·exact HO.out.2.1 h
    ·have:=hLT.out.1;omega))
   have HF2:Hid (∀k,(O1 k/\k<w1.heap.size)->O k\/w.heap.size<=k):=zh (fun k hk=>HF1.out k hk.1)
   have HOT:Hid (¬(O1 t/\t<w1.heap.size)):=zh (fun hk=>by
    rcases HF1.out t hk.1 with h|h
    ·exact HO.out.1 h
    ·have:=hLT.out.2;omega)
   clear hT2 HPT;rcases hcase2 with⟨hp0,rfl,hz2⟩|⟨hpn,rfl,hz2⟩
   ·have HP0:=zh hp0;have HZ2:=zh hz2;obtain⟨X,hX⟩:∃X,ZerM.putZ st (i:Int)=X:=⟨_,rfl⟩
    obtain⟨Y,hY⟩:∃Y,ZerM.putP ((N-2:Nat):Int) (i:Int)=Y:=⟨_,rfl⟩
    have HX:=zh hX;have HY:=zh hY;rw [hX,hY];obtain⟨M,hM⟩:∃M:Int,max Y 0=M:=⟨_,rfl⟩
    have HM:=zh hM;have hbt:=Zhs (X:Int) M;have d7:=HB2.out.cell 7;have d8:=HB2.out.cell 8;simp only [bkV] at d7 d8;have f7:=HB2.out.frozen 7;have f8:=HB2.out.frozen 8;clear hp0 hz2 hX hY c6;by_cases hY0:Y<0
    all_goals
     have hmm:(if Y<0 then(0:Int) else Y)=M:=by rw [<-hM];omega
     go_wp2_with (refine ZaH rfl 106 0 1 _ _ rfl _ _ rfl rfl _ hbt ?_);go_ret;have hTt:Touch (·=t) w2 ((w2.setCell ⟨t,7,none⟩ (.int .i64 (X:Int))).setCell ⟨t,8,none⟩ (.int .i64 M)):=Zaa (Zaa (Touch.refl _ _));exact⟨0,used,_,rfl,HR2.out.other hTt (fun k hk e=>(HNE.out k hk).2.1 e),hTT.out _ ((HT2.out.mono (fun k hk=>Or.inr hk)).trans hTt (fun k hk=>Or.inl (Or.inl hk))),HF2.out,HU1.out,Or.inl ⟨rfl,HUS.out,c',HC2.out.other hTt (fun k hk e=>HOT.out ((show k=t from e)▸hk)),Or.inr ⟨i,HIN.out,HDN.out,HRT.out,HP0.out,by rw [HX.out,HY.out,HM.out];exact HB2.out.setWait _ _,HZ2.out.other hTt (fun e=>hnp.out e.symm)⟩⟩⟩
   ·have HPN:=zh hpn
    have hnb:((ZerM.putE ((N-2:Nat):Int) R st (i:Int):Int) != 0)=true:=by
     simp;exact hpn
    clear hpn hz2 c6;go_wp2_with fail;go_ret;exact⟨25,used,_,rfl,HR2.out,hTT.out _ (HT2.out.mono (fun k hk=>Or.inr hk)),HF2.out,HU1.out,Or.inr (Or.inl ⟨rfl,HUS.out,HB2.out,i,c',HRT.out,HPN.out⟩)⟩
 ·have hne0:((er:Int) != 0)=true:=by simp [he0]
  have HE:=zh he0;have HE3:=zh he3;have HRD:=zh hrd;clear he0 he3 hB' hrd;go_wp2_with fail;go_ret;exact⟨er,used,O1,rfl,HR1.out,hTT.out _ (Touch.refl _ _),HF1.out,HU1.out,Or.inr (Or.inr (Or.inl ⟨HE.out,HE3.out,HB1.out,HRD.out⟩))⟩
 ·have HC':=zh hC';have HRD:=zh hrd;clear hC' hrd;go_wp2_with fail;go_ret;exact⟨3,0,O1,rfl,HR1.out,hTT.out _ (Touch.refl _ _),HF1.out,HU1.out,Or.inr (Or.inr (Or.inr ⟨rfl,rfl,HC'.out,HB1.out,HZ1.out,HRD.out⟩))⟩
end
section
open Go.RowKit BitM HufM CanM CodM UsedM MtfM BlkM
section
variable {t : Nat} {room : Int} {begun : Bool} {sum origin : Int} {list row places : Value} {fr ot : Int} {last : Value} {wrong : Int} {done : Bool}
theorem IsBk.setWrong {w:World} (h:IsBk w t room begun sum origin list row places fr ot last wrong done) (x:Int):IsBk (w.setCell ⟨t,10,none⟩ (.int .i64 x)) t room begun sum origin list row places fr ot last x done:=⟨heap_setCell_same _ _ 10 _ _ _ h.obj⟩
theorem ZmF (ra:Addr) (w:World) (h:IsBk w t room false sum origin list row places 0 0 last wrong done) {P:Int->World->Prop} (hF:∀W,IsBk W t room false sum origin list row places 0 0 last wrong done->W=w->Calls Tryz.prog 127 #[.pointer (some ⟨t,0,none⟩),.pointer (some ra)] W fun e w'=>∃er,e=.returned (.int .i64 er)/\P er w') :
  Calls Tryz.prog 71 #[.pointer (some ⟨t,0,none⟩),.pointer (some ra)] w fun e w'=>∃er,e=.returned (.int .i64 er)/\P er w':=by
 have H:=zh h;have HW:=zh (Zbk w h);rw [decide_eq_false (by omega:¬((0:Int)<0\/(0:Int)<0))] at HW;have c1:=h.cell 1;simp only [bkV] at c1;have HF:=zh hF;clear h hF;go_enter Tryz.func71,Tryz.ntmps71;go_wp2_with fail;refine HW.out.mono ?_;rintro e w1 ⟨rfl,hw⟩;have hw':w=w1:=by first|exact hw|exact hw.symm
 subst hw';go_wp2_with fail;refine(HF.out _ H.out rfl).mono ?_;rintro e w2 ⟨er,rfl,hp⟩;have HP:=zh hp;clear hp;go_wp2_with fail;go_ret;exact⟨er,rfl,HP.out⟩
theorem Zj4 (ra:Addr) (w:World) (h:IsBk w t room true sum origin (.pointer none) row places 0 0 last wrong done) {P:Int->World->Prop} (hF:Calls Tryz.prog 128 #[.pointer (some ⟨t,0,none⟩),.pointer (some ra)] w fun e w'=>∃er,e=.returned (.int .i64 er)/\P er w') :
  Calls Tryz.prog 71 #[.pointer (some ⟨t,0,none⟩),.pointer (some ra)] w fun e w'=>∃er,e=.returned (.int .i64 er)/\P er w':=by
 have HW:=zh (Zbk w h);rw [decide_eq_false (by omega:¬((0:Int)<0\/(0:Int)<0))] at HW;have c1:=h.cell 1;have c4:=h.cell 4;simp only [bkV] at c1 c4;have HF:=zh hF;clear h hF;go_enter Tryz.func71,Tryz.ntmps71;go_wp2_with fail;refine HW.out.mono ?_;rintro e w1 ⟨rfl,hw⟩;have hw':w=w1:=by first|exact hw|exact hw.symm
 subst hw';go_wp2_with fail;refine HF.out.mono ?_;rintro e w2 ⟨er,rfl,hp⟩;have HP:=zh hp;clear hp;go_wp2_with fail;go_ret;exact⟨er,rfl,HP.out⟩
theorem ZqN (ra la:Addr) (w:World) (h:IsBk w t room true sum origin (.pointer (some la)) row places 0 0 last wrong done) {P:Int->World->Prop} (hF:Calls Tryz.prog 129 #[.pointer (some ⟨t,0,none⟩),.pointer (some ra)] w fun e w'=>∃er,e=.returned (.int .i64 er)/\P er w') :
  Calls Tryz.prog 71 #[.pointer (some ⟨t,0,none⟩),.pointer (some ra)] w fun e w'=>∃er,e=.returned (.int .i64 er)/\P er w':=by
 have HW:=zh (Zbk w h);rw [decide_eq_false (by omega:¬((0:Int)<0\/(0:Int)<0))] at HW;have c1:=h.cell 1;have c4:=h.cell 4;simp only [bkV] at c1 c4;have HF:=zh hF;clear h hF;go_enter Tryz.func71,Tryz.ntmps71;go_wp2_with fail;refine HW.out.mono ?_;rintro e w1 ⟨rfl,hw⟩;have hw':w=w1:=by first|exact hw|exact hw.symm
 subst hw';go_wp2_with fail;refine HF.out.mono ?_;rintro e w2 ⟨er,rfl,hp⟩;have HP:=zh hp;clear hp;go_wp2_with fail;go_ret;exact⟨er,rfl,HP.out⟩
theorem ZqO (ra:Addr) (w:World) (h:IsBk w t room true sum origin list row places fr ot last wrong done) (hw0:0<fr\/0<ot) {P:World->Prop} (hF:Calls Tryz.prog 126 #[.pointer (some ⟨t,0,none⟩)] w fun e w'=>e=.returned (.tuple #[])/\P w') :
  Calls Tryz.prog 71 #[.pointer (some ⟨t,0,none⟩),.pointer (some ra)] w fun e w'=>e=.returned (.int .i64 0)/\P w':=by
 have HW:=zh (Zbk w h);rw [decide_eq_true hw0] at HW;have HF:=zh hF;clear h hF;go_enter Tryz.func71,Tryz.ntmps71;go_wp2_with fail;refine HW.out.mono ?_;rintro e w1 ⟨rfl,hw⟩;have hw':w=w1:=by first|exact hw|exact hw.symm
 subst hw';go_wp2_with fail;refine HF.out.mono ?_;rintro e w2 ⟨rfl,hp⟩;have HP:=zh hp;clear hp;go_wp2_with fail;go_ret;exact⟨rfl,HP.out⟩
def BAft (t:Nat) (w1:World) (Post:Int->World->Prop):Prop:=
 ∃(room:Int) (begun:Bool) (sum origin:Int) (list places:Value) (rp a:Option Addr) (L cap:Nat) (fr ot:Int) (dn:Bool),IsBk w1 t room begun sum origin list (.pointer rp) places fr ot (.slice a L cap) 0 false /\
  Calls Tryz.prog 72 #[.pointer rp] w1 (fun e w'=>e=.returned (.bool dn)/\w'=w1) /\
  ((dn=false\/0<fr\/0<ot)->Post 0 (w1.setCell ⟨t,10,none⟩ (.int .i64 0))) /\
  (dn=true->¬(0<fr\/0<ot)->((L:Int)<=origin->∀w2,Below w1.heap.size w1 w2->Post 23 (w2.setCell ⟨t,10,none⟩ (.int .i64 23)))/\(origin<(L:Int)->∀w2,IsBk w2 t room begun sum origin list (.pointer rp) places fr ot (.slice a L cap) 0 true->Touch (·=t) w1 w2->Post 0 (w2.setCell ⟨t,10,none⟩ (.int .i64 0))))
theorem ZcU (ra:Addr) (w:World) (h:IsBk w t room begun sum origin list row places fr ot last 0 false) (hr:room≠0) (P:Int->World->Prop) (Post:Int->World->Prop)
  (hS:Calls Tryz.prog 71 #[.pointer (some ⟨t,0,none⟩),.pointer (some ra)] w fun e w1=>∃er,e=.returned (.int .i64 er)/\P er w1)
  (h3:∀w1,P 3 w1->Post 3 w1)
  (hE:∀er w1,er≠0->er≠3->P er w1->w1.cell? ⟨t,10,none⟩=some (.int .i64 0)/\w1.frozen? ⟨t,10,none⟩=false/\Post er (w1.setCell ⟨t,10,none⟩ (.int .i64 er)))
  (h0:∀w1,P 0 w1->BAft t w1 Post) :
  Calls Tryz.prog 31 #[.pointer (some ⟨t,0,none⟩),.pointer (some ra)] w fun e w'=>∃er,e=.returned (.int .i64 er)/\Post er w':=by
 have c0:=h.cell 0;have c10:=h.cell 10;have c11:=h.cell 11;simp only [bkV] at c0 c10 c11;have hrb:(room==0)=false:=by rw [beq_eq_false_iff_ne];exact hr
 have HS:=zh hS;have H3:=zh h3;have HE:=zh hE;have H0:=zh h0;clear h hr hS h3 hE h0;go_enter Tryz.func31,Tryz.ntmps31;go_wp2_with fail;refine HS.out.mono ?_;rintro e w1 ⟨er,rfl,hp⟩;clear c0 c10 c11 HS;by_cases he0:er=0
 ·subst he0;obtain⟨room1,begun1,sum1,origin1,list1,places1,rp,a,L,cap,fr1,ot1,dn,hB,hD,hno,hyes⟩:=H0.out w1 hp;have HB:=zh hB;have HD:=zh hD;have HNO:=zh hno;have HYES:=zh hyes;have d5:=hB.cell 5;have d10:=hB.cell 10;simp only [bkV] at d5 d10;have f10:=hB.frozen 10;clear hB hD hno hyes hp;cases dn with
  | false=>
   go_wp2_with fail;refine HD.out.mono ?_;rintro e w2 ⟨rfl,hw⟩;have hw':w1=w2:=by first|exact hw|exact hw.symm
   subst hw';go_wp2_with fail;go_ret;exact⟨0,rfl,HNO.out (Or.inl (by first|trivial|rfl))⟩
  | true=>
   have HW:=zh (Zbk w1 HB.out);by_cases hw0:0<fr1\/0<ot1
   ·rw [decide_eq_true hw0] at HW;have HW0:=zh hw0;clear hw0;go_wp2_with fail;refine HD.out.mono ?_;rintro e w2 ⟨rfl,hw⟩;have hw':w1=w2:=by first|exact hw|exact hw.symm
    subst hw';go_wp2_with fail;refine HW.out.mono ?_;rintro e w2 ⟨rfl,hw⟩;have hw':w1=w2:=by first|exact hw|exact hw.symm
    subst hw';go_wp2_with fail;go_ret;exact⟨0,rfl,HNO.out (Or.inr HW0.out)⟩
   ·rw [decide_eq_false hw0] at HW;have HY2:=zh (HYES.out (by first|trivial|rfl) hw0);have HEN:=zh (ZmE w1 a L cap HB.out);clear hw0;go_wp2_with fail;refine HD.out.mono ?_;rintro e w2 ⟨rfl,hw⟩;have hw':w1=w2:=by first|exact hw|exact hw.symm
    subst hw';go_wp2_with fail;refine HW.out.mono ?_;rintro e w2 ⟨rfl,hw⟩;have hw':w1=w2:=by first|exact hw|exact hw.symm
    subst hw';go_wp2_with fail;refine HEN.out.mono ?_;rintro e w2 (⟨hl,rfl,hb2⟩|⟨hl,rfl,hk2,ht2⟩)
    ·have HL:=zh hl;have HB2:=zh hb2;have hk2:=HB.out.below hb2;have e10:=hk2.cell 10;simp only [bkV] at e10;have g10:=hk2.frozen 10;clear hl hb2 hk2;go_wp2_with fail;go_ret;exact⟨23,rfl,HY2.out.1 HL.out _ HB2.out⟩
    ·have HL:=zh hl;have HK2:=zh hk2;have HT2:=zh ht2;have e10:=hk2.cell 10;simp only [bkV] at e10;have g10:=hk2.frozen 10;clear hl ht2 hk2;go_wp2_with fail;go_ret;exact⟨0,rfl,HY2.out.2 HL.out _ HK2.out HT2.out⟩
 ·have hb0:(er==0)=false:=by rw [beq_eq_false_iff_ne];exact he0
  by_cases he3:er=3
  ·subst he3;have HP:=zh (H3.out w1 hp);clear hp;go_wp2_with fail;go_ret;exact⟨3,rfl,HP.out⟩
  ·have hb3:(er != 3)=true:=by simp [he3]
   obtain⟨d10,f10,hpo⟩:=HE.out er w1 he0 he3 hp;have HP:=zh hpo;clear hp hpo he0 he3;go_wp2_with fail;go_ret;exact⟨er,rfl,HP.out⟩
end
end
section
open Go.RowKit BitM HufM CanM CodM UsedM MtfM BlkM
structure BRow (w:World) (t R:Nat) (O:Nat->Prop) (sum origin:Nat) (s:List UInt8) (c:CSt) (st:ZerM.St) (fr ot:Nat) (ys m:List UInt8) (b rwb plb:Nat) (last:Value) (OC:Nat->Prop) (dn:Bool):Prop where
 bk:IsBk w t (R:Int) true (sum:Int) (origin:Int) (.pointer (some ⟨b,0,none⟩)) (.pointer (some ⟨rwb,0,none⟩)) (.pointer (some ⟨plb,0,none⟩)) (fr:Int) (ot:Int) last 0 dn
 li:IsList w b m
 cr:IsCR w rwb (s.length+2) OC c
 zr:IsZR w plb (s.length:Int) R st
 la:OwnY w 0 last ys
 oo:O t/\O b/\O plb/\(∀k,OC k->O k)/\(∀k,last.ownBlock=some k->O k)
 ne:t≠b/\t≠plb/\b≠plb
 oc:∀k,OC k->k≠t/\k≠b/\k≠plb/\last.ownBlock≠some k
 lo:∀k,last.ownBlock=some k->k≠t/\k≠b/\k≠plb
section
variable {w w' : World} {t R : Nat} {O : Nat -> Prop} {sum origin : Nat} {s : List UInt8} {c : CSt} {st : ZerM.St} {fr ot : Nat} {ys m : List UInt8} {b rwb plb : Nat} {last : Value} {OC : Nat -> Prop} {dn : Bool}
theorem BRow.other (h:BRow w t R O sum origin s c st fr ot ys m b rwb plb last OC dn) {S:Nat->Prop} (ht:Touch S w w') (hS:∀k,O k->¬S k):BRow w' t R O sum origin s c st fr ot ys m b rwb plb last OC dn:=
 ⟨h.bk.other ht (hS t h.oo.1),h.li.other ht (hS b h.oo.2.1),h.cr.other ht (fun k hk=>hS k (h.oo.2.2.2.1 k hk)),h.zr.other ht (hS plb h.oo.2.2.1),h.la.same (fun k hk=>ht.block k (h.la.lt k hk).2 (hS k (h.oo.2.2.2.2 k hk))),h.oo,h.ne,h.oc,h.lo⟩
theorem BRow.own (h:BRow w t R O sum origin s c st fr ot ys m b rwb plb last OC dn) (ht:Touch (·=t) w w') {dn':Bool} (hb:IsBk w' t (R:Int) true (sum:Int) (origin:Int) (.pointer (some ⟨b,0,none⟩)) (.pointer (some ⟨rwb,0,none⟩)) (.pointer (some ⟨plb,0,none⟩)) (fr:Int) (ot:Int) last 0 dn'):BRow w' t R O sum origin s c st fr ot ys m b rwb plb last OC dn':=
 ⟨hb,h.li.other ht (fun e=>h.ne.1 (show b=t from e).symm),h.cr.other ht (fun k hk e=>(h.oc k hk).1 e),h.zr.other ht (fun e=>h.ne.2.1 (show plb=t from e).symm),h.la.same (fun k hk=>ht.block k (h.la.lt k hk).2 (fun e=>(h.lo k hk).1 e)),h.oo,h.ne,h.oc,h.lo⟩
theorem BRow.setW (h:BRow w t R O sum origin s c st fr ot ys m b rwb plb last OC dn):BRow (w.setCell ⟨t,10,none⟩ (.int .i64 0)) t R O sum origin s c st fr ot ys m b rwb plb last OC dn:=h.own (Zaa (Touch.refl _ _)) (h.bk.setWrong 0)
end
def IsB (w:World) (t R:Nat) (O:Nat->Prop):BSt->Prop
 | .start=>IsBk w t (R:Int) false 0 0 (.pointer none) (.pointer none) (.pointer none) 0 0 (.slice none 0 0) 0 false/\O t
 | .head sum origin=>IsBk w t (R:Int) true (sum:Int) (origin:Int) (.pointer none) (.pointer none) (.pointer none) 0 0 (.slice none 0 0) 0 false/\O t
 | .row sum origin s c st fr ot ys m=>∃(b rwb plb:Nat) (last:Value) (OC:Nat->Prop),BRow w t R O sum origin s c st fr ot ys m b rwb plb last OC false
def IsBw (w:World) (t R:Nat) (O:Nat->Prop) (er:Int):Prop:=(∃(begun:Bool) (sum origin:Int) (list row places:Value) (fr ot:Int) (last:Value),IsBk w t (R:Int) begun sum origin list row places fr ot last er false)/\O t
def IsBd (w:World) (t R:Nat) (O:Nat->Prop) (ys:List UInt8) (origin sum held:Nat):Prop:=∃(s:List UInt8) (c:CSt) (st:ZerM.St) (m:List UInt8) (b rwb plb:Nat) (last:Value) (OC:Nat->Prop),BRow w t R O sum origin s c st 0 0 ys m b rwb plb last OC true/\held=c.held (s.length+2)+ys.length
def live:BSt->Prop
 | .row _ _ _ c _ fr ot _ _=>c.done=true->0<fr\/0<ot
 | _=>True
def OutBP (w w':World) (t rb R:Nat) (O:Nat->Prop) (v:Value) (l:List UInt8) (dr sp p:Nat) (Q q r:List Bool) (a:Nat) (s:BSt) (er:Int):Prop:=
 ∃(used:Nat) (O':Nat->Prop),IsReader w' rb v l dr sp (p+used)/\Touch (fun k=>O k\/k=rb) w w'/\(∀k,O' k->O k\/w.heap.size<=k)/\used<=q.length /\
  ((er=0/\∃s',IsB w' t R O' s'/\RtB Q R (a+used) s'/\live s'/\s.took<=s'.took/\s.took+1<=s'.took+used) \/
   (er=0/\∃(sum origin held:Nat) (ys:List UInt8),IsBd w' t R O' ys origin sum held/\rdB Q R=.ok ys origin sum (a+used) held) \/
   (er≠0/\er≠3/\IsBw w' t R O' er/\rdB Q R=.err er) \/
   (er=3/\used=0/\IsB w' t R O' s/\(r=[]->rdB Q R=.err 3)))
def OutB (w w':World) (t rb R:Nat) (O:Nat->Prop) (v:Value) (l:List UInt8) (dr sp p:Nat) (Q q r:List Bool) (a:Nat) (s:BSt) (e:Ending):Prop:=∃er,e=.returned (.int .i64 er)/\OutBP w w' t rb R O v l dr sp p Q q r a s er
section
variable {t rb R : Nat} {O : Nat -> Prop} {v : Value} {l : List UInt8} {dr sp p : Nat} {w : World} {Q r : List Bool} {a : Nat}
theorem bstepS (hB:IsB w t R O .start) (hR:IsReader w rb v l dr sp p) (hs:dr+l.length<=1099511627776) (hne:∀k,foot rb v k->¬O k) (hq:Q.drop a=(bitsOf l).drop (p-8*dr)++r) (hrt:RtB Q R a .start) (hR5:5<=R) :
  Calls Tryz.prog 31 #[.pointer (some ⟨t,0,none⟩),.pointer (some ⟨rb,0,none⟩)] w fun e w'=>OutB w w' t rb R O v l dr sp p Q ((bitsOf l).drop (p-8*dr)) r a .start e:=by
 obtain⟨hK,hO⟩:=hB;have ha:a=0:=hrt;subst ha;rw [List.drop_zero] at hq;have hp1:=hR.2.2.2.1;have hp2:=hR.2.2.2.2;have hql:((bitsOf l).drop (p-8*dr)).length=8*(dr+l.length)-p:=by rw [List.length_drop,Zan];omega
 have hnt:∀k,foot rb v k->k≠t:=fun k hk e=>hne k hk (e▸hO)
 have hrt:rb≠t:=hnt rb (Or.inl rfl);have hd:∀n,(bitsOf l).drop (p+n-8*dr)=((bitsOf l).drop (p-8*dr)).drop n:=fun n=>by rw [List.drop_drop];congr 1;omega
 have HF:=Zhr rb v l dr sp p w hK hR hs hnt;simp only [hd] at HF;generalize hqe:(bitsOf l).drop (p-8*dr)=q at *
 refine(ZcU ⟨rb,0,none⟩ w hK (by omega) (fun er w1=>(8*(dr+l.length)<p+57/\er=3/\∃m,w1=w.drewN m) \/
   (p+57<=8*(dr+l.length)/\num ((q.drop 32).take 1)≠0/\er=25/\IsReader w1 rb v l dr sp (p+57)/\Touch (·=rb) w w1) \/
   (p+57<=8*(dr+l.length)/\num ((q.drop 32).take 1)=0/\er=0/\IsReader w1 rb v l dr sp (p+57) /\
    IsBk w1 t (R:Int) true (num (q.take 32):Int) (num ((q.drop 33).take 24):Int) (.pointer none) (.pointer none) (.pointer none) 0 0 (.slice none 0 0) 0 false/\Touch (fun k=>k=t\/k=rb) w w1))
  (fun er w'=>OutBP w w' t rb R O v l dr sp p Q q r 0 .start er) ?_ ?_ ?_ ?_).mono ?_
 ·refine ZmF ⟨rb,0,none⟩ w hK (fun W hW e=>?_);subst e;refine HF.mono ?_;rintro e w' (⟨h1,rfl,h2⟩|⟨h1,h2,rfl,h3,h4⟩|⟨h1,h2,rfl,h3,h4,h5⟩)
  ·exact⟨3,rfl,Or.inl ⟨h1,rfl,h2⟩⟩
  ·exact⟨25,rfl,Or.inr (Or.inl ⟨h1,h2,rfl,h3,h4⟩)⟩
  ·exact⟨0,rfl,Or.inr (Or.inr ⟨h1,h2,rfl,h3,h4,h5⟩)⟩
 ·rintro w1 (⟨h1,_,m,rfl⟩|⟨_,_,h,_⟩|⟨_,_,h,_⟩)
  ·refine⟨0,O,hR.other (Zad (fun _=>False) _ m) (fun _ _ h=>h),Zad _ _ m,fun k hk=>Or.inl hk,Nat.zero_le _,Or.inr (Or.inr (Or.inr ⟨rfl,rfl,⟨hK.other (Zad (fun _=>False) _ m) (fun h=>h),hO⟩,fun hr=>?_⟩))⟩;rw [hr,List.append_nil] at hq;exact Zim (by rw [hq,hql];omega)
  ·exact absurd h (by decide)
  ·exact absurd h (by decide)
 ·rintro er w1 he0 he3 (⟨h1,h,m,rfl⟩|⟨h1,h2,rfl,h3,h4⟩|⟨_,_,h,_⟩)
  ·exact absurd h he3
  ·have hk1:=hK.other h4 (fun e=>hrt (show t=rb from e).symm);have hT:Touch (·=t) w1 (w1.setCell ⟨t,10,none⟩ (.int .i64 25)):=Zaa (Touch.refl _ _);refine⟨hk1.cell 10,hk1.frozen 10,57,O,h3.other hT (fun k hk e=>hnt k hk e),(h4.mono (fun k hk=>Or.inr hk)).trans hT (fun k hk=>Or.inl (Or.inl ((show k=t from hk)▸hO))),fun k hk=>Or.inl hk,by omega,Or.inr (Or.inr (Or.inl ⟨he0,he3,⟨⟨_,_,_,_,_,_,_,_,_,hk1.setWrong 25⟩,hO⟩,?_⟩))⟩;have hh:=ZoA hq (by omega);exact Zly (by rw [hq,List.length_append];omega) (by rw [hh.1];exact h2)
  ·exact absurd h he0
 ·rintro w1 (⟨h1,h,m,rfl⟩|⟨_,_,h,_⟩|⟨h1,h2,_,h3,h4,h5⟩)
  ·exact absurd h (by decide)
  ·exact absurd h (by decide)
  ·refine⟨(R:Int),true,_,_,.pointer none,.pointer none,none,none,0,0,0,0,false,h4,Zop w1,fun _=>?_,fun h=>by cases h⟩;have hT:Touch (·=t) w1 (w1.setCell ⟨t,10,none⟩ (.int .i64 0)):=Zaa (Touch.refl _ _);have hh:=ZoA hq (by omega);refine⟨57,O,h3.other hT (fun k hk e=>hnt k hk e),(h5.mono (fun k hk=>hk.elim (fun e=>Or.inl (e▸hO)) Or.inr)).trans hT (fun k hk=>Or.inl (Or.inl ((show k=t from hk)▸hO))),fun k hk=>Or.inl hk,by omega,Or.inl ⟨rfl,.head (num (q.take 32)) (num ((q.drop 33).take 24)),⟨h4.setWrong 0,hO⟩,⟨by omega,by rw [hq,List.length_append];omega,by rw [hh.1];exact h2,hh.2.1,hh.2.2⟩,trivial,Nat.zero_le _,by show 0+1<=0+57;omega⟩⟩
 ·rintro e w' ⟨er,rfl,h⟩;exact⟨er,rfl,h⟩
theorem bstepH {sum origin:Nat} (hB:IsB w t R O (.head sum origin)) (hR:IsReader w rb v l dr sp p) (hs:dr+l.length<=1099511627776) (hne:∀k,foot rb v k->¬O k) (hq:Q.drop a=(bitsOf l).drop (p-8*dr)++r) (hrt:RtB Q R a (.head sum origin)) (hR5:5<=R) (hRb:R<=900000) :
  Calls Tryz.prog 31 #[.pointer (some ⟨t,0,none⟩),.pointer (some ⟨rb,0,none⟩)] w fun e w'=>OutB w w' t rb R O v l dr sp p Q ((bitsOf l).drop (p-8*dr)) r a (.head sum origin) e:=by
 obtain⟨hK,hO⟩:=hB;obtain⟨ha,hH⟩:=hrt;subst ha;have hp1:=hR.2.2.2.1;have hp2:=hR.2.2.2.2;have hnt:∀k,foot rb v k->k≠t:=fun k hk e=>hne k hk (e▸hO)
 have hrt:rb≠t:=hnt rb (Or.inl rfl);have HF:=Zf7 rb v l dr sp p R w hK hR hs hRb hnt;have hlt:=hK.lt
 refine(ZcU ⟨rb,0,none⟩ w hK (by omega) (fun er w'=>∃(s:ByteArray) (err p':Nat) (w1:World),er=(err:Int)/\Told w w1 rb v l dr sp p s err p' /\
   ((err≠0/\w'=w1) \/
    (err=0/\IsSyms s.data.toList/\IsReader w' rb v l dr sp p'/\∃(b rwb plb:Nat) (OC:Nat->Prop),
     IsBk w' t (R:Int) true (sum:Int) (origin:Int) (.pointer (some ⟨b,0,none⟩)) (.pointer (some ⟨rwb,0,none⟩)) (.pointer (some ⟨plb,0,none⟩)) 0 0 (.slice none 0 0) 0 false/\IsList w' b s.data.toList/\IsCR w' rwb (s.size+2) OC .fields/\IsZR w' plb (s.size:Int) R ZerM.ini /\
     w.heap.size<=b/\w.heap.size<=plb/\b≠plb/\(∀k,OC k->w.heap.size<=k/\k≠b/\k≠plb)/\Touch (fun k=>k=t\/k=rb) w w')))
  (fun er w'=>OutBP w w' t rb R O v l dr sp p Q ((bitsOf l).drop (p-8*dr)) r 57 (.head sum origin) er) ?_ ?_ ?_ ?_).mono ?_
 ·refine Zj4 ⟨rb,0,none⟩ w hK ?_;refine HF.mono ?_;rintro e w' ⟨s,err,p',w1,hT,⟨h1,rfl,rfl⟩|⟨h1,rfl,h2,h3,h4⟩⟩
  ·exact⟨(err:Int),rfl,s,err,p',w',rfl,hT,Or.inl ⟨h1,rfl⟩⟩
  ·exact⟨0,rfl,s,err,p',w1,by rw [h1];rfl,hT,Or.inr ⟨h1,h2,h3,h4⟩⟩
 ·rintro w1 ⟨s,err,p',w2,he,hT,⟨_,rfl⟩|⟨h1,_⟩⟩
  ·have he3:err=3:=by omega
   subst he3;obtain⟨t1,t2,t3⟩:=hT;split at t3
   ·rename_i hk;obtain⟨_,_,rfl⟩:=t3;refine⟨0,O,t1,t2.mono (fun k hk=>Or.inr hk),fun k hk=>Or.inl hk,Nat.zero_le _,Or.inr (Or.inr (Or.inr ⟨rfl,rfl,⟨hK.other t2 (fun e=>hrt (show t=rb from e).symm),hO⟩,fun hr=>?_⟩))⟩;rw [hr,List.append_nil] at hq;exact Zhj hH (Zqg (by rw [hq];exact hk))
   ·rename_i n S _;rcases t3 with⟨_,_,h,_⟩|⟨_,_,h,_⟩
    ·exact absurd h (by decide)
    ·exact absurd h (by decide)
  ·omega
 ·rintro er w1 he0 he3 ⟨s,err,p',w2,rfl,hT,⟨_,rfl⟩|⟨h1,_⟩⟩
  ·obtain⟨t1,t2,t3⟩:=hT;have hk1:=hK.other t2 (fun e=>hrt (show t=rb from e).symm);split at t3
   ·omega
   ·rename_i n S hk;rcases t3 with⟨h2,_,h,rfl⟩|⟨_,_,h,_⟩
    ·subst h;have hT:Touch (·=t) w1 (w1.setCell ⟨t,10,none⟩ (.int .i64 ((25:Nat):Int))):=Zaa (Touch.refl _ _);refine⟨hk1.cell 10,hk1.frozen 10,0,O,t1.other hT (fun k hk e=>hnt k hk e),(t2.mono (fun k hk=>Or.inr hk)).trans hT (fun k hk=>Or.inl (Or.inl ((show k=t from hk)▸hO))),fun k hk=>Or.inl hk,Nat.zero_le _,Or.inr (Or.inr (Or.inl ⟨he0,he3,⟨⟨_,_,_,_,_,_,_,_,_,hk1.setWrong _⟩,hO⟩,?_⟩))⟩;exact Zhj hH (Zn2 (by rw [hq];exact ZjO _ r 16 _ _ (Nat.le_refl _) hk) h2)
    ·omega
  ·omega
 ·rintro w1 ⟨s,err,p',w2,he,hT,⟨h,_⟩|⟨h1,h2,h3,b,rwb,plb,OC,k1,k2,k3,k4,k5,k6,k7,k8,k9⟩⟩
  ·omega
  ·subst h1;obtain⟨t1,t2,t3⟩:=hT;split at t3
   ·exact absurd t3.2.1 (by decide)
   ·rename_i n S hk;rcases t3 with⟨_,_,h,_⟩|⟨h4,h5,_,rfl⟩
    ·exact absurd h (by decide)
    ·have hsl:s.data.toList=syms S 256:=by rw [h5]
     have hsz:s.size=(syms S 256).length:=by rw [h5];simp [ByteArray.size]
     have hU:rdU (Q.drop 57)=.ok (syms S 256) n:=Zlw (by rw [hq];exact ZjO _ r 16 _ _ (Nat.le_refl _) hk) h4;have hle:=Zem _ 16 _ _ hk;have hs5:=Zil hU;rw [hsl] at k2;rw [hsz] at k3 k4;have hT:Touch (·=t) w1 (w1.setCell ⟨t,10,none⟩ (.int .i64 0)):=Zaa (Touch.refl _ _)
     have hrow:BRow w1 t R (fun k=>k=t\/k=b\/k=plb\/OC k) sum origin (syms S 256) .fields ZerM.ini 0 0 [] (syms S 256) b rwb plb (.slice none 0 0) OC false:=
      ⟨k1,k2,k3,k4,OwnY.nil _ _,⟨Or.inl rfl,Or.inr (Or.inl rfl),Or.inr (Or.inr (Or.inl rfl)),fun k hk=>Or.inr (Or.inr (Or.inr hk)),fun k hk=>by cases hk⟩,⟨by omega,by omega,k7⟩,fun k hk=>⟨by have:=(k8 k hk).1;omega,(k8 k hk).2.1,(k8 k hk).2.2,fun e=>by cases e⟩,fun k hk=>by cases hk⟩
     refine⟨(R:Int),true,_,_,_,_,_,none,0,0,0,0,false,k1,Ziw rwb false w1 k3.cells.2.2.2.2,fun _=>?_,fun h=>by cases h⟩;refine⟨n,(fun k=>k=t\/k=b\/k=plb\/OC k),h3.other hT (fun k hk e=>hnt k hk e),(k9.mono (fun k hk=>hk.elim (fun e=>Or.inl (e▸hO)) Or.inr)).trans hT (fun k hk=>Or.inl (Or.inl ((show k=t from hk)▸hO))),fun k hk=>?_,hle.1,Or.inl ⟨rfl,.row sum origin (syms S 256) .fields ZerM.ini 0 0 [] (syms S 256),⟨b,rwb,plb,_,OC,hrow.setW⟩,RtB.rows hH hU,fun h=>(by cases h),Nat.zero_le _,by show 0+1<=0+n;omega⟩⟩;rcases hk with h|h|h|h
     ·exact Or.inl (h▸hO)
     ·exact Or.inr (by omega)
     ·exact Or.inr (by omega)
     ·exact Or.inr (k8 k h).1
 ·rintro e w' ⟨er,rfl,h⟩;exact⟨er,rfl,h⟩
end
end
section
open Go.RowKit BitM HufM CanM CodM UsedM MtfM BlkM
section
variable {t rb R : Nat} {O : Nat -> Prop} {v : Value} {l : List UInt8} {dr sp p : Nat} {w : World} {Q r : List Bool} {a : Nat}
theorem Zht {w1:World} {sum origin:Nat} {s:List UInt8} {c:CSt} {st:ZerM.St} {fr ot:Nat} {ys m:List UInt8} {b rwb plb:Nat} {last:Value} {OC:Nat->Prop} {s0:BSt} {used:Nat} {O1:Nat->Prop} {q:List Bool}
  (hrow:BRow w1 t R O1 sum origin s c st fr ot ys m b rwb plb last OC false) (hR1:IsReader w1 rb v l dr sp (p+used)) (hT1:Touch (fun k=>O k\/k=rb) w w1) (hO1:∀k,O1 k->O k\/w.heap.size<=k) (hOt:O t) (hne:∀k,foot rb v k->¬O k) (hu:used<=q.length)
  (hrt:RtB Q R (a+used) (.row sum origin s c st fr ot ys m)) (hp1:s0.took<=ys.length) (hp2:s0.took+1<=ys.length+used):BAft t w1 (fun er w'=>OutBP w w' t rb R O v l dr sp p Q q r a s0 er):=by
 obtain⟨la,lc,rfl⟩:=hrow.la.slice;have hnt:∀k,foot rb v k->k≠t:=fun k hk e=>hne k hk (e▸hOt)
 refine⟨(R:Int),true,(sum:Int),(origin:Int),_,_,some ⟨rwb,0,none⟩,la,ys.length,lc,(fr:Int),(ot:Int),c.done,hrow.bk,Ziw rwb c.done w1 hrow.cr.cells.2.2.2.2,fun hnd=>?_,fun hd hnw=>⟨fun hle w2 hb2=>?_,fun hlt w2 hk2 ht2=>?_⟩⟩
 ·have hT:Touch (·=t) w1 (w1.setCell ⟨t,10,none⟩ (.int .i64 0)):=Zaa (Touch.refl _ _);refine⟨used,O1,hR1.other hT (fun k hk e=>hnt k hk e),hT1.trans hT (fun k hk=>Or.inl (Or.inl ((show k=t from hk)▸hOt))),hO1,hu,Or.inl ⟨rfl,.row sum origin s c st fr ot ys m,⟨b,rwb,plb,_,OC,hrow.setW⟩,hrt,fun h=>?_,hp1,hp2⟩⟩;rcases hnd with h2|h2|h2
  ·rw [h] at h2;cases h2
  ·exact Or.inl (by omega)
  ·exact Or.inr (by omega)
 ·have hT2:Touch (fun _=>False) w1 w2:=Touch.ofBelow hb2;have hrow2:=hrow.other hT2 (fun _ _ h=>h);have hT:Touch (·=t) w2 (w2.setCell ⟨t,10,none⟩ (.int .i64 23)):=Zaa (Touch.refl _ _);obtain rfl:fr=0:=by omega
  obtain rfl:ot=0:=by omega
  have hf:=hrt.fin hd;rw [if_pos (by omega)] at hf;exact⟨used,O1,(hR1.other hT2 (fun _ _ h=>h)).other hT (fun k hk e=>hnt k hk e),(hT1.trans hT2 (fun k h=>h.elim)).trans hT (fun k hk=>Or.inl (Or.inl ((show k=t from hk)▸hOt))),hO1,hu,Or.inr (Or.inr (Or.inl ⟨by decide,by decide,⟨⟨_,_,_,_,_,_,_,_,_,hrow2.bk.setWrong 23⟩,hrow.oo.1⟩,hf⟩))⟩
 ·have hT:Touch (·=t) w2 (w2.setCell ⟨t,10,none⟩ (.int .i64 0)):=Zaa (Touch.refl _ _);obtain rfl:fr=0:=by omega
  obtain rfl:ot=0:=by omega
  have hf:=hrt.fin hd;rw [if_neg (by omega)] at hf;have hrow2:=(hrow.own ht2 hk2).setW;exact⟨used,O1,(hR1.other ht2 (fun k hk e=>hnt k hk e)).other hT (fun k hk e=>hnt k hk e),(hT1.trans ht2 (fun k hk=>Or.inl (Or.inl ((show k=t from hk)▸hOt)))).trans hT (fun k hk=>Or.inl (Or.inl ((show k=t from hk)▸hOt))),hO1,hu,Or.inr (Or.inl ⟨rfl,sum,origin,_,ys,⟨s,c,st,m,b,rwb,plb,_,OC,hrow2,rfl⟩,hf⟩)⟩
theorem bstepT {sum origin:Nat} {s:List UInt8} {c:CSt} {st:ZerM.St} {fr ot:Nat} {ys m:List UInt8} (hB:IsB w t R O (.row sum origin s c st fr ot ys m)) (hR:IsReader w rb v l dr sp p) (hne:∀k,foot rb v k->¬O k) (hrt:RtB Q R a (.row sum origin s c st fr ot ys m)) (hw0:0<fr\/0<ot) (hR5:5<=R) (hRb:R<=900000) :
  Calls Tryz.prog 31 #[.pointer (some ⟨t,0,none⟩),.pointer (some ⟨rb,0,none⟩)] w fun e w'=>OutB w w' t rb R O v l dr sp p Q ((bitsOf l).drop (p-8*dr)) r a (.row sum origin s c st fr ot ys m) e:=by
 obtain⟨b,rwb,plb,last,OC,hrow⟩:=hB;obtain⟨x,hx,hrt2⟩:=hrt.take hw0;have htk:=hrt2.took;have hys:(ys++[x]).length<=R:=htk;rw [List.length_append] at hys;have hys2:ys.length+1<=R:=hys
 have hfr:fr<=R:=by
  obtain⟨_,j,L,_,_,_,_,hz,_,hw,_⟩:=hrt;have h1:=hw.len.1;have h2:st.out.length+ZerM.val st.rc<=R:=(Zhi hz).le;omega
 have hi:(if (0:Int)<(fr:Int) then 0 else(ot:Int))=((if 0<fr then 0 else ot:Nat):Int):=by
  by_cases h:0<fr
  ·rw [if_pos h,if_pos (by omega)];rfl
  ·rw [if_neg h,if_neg (by omega)]
 have HT:=Zj0 b (if 0<fr then 0 else ot) 0 x m ys w hrow.bk hrow.li hrow.la (by omega) hi hx (by omega) (Nat.zero_le _) (fun e=>hrow.ne.1 e.symm) (fun k hk=>⟨(hrow.lo k hk).1,(hrow.lo k hk).2.1⟩)
 have e1:(if (0:Int)<(fr:Int) then(fr:Int)-1 else(fr:Int))=((if 0<fr then fr-1 else fr:Nat):Int):=by
  by_cases h:0<fr
  ·rw [if_pos h,if_pos (by omega)];omega
  ·rw [if_neg h,if_neg (by omega)]
 have e2:(if (0:Int)<(fr:Int) then(ot:Int) else 0)=((if 0<fr then ot else 0:Nat):Int):=by
  by_cases h:0<fr
  ·rw [if_pos h,if_pos (by omega)]
  ·rw [if_neg h,if_neg (by omega)];rfl
 rw [e1,e2] at HT;have hwi:0<(fr:Int)\/0<(ot:Int):=by omega
 have HS:=ZqO ⟨rb,0,none⟩ w hrow.bk hwi HT;have hnt:∀k,foot rb v k->k≠t:=fun k hk e=>hne k hk (e▸hrow.oo.1)
 refine(ZcU ⟨rb,0,none⟩ w hrow.bk (by omega) (fun er w'=>er=0/\∃v',IsBk w' t (R:Int) true (sum:Int) (origin:Int) (.pointer (some ⟨b,0,none⟩)) (.pointer (some ⟨rwb,0,none⟩)) (.pointer (some ⟨plb,0,none⟩)) ((if 0<fr then fr-1 else fr:Nat):Int) ((if 0<fr then ot else 0:Nat):Int) v' 0 false/\IsList w' b (touch m (if 0<fr then 0 else ot))/\OwnY w' 0 v' (ys++[x]) /\
    Touch (fun k=>k=t\/k=b\/last.ownBlock=some k) w w'/\(∀k,v'.ownBlock=some k->last.ownBlock=some k\/w.heap.size<=k))
  (fun er w'=>OutBP w w' t rb R O v l dr sp p Q ((bitsOf l).drop (p-8*dr)) r a (.row sum origin s c st fr ot ys m) er) ?_ ?_ ?_ ?_).mono ?_
 ·refine HS.mono ?_;rintro e w' ⟨rfl,h⟩;exact⟨0,rfl,rfl,h⟩
 ·rintro w1 ⟨h,_⟩;exact absurd h (by decide)
 ·rintro er w1 he0 _ ⟨h,_⟩;exact absurd h he0
 ·rintro w1 ⟨_,v',k1,k2,k3,k4,k5⟩
  have hOO:∀k,(k=t\/k=b\/last.ownBlock=some k)->O k:=fun k hk=>by
   rcases hk with h|h|h
   ·exact h▸hrow.oo.1
   ·exact h▸hrow.oo.2.1
   ·exact hrow.oo.2.2.2.2 k h
  have hbt:b<w.heap.size:=hrow.li.lt;have htt:t<w.heap.size:=hrow.bk.lt;have hpt:plb<w.heap.size:=hrow.zr.lt;have hcr:=hrow.cr.shrink
  have hrow1:BRow w1 t R (fun k=>O k\/w.heap.size<=k) sum origin s c st (if 0<fr then fr-1 else fr) (if 0<fr then ot else 0) (ys++[x]) (touch m (if 0<fr then 0 else ot)) b rwb plb v' (fun k=>OC k/\k<w.heap.size) false:=by
   refine⟨k1,k2,hcr.other k4 (fun k hk e=>?_),hrow.zr.other k4 (fun e=>?_),k3,⟨Or.inl hrow.oo.1,Or.inl hrow.oo.2.1,Or.inl hrow.oo.2.2.1,fun k hk=>Or.inl (hrow.oo.2.2.2.1 k hk.1),fun k hk=>(k5 k hk).imp (fun h=>hrow.oo.2.2.2.2 k h) id⟩,hrow.ne,fun k hk=>⟨(hrow.oc k hk.1).1,(hrow.oc k hk.1).2.1,(hrow.oc k hk.1).2.2.1,fun e=>?_⟩,fun k hk=>?_⟩
   ·rcases e with e|e|e
    ·exact(hrow.oc k hk.1).1 e
    ·exact(hrow.oc k hk.1).2.1 e
    ·exact(hrow.oc k hk.1).2.2.2 e
   ·rcases e with e|e|e
    ·exact hrow.ne.2.1 e.symm
    ·exact hrow.ne.2.2 e.symm
    ·exact(hrow.lo plb e).2.2 rfl
   ·rcases k5 k e with h|h
    ·exact(hrow.oc k hk.1).2.2.2 h
    ·have:=hk.2;omega
   ·rcases k5 k hk with h|h
    ·exact hrow.lo k h
    ·exact⟨by omega,by omega,by omega⟩
  have hR1:IsReader w1 rb v l dr sp (p+0):=by rw [Nat.add_zero];exact hR.other k4 (fun k hk e=>hne k hk (hOO k e))
  exact Zht hrow1 hR1 (k4.mono (fun k hk=>Or.inl (hOO k hk))) (fun k hk=>hk) hrow.oo.1 hne (Nat.zero_le _) hrt2 (by rw [List.length_append];exact Nat.le_succ _) (by rw [List.length_append];exact Nat.le_refl _)
 ·rintro e w' ⟨er,rfl,h⟩;exact⟨er,rfl,h⟩
theorem Zd7 {w1:World} {sum origin:Nat} {s:List UInt8} {c c':CSt} {st st':ZerM.St} {fr' ot':Nat} {ys m:List UInt8} {b rwb plb:Nat} {last:Value} {OC O':Nat->Prop}
  (hrow:BRow w t R O sum origin s c st 0 0 ys m b rwb plb last OC false) (ht:Touch (fun k=>(OC k\/k=rb)\/k=t\/k=plb) w w1) (hO':∀k,O' k->OC k\/w.heap.size<=k) (hrb:¬O rb)
  (hk:IsBk w1 t (R:Int) true (sum:Int) (origin:Int) (.pointer (some ⟨b,0,none⟩)) (.pointer (some ⟨rwb,0,none⟩)) (.pointer (some ⟨plb,0,none⟩)) (fr':Int) (ot':Int) last 0 false) (hc:IsCR w1 rwb (s.length+2) O' c') (hz:IsZR w1 plb (s.length:Int) R st') :
  BRow w1 t R (fun k=>O k\/w.heap.size<=k) sum origin s c' st' fr' ot' ys m b rwb plb last O' false:=by
 have hbt:b<w.heap.size:=hrow.li.lt;have htt:t<w.heap.size:=hrow.bk.lt;have hpt:plb<w.heap.size:=hrow.zr.lt;refine⟨hk,hrow.li.other ht ?_,hc,hz,hrow.la.same (fun k hk=>ht.block k (hrow.la.lt k hk).2 ?_),⟨Or.inl hrow.oo.1,Or.inl hrow.oo.2.1,Or.inl hrow.oo.2.2.1,fun k hk=>(hO' k hk).imp (fun h=>hrow.oo.2.2.2.1 k h) id,fun k hk=>Or.inl (hrow.oo.2.2.2.2 k hk)⟩,hrow.ne,fun k hk=>?_,hrow.lo⟩
 ·rintro((e|e)|e|e)
  ·exact(hrow.oc b e).2.1 rfl
  ·exact hrb (e▸hrow.oo.2.1)
  ·exact hrow.ne.1 e.symm
  ·exact hrow.ne.2.2 e
 ·rintro((e|e)|e|e)
  ·exact(hrow.oc k e).2.2.2 hk
  ·exact hrb (e▸hrow.oo.2.2.2.2 k hk)
  ·exact(hrow.lo k hk).1 e
  ·exact(hrow.lo k hk).2.2 e
 ·rcases hO' k hk with h|h
  ·exact hrow.oc k h
  ·refine⟨by omega,by omega,by omega,fun e=>?_⟩;have:=(hrow.la.lt k e).2;omega
theorem bstepC {sum origin:Nat} {s:List UInt8} {c:CSt} {st:ZerM.St} {ys m:List UInt8} (hB:IsB w t R O (.row sum origin s c st 0 0 ys m)) (hR:IsReader w rb v l dr sp p) (hs:dr+l.length<=1099511627776) (hne:∀k,foot rb v k->¬O k) (hq:Q.drop a=(bitsOf l).drop (p-8*dr)++r) (haQ:a<=Q.length) (hrt:RtB Q R a (.row sum origin s c st 0 0 ys m)) (hd:c.done=false) (hR5:5<=R) (hRb:R<=900000) (hQ:Q.length<400000) :
  Calls Tryz.prog 31 #[.pointer (some ⟨t,0,none⟩),.pointer (some ⟨rb,0,none⟩)] w fun e w'=>OutB w w' t rb R O v l dr sp p Q ((bitsOf l).drop (p-8*dr)) r a (.row sum origin s c st 0 0 ys m) e:=by
 obtain⟨b,rwb,plb,last,OC,hrow⟩:=hB;obtain⟨hH,j,L,hu,hj,hrc,hLl,hz,hsd,hwt,hot⟩:=hrt;have hs5:=Zil hu;have hN2:s.length+2-2=s.length:=by omega
 have hqc:(Q.drop (57+j)).drop (a-(57+j))=(bitsOf l).drop (p-8*dr)++r:=by rw [List.drop_drop,show 57+j+(a-(57+j))=a by omega];exact hq
 have hql:((bitsOf l).drop (p-8*dr)).length+a<=Q.length:=by
  have:=congrArg List.length hq;rw [List.length_drop,List.length_append] at this;omega
 have hdl:(Q.drop (57+j)).length=Q.length-(57+j):=List.length_drop
 have hcnt:c.cnt=L.length:=by
  cases c with
  | fields=>obtain⟨_,rfl⟩:=hrc;rfl
  | pick t n ps o=>obtain⟨_,_,_,rfl⟩:=hrc;rfl
  | len t ps gs ls now=>obtain⟨_,_,_,_,rfl,_⟩:=hrc;rfl
  | sym t ps gs cnt done=>exact hrc.2.2.2.1.symm
 have hnt:∀k,foot rb v k->¬OC k/\k≠t/\k≠plb:=fun k hk=>⟨fun e=>hne k hk (hrow.oo.2.2.2.1 k e),fun e=>hne k hk (e▸hrow.oo.1),fun e=>hne k hk (e▸hrow.oo.2.2.1)⟩
 have hrb:¬O rb:=hne rb (Or.inl rfl);have HC:=Zj3 t rb rwb plb (s.length+2) R OC (sum:Int) (origin:Int) (.pointer (some ⟨b,0,none⟩)) last v l dr sp p w (Q.drop (57+j)) r 400000 (a-(57+j)) L c st hrow.bk hrow.cr (by rw [hN2];exact hrow.zr) hR hs hnt ⟨fun e=>(hrow.oc t e).1 rfl,fun e=>(hrow.oc plb e).2.2.1 rfl,hrow.ne.2.1⟩ hqc hrc (by omega) (by omega) hd (by omega) (Zhi hz) hRb (by omega)
 have hTT:∀w1,Touch (fun k=>(OC k\/k=rb)\/k=t\/k=plb) w w1->Touch (fun k=>O k\/k=rb) w w1:=fun w1 h=>h.mono (fun k hk=>by
  rcases hk with(e|e)|e|e
  ·exact Or.inl (hrow.oo.2.2.2.1 k e)
  ·exact Or.inr e
  ·exact Or.inl (e▸hrow.oo.1)
  ·exact Or.inl (e▸hrow.oo.2.2.1))
 have htO:=hrow.oo.1
 refine(ZcU ⟨rb,0,none⟩ w hrow.bk (by omega) (fun er w'=>OutK w w' t rb rwb plb (s.length+2) R OC (sum:Int) (origin:Int) (.pointer (some ⟨b,0,none⟩)) last v l dr sp p (Q.drop (57+j)) ((bitsOf l).drop (p-8*dr)) r 400000 (a-(57+j)) L c st (.returned (.int .i64 er)))
  (fun er w'=>OutBP w w' t rb R O v l dr sp p Q ((bitsOf l).drop (p-8*dr)) r a (.row sum origin s c st 0 0 ys m) er) ?_ ?_ ?_ ?_).mono ?_
 ·refine ZqN ⟨rb,0,none⟩ ⟨b,0,none⟩ w hrow.bk ?_;refine HC.mono ?_;rintro e w' ⟨er,used,O',rfl,h⟩;exact⟨er,rfl,er,used,O',rfl,h⟩
 ·rintro w1 ⟨er,used,O',he,h1,h2,h3,h4,h5⟩
  obtain rfl:er=3:=by
   simp only [Ending.returned.injEq,Value.int.injEq,true_and] at he;exact he.symm
  rcases h5 with⟨h,_⟩|⟨h,_⟩|⟨_,h,_⟩|⟨_,rfl,k1,k2,k3,k4⟩
  ·exact absurd h (by decide)
  ·exact absurd h (by decide)
  ·exact absurd rfl h
  ·rw [hN2] at k3;exact⟨0,_,h1,hTT _ h2,fun k hk=>hk,Nat.zero_le _,Or.inr (Or.inr (Or.inr ⟨rfl,rfl,⟨b,rwb,plb,last,O',Zd7 hrow h2 h3 hrb k2 k1 k3⟩,fun hr=>Zoz hH hu hz (k4 hr)⟩))⟩
 ·rintro er w1 he0 he3 ⟨er',used,O',he,h1,h2,h3,h4,h5⟩
  obtain rfl:er'=er:=by
   simp only [Ending.returned.injEq,Value.int.injEq,true_and] at he;exact he.symm
  have hT:Touch (·=t) w1 (w1.setCell ⟨t,10,none⟩ (.int .i64 er')):=Zaa (Touch.refl _ _);have hRt:=h1.other hT (fun k hk e=>(hnt k hk).2.1 e);have hTa:Touch (fun k=>O k\/k=rb) w (w1.setCell ⟨t,10,none⟩ (.int .i64 er')):=(hTT _ h2).trans hT (fun k hk=>Or.inl (Or.inl ((show k=t from hk)▸htO)));rcases h5 with⟨h,_⟩|⟨h,hus,k2,i,c',k3,k4⟩|⟨_,_,k2,k3⟩|⟨h,_⟩
  ·exact absurd h he0
  ·refine⟨k2.cell 10,k2.frozen 10,used,O,hRt,hTa,fun k hk=>Or.inl hk,h4,Or.inr (Or.inr (Or.inl ⟨he0,he3,⟨⟨_,_,_,_,_,_,_,_,_,k2.setWrong er'⟩,htO⟩,?_⟩))⟩;rw [hN2] at k4;rw [h];exact Zsz hH hu hz k4 k3 (by rw [List.length_append];show L.length+1<=_;omega) (by omega) hQ
  ·exact⟨k2.cell 10,k2.frozen 10,used,O,hRt,hTa,fun k hk=>Or.inl hk,h4,Or.inr (Or.inr (Or.inl ⟨he0,he3,⟨⟨_,_,_,_,_,_,_,_,_,k2.setWrong er'⟩,htO⟩,Zoz hH hu hz k3⟩))⟩
  ·exact absurd h he3
 ·rintro w1 ⟨er,used,O',he,h1,h2,h3,h4,h5⟩
  obtain rfl:er=0:=by
   simp only [Ending.returned.injEq,Value.int.injEq,true_and] at he;exact he.symm
  rcases h5 with⟨_,hus,c',k1,k2⟩|⟨h,_⟩|⟨h,_⟩|⟨h,_⟩
  ·have hau:a-(57+j)+used=a+used-(57+j):=by omega
   rw [hau] at k2;rcases k2 with⟨q1,q2,q3,q4⟩|⟨i,q1,q2,q3,q4,q5,q6⟩
   ·rw [hN2] at q4;have hrt2:RtB Q R (a+used) (.row sum origin s c' st 0 0 ys m):=⟨hH,j,L,hu,by omega,q2,by omega,hz,by rw [hsd,hd,q1],hwt,hot⟩
    exact Zht (Zd7 hrow h2 h3 hrb q3 k1 q4) h1 (hTT _ h2) (fun k hk=>hk) htO hne h4 hrt2 (Nat.le_refl _) (by show ys.length+1<=ys.length+used;omega)
   ·rw [hN2] at q4 q5 q6;obtain⟨hrt2,hcast⟩:=RtB.sym (Q:=Q) (room:=R) (a:=a+used) hH hu (by omega) q3 (by rw [List.length_append];show L.length+1<=_;omega) hz q2 q1 hwt q4;rw [<-hcast] at q5;exact Zht (Zd7 hrow h2 h3 hrb q5 k1 q6) h1 (hTT _ h2) (fun k hk=>hk) htO hne h4 hrt2 (Nat.le_refl _) (by show ys.length+1<=ys.length+used;omega)
  ·exact absurd h (by decide)
  ·exact absurd rfl h
  ·exact absurd h (by decide)
 ·rintro e w' ⟨er,rfl,h⟩;exact⟨er,rfl,h⟩
theorem ZoB (s:BSt) (hB:IsB w t R O s) (hR:IsReader w rb v l dr sp p) (hs:dr+l.length<=1099511627776) (hne:∀k,foot rb v k->¬O k) (hq:Q.drop a=(bitsOf l).drop (p-8*dr)++r) (haQ:a<=Q.length) (hrt:RtB Q R a s) (hlv:live s) (hR5:5<=R) (hRb:R<=900000) (hQ:Q.length<400000) :
  Calls Tryz.prog 31 #[.pointer (some ⟨t,0,none⟩),.pointer (some ⟨rb,0,none⟩)] w fun e w'=>OutB w w' t rb R O v l dr sp p Q ((bitsOf l).drop (p-8*dr)) r a s e:=by
 cases s with
 | start=>exact bstepS hB hR hs hne hq hrt hR5
 | head sum origin=>exact bstepH hB hR hs hne hq hrt hR5 hRb
 | row sum origin s c st fr ot ys m=>
  by_cases hw:0<fr\/0<ot
  ·exact bstepT hB hR hne hrt hw hR5 hRb
  ·have hd:c.done=false:=by
    cases hc:c.done with
    | false=>rfl
    | true=>exact absurd (hlv hc) hw
   obtain rfl:fr=0:=by omega
   obtain rfl:ot=0:=by omega
   exact bstepC hB hR hs hne hq haQ hrt hd hR5 hRb hQ
end
end
end Go.Proofs.YtnachbjhhpnadaaGreatDoor

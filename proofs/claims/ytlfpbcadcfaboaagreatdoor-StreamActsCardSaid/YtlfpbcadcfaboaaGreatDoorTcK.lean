import Derived.Test.YtlfpbcadcfaboaaGreatDoorTcB
import Derived.Test.YtlfpbcadcfaboaaGreatDoorTcC
import Derived.Test.YtlfpbcadcfaboaaGreatDoorTcD
import Derived.Test.YtlfpbcadcfaboaaGreatDoorTcE
import Derived.Test.YtlfpbcadcfaboaaGreatDoorTcH
import Derived.Test.YtlfpbcadcfaboaaGreatDoorTcI
import Derived.Test.YtlfpbcadcfaboaaGreatDoorTcJ
import Derived.Deep.MidRow
import Derived.Laws.BitsAllLaws
import Derived.Deep.RegionHeld3
import Derived.Outline
import Derived.BigRegion
import Derived.BigQuiet
import Derived.Shelf.Abstract
import Derived.Laws.EntriesVeiled
import Derived.Deep.Cut
set_option linter.unusedVariables false
set_option linter.unusedSimpArgs false
set_option maxHeartbeats 8000000
set_option maxRecDepth 100000
namespace Go.Proofs.YtlfpbcadcfaboaaGreatDoor
section
open Go.RowKit PkM BitM
theorem Zth (W:World) (b off:Nat):(Instr.sliceAt 206 (.pointer (some ⟨b,off,none⟩)) none none none).run Tryz.prog W=.ok (.slice (some ⟨b,off,none⟩) 6 6) W:=by rfl
theorem Zsu {o:List Nat} {p:Nat} (hp:p∈o):IdxP (toI o) (p:Int) ((o.idxOf p:Nat):Int):=by
 have hi:o.idxOf p<o.length:=List.idxOf_lt_length_of_mem hp;refine Or.inl ⟨_,rfl,by rw [toI_length];exact hi,?_,fun j hj h=>?_⟩
 ·rw [toI_getD,List.getD_eq_getElem?_getD,List.getElem?_eq_getElem hi,List.getElem_idxOf];rfl
 ·rw [toI_getD] at h;have hj2:j<o.length:=by omega
  refine Zfz hj ?_;rw [List.getD_eq_getElem?_getD,List.getElem?_eq_getElem hj2] at h;rw [List.getElem?_eq_getElem hj2];congr 1;have h2:((o[j]:Nat):Int)=(p:Int):=h;omega
theorem ZnE (n:Nat) (T:TypeId) (b off p:Nat) (F:Nat->Value) (o:List Nat) (w:World) (h:LstAt n T w b off F o) (hp:p∈o) :
  Calls Tryz.prog 143 #[.pointer (some ⟨b,off,none⟩),.int .i64 (p:Int)] w fun e w'=>e=.returned (.int .i64 ((o.idxOf p:Nat):Int))/\(∃F',LstAt n T w' b off F' (tch o (o.idxOf p))/\∀k,(k<off\/off+6<=k)->F' k=F k)/\Touch (·=b) w w':=by
 have H:=zh h;have hi:o.idxOf p<o.length:=List.idxOf_lt_length_of_mem hp;rw [h.2.1] at hi;have hI:=h.ints 6 6 (by omega);rw [List.take_of_length_le (by rw [h.2.1];exact Nat.le_refl _)] at hI;have HIX:=zh (fun(R:Int) (hR:R=((o.idxOf p:Nat):Int))=>Zjx _ (toI o) (p:Int) R w hI (by rw [hR];exact Zsu hp) (by rw [toI_length,h.2.1];omega));have hs:=fun W=>Zth W b off
 obtain⟨I,hII⟩:∃I,o.idxOf p=I:=⟨_,rfl⟩
 rw [hII] at hi HIX ⊢;clear h hp hI hII;go_enter Tryz.func143,Tryz.ntmps143;go_wp2_with fail;refine(HIX.out _ rfl).mono ?_;rintro e w' ⟨rfl,rfl⟩;go_wp2_with fail;refine(Zpy n T b off I F o _ H.out hi).mono ?_;rintro e w1 ⟨rfl,hL,hT⟩;have HL:=zh hL;have HT:=zh hT;clear hL hT;go_wp2_with fail;go_ret;exact⟨rfl,HL.out,HT.out⟩
def boxed (w:World):World:=(w.alloc (.cells #[.int .i64 0,.int .i64 0,.int .i64 0,.int .i64 0,.int .i64 0,.int .i64 0] 206)).setRow w.heap.size (ordA O6)
theorem ZkR (w:World):LstAt 6 206 (boxed w) w.heap.size 0 (ordF O6) O6:=by
 refine⟨?_,rfl,Nat.le_refl _,fun j hj=>by rw [Nat.zero_add]⟩;exact setRow_heap _ _ _ _ _ _ (heap_alloc_new w _)
theorem ZlU (w:World):Below w.heap.size w (boxed w):=Zal ((Below.refl _ _).alloc (Nat.le_refl _) _) (Nat.le_refl _) _
theorem Zpz:(Tryz.prog.info? 206).map (·.size)=some (ordA O6).size:=by rw [ZfH];kernel_rfl
theorem Zrj:(#[.int .i64 0,.int .i64 0,.int .i64 0,.int .i64 0,.int .i64 0,.int .i64 0]:Array Value).size=(ordA O6).size:=by rw [ZfH];rfl
end
section
open Go.RowKit DelM BitM
theorem ZmU (n:Int) (r:Bool) (w:World) (hr:r=true↔1<=n/\n<=20):Calls Tryz.prog 172 #[.int .i64 n] w fun e w'=>e=.returned (.bool r)/\w'=w:=by
 by_cases h1:1<=n
 ·by_cases h2:n<=20
  ·obtain rfl:r=true:=hr.2 ⟨h1,h2⟩;clear hr;go_enter Tryz.func172,Tryz.ntmps172;go_wp2_with fail;go_ret;exact⟨rfl,rfl⟩
  ·obtain rfl:r=false:=by rw [Bool.eq_false_iff];intro h;exact h2 (hr.1 h).2
   clear hr;go_enter Tryz.func172,Tryz.ntmps172;go_wp2_with fail;go_ret;exact⟨rfl,rfl⟩
 ·obtain rfl:r=false:=by rw [Bool.eq_false_iff];intro h;exact h1 (hr.1 h).1
  clear hr;go_enter Tryz.func172,Tryz.ntmps172;go_wp2_with fail;go_ret;exact⟨rfl,rfl⟩
theorem Zrk (n:Int) (r:Bool) (w:World) (hr:r=true↔3<=n/\n<=258):Calls Tryz.prog 173 #[.int .i64 n] w fun e w'=>e=.returned (.bool r)/\w'=w:=by
 by_cases h1:3<=n
 ·by_cases h2:n<=258
  ·obtain rfl:r=true:=hr.2 ⟨h1,h2⟩;clear hr;go_enter Tryz.func173,Tryz.ntmps173;go_wp2_with fail;go_ret;exact⟨rfl,rfl⟩
  ·obtain rfl:r=false:=by rw [Bool.eq_false_iff];intro h;exact h2 (hr.1 h).2
   clear hr;go_enter Tryz.func173,Tryz.ntmps173;go_wp2_with fail;go_ret;exact⟨rfl,rfl⟩
 ·obtain rfl:r=false:=by rw [Bool.eq_false_iff];intro h;exact h1 (hr.1 h).1
  clear hr;go_enter Tryz.func173,Tryz.ntmps173;go_wp2_with fail;go_ret;exact⟨rfl,rfl⟩
theorem Zrl (v:Value) (zs:List Int) (r:Bool) (w:World) (hv:IsInts w v zs) (hr:r=true↔May zs) (hz:zs.length<=9223372036854775807) :
  Calls Tryz.prog 144 #[v] w fun e w'=>e=.returned (.bool r)/\w'=w:=by
 have HV:=zh hv;have HRR:=zh hr;obtain⟨ad,cap,rfl,_⟩:=hv;clear hr;go_enter Tryz.func144,Tryz.ntmps144;go_wp2_with fail
 go_loopw [7] (fun i wr=>∃k:Nat,k<=zs.length/\i=.int .i64 k/\wr=w/\∀j,j<k->1<=zs.getD j 0/\zs.getD j 0<=20) (fun i _=>zs.length-(intOf i).toNat)
 case atStart=>exact⟨0,by omega,rfl,rfl,fun j hj=>by omega⟩
 case round=>
  obtain⟨k,hk,rfl,rfl,hA⟩:=hrel;have HA:=zh hA;clear hA;by_cases hlk:k<zs.length
  ·have hki:(k:Int)<(zs.length:Int):=by omega
   obtain⟨b1,o1,k1,he1,c1⟩:=HV.out.cell hlk;simp only [Value.slice.injEq] at he1;obtain⟨rfl,_,rfl⟩:=he1;obtain⟨x,hx⟩:∃x,zs.getD k 0=x:=⟨_,rfl⟩
   rw [hx] at c1;have HX:=zh hx;clear hx;by_cases h1:1<=x/\x<=20
   ·have HL:=zh (fun W=>ZmU x true W ⟨fun _=>h1,fun _=>rfl⟩);go_wp2_with fail;refine(HL.out _).mono ?_;rintro e w' ⟨rfl,rfl⟩;go_wp2_with fail;go_roundw
    case rel=>exact⟨k+1,by omega,by go_num,(by first|rfl|trivial),fun j hj=>by
      by_cases e:j=k
      ·subst e;rw [HX.out];omega
      ·exact HA.out j (by omega)⟩
    case measure=>simp [intOf];omega
   ·have HL:=zh (fun W=>ZmU x false W ⟨fun e=>(by cases e),fun e=>absurd e h1⟩)
    have hrf:r=false:=by
     rw [Bool.eq_false_iff,Ne,HRR.out];intro h;have:=h.2.2 _ (getD_mem hlk);rw [HX.out] at this;exact h1 this
    subst hrf;clear h1;go_wp2_with fail;refine(HL.out _).mono ?_;rintro e w' ⟨rfl,rfl⟩;go_wp2_with fail;go_ret;exact⟨rfl,rfl⟩
  ·have hki:¬(k:Int)<(zs.length:Int):=by omega
   have hw:∀z∈zs,1<=z/\z<=20:=ZeA (fun j hj=>HA.out j (by omega));have HL:=zh (fun W=>Zrk (zs.length:Int) r W ⟨fun e=>by have:=HRR.out.1 e;exact⟨by have:=this.1;omega,by have:=this.2.1;omega⟩,fun e=>HRR.out.2 ⟨by omega,by omega,hw⟩⟩);clear hw;go_wp2_with fail;refine(HL.out _).mono ?_;rintro e w' ⟨rfl,rfl⟩;go_wp2_with fail;go_ret;exact⟨rfl,rfl⟩
theorem Zsv (b:Bool) (k:Nat):two b k++field (if b then 3 else 2) 2=two b (k+1):=by
 cases b<;>rfl
theorem ZrS (q:List Bool) (b:Bool) (k:Nat):q++two b k++field (if b then 3 else 2) 2=q++two b (k+1):=by rw [List.append_assoc,Zsv]
theorem ZnF (g:Nat) (v l:Value) (zs:List Int) (q:List Bool) (tk:Nat) (w:World) (hw:IsWriter w g v q tk) (hst:∀w',Touch (foot g v) w w'->IsInts w' l zs) (hm:May zs) (hq:q.length<=1099511600000) :
  Calls Tryz.prog 104 #[.pointer (some ⟨g,0,none⟩),l] w fun e w'=>e=.returned (.int .i64 0)/\Wrote w g v tk (q++allB zs) w':=by
 have hv:=hst w (Touch.refl _ _);have HV:=zh hv;have HST:=zh hst;have HM:=zh hm;have HMAY:=zh (Zrl l zs true w hv ⟨fun _=>hm,fun _=>rfl⟩ (by have:=hm.2.1;omega));have HS:=zh (Wrote.start hw);have h3:=hm.1;have h258:=hm.2.1;obtain⟨ad,cap,rfl,_⟩:=hv;have HL:Hid (∀k,k<=zs.length->(encK zs k).length<=11000):=zh (fun k hk=>by have:=(encK_le HM.out hk).1;omega);obtain⟨N,hN⟩:∃N,zs.length=N:=⟨_,rfl⟩
 have HN:=zh hN;rw [hN] at h3 h258 HMAY HV HST ⊢;clear hst hm hw hN;obtain⟨b1,o1,k1,he1,c1⟩:=HV.out.cell (k:=0) (by rw [HN.out];omega);rw [HN.out] at he1;simp only [Value.slice.injEq] at he1;obtain⟨rfl,_,rfl⟩:=he1;have hz0:=HM.out.at_ (k:=0) (by rw [HN.out];omega);obtain⟨x0,hx0⟩:∃x0,zs.getD 0 0=x0:=⟨_,rfl⟩
 rw [hx0] at c1 hz0;rw [Nat.add_zero] at c1;obtain⟨X0,rfl⟩:∃X0:Nat,x0=(X0:Int):=⟨x0.toNat,by omega⟩
 have hX20:X0<=20:=by omega
 have HALL:Hid (allB zs=field X0 5++encK zs N):=zh (by unfold allB;rw [hx0,HN.out];rfl);have HPRV:Hid (prv zs 0=(X0:Int)):=zh hx0;have HP1:=zh (fun W (hh:Wrote w g v tk q W)=>hh.put X0 5 (by omega) (show X0<32 by omega) (by omega));have hc32:IntKind.u32.wrap (X0:Int)=(X0:Int):=by simp [IntKind.wrap,IntKind.bits,IntKind.signed];omega
 clear hx0 hz0;have hN0:(0:Int)<(N:Int):=by omega
 go_enter Tryz.func104,Tryz.ntmps104;go_wp2_with fail;refine HMAY.out.mono ?_;rintro e w' ⟨rfl,rfl⟩;go_wp2_with fail;refine(HP1.out _ HS.out).mono ?_;rintro e w1 ⟨rfl,hW1⟩;have HW1:=zh hW1;clear hW1 HP1 c1;go_wp2_with fail
 go_loopw [5,22] (fun vl vk wr=>∃k:Nat,vk=.int .i64 (k:Int)/\k<=N/\vl=.int .i64 (prv zs k)/\Wrote w' g v tk (q++field X0 5++encK zs k) wr) (fun _ vk _=>N-(intOf vk).toNat)
 case atStart=>exact⟨0,rfl,by omega,by rw [HPRV.out],by rw [show encK zs 0=[] from rfl,List.append_nil];exact HW1.out⟩
 case round=>
  clear HW1 HS;obtain⟨k,rfl,hk,rfl,hW⟩:=hrel;have HW:=zh hW;clear hW;by_cases hlk:k<N
  ·have hki:(k:Int)<(N:Int):=by omega
   have hkz:k<zs.length:=by rw [HN.out];exact hlk
   have HVk:=zh (HST.out wr HW.out.touch);obtain⟨b1,o1,k1,he1,c1⟩:=HVk.out.cell hkz;rw [HN.out] at he1;simp only [Value.slice.injEq] at he1;obtain⟨he1,_,rfl⟩:=he1;simp only [Option.some.injEq,Addr.mk.injEq,and_true] at he1;obtain⟨rfl,rfl⟩:=he1;have hzk:=HM.out.at_ hkz;have hpk:=HM.out.prv (k:=k) (by omega);have HLk:=zh (HL.out k (by rw [HN.out];omega));have HEN:Hid (encK zs (k+1)=encK zs k++(mv (prv zs k) (zs.getD k 0)++[false])):=zh rfl;have HPS:Hid (prv zs (k+1)=zs.getD k 0):=zh rfl;obtain⟨x,hx⟩:∃x,zs.getD k 0=x:=⟨_,rfl⟩
   obtain⟨p,hp⟩:∃p,prv zs k=p:=⟨_,rfl⟩
   rw [hx] at c1 hzk HEN HPS;rw [hp] at hpk HEN ⊢;obtain⟨Q,hQ⟩:∃Q,q++field X0 5++encK zs k=Q:=⟨_,rfl⟩
   have HQ:=zh hQ
   have hQl:Q.length<=1099511620000:=by
    have:=HLk.out;rw [<-hQ,List.length_append,List.length_append,Zaa];omega
   rw [hQ] at HW;clear hx hp hQ HVk;go_wp2_with fail
   go_loopw [5] (fun vl wr2=>∃j:Nat,j<=(x-p).toNat/\vl=.int .i64 (p+(j:Int))/\Wrote w' g v tk (Q++two false j) wr2) (fun vl _=>(x-intOf vl).toNat)
   case atStart=>exact⟨0,by omega,by simp,by rw [show two false 0=[] from rfl,List.append_nil];exact HW.out⟩
   case round=>
    clear HW c1;obtain⟨j,hj,rfl,hWj⟩:=hrel;have HWj:=zh hWj;clear hWj;have hl2:(Q++two false j).length<=1099511627776:=by rw [List.length_append,ZaN];omega
    have HP2:=zh (HWj.out.put 2 2 (by omega) (by decide) hl2);clear hl2;by_cases hlt:p+(j:Int)<x
    ·go_wp2_with fail;refine HP2.out.mono ?_;rintro e w3 ⟨rfl,hW3⟩;have HW3:Hid (Wrote w' g v tk (Q++two false (j+1)) w3):=zh (by rw [<-ZrS Q false j];exact hW3);clear hW3;go_wp2_with fail;go_roundw
     case rel=>exact⟨j+1,by omega,by go_num,HW3.out⟩
     case measure=>simp [intOf];omega
    ·have hge:¬p+(j:Int)<x:=hlt;obtain⟨Q2,hQ2⟩:∃Q2,Q++two false j=Q2:=⟨_,rfl⟩
     have HQ2:Hid (Q2=Q++two false (x-p).toNat):=zh (by rw [<-hQ2];congr 2;omega);have hQ2l:Q2.length<=1099511625000:=by rw [<-hQ2,List.length_append,ZaN];omega
     rw [hQ2] at HWj;clear hQ2 HP2;obtain⟨p2,hp2⟩:∃p2,p+(j:Int)=p2:=⟨_,rfl⟩
     rw [hp2] at hlt hge ⊢;have HPM:Hid (p2=max p x):=zh (by omega);have hp2b:1<=p2/\p2<=20:=by omega
     clear hp2;go_wp2_with fail;obtain⟨wz,rfl⟩:∃wz:World,wz=wr:=⟨_,rfl⟩
     go_loopw [5] (fun vl wr3=>∃i:Nat,i<=(p-x).toNat/\vl=.int .i64 (p2-(i:Int))/\Wrote w' g v tk (Q2++two true i) wr3) (fun vl _=>(intOf vl-x).toNat)
     case atStart=>exact⟨0,by omega,by simp,by rw [show two true 0=[] from rfl,List.append_nil];exact HWj.out⟩
     case round=>
      clear HWj;obtain⟨i,hi,rfl,hWi⟩:=hrel;have HWi:=zh hWi;clear hWi;have hl2:(Q2++two true i).length<=1099511627776:=by rw [List.length_append,ZaN];omega
      have HP2:=zh (HWi.out.put 3 2 (by omega) (by decide) hl2);have HP3:=zh (HWi.out.put 0 1 (by omega) (by decide) hl2);clear hl2;by_cases hgt:x<p2-(i:Int)
      ·go_wp2_with fail;refine HP2.out.mono ?_;rintro e w3 ⟨rfl,hW3⟩;have HW3:Hid (Wrote w' g v tk (Q2++two true (i+1)) w3):=zh (by rw [<-ZrS Q2 true i];exact hW3);clear hW3;go_wp2_with fail;go_roundw
       case rel=>exact⟨i+1,by have:=HPM.out;omega,by go_num,HW3.out⟩
       case measure=>simp [intOf];omega
      ·have hge2:¬x<p2-(i:Int):=hgt;have hlast:p2-(i:Int)=x:=by have:=HPM.out;omega
       have hi2:Hid (i=(p-x).toNat):=zh (by have:=HPM.out;omega);rw [hlast] at hgt hge2 ⊢;clear hlast;go_wp2_with fail;refine HP3.out.mono ?_;rintro e w3 ⟨rfl,hW3⟩
       have HW3:Hid (Wrote w' g v tk (q++field X0 5++encK zs (k+1)) w3):=zh (by
        rw [HEN.out,<-List.append_assoc,HQ.out];unfold mv;rw [hi2.out,HQ2.out] at hW3;rw [List.append_assoc (two false _),<-List.append_assoc,<-List.append_assoc];exact hW3)
       clear hW3;go_wp2_with fail;go_roundw
       case rel=>exact⟨k+1,by go_num,by omega,by rw [HPS.out],HW3.out⟩
       case measure=>simp [intOf];omega
  ·have hki:¬(k:Int)<(N:Int):=by omega
   obtain rfl:k=N:=by omega
   go_wp2_with fail;go_ret;exact⟨rfl,by rw [HALL.out,<-List.append_assoc];exact HW.out⟩
end
section
open Go.RowKit BitM HufM CanM CodM PkM
def ptr (b:Nat):Value:=.pointer (some ⟨b,0,none⟩)
def OwnP (w:World) (base:Nat) (v:Value) (bs:List Nat):Prop:=w.ownsRow base 159 1 v bs.length (bs.map ptr)
theorem OwnP.nil (w:World) (base:Nat):OwnP w base (.slice none 0 0) []:=World.ownsRow_nil _ _ _ _
theorem OwnP.slice {w:World} {base:Nat} {v:Value} {bs:List Nat} (h:OwnP w base v bs):∃a cap,v=.slice a bs.length cap:=Zao h
theorem OwnP.same {w w':World} {base:Nat} {v:Value} {bs:List Nat} (h:OwnP w base v bs) (he:∀k,v.ownBlock=some k->w'.heap[k]?=w.heap[k]?):OwnP w' base v bs:=Zag h he
theorem OwnP.lt {w:World} {base:Nat} {v:Value} {bs:List Nat} (h:OwnP w base v bs):∀k,v.ownBlock=some k->base<=k/\k<w.heap.size:=World.ownsRow.lt h
theorem OwnP.cell {w:World} {base:Nat} {v:Value} {bs:List Nat} (h:OwnP w base v bs) {i:Nat} (hi:i<bs.length):∃g cap,v=.slice (some ⟨g,0,none⟩) bs.length cap/\w.cell? ⟨g,i,none⟩=some (ptr (bs.getD i 0)):=by
 rcases h.2 with⟨rfl,h0⟩|⟨g,cap,cur,rfl,_,hg,_⟩
 ·omega
 ·refine⟨g,cap,rfl,?_⟩;have h2:=World.ownsRow.cells h (g:=g) rfl i (ptr (bs.getD i 0)) (by rw [List.getElem?_map,List.getElem?_eq_getElem hi,List.getD_eq_getElem?_getD,List.getElem?_eq_getElem hi];rfl);rw [Addr.add_lit,Nat.zero_add] at h2;exact h2
theorem Zsw:(Tryz.prog.info? 159).map (fun i=>(i.zero,i.size,i.bytes))=some (some (.pointer none),1,8):=by kernel_rfl
theorem Zsx {ops:Array Oper} {rest:List Oper} {o:Oper} {a:Act} {Q:Exit->Act->World->Prop} (W:World) (hgd:o.guard=none) (s x:Operand)
  (ho:o.op=.call { callee:=.builtin .append,args:=#[s,x],argTypes:=#[157,157] })
  (base:Nat) (v:Value) (bs:List Nat) (c:Nat) (hown:OwnP W base v bs) (hs:a.eval s=v) (hx:a.eval x=.slice (some ⟨W.heap.size,0,none⟩) 1 1)
  (hlen:bs.length+1<=1000000) (hb:base<=W.heap.size)
  (h:∀v' w',OwnP w' base v' (bs++[c])->Below base W w'->(∀k,k<W.heap.size->v.ownBlock≠some k->w'.heap[k]?=W.heap[k]?)->(∀k,v'.ownBlock=some k->v.ownBlock=some k\/W.heap.size<=k)->wpList Tryz.prog ops Q rest (a.put o.dst v') w') :
  wpList Tryz.prog ops Q (o::rest) a (W.alloc (.cells #[.pointer (some ⟨c,0,none⟩)] 159)):=by
 obtain⟨i0,hi,hz0,hz1,hz2⟩:=info_parts Zsw;refine Zai hgd s x 157 ho base 159 i0 (.pointer none) 1 8 Tryz.underlying157 hi hz0 hz1 hz2 rfl (by decide) v bs.length (bs.map ptr) (World.ownsRow.alloc hown _) hs ⟨W.heap.size,0,none⟩ 1 1 [ptr c] hx rfl ?_ ?_ ?_ ?_ ?_ ?_
 ·exact ZaB _ _ _ _ rfl
 ·intro u hu;simp at hu;subst hu;rfl
 ·unfold maxLen;omega
 ·omega
 ·simp;omega
 ·intro v' w' hown' hg hv;refine h v' w' ?_ (Below.grown ((Below.refl base W).alloc hb _) hg (by simp;omega) (fun j hj=>(World.ownsRow.lt hown j hj).1)) (fun k hk hne=>(hg.block k (by simp;omega) (fun e=>hne e.symm)).trans (Zam hk)) (fun k hk=>(hv k hk).imp id (fun h=>by simp at h;omega));unfold OwnP;rw [List.length_append,List.map_append];exact hown'
def Codes (w:World) (Pb:Nat->Prop) (cu:Value) (gs:List (List Int)):Prop:=
 ∃(bs:List Nat) (base:Nat),OwnP w base cu bs/\bs.length=gs.length/\base<=w.heap.size/\(∀k,cu.ownBlock=some k->Pb k)/\∀i,i<gs.length->IsCode w (bs.getD i 0) (gs.getD i [])/\Pb (bs.getD i 0)/\cu.ownBlock≠some (bs.getD i 0)/\bs.getD i 0<w.heap.size
theorem Codes.nil (w:World) (Pb:Nat->Prop):Codes w Pb (.slice none 0 0) []:=⟨[],0,OwnP.nil _ _,rfl,Nat.zero_le _,fun k hk=>(by cases hk),fun i hi=>absurd hi (Nat.not_lt_zero _)⟩
theorem Codes.other {w w':World} {Pb S:Nat->Prop} {cu:Value} {gs:List (List Int)} (h:Codes w Pb cu gs) (ht:Touch S w w') (hS:∀k,Pb k->¬S k):Codes w' Pb cu gs:=by
 obtain⟨bs,base,h1,h2,h3,h4,h5⟩:=h;refine⟨bs,base,h1.same (fun k hk=>ht.block k (h1.lt k hk).2 (hS k (h4 k hk))),h2,Nat.le_trans h3 ht.size,h4,fun i hi=>?_⟩;obtain⟨a1,a2,a3,a4⟩:=h5 i hi;exact⟨a1.other ht (hS _ a2),a2,a3,Nat.lt_of_lt_of_le a4 ht.size⟩
end
section
open Go.RowKit BitM HufM CanM CodM TabM FreqM
def May14 (zs:List Int) (n:Int):Prop:=3<=n/\n<=258/\1<=zs.length/\Syms zs n/\∀i,i<zs.length->(zs.getD i 0=n-1↔i+1=zs.length)
theorem May14.idx {zs:List Int} {n:Int} (h:May14 zs n):IdxP zs (n-1) ((zs.length:Int)-1):=by
 obtain⟨_,_,h1,_,h5⟩:=h;refine Or.inl ⟨zs.length-1,by omega,by omega,(h5 _ (by omega)).2 (by omega),fun j hj e=>?_⟩;have:=(h5 j (by omega)).1 e;omega
theorem ZkS:(Tryz.prog.info? 154).map (·.size)=some 2:=by kernel_rfl
theorem ZnG (a:Option Addr) (len c:Nat) (zs:List Int) (N:Nat) (w:World) (hI:IsInts w (.slice a len c) zs) (hlen:zs.length=len) (hz:len<=1000) (hc:len<=c) (hc2:c<=9223372036854775807) (hB:Bnds w) (hm:May14 zs (N:Int)) :
  Calls Tryz.prog 102 #[.slice a len c,.int .i64 (N:Int)] w fun e w'=>∃(vL vP:Value),e=.returned (.tuple #[.agg #[vL,vP],.int .i64 0])/\(∀W:World,(∀k,w.heap.size<=k->k<w'.heap.size->W.heap[k]?=w'.heap[k]?)->w'.heap.size<=W.heap.size->IsRR W vL (rnd zs N 4)/\IsInts W vP (picksM zs (rnd zs N 3) (ng zs.length)))/\Below w.heap.size w w':=by
 have h0:=Zpx w;have hB1:=(Below.refl w.heap.size w).alloc (Nat.le_refl _) (.cells #[.slice none 0 0,.slice none 0 0] 154);have HB1:=zh hB1;have hs1:(w.alloc (.cells #[.slice none 0 0,.slice none 0 0] 154)).heap.size=w.heap.size+1:=by simp
 have HS1:=zh hs1;have hi:=ZkS;have h3:3<=N:=by have:=hm.1;omega
 have h258:N<=258:=by have:=hm.2.1;omega
 have h1:1<=len:=by have:=hm.2.2.1;omega
 have HIX:=Zjx _ zs ((N:Int)-1) ((zs.length:Int)-1) _ (hI.below hB1) hm.idx (by omega);have HOF:=zh (Zrf a len c zs N _ (hI.below hB1) hlen hz hc hc2 (hB.below hB1) hm.2.2.2.1 h1 h3 h258);rw [hlen] at HIX;have HIXH:=zh HIX;have hne:(((len:Int)-1) != (len:Int)-1)=false:=by simp
 have hne2:(((len:Int)-1)==(len:Int)-1)=true:=by simp
 clear hB1 hs1 hI hB hm HIX;go_enter Tryz.func102,Tryz.ntmps102;go_wp2_with fail;generalize hw1:w.alloc (.cells #[.slice none 0 0,.slice none 0 0] 154)=w1 at *;clear hw1;refine HIXH.out.mono ?_;rintro e w2 ⟨rfl,rfl⟩;go_wp2_with fail;refine HOF.out.mono ?_;rintro e w3 ⟨vL,vP,rfl,hk,hb3⟩;have hg3:w3.heap[w.heap.size]?=some (.cells #[.slice none 0 0,.slice none 0 0] 154 (0,0)):=(hb3.block _ (by rw [HS1.out];omega)).trans h0;have HB3:=zh (HB1.out.trans (hb3.mono HB1.out.size));obtain⟨⟨aL,cL,rfl,_⟩,⟨aP,cP,rfl,_⟩⟩:=hk w3 (fun _ _ _=>rfl) (Nat.le_refl _);obtain⟨M1,hM1⟩:∃M,(rnd zs N 4).length=M:=⟨_,rfl⟩
 obtain⟨M2,hM2⟩:∃M,(picksM zs (rnd zs N 3) (ng zs.length)).length=M:=⟨_,rfl⟩
 rw [hM1,hM2] at hk ⊢
 have HK:Hid (∀W:World,(∀k,w.heap.size<=k->k<(w3.setRow w.heap.size #[.slice aL M1 cL,.slice aP M2 cP]).heap.size->W.heap[k]?=(w3.setRow w.heap.size #[.slice aL M1 cL,.slice aP M2 cP]).heap[k]?)->(w3.setRow w.heap.size #[.slice aL M1 cL,.slice aP M2 cP]).heap.size<=W.heap.size->IsRR W (.slice aL M1 cL) (rnd zs N 4)/\IsInts W (.slice aP M2 cP) (picksM zs (rnd zs N 3) (ng zs.length))):=zh (fun W hW hs=>hk W (fun k hk hk2=>by
  have h5:=HS1.out;exact(hW k (by omega) (by rw [Zat];exact hk2)).trans (setRow_other w3 w.heap.size k _ (by omega))) (by rw [Zat] at hs;exact hs))
 clear hk hb3 h0 hM1 hM2 HOF HIXH;go_wp2_with (refine wpList_store_row rfl 154 _ _ rfl w.heap.size #[.slice aL M1 cL,.slice aP M2 cP] rfl rfl 154 _ hg3 hi rfl (Zfq _ _ _ _ _ _) ?_);exact bodyPost_ret (v:=.tuple #[.agg #[.slice aL M1 cL,.slice aP M2 cP],.int .i64 0]) (Zjw rfl _ _ ⟨w.heap.size,0,none⟩ _ _ rfl rfl (Zpw _ _ _ _ (setRow_heap _ _ _ _ _ _ hg3))) rfl ⟨_,_,rfl,HK.out,Zal HB3.out (Nat.le_refl _) _⟩
end
section
open Go.RowKit TabM FreqM HufM
theorem ZpA {zs:List Int} {N:Nat} (h3:3<=N) (h258:N<=258) (hz:zs.length<=2000000) (i:Nat) {p:Nat} (hp:p<(rnd zs N (i+1)).length):(rw_ (rnd zs N (i+1)) p).length=N/\WholeP (rw_ (rnd zs N (i+1)) p):=by
 have e:rw_ (rnd zs N (i+1)) p=lensF (counts (took zs (rnd zs N i) p (ng zs.length)) N):=by
  unfold rw_;rw [List.getD_eq_getElem?_getD,List.getElem?_eq_getElem hp];simp only [rnd,roundM,List.getElem_map,List.getElem_range,Option.getD_some]
 rw [e];have h1:=Zcl (Zir (zs:=took zs (rnd zs N i) p (ng zs.length)) h3 h258 (by have:=ZbV zs (rnd zs N i) p (ng zs.length);omega));rw [Zaq] at h1;exact⟨h1.1,h1.2.1,h1.2.2⟩
end
section
open Go.RowKit BitM HufM CanM CodM TabM FreqM
noncomputable def pks (zs:List Int) (N:Nat):List Nat:=(List.range (ng zs.length)).map fun i=>pickM (grp zs i) (rnd zs N 3)
theorem Ziv (zs:List Int) (N:Nat):(pks zs N).length=ng zs.length:=by simp [pks]
theorem Ziw (zs:List Int) (N:Nat):picksM zs (rnd zs N 3) (ng zs.length)=PkM.toI (pks zs N):=by
 unfold picksM PkM.toI pks;rw [List.map_map];rfl
theorem Zhc {zs:List Int} {N:Nat}:∀x∈pks zs N,x<(rnd zs N 4).length:=by
 intro x hx;unfold pks at hx;obtain⟨i,_,rfl⟩:=List.mem_map.1 hx;have h1:=Zc8 (zs.length:Int);have h2:=ZmJ (grp zs i) (rows:=rnd zs N 3) (by rw [ZeQ];omega);rw [ZeQ] at h2 ⊢;exact h2
theorem May14.pk {zs:List Int} {N:Nat} (h:May14 zs (N:Int)) (hz:zs.length<=1000):PkM.May (pks zs N) (rnd zs N 4).length:=by
 have h1:=Zc8 (zs.length:Int);have h2:=h.2.2.1;refine⟨by rw [ZeQ];omega,by rw [ZeQ];omega,?_,?_,Zhc⟩
 ·rw [Ziv];unfold ng;omega
 ·rw [Ziv];unfold ng;omega
theorem May14.whs {zs:List Int} {N:Nat} (h:May14 zs (N:Int)) (hz:zs.length<=1000):Whs N (rnd zs N 4):=by
 intro g hg;obtain⟨p,hp,rfl⟩:=List.getElem_of_mem hg;have:=ZpA (zs:=zs) (N:=N) (by have:=h.1;omega) (by have:=h.2.1;omega) (by omega) 3 hp;unfold rw_ at this;rw [List.getD_eq_getElem?_getD,List.getElem?_eq_getElem hp] at this;exact this
theorem Zti {zs:List Int} {N k:Nat} (hk:k<ng zs.length):(pks zs N).getD k 0<(rnd zs N 4).length:=by
 refine Zhc _ ?_;rw [List.getD_eq_getElem?_getD,List.getElem?_eq_getElem (by rw [Ziv];exact hk)];exact List.getElem_mem _
theorem May14.tbs {zs:List Int} {N:Nat} (h:May14 zs (N:Int)) (hz:zs.length<=1000):Tbs N (rnd zs N 4) (pks zs N) zs.length:=by
 intro n hn;have h1:n / 50<ng zs.length:=by unfold ng;omega
 refine⟨by rw [Ziv];exact h1,?_⟩;have h2:=Zti (N:=N) h1;unfold CodM.tb;rw [List.getD_eq_getElem?_getD (l:=rnd zs N 4),List.getElem?_eq_getElem h2];exact h.whs hz _ (List.getElem_mem h2)
end
section
open Go.RowKit DelM BitM
end
section
open Go.RowKit BitM HufM CanM CodM TabM FreqM
structure ChB (w w2:World) (B:Nat) (vL vP:Value) (gs:List (List Int)) (ps:List Int):Prop where
 bel:Below w.heap.size w w2
 lo:w.heap.size<=B
 box:w2.heap[B]?=some (.cells #[vL,vP] 154 (0,0))
 rows:∀W,Touch (·<w.heap.size) w2 W->IsRR W vL gs/\IsInts W vP ps
theorem ChB.of {w w1:World} {vL vP:Value} {gs:List (List Int)} {ps:List Int} (hb:Below w.heap.size w w1)
  (hk:∀W:World,(∀k,w.heap.size<=k->k<w1.heap.size->W.heap[k]?=w1.heap[k]?)->w1.heap.size<=W.heap.size->IsRR W vL gs/\IsInts W vP ps) :
  ChB w (w1.alloc (.cells #[vL,vP] 154)) w1.heap.size vL vP gs ps:=by
 have hs:(w1.alloc (.cells #[vL,vP] 154)).heap.size=w1.heap.size+1:=by simp
 refine⟨hb.alloc hb.size _,hb.size,heap_alloc_new w1 _,fun W hW=>hk W (fun k h1 h2=>?_) (by have:=hW.size;omega)⟩;rw [hW.block k (by omega) (by omega)];exact Zam h2
theorem ChB.cells {w w2 W:World} {B:Nat} {vL vP:Value} {gs:List (List Int)} {ps:List Int} (h:ChB w w2 B vL vP gs ps) (hW:Touch (·<w.heap.size) w2 W):W.cell? ⟨B,0,none⟩=some vL/\W.cell? ⟨B,1,none⟩=some vP/\W.heap[B]?=some (.cells #[vL,vP] 154 (0,0)):=by
 have h1:=h.lo;have hg:W.heap[B]?=some (.cells #[vL,vP] 154 (0,0)):=(hW.block B (Array.getElem?_eq_some_iff.1 h.box).1 (by omega)).trans h.box;refine⟨?_,?_,hg⟩
 ·rw [cell_of_row _ _ _ _ _ _ hg];rfl
 ·rw [cell_of_row _ _ _ _ _ _ hg];rfl
end
section
open Go.RowKit PkM BitM
def WroteB (w:World) (g:Nat) (v:Value) (tk:Nat) (q:List Bool) (B:Nat) (w':World):Prop:=
 ∃v1,IsWriter w' g v1 q tk/\Touch (foot g v) w w'/\(∀k,v1.ownBlock=some k->v.ownBlock=some k\/w.heap.size<=k)/\v1.ownBlock≠some B/\g≠B/\B<w'.heap.size/\w.heap.size<=B
theorem WroteB.put {w w':World} {g:Nat} {v:Value} {tk:Nat} {q:List Bool} {B:Nat} (h:WroteB w g v tk q B w') (X n:Nat) (hn:n<=32) (hX:X<2^n) (hq:q.length<=1099511627776) :
  Calls Tryz.prog 35 #[.pointer (some ⟨g,0,none⟩),.int .u32 (X:Int),.int .i64 (n:Int)] w' fun e w2=>e=.returned (.int .i64 0)/\WroteB w g v tk (q++field X n) B w2/\Touch (fun k=>k≠B) w' w2:=by
 obtain⟨v1,h1,h2,h3,h4,h5,h6,h7⟩:=h;refine(Zgv g v1 q tk X n w' h1 hn hX hq).mono ?_;rintro e w2 ⟨rfl,v2,k1,k2,k3⟩;refine⟨rfl,⟨v2,k1,h2.trans k2 (fun j hj=>?_),fun k hk=>?_,fun hb=>?_,h5,Nat.lt_of_lt_of_le h6 k2.size,h7⟩,k2.mono (fun k hk=>?_)⟩
 ·rcases hj with hj|hj
  ·exact Or.inl (Or.inl hj)
  ·rcases h3 j hj with h|h
   ·exact Or.inl (Or.inr h)
   ·exact Or.inr h
 ·rcases k3 k hk with h|h
  ·exact h3 k h
  ·exact Or.inr (Nat.le_trans h2.size h)
 ·rcases k3 B hb with h|h
  ·exact h4 h
  ·omega
 ·rcases hk with rfl|hk
  ·exact h5
  ·rintro rfl;exact h4 hk
theorem WroteB.box {w w' w2:World} {g:Nat} {v:Value} {tk:Nat} {q:List Bool} {B:Nat} (h:WroteB w g v tk q B w') (ht:Touch (·=B) w' w2):WroteB w g v tk q B w2:=by
 obtain⟨v1,h1,h2,h3,h4,h5,h6,h7⟩:=h;refine⟨v1,h1.other ht (fun k hk hh=>?_),h2.trans ht (fun i hi=>Or.inr (by have:i=B:=hi;omega)),h3,h4,h5,Nat.lt_of_lt_of_le h6 ht.size,h7⟩;have hh:k=B:=hh;subst hh;rcases hk with h|h
 ·exact h5 h.symm
 ·exact h4 h
theorem WroteB.out {w w':World} {g:Nat} {v:Value} {tk:Nat} {q:List Bool} {B:Nat} (h:WroteB w g v tk q B w'):Wrote w g v tk q w':=by
 obtain⟨v1,h1,h2,h3,_⟩:=h;exact⟨v1,h1,h2,h3⟩
theorem Wrote.beside {w w' w2:World} {g:Nat} {v:Value} {tk:Nat} {q:List Bool} (h:Wrote w g v tk q w') (hb:Below w'.heap.size w' w2) (B:Nat) (hB:w'.heap.size<=B) (hB2:B<w2.heap.size) (hg:∀k,foot g v k->k<w.heap.size):WroteB w g v tk q B w2:=by
 obtain⟨v1,h1,h2,h3⟩:=h;have hs:=h2.size;have hlt:=fun k hk=>(h1.lt k hk).1
 have hg2:=hg g (Or.inl rfl);refine⟨v1,h1.other (Touch.ofBelow (S:=fun _=>False) hb) (fun _ _ h=>h),h2.trans (Touch.ofBelow (S:=fun _=>False) hb) (fun _ hi=>absurd hi id),h3,fun hh=>?_,by omega,hB2,by omega⟩;have:=hlt B (Or.inr hh);omega
theorem ZnH (g:Nat) (v l:Value) (ps:List Nat) (t:Nat) (q:List Bool) (tk:Nat) (w:World) (hw:IsWriter w g v q tk) (hst:∀w',Touch (foot g v) w w'->IsInts w' l (toI ps)) (hm:May ps t) (hq:q.length<=1099511000000) :
  Calls Tryz.prog 103 #[.pointer (some ⟨g,0,none⟩),l,.int .i64 (t:Int)] w fun e w'=>e=.returned (.int .i64 0)/\Wrote w g v tk (q++allB ps t) w':=by
 have hv:=hst w (Touch.refl _ _);have HV:=zh hv;have HST:=zh hst;have HM:=zh hm;have HW0:=zh hw;have HS:=zh (Wrote.start hw);have hlz:=toI_length ps;have HMAY:=zh (Zrg l (toI ps) (t:Int) true w hv ⟨fun _=>hm.int,fun _=>rfl⟩ (by have:=hm.2.2.2.1;omega));have hn1:=hm.2.2.1;have hn2:=hm.2.2.2.1;have ht2:=hm.1;have ht6:=hm.2.1;obtain⟨ad,cap,rfl,_⟩:=hv;obtain⟨N,hN⟩:∃N,ps.length=N:=⟨_,rfl⟩
 have HALL:Hid (allB ps t=field t 3++field N 15++encK ps N):=zh (by unfold allB;rw [hN,encK_all ps N (by omega)]);rw [hlz] at HMAY HST ⊢;rw [hN] at hn1 hn2 hlz HMAY HST ⊢;have HZ:=zh hlz;have HN:=zh hN;have HP1:=zh (fun W (hh:Wrote w g v tk q W)=>hh.put t 3 (by omega) (show t<8 by omega) (by omega));have HP2:=zh (fun W (hh:Wrote w g v tk (q++field t 3) W)=>hh.put N 15 (by omega) (show N<32768 by omega) (by rw [List.length_append,Zaa];omega));have hc1:IntKind.u32.wrap (t:Int)=(t:Int):=by simp [IntKind.wrap,IntKind.bits,IntKind.signed];omega
 have hc2:IntKind.u32.wrap (N:Int)=(N:Int):=by simp [IntKind.wrap,IntKind.bits,IntKind.signed];omega
 clear hst hm hw hlz hN;go_enter Tryz.func103,Tryz.ntmps103;go_wp2_with fail;refine HMAY.out.mono ?_;rintro e w' ⟨rfl,rfl⟩;go_wp2_with fail;refine(HP1.out _ HS.out).mono ?_;rintro e w1 ⟨rfl,hW1⟩;have HW1:=zh hW1;clear hW1 HP1;go_wp2_with fail;refine(HP2.out _ HW1.out).mono ?_;rintro e w2 ⟨rfl,hW2⟩;have HW2:=zh hW2;clear hW2 HP2 HW1;go_wp2_with fail;refine(ZlT w2).mono ?_;rintro e w3 ⟨rfl,hb3⟩;have hg1:=heap_alloc_new w3 (.cells #[.int .i64 0,.int .i64 0,.int .i64 0,.int .i64 0,.int .i64 0,.int .i64 0] 206);have HBX:Hid (LstAt 6 206 (boxed w3) w3.heap.size 0 (ordF O6) O6):=zh (ZkR w3);have HWB:Hid (WroteB w' g v tk (q++field t 3++field N 15) w3.heap.size (boxed w3)):=zh (HW2.out.beside (hb3.trans ((ZlU w3).mono hb3.size)) _ hb3.size (ZkR w3).1.lt (fun k hk=>(HW0.out.lt k hk).1));clear hb3;go_wp2_with (refine wpList_store_row rfl 206 _ _ rfl w3.heap.size (ordA O6) rfl rfl 206 _ hg1 Zpz Zrj (ZmT O6) ?_);change Code.wp _ _ _ _ (boxed w3);obtain⟨B,hB⟩:∃B,w3.heap.size=B:=⟨_,rfl⟩
 rw [hB] at HBX HWB;simp only [hB];clear hg1 hB;generalize boxed w3=w4 at *;obtain⟨Q0,hQ0⟩:∃Q0,q++field t 3++field N 15=Q0:=⟨_,rfl⟩
 have HQ0:=zh hQ0;have hQ0l:Q0.length<=1099511100000:=by rw [<-hQ0,List.length_append,List.length_append,Zaa,Zaa];omega
 rw [hQ0] at HWB;clear hQ0
 go_loopw [28] (fun vk wr=>∃k:Nat,vk=.int .i64 (k:Int)/\k<=N/\WroteB w' g v tk (Q0++encK ps k) B wr/\∃F,LstAt 6 206 wr B 0 F (ordK ps k)) (fun vk _=>N-(intOf vk).toNat)
 case atStart=>exact⟨0,rfl,by omega,by rw [show encK ps 0=[] from rfl,List.append_nil];exact HWB.out,_,HBX.out⟩
 case round=>
  clear HBX HWB;obtain⟨k,rfl,hk,hW,F,hL⟩:=hrel;have HW:=zh hW;have HL:=zh hL;clear hW hL;have hkl:=encK_len ps HM.out.2.1 HM.out.2.2.2.2 k (by rw [HN.out];exact hk);by_cases hlk:k<N
  ·have hki:(k:Int)<(N:Int):=by omega
   have hkp:k<ps.length:=by rw [HN.out];exact hlk
   have HVk:=zh (HST.out wr HW.out.out.touch);obtain⟨b1,o1,k1,he1,c1⟩:=HVk.out.cell (k:=k) (by rw [HZ.out];exact hlk);rw [HZ.out] at he1;simp only [Value.slice.injEq] at he1;obtain⟨rfl,_,rfl⟩:=he1;rw [toI_getD] at c1
   have hpm:ps.getD k 0<t:=by
    rw [List.getD_eq_getElem?_getD,List.getElem?_eq_getElem hkp];exact HM.out.2.2.2.2 _ (List.getElem_mem _)
   have hO:=ZeP ps HM.out.2.1 HM.out.2.2.2.2 k (by omega);have hpo:ps.getD k 0∈ordK ps k:=List.mem_of_mem_take ((hO.1.2 _).1 hpm);have hIl:=(hO.1.place HM.out.2.1 hpm).1;have HEN:=zh (ZtI ps hkp);have HON:=zh (Zex ps hkp);have HPL:=zh (ZnE 6 206 B 0 (ps.getD k 0) F (ordK ps k) wr HL.out hpo);obtain⟨I,hI⟩:∃I,(ordK ps k).idxOf (ps.getD k 0)=I:=⟨_,rfl⟩
   rw [hI] at HEN HON HPL hIl;obtain⟨x,hx⟩:∃x,ps.getD k 0=x:=⟨_,rfl⟩
   rw [hx] at c1 HPL;obtain⟨Q,hQ⟩:∃Q,Q0++encK ps k=Q:=⟨_,rfl⟩
   have HQ:=zh hQ;have hQl:Q.length<=1099511400000:=by rw [<-hQ,List.length_append];omega
   rw [hQ] at HW;clear hpm hO hpo hI hx HVk hkp hQ hkl;go_wp2_with fail;refine HPL.out.mono ?_;rintro e w5 ⟨rfl,⟨F2,hL2,_⟩,hT2⟩;have HL2:=zh hL2;have HW5:=zh (HW.out.box hT2);clear hL2 hT2 HW HL HPL;go_wp2_with fail;obtain⟨wa,rfl⟩:∃wa:World,wa=wr:=⟨_,rfl⟩
   go_loopw [34] (fun vj wr2=>∃j:Nat,j<=I/\vj=.int .i64 (j:Int)/\WroteB w' g v tk (Q++List.replicate j true) B wr2/\LstAt 6 206 wr2 B 0 F2 (tch (ordK ps k) I)) (fun vj _=>I-(intOf vj).toNat)
   case atStart=>exact⟨0,by omega,rfl,by rw [List.replicate_zero,List.append_nil];exact HW5.out,HL2.out⟩
   case round=>
    clear HW5 HL2;obtain⟨j,hj,rfl,hWj,hLj⟩:=hrel;have HWj:=zh hWj;have HLj:=zh hLj;clear hWj hLj;have hl2:(Q++List.replicate j true).length<=1099511627776:=by rw [List.length_append,List.length_replicate];omega
    by_cases hlt:j<I
    ·have hlti:(j:Int)<(I:Int):=by omega
     have HPP:=zh (HWj.out.put 1 1 (by omega) (by decide) hl2);clear hl2;go_wp2_with fail;refine HPP.out.mono ?_;rintro e w6 ⟨rfl,hW6,hT6⟩;have HW6:Hid (WroteB w' g v tk (Q++List.replicate (j+1) true) B w6):=zh (by rw [List.replicate_succ',<-List.append_assoc];exact hW6);have HL6:Hid (LstAt 6 206 w6 B 0 F2 (tch (ordK ps k) I)):=zh ⟨HLj.out.1.other hT6 (fun h=>h rfl),HLj.out.2⟩;clear hW6 hT6;go_wp2_with fail;go_roundw
     case rel=>exact⟨j+1,by omega,by go_num,HW6.out,HL6.out⟩
     case measure=>simp [intOf];omega
    ·have hlti:¬(j:Int)<(I:Int):=by omega
     obtain rfl:j=I:=by omega
     have HPP:=zh (HWj.out.put 0 1 (by omega) (by decide) hl2);clear hl2;go_wp2_with fail;refine HPP.out.mono ?_;rintro e w6 ⟨rfl,hW6,hT6⟩;have HW6:Hid (WroteB w' g v tk (Q0++encK ps (k+1)) B w6):=zh (by rw [HEN.out,<-List.append_assoc,HQ.out,<-List.append_assoc];exact hW6);have HL6:Hid (LstAt 6 206 w6 B 0 F2 (ordK ps (k+1))):=zh (by rw [HON.out];exact⟨HLj.out.1.other hT6 (fun h=>h rfl),HLj.out.2⟩);clear hW6 hT6;go_wp2_with fail;go_roundw
     case rel=>exact⟨k+1,by go_num,by omega,HW6.out,F2,HL6.out⟩
     case measure=>simp [intOf];omega
  ·have hki:¬(k:Int)<(N:Int):=by omega
   obtain rfl:k=N:=by omega
   go_wp2_with fail;go_ret;exact⟨rfl,by rw [HALL.out,<-List.append_assoc,<-List.append_assoc,HQ0.out];exact HW.out.out⟩
end
section
open Go.RowKit BitM HufM CanM CodM PkM
end
section
open Go.RowKit BitM HufM CanM CodM
theorem ZbL {α:Type} (l:List α) (x d:α) {i:Nat} (h:i<l.length):(l++[x]).getD i d=l.getD i d:=by
 rw [List.getD_eq_getElem?_getD,List.getElem?_append_left h,List.getD_eq_getElem?_getD]
theorem ZbM {α:Type} (l:List α) (x d:α) {i:Nat} (h:i=l.length):(l++[x]).getD i d=x:=by
 subst h;rw [List.getD_eq_getElem?_getD,List.getElem?_append_right (Nat.le_refl _),Nat.sub_self];rfl
theorem ZkT {W w':World} {Pb:Nat->Prop} {cu v':Value} {bs:List Nat} {base cb:Nat} {gs:List (List Int)} {ls:List Int} (hown:OwnP w' base v' (bs++[cb])) (hlen:bs.length=gs.length) (hb:base<=w'.heap.size) (hsz:W.heap.size<=w'.heap.size)
  (hfr:∀k,v'.ownBlock=some k->cu.ownBlock=some k\/W.heap.size<=k) (hcs:∀i,i<gs.length->IsCode w' (bs.getD i 0) (gs.getD i [])/\Pb (bs.getD i 0)/\cu.ownBlock≠some (bs.getD i 0)/\bs.getD i 0<W.heap.size)
  (hc:IsCode w' cb ls) (hcb:cb<W.heap.size) (hcb2:cu.ownBlock≠some cb):Codes w' (fun k=>Pb k\/k=cb\/v'.ownBlock=some k) v' (gs++[ls]):=by
 refine⟨bs++[cb],base,hown,by rw [List.length_append,List.length_append,hlen];rfl,hb,fun k hk=>Or.inr (Or.inr hk),fun i hi=>?_⟩;rw [List.length_append] at hi;have hi2:i<gs.length+1:=hi;by_cases h:i<gs.length
 ·rw [ZbL bs cb 0 (by omega),ZbL gs ls [] h];obtain⟨a1,a2,a3,a4⟩:=hcs i h;refine⟨a1,Or.inl a2,fun e=>?_,Nat.lt_of_lt_of_le a4 hsz⟩;rcases hfr _ e with e2|e2
  ·exact a3 e2
  ·omega
 ·rw [ZbM bs cb 0 (by omega),ZbM gs ls [] (by omega)];refine⟨hc,Or.inr (Or.inl rfl),fun e=>?_,Nat.lt_of_lt_of_le hcb hsz⟩;rcases hfr _ e with e2|e2
  ·exact hcb2 e2
  ·omega
end
section
open Go.RowKit BitM HufM CanM CodM TabM FreqM
theorem ZhN {w:World} {b i:Nat} {old:Array Value} {t:TypeId} {fr:Nat×Nat} (h:w.heap[b]?=some (.cells old t fr)):(w.setRow b #[]).cell? ⟨b,i,none⟩=none:=by
 rw [cell_of_row _ _ _ _ _ _ (setRow_heap _ _ _ _ _ _ h)];rfl
theorem Zhd {w:World} {b i:Nat} {x:Value} (h:w.cell? ⟨b,i,none⟩=some x):∃cs t fr,w.heap[b]?=some (.cells cs t fr):=by
 unfold World.cell? at h;split at h
 ·rename_i c t fr he;exact⟨c,t,fr,he⟩
 ·cases h
theorem ZhO {w:World} {A b:Nat} (hb:b<A):Touch (·<A) w (w.setRow b #[]):=
 ⟨rfl,rfl,rfl,by rw [Zat];exact Nat.le_refl _,fun k _ hk=>setRow_other w b k #[] (fun e=>hk (by rw [e];exact hb))⟩
theorem ChB.row {w w2:World} {B:Nat} {vL vP:Value} {gs:List (List Int)} {ps:List Int} (h:ChB w w2 B vL vP gs ps) {k:Nat} (hk:k<gs.length) (hne:1<=(rw_ gs k).length) :
  ∃b off cap u,vL=.slice (some ⟨b,off,none⟩) gs.length cap/\∀W,Touch (·<w.heap.size) w2 W->W.cell? ⟨b,off+k,none⟩=some u/\IsInts W u (rw_ gs k):=by
 obtain⟨b,off,cap,u,hv,d,hI⟩:=(h.rows w2 (Touch.refl _ _)).1.at_ hk
 have hb:¬b<w.heap.size:=fun hlt=>by
  obtain⟨cs,t,fr,hg⟩:=Zhd d;obtain⟨b',off',cap',u',hv',d',_⟩:=(h.rows _ (ZhO (w:=w2) hlt)).1.at_ hk;rw [hv] at hv';simp only [Value.slice.injEq,Option.some.injEq,Addr.mk.injEq] at hv';obtain⟨⟨rfl,rfl,_⟩,_,rfl⟩:=hv';rw [ZhN hg] at d';cases d'
 have hcell:∀W,Touch (·<w.heap.size) w2 W->W.cell? ⟨b,off+k,none⟩=some u:=fun W hW=>by
  rw [World.cell?_of_block (w:=w2) (a:=⟨b,off+k,none⟩) (hW.block b (ZaE d) hb)];exact d
 refine⟨b,off,cap,u,hv,fun W hW=>⟨hcell W hW,hI.other hW (fun j hj hlt=>?_)⟩⟩;obtain⟨au,cu,rfl,hc⟩:=hI;obtain⟨x,hx⟩:∃x,(rw_ gs k)[0]?=some x:=⟨_,List.getElem?_eq_getElem hne⟩
 obtain⟨bu,ou,rfl,hcu⟩:=hc 0 x hx;have hju:j=bu:=(Option.some.inj hj).symm;subst hju;obtain⟨cs,t,fr,hg⟩:=Zhd hcu;have hlt2:j<w.heap.size:=hlt;have hT:=ZhO (w:=w2) hlt2;obtain⟨b',off',cap',u',hv',d',hI'⟩:=(h.rows _ hT).1.at_ hk;rw [hv] at hv';simp only [Value.slice.injEq,Option.some.injEq,Addr.mk.injEq] at hv';obtain⟨⟨rfl,rfl,_⟩,_,rfl⟩:=hv';have d2:=hcell _ hT;rw [d'] at d2;obtain rfl:=Option.some.inj d2;obtain⟨a2,c2,e2,hc2⟩:=hI';simp only [Value.slice.injEq] at e2;obtain⟨rfl,_,rfl⟩:=e2;obtain⟨b3,o3,e3,h3⟩:=hc2 0 x hx;simp only [Option.some.injEq,Addr.mk.injEq] at e3;obtain⟨rfl,rfl,_⟩:=e3;rw [ZhN hg] at h3;cases h3
def Lp1 (w2 wr:World) (g:Nat) (v:Value) (tk:Nat) (q:List Bool) (cu:Value) (gs:List (List Int)):Prop:=
 ∃v1 Pb,IsWriter wr g v1 q tk/\Touch (foot g v) w2 wr/\(∀j,v1.ownBlock=some j->v.ownBlock=some j\/w2.heap.size<=j)/\Codes wr Pb cu gs/\∀j,Pb j->w2.heap.size<=j/\j<wr.heap.size/\¬foot g v1 j
theorem ZnI (g:Nat) (v:Value) (q0:List Bool) (tk:Nat) (a:Option Addr) (len c:Nat) (zs:List Int) (N:Nat) (w:World) (hw:IsWriter w g v q0 tk) (hI:IsInts w (.slice a len c) zs) (hlen:zs.length=len) (hz:len<=1000) (hc:len<=c) (hc2:c<=9223372036854775807) (hB:Bnds w) (hm:May14 zs (N:Int))
  (hrow:∀k,(Value.slice a len c).ownBlock=some k->¬foot g v k) (hq:q0.length<=1000000) :
  Calls Tryz.prog 66 #[.pointer (some ⟨g,0,none⟩),.slice a len c,.int .i64 (N:Int)] w fun e w'=>e=.returned (.int .i64 0)/\Wrote w g v tk (q0++allC (rnd zs N 4) (pks zs N) zs) w':=by
 have HC:=zh (ZnG a len c zs N w hI hlen hz hc hc2 hB hm);have hi:=ZkS;have h3:3<=N:=by have:=hm.1;omega
 have h258:N<=258:=by have:=hm.2.1;omega
 have hz2:zs.length<=1000:=by omega
 have HPK:=zh (hm.pk hz2);have HWH:=zh (hm.whs hz2);have HTB:=zh (hm.tbs hz2);have HSY:Hid (Syms zs (N:Int)):=zh hm.2.2.2.1;have hT6:(rnd zs N 4).length<=6:=HPK.out.2.1;have hpl:(pks zs N).length<=32767:=HPK.out.2.2.2.1
 have hpb:(PkM.allB (pks zs N) (rnd zs N 4).length).length<=200000:=by
  rw [PkM.allB_length,<-PkM.encK_all _ _ (Nat.le_refl _)];have:=PkM.encK_len (pks zs N) hT6 (fun x hx=>Zhc x hx) _ (Nat.le_refl _);omega
 rw [Ziw] at HC;have HI:=zh hI;have HLEN:=zh hlen;have HROW:=zh hrow;have HW:=zh hw;clear hI hB hm hrow hw;generalize rnd zs N 4=gs at *;generalize hps:pks zs N=ps at *;clear hps
 have HSL:Hid (∀i,i<=len->(symB gs ps zs i).length<=20000):=zh (fun i hi=>by
  have:=(ZeR HTB.out (zs.take i) 0 (fun x hx=>HSY.out x (List.mem_of_mem_take hx)) (by rw [List.length_take];omega)).2;rw [List.length_take] at this;unfold symB;omega)
 have HGB:Hid (∀k,(gsB (gs.take k)).length<=60600/\(k<gs.length->gsB (gs.take (k+1))=gsB (gs.take k)++DelM.allB (rw_ gs k)/\DelM.May (rw_ gs k)/\(rw_ gs k).length=N/\WholeP (rw_ gs k)/\gs.take (k+1)=gs.take k++[rw_ gs k])):=zh (fun k=>⟨by
  have:=ZfD h3 h258 (gs.take k) (fun g hg=>HWH.out g (List.mem_of_mem_take hg));rw [List.length_take] at this
  omega,fun hk=>by
   have hmem:rw_ gs k∈gs:=by unfold rw_;rw [List.getD_eq_getElem?_getD,List.getElem?_eq_getElem hk];exact List.getElem_mem hk
   obtain⟨k1,k2⟩:=HWH.out _ hmem;refine⟨Zha gs hk,⟨by omega,by omega,k2.1⟩,k1,k2,?_⟩;rw [List.take_succ_eq_append_getElem hk];unfold rw_;rw [List.getD_eq_getElem?_getD,List.getElem?_eq_getElem hk];rfl⟩)
 go_enter Tryz.func66,Tryz.ntmps66;go_wp2_with fail;refine HC.out.mono ?_;rintro e w1 ⟨vL,vP,rfl,hk,hb⟩;have HCB:=zh (ChB.of hb hk);obtain⟨⟨aL,cL,rfl,_⟩,⟨aP,cP,rfl,_⟩⟩:=hk w1 (fun _ _ _=>rfl) (Nat.le_refl _);obtain⟨T,hT⟩:∃T,gs.length=T:=⟨_,rfl⟩
 obtain⟨M,hM⟩:∃M,(PkM.toI ps).length=M:=⟨_,rfl⟩
 have HT:=zh hT;have HM:=zh hM;rw [hT,hM] at HCB;rw [hT] at hT6 hpb;clear hk hb;obtain⟨B,hBB⟩:∃B,w1.heap.size=B:=⟨_,rfl⟩
 rw [hBB] at HCB;have CCH:=zh (fun W (hW:Touch (·<w.heap.size) _ W)=>HCB.out.cells hW);rw [hT,hM];have hsz2:(w1.alloc (.cells #[.slice aL T cL,.slice aP M cP] 154)).heap.size=B+1:=by simp [hBB]
 have HSZ2:=zh hsz2;have HW2:=zh (HW.out.other (S:=fun _=>False) (Touch.ofBelow HCB.out.bel) (fun _ _ h=>h));have HFT:Hid (∀k,foot g v k->k<w.heap.size):=zh (fun k hk=>(HW.out.lt k hk).1);have HPB:=zh (ZnH g v (.slice aP M cP) ps T q0 tk (w1.alloc (.cells #[.slice aL T cL,.slice aP M cP] 154)) HW2.out (fun W hW=>(HCB.out.rows W (hW.mono HFT.out)).2) (by rw [<-HT.out];exact HPK.out) (by omega));clear hsz2 HC;go_wp2_with fail;refine HPB.out.mono ?_;rintro e w3 ⟨rfl,hw3⟩;have HW3:=zh hw3;generalize w1.alloc (.cells #[.slice aL T cL,.slice aP M cP] 154)=w2 at *;clear HPB;have hT3:Touch (·<w.heap.size) w2 w3:=hw3.touch.mono HFT.out;obtain⟨c0,c1,_⟩:=CCH.out w3 hT3;clear hw3 hT3 hM;obtain⟨q1,hq1⟩:∃q1,q0++PkM.allB ps T=q1:=⟨_,rfl⟩
 have HQ1:=zh hq1;have hq1l:q1.length<=1200000:=by rw [<-hq1,List.length_append];omega
 rw [hq1] at HW3;clear hq1;go_wp2_with fail
 go_loopw [9,37] (fun vc vk wr=>∃(k:Nat),vk=.int .i64 (k:Int)/\k<=T/\Lp1 w2 wr g v tk (q1++gsB (gs.take k)) vc (gs.take k)) (fun _ vk _=>T-(intOf vk).toNat)
 case atStart=>
  obtain⟨v1,k1,k2,k3⟩:=HW3.out;exact⟨0,rfl,by omega,v1,fun _=>False,by simpa [gsB] using k1,k2,k3,Codes.nil _ _,fun _ h=>absurd h id⟩
 case round=>
  clear c0 c1;obtain⟨k,rfl,hk,v1,Pb,hW,hTw,hown,hcs,hPb⟩:=hrel;obtain⟨hg1,hg2⟩:=HGB.out k;by_cases hkT:k<T
  ·have hki:(k:Int)<(T:Int):=by omega
   obtain⟨hg3,hmay,hN,hwp,htk⟩:=hg2 (by rw [hT];exact hkT);obtain⟨b2,o2,cap2,u,he2,hrows⟩:=HCB.out.row (k:=k) (by rw [hT];exact hkT) (by omega);rw [hT] at he2;simp only [Value.slice.injEq] at he2;obtain⟨rfl,he2b,rfl⟩:=he2
   have hTF:∀W,Touch (foot g v1) wr W->Touch (·<w.heap.size) w2 W:=fun W hWW=>(hTw.mono HFT.out).trans hWW (fun j hj=>by
    rcases hj with rfl|hj
    ·exact Or.inl (HFT.out _ (Or.inl rfl))
    ·rcases hown j hj with h|h
     ·exact Or.inl (HFT.out _ (Or.inr h))
     ·exact Or.inr h)
   have d2:=(hrows wr (hTF wr (Touch.refl _ _))).1;have HDW:=zh (ZnF g v1 u (rw_ gs k) _ tk wr hW (fun W hWW=>(hrows W (hTF W hWW)).2) hmay (by rw [List.length_append];omega));have HTF:=zh hTF;have HRS:=zh hrows;have HOWN:=zh hown;have HCS:=zh hcs;have HPBB:=zh hPb;have HTW:=zh hTw;have HG3:=zh hg3;have HTK:=zh htk;have HWP:=zh hwp;clear hW hTw hown hcs hPb hg2 he2b hTF hrows hg3 htk hmay hwp;go_wp2_with fail;refine HDW.out.mono ?_;rintro e w4 ⟨rfl,v2,hW4,hT4,hO4⟩;have HNW:=zh (Zsb u (rw_ gs k) w4 (HRS.out w4 (HTF.out w4 hT4)).2 (by omega) (by omega) HWP.out);have HW4:=zh hW4;have HT4:=zh hT4;have HO4:=zh hO4;clear hW4 hT4 hO4 HDW;go_wp2_with fail;refine HNW.out.mono ?_;rintro e w5 ⟨rfl,hcode,hb5⟩;have hT5:Touch (fun _=>False) w4 w5:=Touch.ofBelow hb5;have HT5:=zh hT5;obtain⟨bs,base,p1,p2,p3,p4,p5⟩:=(HCS.out.other HT4.out (fun j hj=>(HPBB.out j hj).2.2)).other hT5 (fun _ _ h=>h);have P1:=zh p1;have P2:=zh p2;have P3:=zh p3;have P4:=zh p4;have P5:=zh p5;obtain⟨aC,cC,eC⟩:=p1.slice;subst eC;obtain⟨cb,hcb⟩:∃cb,w4.heap.size=cb:=⟨_,rfl⟩
   have HCBB:=zh hcb;rw [hcb] at hcode ⊢;have HCODE:=zh hcode;have hcl:Hid (cb<w5.heap.size):=zh (by obtain⟨F9,h9,_⟩:=HCODE.out;exact(Array.getElem?_eq_some_iff.1 h9).1);have hcw:Hid (wr.heap.size<=cb):=zh (by have:=HT4.out.size;omega);have hbs6:bs.length+1<=1000000:=by rw [p2,List.length_take];omega
   clear hT5 hb5 p1 p2 p3 p4 p5 hcb hcode HNW;go_wp2_with (at_builtin;refine Zsx w5 rfl _ _ rfl base _ bs cb P1.out rfl rfl hbs6 P3.out ?_);intro v6 w6 hO6 hB6 hsame hfr
   have HLP:Hid (Lp1 w2 w6 g v tk (q1++gsB (gs.take (k+1))) v6 (gs.take (k+1))):=zh (by
    have hT6:Touch (fun j=>(Value.slice aC bs.length cC).ownBlock=some j) w5 w6:=⟨hB6.os,hB6.tape,hB6.output,hB6.size,fun j hj hn=>hsame j hj hn⟩
    have hs6:=hT6.size;have hs5:=HT5.out.size;have hs4:=HT4.out.size;have hs2:=HTW.out.size;have h1:=hcl.out;have h2:=hcw.out;have h0:=HCBB.out
    have hv2:∀j,foot g v2 j->¬Pb j:=fun j hj hp=>by
     obtain⟨a1,a2,a3⟩:=HPBB.out j hp;rcases hj with rfl|hj
     ·exact a3 (Or.inl rfl)
     ·rcases HO4.out j hj with h|h
      ·exact a3 (Or.inr h)
      ·omega
    have hnc:(Value.slice aC bs.length cC).ownBlock≠some cb:=fun e=>by have:=(HPBB.out cb (P4.out cb e)).2.1;omega
    refine⟨v2,fun j=>Pb j\/j=cb\/v6.ownBlock=some j,?_,?_,fun j hj=>?_,?_,fun j hj=>?_⟩
    ·rw [HG3.out,<-List.append_assoc];exact(HW4.out.other HT5.out (fun _ _ h=>h)).other hT6 (fun j hj e=>hv2 j hj (P4.out j e))
    ·refine((HTW.out.trans HT4.out (fun j hj=>?_)).trans HT5.out (fun j hj=>absurd hj id)).trans hT6 (fun j hj=>Or.inr (HPBB.out j (P4.out j hj)).1);rcases hj with rfl|hj
     ·exact Or.inl (Or.inl rfl)
     ·exact(HOWN.out j hj).imp Or.inr id
    ·rcases HO4.out j hj with h|h
     ·exact HOWN.out j h
     ·exact Or.inr (by omega)
    ·rw [HTK.out]
     exact ZkT (W:=w5) hO6 P2.out (Nat.le_trans P3.out hs6) hs6 hfr (fun i hi=>by
      obtain⟨a1,a2,a3,a4⟩:=P5.out i hi;exact⟨a1.other hT6 a3,a2,a3,a4⟩) (HCODE.out.other hT6 hnc) h1 hnc
    ·have hlt:∀j,foot g v2 j->j<cb:=fun j hj=>by have:=(HW4.out.lt j hj).1;omega
     rcases hj with hj|rfl|hj
     ·obtain⟨a1,a2,a3⟩:=HPBB.out j hj;exact⟨a1,by omega,fun e=>hv2 j e hj⟩
     ·exact⟨by omega,by omega,fun e=>by have:=hlt _ e;omega⟩
     ·rcases hfr j hj with e|e
      ·obtain⟨a1,a2,a3⟩:=HPBB.out j (P4.out j e);exact⟨a1,by omega,fun e2=>hv2 j e2 (P4.out j e)⟩
      ·exact⟨by omega,(hO6.lt j hj).2,fun e2=>by have:=hlt j e2;omega⟩)
   clear hO6 hB6 hsame hfr;go_wp2_with fail;go_roundw
   case rel=>exact⟨k+1,by go_num,by omega,HLP.out⟩
   case measure=>simp [intOf];omega
  ·obtain rfl:k=T:=by omega
   have hki:¬(k:Int)<(k:Int):=by omega
   have htk:gs.take k=gs:=by rw [<-hT,List.take_length]
   rw [htk] at hW hcs hg1;have HW5:=zh hW;have HT5:=zh hTw;have HO5:=zh hown;have HCS:=zh hcs;have HPBB:=zh hPb;clear hW hTw hown hcs hPb hg2 htk;obtain⟨q2,hq2⟩:∃q2,q1++gsB gs=q2:=⟨_,rfl⟩
   have HQ2:=zh hq2;have hq2l:q2.length<=1300000:=by rw [<-hq2,List.length_append];omega
   rw [hq2] at HW5;clear hq2;obtain⟨w5,rfl⟩:∃wz:World,wz=wr:=⟨_,rfl⟩
   have HTA:Hid (∀W,Touch (foot g v1) w5 W->Touch (foot g v) w2 W):=zh (fun W hWW=>HT5.out.trans hWW (fun j hj=>by
    rcases hj with rfl|hj
    ·exact Or.inl (Or.inl rfl)
    ·exact(HO5.out j hj).imp Or.inr id))
   have HZS:Hid (∀W,Touch (foot g v1) w5 W->IsInts W (.slice a len c) zs):=zh (fun W hWW=>((HI.out.below HCB.out.bel).other (HTA.out W hWW) HROW.out));go_wp2_with fail
   go_loopw [56] (fun vk wr=>∃(i:Nat),vk=.int .i64 (i:Int)/\i<=len/\Wrote w5 g v1 tk (q2++symB gs ps zs i) wr) (fun vk _=>len-(intOf vk).toNat)
   case atStart=>exact⟨0,rfl,by omega,by simpa [symB,symT] using Wrote.start HW5.out⟩
   case round=>
    obtain⟨i,rfl,hil,hwr⟩:=hrel;have hTr:=hwr.touch;by_cases hilt:i<len
    ·have hii:(i:Int)<(len:Int):=by omega
     obtain⟨b1,o1,k1,he1,d1⟩:=(HZS.out wr hTr).cell (show i<zs.length by rw [HLEN.out];exact hilt);rw [HLEN.out] at he1;simp only [Value.slice.injEq] at he1;obtain⟨rfl,he1b,rfl⟩:=he1;have hsy:=HSY.out _ (FreqM.getD_mem zs i (by rw [HLEN.out];exact hilt));have hiH:Hid (i<zs.length):=zh (by rw [HLEN.out];exact hilt);obtain⟨z,hz⟩:∃z:Nat,zs.getD i 0=(z:Int):=⟨(zs.getD i 0).toNat,by omega⟩
     rw [hz] at d1 hsy;have HZ:=zh hz;have hT2r:=(HTA.out wr hTr).mono HFT.out;obtain⟨c0,c1,_⟩:=CCH.out wr hT2r;obtain⟨htb1,htb2,htb3⟩:=HTB.out i hiH.out;obtain⟨b3,o3,k3,he3,d3⟩:=(HCB.out.rows wr hT2r).2.cell (show i / 50<(PkM.toI ps).length by rw [PkM.toI_length];exact htb1);rw [HM.out] at he3;simp only [Value.slice.injEq] at he3;obtain⟨rfl,he3b,rfl⟩:=he3;rw [PkM.toI_getD] at d3;obtain⟨P,hP⟩:∃P,ps.getD (i / 50) 0=P:=⟨_,rfl⟩
     rw [hP] at d3
     have hPlt:P<gs.length:=by
      rw [<-hP,List.getD_eq_getElem?_getD,List.getElem?_eq_getElem htb1];exact HPK.out.2.2.2.2 _ (List.getElem_mem htb1)
     obtain⟨bs,base,p1,p2,p3,p4,p5⟩:=HCS.out.other hTr (fun j hj=>(HPBB.out j hj).2.2);obtain⟨cg,cC,eC,d4⟩:=p1.cell (i:=P) (by omega);obtain⟨k4,k5,k6,k7⟩:=p5 P hPlt;subst eC;obtain⟨G,hG⟩:∃G,i / 50=G:=⟨_,rfl⟩
     rw [hG] at d3 htb1;obtain⟨cb,hcb⟩:∃cb,bs.getD P 0=cb:=⟨_,rfl⟩
     rw [hcb] at d4 k4 k5 k6 k7;unfold ptr at d4;have hgi0:(0:Int)<=(i:Int) / 50:=by omega
     have hgi2:((i:Int) / 50).toNat=G:=by omega
     have hgi1:(i:Int) / 50<(M:Int):=by
      have:=HM.out;rw [PkM.toI_length] at this;omega
     have hPi:(P:Int)<(bs.length:Int):=by rw [p2];omega
     have htbi:CodM.tb gs ps i=gs.getD P []:=by unfold CodM.tb;rw [hP]
     rw [<-htbi] at k4;obtain⟨v3,hW3,hT3,hO3⟩:=hwr;have HPUT:=zh (ZqN cb g (CodM.tb gs ps i) z v3 _ tk wr k4 (by omega) htb3 (by omega) hW3 (by rw [List.length_append];have:=HSL.out i hil;omega));have HT3:=zh hT3;have HO3:=zh hO3;clear hTr he1b hT2r htb1 htb2 htb3 he3b hP hPlt p1 p2 p3 p4 p5 k4 k5 k6 k7 hcb hsy hz hW3 hT3 hO3 htbi;go_wp2_with fail;refine HPUT.out.mono ?_;rintro e w7 ⟨rfl,v4,hW4,hT4,hO4⟩
     have HWN:Hid (Wrote w5 g v1 tk (q2++symB gs ps zs (i+1)) w7):=zh (by
      refine⟨v4,?_,HT3.out.trans hT4 (fun j hj=>?_),fun j hj=>?_⟩
      ·rw [ZcS gs ps zs hiH.out,HZ.out,<-List.append_assoc,Int.toNat_natCast];exact hW4
      ·rcases hj with rfl|hj
       ·exact Or.inl (Or.inl rfl)
       ·exact(HO3.out j hj).imp Or.inr id
      ·rcases hO4 j hj with h|h
       ·exact HO3.out j h
       ·exact Or.inr (Nat.le_trans HT3.out.size h))
     clear hW4 hT4 hO4;go_wp2_with fail;go_roundw
     case rel=>exact⟨i+1,by go_num,by omega,HWN.out⟩
     case measure=>simp [intOf];omega
    ·obtain rfl:i=len:=by omega
     have hii:¬(i:Int)<(i:Int):=by omega
     obtain⟨v3,hW3,hT3,hO3⟩:=hwr
     have HF:Hid (Wrote w g v tk (q0++allC gs ps zs) wr):=zh (by
      have hb:=HCB.out.bel.size;refine⟨v3,?_,(Touch.ofBelow (S:=foot g v) HCB.out.bel).trans (HTA.out wr hTr) (fun j hj=>Or.inl hj),fun j hj=>?_⟩
      ·have e:q0++allC gs ps zs=q2++symB gs ps zs i:=by
        unfold allC;rw [<-HQ2.out,<-HQ1.out,HT.out,HLEN.out,List.append_assoc,List.append_assoc,List.append_assoc]
       rw [e];exact hW3
      ·rcases hO3 j hj with h|h
       ·rcases HO5.out j h with h2|h2
        ·exact Or.inl h2
        ·exact Or.inr (Nat.le_trans hb h2)
       ·exact Or.inr (Nat.le_trans hb (Nat.le_trans HT5.out.size h)))
     clear hW3 hT3 hO3 hTr;go_wp2_with fail;go_ret;exact⟨rfl,HF.out⟩
end
end Go.Proofs.YtlfpbcadcfaboaaGreatDoor

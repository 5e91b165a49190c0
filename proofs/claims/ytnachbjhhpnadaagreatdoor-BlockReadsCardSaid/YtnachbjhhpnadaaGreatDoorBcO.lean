import Derived.Test.YtnachbjhhpnadaaGreatDoorBcA
import Derived.Test.YtnachbjhhpnadaaGreatDoorBcN
import Derived.Deep.RegionHeld3
set_option linter.unusedVariables false
set_option linter.unusedSimpArgs false
set_option maxHeartbeats 8000000
set_option maxRecDepth 100000
namespace Go.Proofs.YtnachbjhhpnadaaGreatDoor
section
open Go.RowKit BwtM
theorem ZqQ (a:Option Addr) (n cap:Nat) (h2:n<=cap) (h3:cap<=9223372036854775807) (W:World):(Instr.slice 71 (.slice a n cap) none (some (.int .i64 0)) none).run Tryz.prog W=.ok (.slice a 0 cap) W:=by
 have hs:(sizeOf (Tryz.prog.elem 71)).run Tryz.prog W=.ok 1 W:=by kernel_rfl
 rw [run_slice_h W 71 a n cap (by kernel_rfl) .i64 0 (by omega) (by omega),hs];cases a<;>simp [Result.andThen,sliced,Addr.add]
theorem OwnY.emptied {W:World} {B:Nat} {a:Option Addr} {n cap:Nat} {l:List UInt8} (h:OwnY W B (.slice a n cap) l):OwnY W B (.slice a 0 cap) []/\n=l.length/\n<=cap/\cap<=9223372036854775807:=by
 have hl:=h.1;rcases h.2 with⟨e,h0⟩|⟨g,cap',cur,e,hB,hg,hnc,hcm,hcs,ht⟩
 ·simp only [Value.slice.injEq] at e;obtain⟨rfl,rfl,rfl⟩:=e;exact⟨OwnY.nil _ _,h0.symm,Nat.le_refl _,by omega⟩
 ·simp only [Value.slice.injEq] at e;obtain⟨rfl,rfl,rfl⟩:=e;refine⟨⟨rfl,Or.inr ⟨g,cap,cur,rfl,hB,hg,Nat.zero_le _,hcm,hcs,by simp⟩⟩,rfl,hnc,by unfold maxLen at hcm;omega⟩
section
variable {B t g : Nat} {s : ByteArray} {C : Nat -> Nat} {zs : List Int} {l : List UInt8} {pl nc nl nf : Nat} {tv : Value}
theorem ZmH (w:World) (h:IsIn B w t g s C zs l pl nc nl nf tv):Calls Tryz.prog 132 #[.pointer (some ⟨t,0,none⟩)] w fun e w'=>e=.returned (.string ⟨l.toArray⟩)/\(∃tv',IsIn B w' t g s C zs [] pl nc nl nf tv')/\Touch (·=t) w w':=by
 obtain⟨_,_,_,c4,_,_,_⟩:=h.obj.cells;have e4:=h.obj.frozen 259 (by omega);have H:=zh h;have HCV:=ZeJ (W:=w) h.told;obtain⟨a,cap,hv⟩:=h.told.slice;subst hv;obtain⟨n,hn⟩:∃n,l.length=n:=⟨_,rfl⟩
 have he:=h.told.emptied;rw [hn] at c4 HCV he H;have hsl:=ZqQ a n cap he.2.2.1 he.2.2.2
 have HR:Hid (IsIn B (w.setCell ⟨t,259,none⟩ (.slice a 0 cap)) t g s C zs [] pl nc nl nf (.slice a 0 cap)):=zh (by
  have ht:Touch (·=t) w (w.setCell ⟨t,259,none⟩ (.slice a 0 cap)):=Zaa (Touch.refl _ _);have hlap:∀j,(Value.slice a 0 cap).ownBlock=some j->j≠t/\j≠g:=fun j hj=>H.out.lap j (by cases a<;>simp_all [Value.ownBlock])
  have hemp:OwnY w B (.slice a 0 cap) []:=he.1;exact⟨H.out.obj.set259 (.slice a 0 cap),H.out.row.other ht H.out.gt,H.out.len,hemp.same (fun k hk=>ht.block k (hemp.lt k hk).2 (hlap k hk).1),H.out.gt,hlap,H.out.base,H.out.gase⟩)
 have HT:Hid (Touch (·=t) w (w.setCell ⟨t,259,none⟩ (.slice a 0 cap))):=zh (Zaa (Touch.refl _ _));clear h he hn;go_enter Tryz.func132,Tryz.ntmps132;go_wp2_with fail;go_ret;exact⟨rfl,⟨_,HR.out⟩,HT.out⟩
end
end
section
open Go.RowKit BwtM
def inF0 (s:ByteArray) (lv:Value) (p:Nat) (k:Nat):Value:=if k=0 then .string s else if k=257 then lv else if k=258 then .int .i64 (p:Int) else if k=259 then .slice none 0 0 else .int .i64 0
theorem ZoC (s:ByteArray) (b n p:Nat):Tryz.prog.built 255 [(0,.string s),(2,.slice (some ⟨b,0,none⟩) n n),(3,.int .i64 (p:Int))]=some (cellsF 263 (inF0 s (.slice (some ⟨b,0,none⟩) n n) p)):=by kernel_rfl
theorem ZsD (s:ByteArray) (lv:Value) (p:Nat):InF (inF0 s lv p) s (fun _=>0) lv p (.slice none 0 0) 0 0 0:=by
 refine⟨rfl,fun b hb=>?_,rfl,rfl,rfl,rfl,rfl,rfl⟩;unfold inF0;rw [if_neg (by omega),if_neg (by omega),if_neg (by omega),if_neg (by omega)];rfl
theorem ZiG (s:ByteArray) (p:Nat) (w:World) (hs:s.size<=1000000):Calls Tryz.prog 193 #[.string s,.int .i64 (p:Int)] w fun e w'=>∃t g,e=.returned (.pointer (some ⟨t,0,none⟩))/\IsIn w.heap.size w' t g s (fun _=>0) (List.replicate s.size 0) [] p 0 0 0 (.slice none 0 0)/\Below w.heap.size w w':=by
 obtain⟨n,hn⟩:∃n,s.size=n:=⟨_,rfl⟩
 have hsi:(s.size:Int)=(n:Int):=by omega
 have hmk:=fun W=>Za2 n (by omega) W
 have HB:=zh (ZoC s w.heap.size n p);have HZ:=zh (ZsD s (.slice (some ⟨w.heap.size,0,none⟩) n n) p);obtain⟨F,hF⟩:∃F,inF0 s (.slice (some ⟨w.heap.size,0,none⟩) n n) p=F:=⟨_,rfl⟩
 rw [hF] at HB HZ;obtain⟨Z,hZ⟩:∃Z,cellsF 263 F=Z:=⟨_,rfl⟩
 rw [hZ] at HB;have HZZ:=zh hZ;rw [hn];have HN:=zh hn;clear hn hF hZ hs;go_enter Tryz.func193,Tryz.ntmps193;go_wp2_with (refine Zaz rfl 255 0 2 3 _ _ _ rfl _ _ _ rfl rfl rfl Z HB.out ?_)
 have HR:Hid (IsIn w.heap.size ((w.alloc (.cells (madeCells #[Value.int .i64 0] n) 3)).alloc (.cells Z 255)) (w.alloc (.cells (madeCells #[Value.int .i64 0] n) 3)).heap.size w.heap.size s (fun _=>0) (List.replicate n 0) [] p 0 0 0 (.slice none 0 0)):=zh (by
  have hz:(w.alloc (.cells (madeCells #[Value.int .i64 0] n) 3)).heap.size=w.heap.size+1:=by show(w.heap.push _).size=_;simp
  have h1:RowI (w.alloc (.cells (madeCells #[Value.int .i64 0] n) 3)) w.heap.size (List.replicate n 0):=RowI.made w n
  have hob:InObj ((w.alloc (.cells (madeCells #[Value.int .i64 0] n) 3)).alloc (.cells Z 255)) (w.alloc (.cells (madeCells #[Value.int .i64 0] n) 3)).heap.size s (fun _=>0) (.slice (some ⟨w.heap.size,0,none⟩) s.size s.size) p (.slice none 0 0) 0 0 0:=by
   rw [HN.out];refine⟨F,?_,HZ.out⟩;unfold ObjF;rw [HZZ.out];exact heap_alloc_new (w.alloc (.cells (madeCells #[Value.int .i64 0] n) 3)) (.cells Z 255)
  exact⟨hob,(Zam (w:=w.alloc (.cells (madeCells #[Value.int .i64 0] n) 3)) h1.lt).trans h1,by rw [List.length_replicate,HN.out],OwnY.nil _ _,by omega,fun j hj=>(by cases hj),by omega,Nat.le_refl _⟩)
 have HBL:Hid (Below w.heap.size w ((w.alloc (.cells (madeCells #[Value.int .i64 0] n) 3)).alloc (.cells Z 255))):=zh (((Below.refl _ _).alloc (Nat.le_refl _) _).alloc (by show w.heap.size<=(w.heap.push _).size;simp) _);have hz:(w.alloc (.cells (madeCells #[Value.int .i64 0] n) 3)).heap.size=w.heap.size+1:=by show(w.heap.push _).size=_;simp
 have HR2:=zh HR.out;rw [hz] at HR2;clear hz;go_ret;exact⟨_,_,rfl,HR2.out,HBL.out⟩
theorem ZoD (s:ByteArray) (p:Nat) (w:World) (h0:0<s.size) (hs:s.size<=900000) (hp:p<s.size):Calls Tryz.prog 130 #[.string s,.int .i64 (p:Int)] w fun e w'=>∃t g,e=.returned (.tuple #[.pointer (some ⟨t,0,none⟩),.int .i64 0])/\IsIn w.heap.size w' t g s (fun _=>0) (List.replicate s.size 0) [] p 0 0 0 (.slice none 0 0)/\Below w.heap.size w w':=by
 have hemp:s.toList.isEmpty=false:=by
  rw [ByteArray.toList_eq];have h2:s.data.toList.length=s.size:=by simp
  cases hl:s.data.toList with
  | nil=>rw [hl] at h2;simp at h2;omega
  | cons a t=>rfl
 have h1i:¬(900000:Int)<(s.size:Int):=by omega
 have h2i:(p:Int)<(s.size:Int):=by omega
 have h3i:¬(p:Int)<0:=by omega
 have h4i:¬(p:Int)>=(s.size:Int):=by omega
 have HI:=zh (fun W=>ZiG s p W (by omega));clear hp;go_enter Tryz.func130,Tryz.ntmps130;go_wp2_with fail;refine(HI.out _).mono ?_;rintro e w1 ⟨t,g,rfl,h,hb⟩;have H:=zh h;have HB:=zh hb;clear h hb;go_wp2_with fail;go_ret2;exact⟨_,_,rfl,H.out,HB.out⟩
theorem Zj5 (o:Int) (w:World):Calls Tryz.prog 130 #[.string ByteArray.empty,.int .i64 o] w fun e w'=>e=.returned (.tuple #[.pointer none,.int .i64 1])/\w'=w:=by
 go_enter Tryz.func130,Tryz.ntmps130;go_wp2_with fail;go_ret2;exact⟨rfl,rfl⟩
theorem ZsE (s:ByteArray) (h:0<s.size):s.toList.isEmpty=false:=by
 rw [ByteArray.toList_eq];have h2:s.data.toList.length=s.size:=by simp
 cases hl:s.data.toList with
 | nil=>rw [hl] at h2;simp at h2;omega
 | cons a t=>rfl
theorem ZoE (s:ByteArray) (o:Int) (w:World) (h0:0<s.size) (hs:s.size<=900000) (ho:o<0\/(s.size:Int)<=o):Calls Tryz.prog 130 #[.string s,.int .i64 o] w fun e w'=>e=.returned (.tuple #[.pointer none,.int .i64 23])/\∃m,w'=w.drewN m:=by
 have hemp:=ZsE s h0;have h1i:¬(900000:Int)<(s.size:Int):=by omega
 rcases ho with h|h
 ·go_enter Tryz.func130,Tryz.ntmps130;go_wp2_with fail;go_ret2;exact⟨rfl,0,rfl⟩
 ·by_cases hn:o<0
  ·go_enter Tryz.func130,Tryz.ntmps130;go_wp2_with fail;go_ret2;exact⟨rfl,0,rfl⟩
  ·have h4:o>=(s.size:Int):=h;go_enter Tryz.func130,Tryz.ntmps130;go_wp2_with fail;go_ret2;exact⟨rfl,0,rfl⟩
def cntF (L:List UInt8) (k b:Nat):Value:=.int .i64 ((if b<k then UnM.fst_ L b else UnM.cnt L L.length b:Nat):Int)
theorem ZiH (F:Nat->Value) (k:Nat) (hk:k<256) (W:World):(Instr.index 253 (.agg (cellsF 256 F)) (.int .i64 (k:Int))).run Tryz.prog W=.ok (F k) W:=by
 have hg:(cellsF 256 F)[k]?=some (F k):=ZaY 256 F hk;have hu:=Tryz.underlying253;simp [Instr.index,run_underlying hu,asIntOf,go_sem,hg];intro h;omega
theorem ZsF (W:World):(zeroValue 253).run Tryz.prog W=.ok (.agg (cellsF 256 fun _=>.int .i64 0)) W:=by kernel_rfl
theorem Zhu:(Tryz.prog.info? 253).map (·.size)=some 256:=by kernel_rfl
theorem ZiI (L:List UInt8) (w:World) (hL:L.length<=1000000):Calls Tryz.prog 240 #[.agg (cellsF 256 (cntF L 0))] w fun e w'=>e=.returned (.agg (cellsF 256 (cntF L 256)))/\Below w.heap.size w w':=by
 obtain⟨A,hA⟩:∃A,cellsF 256 (cntF L 0)=A:=⟨_,rfl⟩
 have hix:=fun k (hk:k<256) W=>ZiH (cntF L 0) k hk W
 have hsz:A.size=256:=by rw [<-hA];exact ZaX _ _
 rw [hA] at hix ⊢;have HA:=zh hA;have HIX:=zh hix;obtain⟨Z,hZ⟩:∃Z:Array Value,(cellsF 256 fun _=>Value.int .i64 0)=Z:=⟨_,rfl⟩
 have hzv:=ZsF;rw [hZ] at hzv
 have hg0:((w.alloc (.cells A 253)).alloc (.cells Z 253)).heap[w.heap.size]?=some (.cells A 253 (0,0)):=by
  refine(Zam (w:=w.alloc (.cells A 253)) (by show _<(w.heap.push _).size;simp)).trans ?_;exact heap_alloc_new w (.cells A 253)
 have hi:(Tryz.prog.info? 253).map (·.size)=some A.size:=by rw [hsz];exact Zhu
 have hZs:Z.size=256:=by rw [<-hZ];exact ZaX _ _
 clear hA hZ hix;go_enter Tryz.func240,Tryz.ntmps240;go_wp2_with (refine wpList_load_row rfl 253 _ rfl w.heap.size rfl 253 A (0,0) _ hg0 Tryz.underlying253 rfl hi ?_)
 have hz1:((w.alloc (.cells A 253)).alloc (.cells Z 253)).heap[w.heap.size+1]?=some (.cells Z 253 (0,0)):=by
  have:=heap_alloc_new (w.alloc (.cells A 253)) (.cells Z 253);have hz:(w.alloc (.cells A 253)).heap.size=w.heap.size+1:=by show(w.heap.push _).size=_;simp
  rw [hz] at this;exact this
 have HO0:Hid (ObjF 256 253 ((w.alloc (.cells A 253)).alloc (.cells Z 253)) w.heap.size (cntF L 0)):=zh (by unfold ObjF;rw [HA.out];exact hg0);have HZ1:=zh hz1;have HB0:Hid (Below w.heap.size w ((w.alloc (.cells A 253)).alloc (.cells Z 253))):=zh (((Below.refl _ _).alloc (Nat.le_refl _) _).alloc (by show w.heap.size<=(w.heap.push _).size;simp) _);clear hg0 hz1
 go_loopw [7,3] (fun vi va wr=>∃i q:Nat,vi=.int .i64 (i:Int)/\i<=256/\va=.int .i64 (q:Int)/\q=UnM.fst_ L i/\ObjF 256 253 wr w.heap.size (cntF L i)/\wr.heap[w.heap.size+1]?=some (.cells Z 253 (0,0))/\Below w.heap.size w wr) (fun vi _ _=>256-(intOf vi).toNat)
 case atStart=>exact⟨0,0,rfl,by omega,rfl,rfl,HO0.out,HZ1.out,HB0.out⟩
 case round=>
  clear HO0 HZ1 HB0;obtain⟨i,q,rfl,hi2,rfl,hq,hO,hZ2,hB⟩:=hrel;have HO:=zh hO;have HZ2:=zh hZ2;have HB:=zh hB;have HQ:=zh hq;have hqb:q<=1000000:=by rw [hq];exact Nat.le_trans (UnM.fst_le L i) hL
  clear hZ2 hB;by_cases hin:i<256
  ·have hii:(i:Int)<256:=by omega
   obtain⟨c,hc⟩:∃c,UnM.cnt L L.length i=c:=⟨_,rfl⟩
   have hcb:c<=1000000:=by rw [<-hc];exact Nat.le_trans (UnM.cnt_le L _ i) hL
   have hiw:∀W,(Instr.index 253 (.agg A) (.int .i64 (i:Int))).run Tryz.prog W=.ok (.int .i64 (c:Int)) W:=fun W=>by
    rw [HIX.out i hin W];unfold cntF;rw [if_neg (by omega),hc]
   obtain⟨q2,hq2⟩:∃q2,q+c=q2:=⟨_,rfl⟩
   have hq2i:(q:Int)+(c:Int)=(q2:Int):=by omega
   have hq2w:IntKind.i64.wrap (q2:Int)=(q2:Int):=IntWalk.i64_in _ (by omega)
   have HQ2:Hid (q2=UnM.fst_ L (i+1)):=zh (by
    show q2=UnM.fst_ L i+UnM.cnt L L.length i;rw [hc,<-hq,hq2])
   have hcell:=hO.cell hin;have c1:=hcell.1;have e1:=hcell.2
   have HO2:Hid (ObjF 256 253 (wr.setCell ⟨w.heap.size,i,none⟩ (.int .i64 (q:Int))) w.heap.size (cntF L (i+1))):=zh (by
    refine(hO.set i (.int .i64 (q:Int))).ext (fun k hk=>?_);by_cases e:k=i
    ·subst e;rw [Zak];unfold cntF;rw [if_pos (by omega),hq]
    ·rw [Zab _ _ e];unfold cntF;by_cases h3:k<i
     ·rw [if_pos h3,if_pos (by omega)]
     ·rw [if_neg h3,if_neg (by omega)])
   have HZ3:Hid ((wr.setCell ⟨w.heap.size,i,none⟩ (.int .i64 (q:Int))).heap[w.heap.size+1]?=some (.cells Z 253 (0,0))):=zh (((show Touch (·=w.heap.size) wr (wr.setCell ⟨w.heap.size,i,none⟩ (.int .i64 (q:Int))) from Zaa (Touch.refl _ _)).block (w.heap.size+1) (Array.getElem?_eq_some_iff.1 HZ2.out).1 (by omega)).trans HZ2.out);have HB3:Hid (Below w.heap.size w (wr.setCell ⟨w.heap.size,i,none⟩ (.int .i64 (q:Int)))):=zh (HB.out.setCell (p:=⟨w.heap.size,i,none⟩) (Nat.le_refl _) _);obtain⟨x0,hx0⟩:∃x0,cntF L i i=x0:=⟨_,rfl⟩
   rw [hx0] at c1;clear hO hcell hq hc hq2 hx0;go_wp2_with fail;go_roundw
   case rel=>exact⟨i+1,q2,by go_num,by omega,rfl,HQ2.out,HO2.out,HZ3.out,HB3.out⟩
   case measure=>simp [intOf];omega
  ·have hii:¬(i:Int)<256:=by omega
   have hie:i=256:=by omega
   rw [hie] at HO;obtain⟨A2,hA2⟩:∃A2,cellsF 256 (cntF L 256)=A2:=⟨_,rfl⟩
   have hs2:A2.size=256:=by rw [<-hA2];exact ZaX _ _
   have ha:A2.all (·.oneCell')=true:=by
    rw [<-hA2,Array.all_eq_true];intro k hk;simp only [cellsF,List.getElem_toArray,List.getElem_map];rfl
   have hc:wr.heap[w.heap.size]?=some (.cells A2 253 (0,0)):=by rw [<-hA2];exact HO.out
   have hz2:=HZ2.out;have hi2':(Tryz.prog.info? 253).map (·.size)=some A2.size:=by rw [hs2];exact Zhu
   have hold:Z.size=A2.size:=by rw [hZs,hs2]
   have HA2:=zh hA2;clear hq hO hie hA2;go_wp2_with (first|(refine wpList_load_row rfl 253 _ rfl w.heap.size rfl 253 A2 (0,0) _ hc Tryz.underlying253 rfl hi2' ?_)|(refine wpList_store_row rfl 253 _ _ rfl (w.heap.size+1) A2 rfl rfl 253 Z hz2 hi2' hold ha ?_));refine bodyPost_ret (v:=.agg A2) (results_cell_row rfl _ _ (w.heap.size+1) 253 A2 (0,0) _ rfl (setRow_heap wr _ Z A2 253 _ hz2) Tryz.underlying253 rfl hi2') rfl ⟨by rw [HA2.out],?_⟩;exact HB.out.trans ⟨rfl,rfl,rfl,by simp [World.setRow],fun j hj=>setRow_other wr _ j _ (by omega)⟩
end
section
open Go.RowKit BwtM PkM
theorem ZlH (s:ByteArray) {i:Nat} (h:i<s.size):(s[i].toNat:Int)=(UnM.by_ s.data.toList i:Int):=by
 unfold UnM.by_;have hl:i<s.data.toList.length:=by simpa using h
 rw [List.getD_eq_getElem?_getD,List.getElem?_eq_getElem hl];rfl
def LkSt (B:Nat) (w:World) (t g:Nat) (s:ByteArray) (l:List UInt8) (pl nc k nf:Nat) (tv:Value):Prop:=IsIn B w t g s (UnM.nxt s.data.toList k) (toI (UnM.rowAt s.data.toList k)) l pl nc k nf tv
section
variable {B t g : Nat} {s : ByteArray} {l : List UInt8} {pl nc nf : Nat} {tv : Value}
theorem LkSt.next {w:World} {k b p:Nat} (h:LkSt B w t g s l pl nc k nf tv) (hk:k<s.size) (hb:UnM.by_ s.data.toList k=b) (hp:UnM.nxt s.data.toList k b=p) :
  LkSt B (((w.setCell ⟨g,p,none⟩ (.int .i64 (k:Int))).setCell ⟨t,1+b,none⟩ (.int .i64 ((p+1:Nat):Int))).setCell ⟨t,261,none⟩ (.int .i64 ((k+1:Nat):Int))) t g s l pl nc (k+1) nf tv:=by
 have hl:s.data.toList.length=s.size:=by simp
 have hk2:k<s.data.toList.length:=by omega
 have hpp:p=UnM.pos s.data.toList k:=by rw [<-hp,<-hb];rfl
 have hpl:p<s.data.toList.length:=by rw [hpp];exact UnM.pos_lt hk2
 have hrl:(toI (UnM.rowAt s.data.toList k)).length=s.size:=h.len;have h1:=(h.row.cell (i:=p) (by omega)).2.2 (k:Int)
 have e1:(toI (UnM.rowAt s.data.toList k)).set p (k:Int)=toI (UnM.rowAt s.data.toList (k+1)):=by
  rw [UnM.rowAt_next _ hk2,<-hpp];simp [toI,List.map_set]
 rw [e1] at h1;have h2:=h.linked (Zaa (Touch.refl _ _)) h1 (by rw [toI_length,toI_length,UnM.rowAt_len,UnM.rowAt_len]);have hb2:b<256:=by rw [<-hb];exact UnM.by_lt _ _
 have h3:=h2.own (Zaa (Touch.refl _ _)) (h2.obj.setC hb2 (p+1));have h4:=h3.own (Zaa (Touch.refl _ _)) (h3.obj.set261 (k+1))
 have e2:(fun c=>if c=b then p+1 else UnM.nxt s.data.toList k c)=UnM.nxt s.data.toList (k+1):=by
  funext c
  rw [UnM.nxt_next,hb];by_cases e:c=b
  ·rw [if_pos e,if_pos e,e,hp]
  ·rw [if_neg e,if_neg e]
 rw [e2] at h4;exact h4
theorem ZmI (w:World) (k q:Nat) (h:LkSt B w t g s l pl nc k nf tv) (hk:k<=s.size) (hs:s.size<=1000000) (hq:q<=9223372036854775807) :
  Calls Tryz.prog 195 #[.pointer (some ⟨t,0,none⟩),.int .i64 (q:Int)] w fun e w'=>e=.returned (.int .i64 ((min q (s.size-k):Nat):Int))/\LkSt B w' t g s l pl nc (k+min q (s.size-k)) nf tv/\Touch (fun x=>x=t\/x=g) w w':=by
 obtain⟨c0,c2,_,_,_,c6,_⟩:=h.obj.cells;obtain⟨d,hd⟩:∃d,s.size-k=d:=⟨_,rfl⟩
 have hdi:(s.size:Int)-(k:Int)=(d:Int):=by omega
 have hdw:IntKind.i64.wrap (d:Int)=(d:Int):=IntWalk.i64_in _ (by omega);obtain⟨n,hn⟩:∃n,min q d=n:=⟨_,rfl⟩
 have hmin:min (q:Int) (d:Int)=(n:Int):=by omega
 have hnd:n<=d:=by omega
 have hkn:k+n<=s.size:=by omega
 rw [hd,hn];have H:=zh h;have HT0:Hid (Touch (fun x=>x=t\/x=g) w w):=zh (Touch.refl _ _);have HLT:=zh (And.intro h.gt (And.intro h.obj.lt h.row.lt));have hcs:(d<q/\n=d)\/(¬d<q/\n=q):=by omega
 clear h hd hn hmin;rcases hcs with⟨hdq,rfl⟩|⟨hdq,rfl⟩
 all_goals
  go_enter Tryz.func195,Tryz.ntmps195;go_wp2_with fail
  go_quiet (fail)
  go_wp2_with fail
  go_loopw [20] (fun vj wr=>∃(j m:Nat),vj=.int .i64 (j:Int)/\j<=n/\LkSt B wr t g s l pl nc (k+j) nf tv/\Touch (fun x=>x=t\/x=g) w wr) (fun vj _=>n-(intOf vj).toNat)
  case atStart=>exact⟨0,0,rfl,Nat.zero_le _,IsIn.below H.out (Zai _ _),Zad _ _ _⟩
  case round=>
   clear H HT0 c0 c2 c6;obtain⟨j,_,rfl,hj,hI,hT⟩:=hrel;have hI:LkSt B wr t g s l pl nc (k+j) nf tv:=hI;unfold LkSt at hI;have HI:=zh hI;have HT:=zh hT;obtain⟨kj,hkj⟩:∃kj,k+j=kj:=⟨_,rfl⟩
   rw [hkj] at HI hI;have HKJ:=zh hkj;obtain⟨c0,c2,_,_,_,c6,_⟩:=hI.obj.cells;have e6:=hI.obj.frozen 261 (by omega);by_cases hjn:j<n
   ·have hji:(j:Int)<(n:Int):=by omega
    have hks:kj<s.size:=by omega
    have hat:=ZlH s hks;obtain⟨b,hb⟩:∃b,UnM.by_ s.data.toList kj=b:=⟨_,rfl⟩
    have hb2:b<256:=by rw [<-hb];exact UnM.by_lt _ _
    rw [hb] at hat;have cb:=hI.obj.count hb2;have eb:=hI.obj.frozen (1+b) (by omega);obtain⟨p,hp⟩:∃p,UnM.nxt s.data.toList kj b=p:=⟨_,rfl⟩
    rw [hp] at cb;have hNX:=LkSt.next hI hks hb hp;have hsl:s.data.toList.length=s.size:=by simp
    have hpl:p<s.size:=by
     rw [<-hp,<-hb,<-hsl];exact UnM.pos_lt (by rw [hsl];exact hks)
    have hrw:=hI.row.cell (i:=p) (by rw [hI.len];exact hpl);have er:=hrw.2.1;have HNX:=zh (fun W (h:IsIn B W t g s (UnM.nxt s.data.toList kj) (toI (UnM.rowAt s.data.toList kj)) l pl nc kj nf tv)=>LkSt.next h hks hb hp);have hpr:p<(toI (UnM.rowAt s.data.toList kj)).length:=by rw [hI.len];exact hpl
    have HPR:=zh hpr;have HBB:=zh hb;have HPP:=zh hp;have hpi:(p:Int)<(s.size:Int):=by omega
    obtain⟨k1,hk1⟩:∃k1,kj+1=k1:=⟨_,rfl⟩
    have hk1i:(kj:Int)+1=(k1:Int):=by omega
    have hk1w:IntKind.i64.wrap (k1:Int)=(k1:Int):=IntWalk.i64_in _ (by omega);obtain⟨p1,hp1⟩:∃p1,p+1=p1:=⟨_,rfl⟩
    have hp1i:(p:Int)+1=(p1:Int):=by omega
    have hp1w:IntKind.i64.wrap (p1:Int)=(p1:Int):=IntWalk.i64_in _ (by omega);have HK1:=zh (And.intro hk1 hp1);clear hI hT hNX hb hp hrw hkj hsl hpr hk1 hp1;go_wp2_with fail
    go_quiet (fail)
    go_wp2_with fail;have HI2:Hid (IsIn B (wr.drewN nq) t g s (UnM.nxt s.data.toList kj) (toI (UnM.rowAt s.data.toList kj)) l pl nc kj nf tv):=zh (IsIn.below HI.out (Zai wr nq));have HT2:Hid (Touch (fun x=>x=t\/x=g) w (wr.drewN nq)):=zh (HT.out.trans (Zad _ wr nq) (fun _ h=>h));clear HI HT c0 c2 c6 e6 cb eb er;generalize wr.drewN nq=wb at *;obtain⟨c0,c2,_,_,_,c6,_⟩:=HI2.out.obj.cells;have e6:=HI2.out.obj.frozen 261 (by omega);have cb:=HI2.out.obj.count hb2;rw [HPP.out] at cb;have eb:=HI2.out.obj.frozen (1+b) (by omega);have er:=(HI2.out.row.cell HPR.out).2.1;have cr:=(HI2.out.row.cell HPR.out).1;generalize (toI (UnM.rowAt s.data.toList kj)).getD p 0=v0 at cr;have hgt:=HLT.out.1;have I3:=IsIn.below HI2.out (Zai wb 1);obtain⟨W5,hW5⟩:∃W5,(wb.drewN 1).setCell ⟨g,p,none⟩ (.int .i64 (kj:Int))=W5:=⟨_,rfl⟩
    have t5:Touch (·=g) (wb.drewN 1) W5:=by rw [<-hW5];exact Zaa (Touch.refl _ _)
    have o5:=I3.obj.other t5 (fun e=>hgt e.symm);obtain⟨W6,hW6⟩:∃W6,W5.setCell ⟨t,1+b,none⟩ (.int .i64 (p1:Int))=W6:=⟨_,rfl⟩
    have t6:Touch (·=t) W5 W6:=by rw [<-hW6];exact Zaa (Touch.refl _ _)
    have o6:=o5.setC hb2 p1;rw [hW6] at o6;obtain⟨W7,hW7⟩:∃W7,W6.setCell ⟨t,261,none⟩ (.int .i64 (k1:Int))=W7:=⟨_,rfl⟩
    have t7:Touch (·=t) W6 W7:=by rw [<-hW7];exact Zaa (Touch.refl _ _)
    have t5':Touch (fun x=>x=t\/x=g) (wb.drewN 1) W5:=t5.mono (fun _ h=>Or.inr h);have t6':Touch (fun x=>x=t\/x=g) W5 W6:=t6.mono (fun _ h=>Or.inl h);have t7':Touch (fun x=>x=t\/x=g) W6 W7:=t7.mono (fun _ h=>Or.inl h);have HT7:Hid (Touch (fun x=>x=t\/x=g) w W7):=zh ((((HT2.out.trans (Zad _ wb 1) (fun _ h=>h)).trans t5' (fun _ h=>Or.inl h)).trans t6' (fun _ h=>Or.inl h)).trans t7' (fun _ h=>Or.inl h))
    have HF7:Hid (LkSt B W7 t g s l pl nc (k+(j+1)) nf tv):=zh (by
     have hf:=HNX.out _ I3;rw [HK1.out.1,HK1.out.2,hW5,hW6,hW7] at hf
     have ek:k+(j+1)=k1:=by
      have h1:=HK1.out.1;have h2:=HKJ.out;omega
     rw [ek];exact hf)
    have cb5:=o5.count hb2;rw [HPP.out] at cb5;have eb5:=o5.frozen (1+b) (by omega);obtain⟨_,_,_,_,_,c66,_⟩:=o6.cells;have e66:=o6.frozen 261 (by omega);clear I3 t5 t6 t7 t5' t6' t7' o5 o6 hgt
    go_still_tail 12,(by kernel_rfl)
    change wpList _ _ _ _ _ (wb.drewN 1);go_wp2_with fail;go_roundw
    case rel=>exact⟨j+1,0,by go_num,by omega,HF7.out,HT7.out⟩
    case measure=>simp [intOf];omega
   ·have hji:¬(j:Int)<(n:Int):=by omega
    have HE:Hid (kj=k+n):=zh (by omega);clear hI hT hkj;go_wp2_with fail;go_ret;exact⟨rfl,by rw [<-HE.out];exact HI.out,HT.out⟩
end
end
section
open Go.RowKit BwtM PkM
theorem Zfz (s:ByteArray):s.data.toList.length=s.size:=by simp
theorem ZsG (L:List UInt8) (k b p:Nat) (hb:UnM.by_ L k=b) (hp:UnM.cnt L k b=p):(fun c=>if c=b then p+1 else UnM.cnt L k c)=UnM.cnt L (k+1):=by
 funext c
 rw [UnM.cnt_next,hb];by_cases e:c=b
 ·rw [if_pos e,if_pos e.symm,e,hp]
 ·rw [if_neg e,if_neg (fun h=>e h.symm)];rfl
theorem ZoF (L:List UInt8) (b:Nat):cntF L 0 b=.int .i64 (UnM.cnt L L.length b:Int):=by unfold cntF;rw [if_neg (by omega)]
theorem ZqR (L:List UInt8) (b:Nat) (hb:b<256):cntF L 256 b=.int .i64 (UnM.nxt L 0 b:Int):=by
 unfold cntF UnM.nxt;rw [if_pos hb,UnM.cnt_zero,Nat.add_zero]
theorem InObj.counts {w:World} {t:Nat} {s:ByteArray} {C:Nat->Nat} {lv tv:Value} {pl nc nl nf:Nat} (h:InObj w t s C lv pl tv nc nl nf):(loadVar 253 ⟨t,1,none⟩).run Tryz.prog w=.ok (.agg (cellsF 256 fun b=>.int .i64 (C b:Int))) w:=by
 have hl:(loadCells ⟨t,1,none⟩ 256).run Tryz.prog w=.ok (cellsF 256 fun b=>.int .i64 (C b:Int)) w:=by
  have:=run_loadCells_list (P:=Tryz.prog) w ⟨t,1,none⟩ ((List.range 256).map fun b=>Value.int .i64 (C b:Int)) (fun j v hv=>by
   rw [List.getElem?_map] at hv;obtain⟨b,hb,rfl⟩:=Option.map_eq_some_iff.1 hv;obtain⟨h1,h2⟩:=List.getElem?_eq_some_iff.1 hb;simp only [List.length_range] at h1;simp only [List.getElem_range] at h2;subst h2;have hadd:(⟨t,1,none⟩:Addr).add j=⟨t,1+j,none⟩:=Addr.add_lit _ _ _;rw [hadd];exact h.count h1)
  rw [List.length_map,List.length_range] at this;exact this
 have hagg:(isAgg 253).run Tryz.prog w=.ok true w:=by
  unfold isAgg;rw [Sem.run_bind,run_underlying Tryz.underlying253 w];rfl
 have hi:=Zhu;cases hq:Tryz.prog.info? 253 with
 | none=>simp [hq] at hi
 | some i=>
  have hs:i.size=256:=by simpa [hq] using hi
  simp [loadVar,Sem.run_bind,hagg,sizeOf,typeInfo,hq,hs,hl]
theorem InObj.setAll {w:World} {t:Nat} {s:ByteArray} {C D:Nat->Nat} {lv tv:Value} {pl nc nl nf:Nat} (h:InObj w t s C lv pl tv nc nl nf) (X:Nat->Value) (hX:∀b,b<256->X b=.int .i64 (D b:Int)):∃G,(storeVar 253 ⟨t,1,none⟩ (.agg (cellsF 256 X))).run Tryz.prog w=.ok () (w.setRow t G)/\InObj (w.setRow t G) t s D lv pl tv nc nl nf:=by
 obtain⟨F,h1,h2⟩:=h;have hlen:((List.range 256).map X).length=256:=by rw [List.length_map,List.length_range]
 have hst:=run_storeCells_at (P:=Tryz.prog) t 1 255 ((List.range 256).map X) 0 (cellsF 263 F) w h1 (by rw [hlen,ZaX];omega) (fun v hv=>by
  obtain⟨b,hb,rfl⟩:=List.mem_map.1 hv;rw [hX b (List.mem_range.1 hb)];rfl)
 simp only [Nat.add_zero] at hst;rw [Zfk 263 F 1 _ (by rw [hlen];omega),hlen] at hst;refine⟨cellsF 263 (fun k=>if k<1 then F k else if k<1+256 then((List.range 256).map X).getD (k-1) (F k) else F k),?_,⟨_,setRow_heap w t _ _ _ _ h1,?_⟩⟩
 ·have hi:=Zhu;cases hq:Tryz.prog.info? 253 with
  | none=>simp [hq] at hi
  | some i=>
   have hs:i.size=256:=by simpa [hq] using hi
   have hz:(cellsF 256 X).size=256:=ZaX _ _;have hl:(cellsF 256 X).toList=(List.range 256).map X:=by simp [cellsF]
   simp [storeVar,sizeOf,typeInfo,hq,Value.cells,hs,hz,hl,hst]
 ·refine⟨?_,fun b hb=>?_,?_,?_,?_,?_,?_,?_⟩
  ·rw [if_pos (by omega)];exact h2.f0
  ·rw [if_neg (by omega),if_pos (by omega),show 1+b-1=b by omega,List.getD_eq_getElem?_getD,List.getElem?_map,List.getElem?_range hb];exact hX b hb
  ·rw [if_neg (by omega),if_neg (by omega)];exact h2.f257
  ·rw [if_neg (by omega),if_neg (by omega)];exact h2.f258
  ·rw [if_neg (by omega),if_neg (by omega)];exact h2.f259
  ·rw [if_neg (by omega),if_neg (by omega)];exact h2.f260
  ·rw [if_neg (by omega),if_neg (by omega)];exact h2.f261
  ·rw [if_neg (by omega),if_neg (by omega)];exact h2.f262
theorem Zf8 {P:Program} {ops:Array Oper} {rest:List Oper} {o:Oper} {a:Act} {w:World} {Q:Exit->Act->World->Prop} (hgd:o.guard=none) (ty:TypeId) (x:Operand) (ho:o.op=.load ty x) (p:Addr) (hx:a.eval x=.pointer (some p)) (v:Value)
  (hl:(loadVar ty p).run P w=.ok v w) (h:wpList P ops Q rest (a.put o.dst v) w):wpList P ops Q (o::rest) a w:=
 wpList_plain hgd fun _ hK=>by
  unfold Oper.wp execOp;simp only [ho,hx,Instr.loadAt,Instr.sureAddr,Sem.run_bind,Sem.run_pure,Result.andThen_ok,hl];exact hK _ _ h
theorem ZfA {P:Program} {ops:Array Oper} {rest:List Oper} {o:Oper} {a:Act} {w w':World} {Q:Exit->Act->World->Prop} (hgd:o.guard=none) (ty:TypeId) (x y:Operand) (ho:o.op=.store ty x y) (p:Addr) (hx:a.eval x=.pointer (some p)) (v:Value) (hy:a.eval y=v)
  (hl:(storeVar ty p v).run P w=.ok () w') (h:wpList P ops Q rest (a.put o.dst undef) w'):wpList P ops Q (o::rest) a w:=
 wpList_plain hgd fun _ hK=>by
  unfold Oper.wp execOp;simp only [ho,hx,hy,Instr.storeAt,Instr.sureAddr,Sem.run_bind,Sem.run_pure,Result.andThen_ok,hl];exact hK _ _ h
theorem ZtW (t:Nat) {b:Nat} (hb:b<256) (W:World):(Instr.indexAt 253 (.pointer (some ⟨t,1,none⟩)) (.int .u8 (b:Int))).run Tryz.prog W=.ok (.pointer (some ⟨t,1+b,none⟩)) W:=by
 have e:Tryz.prog.arrayLen 253=256:=by kernel_rfl
 have hs:(sizeOf (Tryz.prog.elem 253)).run Tryz.prog W=.ok 1 W:=by kernel_rfl
 rw [run_indexAt_array (P:=Tryz.prog) W 253 ⟨t,1,none⟩ .u8 (b:Int) (by kernel_rfl),e,if_pos (by omega),hs];simp [Result.andThen,Addr.add]
section
variable {B t g : Nat} {s : ByteArray} {zs : List Int} {l : List UInt8} {pl nl nf : Nat} {tv : Value} {C : Nat -> Nat}
theorem ZiJ (w:World) (k q:Nat) (h:IsIn B w t g s C zs l pl k nl nf tv) (hk:k<=s.size) (hs:s.size<=1000000) (hq:q<=9223372036854775807) (h0:k=s.size\/q=0) :
  Calls Tryz.prog 194 #[.pointer (some ⟨t,0,none⟩),.int .i64 (q:Int)] w fun e w'=>e=.returned (.int .i64 0)/\∃m,w'=w.drewN m:=by
 obtain⟨c0,_,_,_,c5,_,_⟩:=h.obj.cells;obtain⟨d,hd⟩:∃d,s.size-k=d:=⟨_,rfl⟩
 have hdi:(s.size:Int)-(k:Int)=(d:Int):=by omega
 have hdw:IntKind.i64.wrap (d:Int)=(d:Int):=IntWalk.i64_in _ (by omega);obtain⟨n,hn⟩:∃n,min q d=n:=⟨_,rfl⟩
 have hn0:n=0:=by omega
 have hni:¬(0:Int)<(n:Int):=by omega
 have hng:¬(n:Int)>0:=by omega
 have HN:=zh hn0;have hcs:(d<q/\n=d)\/(¬d<q/\n=q):=by omega
 clear h hd hn hn0 hk h0;rcases hcs with⟨hdq,rfl⟩|⟨hdq,rfl⟩
 all_goals
  go_enter Tryz.func194,Tryz.ntmps194;go_wp2_with fail
  go_quiet (fail)
  go_wp2_with fail
  go_loopw [19] (fun vj wr=>vj=.int .i64 0/\∃m,wr=w.drewN m) (fun _ _=>0)
  case atStart=>exact⟨rfl,_,rfl⟩
  case round=>
   obtain⟨rfl,m,rfl⟩:=hrel;go_wp2_with fail
   go_quiet (fail)
   go_wp2_with fail;go_ret;exact⟨by rw [HN.out];rfl,_,Zh5 _ _ _⟩
def CtSt (B:Nat) (w:World) (t g:Nat) (s:ByteArray) (zs:List Int) (l:List UInt8) (pl k nl nf:Nat) (tv:Value):Prop:=IsIn B w t g s (UnM.cnt s.data.toList k) zs l pl k nl nf tv
theorem CtSt.next {w:World} {k b p:Nat} (h:CtSt B w t g s zs l pl k nl nf tv) (hb:UnM.by_ s.data.toList k=b) (hp:UnM.cnt s.data.toList k b=p) :
  CtSt B ((w.setCell ⟨t,1+b,none⟩ (.int .i64 ((p+1:Nat):Int))).setCell ⟨t,260,none⟩ (.int .i64 ((k+1:Nat):Int))) t g s zs l pl (k+1) nl nf tv:=by
 have hb2:b<256:=by rw [<-hb];exact UnM.by_lt _ _
 have h3:=h.own (Zaa (i:=1+b) (Touch.refl _ _)) (h.obj.setC hb2 (p+1));have h4:=h3.own (Zaa (i:=260) (Touch.refl _ _)) (h3.obj.set260 (k+1));rw [ZsG _ _ _ _ hb hp] at h4;exact h4
def cntS (L:List UInt8) (n k:Nat):Nat->Nat:=if k=n then UnM.nxt L 0 else UnM.cnt L k
theorem Zj6 (w:World) (k q:Nat) (h:CtSt B w t g s zs l pl k nl nf tv) (hk:k<s.size) (hs:s.size<=1000000) (hq:q<=9223372036854775807) (h0:0<q) :
  Calls Tryz.prog 194 #[.pointer (some ⟨t,0,none⟩),.int .i64 (q:Int)] w fun e w'=>e=.returned (.int .i64 ((min q (s.size-k):Nat):Int))/\IsIn B w' t g s (cntS s.data.toList s.size (k+min q (s.size-k))) zs l pl (k+min q (s.size-k)) nl nf tv/\Touch (·=t) w w':=by
 obtain⟨c0,_,_,_,c5,_,_⟩:=h.obj.cells;obtain⟨d,hd⟩:∃d,s.size-k=d:=⟨_,rfl⟩
 have hdi:(s.size:Int)-(k:Int)=(d:Int):=by omega
 have hdw:IntKind.i64.wrap (d:Int)=(d:Int):=IntWalk.i64_in _ (by omega);obtain⟨n,hn⟩:∃n,min q d=n:=⟨_,rfl⟩
 have hnd:n<=d:=by omega
 have hkn:k+n<=s.size:=by omega
 have hn0:0<n:=by omega
 have hng:(n:Int)>0:=by omega
 rw [hd,hn];have H:=zh h;have HT0:Hid (Touch (·=t) w w):=zh (Touch.refl _ _);have hcs:(d<q/\n=d)\/(¬d<q/\n=q):=by omega
 clear h hd hn;rcases hcs with⟨hdq,rfl⟩|⟨hdq,rfl⟩
 all_goals
  go_enter Tryz.func194,Tryz.ntmps194;go_wp2_with fail
  go_quiet (fail)
  go_wp2_with fail
  go_loopw [19] (fun vj wr=>∃(j m:Nat),vj=.int .i64 (j:Int)/\j<=n/\CtSt B wr t g s zs l pl (k+j) nl nf tv/\Touch (·=t) w wr) (fun vj _=>n-(intOf vj).toNat)
  case atStart=>exact⟨0,0,rfl,Nat.zero_le _,IsIn.below H.out (Zai _ _),Zad _ _ _⟩
  case round=>
   clear H HT0 c0 c5;obtain⟨j,_,rfl,hj,hI,hT⟩:=hrel;have hI:CtSt B wr t g s zs l pl (k+j) nl nf tv:=hI;unfold CtSt at hI;have HI:=zh hI;have HT:=zh hT;obtain⟨kj,hkj⟩:∃kj,k+j=kj:=⟨_,rfl⟩
   rw [hkj] at HI hI;have HKJ:=zh hkj;obtain⟨c0,c2,_,_,c5,_,_⟩:=hI.obj.cells;have e5:=hI.obj.frozen 260 (by omega);by_cases hjn:j<n
   ·have hji:(j:Int)<(n:Int):=by omega
    have hks:kj<s.size:=by omega
    have hat:=ZlH s hks;obtain⟨b,hb⟩:∃b,UnM.by_ s.data.toList kj=b:=⟨_,rfl⟩
    have hb2:b<256:=by rw [<-hb];exact UnM.by_lt _ _
    rw [hb] at hat;have cb:=hI.obj.count hb2;have eb:=hI.obj.frozen (1+b) (by omega);obtain⟨p,hp⟩:∃p,UnM.cnt s.data.toList kj b=p:=⟨_,rfl⟩
    rw [hp] at cb;have hpk:p<=kj:=by rw [<-hp];exact UnM.cnt_le _ _ _
    have HNX:=zh (fun W (h:CtSt B W t g s zs l pl kj nl nf tv)=>CtSt.next h hb hp);have HBB:=zh hb;have HPP:=zh hp;obtain⟨k1,hk1⟩:∃k1,kj+1=k1:=⟨_,rfl⟩
    have hk1i:(kj:Int)+1=(k1:Int):=by omega
    have hk1w:IntKind.i64.wrap (k1:Int)=(k1:Int):=IntWalk.i64_in _ (by omega);obtain⟨p1,hp1⟩:∃p1,p+1=p1:=⟨_,rfl⟩
    have hp1i:(p:Int)+1=(p1:Int):=by omega
    have hp1w:IntKind.i64.wrap (p1:Int)=(p1:Int):=IntWalk.i64_in _ (by omega);have HK1:=zh (And.intro hk1 hp1);clear hI hT hb hp hkj hk1 hp1;go_wp2_with fail;have I3:=IsIn.below HI.out (Zai wr 1);obtain⟨W5,hW5⟩:∃W5,(wr.drewN 1).setCell ⟨t,1+b,none⟩ (.int .i64 (p1:Int))=W5:=⟨_,rfl⟩
    have o5:=I3.obj.setC hb2 p1;rw [hW5] at o5;obtain⟨_,_,_,_,c55,_,_⟩:=o5.cells;have e55:=o5.frozen 260 (by omega);obtain⟨W6,hW6⟩:∃W6,W5.setCell ⟨t,260,none⟩ (.int .i64 (k1:Int))=W6:=⟨_,rfl⟩
    have HF6:Hid (CtSt B W6 t g s zs l pl (k+(j+1)) nl nf tv):=zh (by
     have hf:=HNX.out _ I3;rw [HK1.out.1,HK1.out.2,hW5,hW6] at hf
     have ek:k+(j+1)=k1:=by
      have h1:=HK1.out.1;have h2:=HKJ.out;omega
     rw [ek];exact hf)
    have HT6:Hid (Touch (·=t) w W6):=zh (by
     rw [<-hW6,<-hW5];exact Zaa (Zaa (HT.out.trans (Zad _ wr 1) (fun _ h=>Or.inl h))))
    have hix:=fun W=>ZtW t hb2 W
    clear I3 o5
    go_still_tail 18,(by kernel_rfl)
    change wpList _ _ _ _ _ (wr.drewN 1);go_wp2_with fail;go_roundw
    case rel=>exact⟨j+1,0,by go_num,by omega,HF6.out,HT6.out⟩
    case measure=>simp [intOf];omega
   ·have hji:¬(j:Int)<(n:Int):=by omega
    have HE:Hid (kj=k+n):=zh (by omega);clear hI hT hkj;by_cases hkn2:k+n=s.size
    ·have hE:((kj:Int)==(s.size:Int))=true:=by have he:=HE.out;rw [beq_iff_eq];omega
     have HL:Hid (kj=s.data.toList.length):=zh (by have he:=HE.out;rw [Zfz];omega)
     have HCS:Hid (cntS s.data.toList s.size (k+n)=UnM.nxt s.data.toList 0):=zh (by
      unfold cntS;rw [if_pos hkn2])
     clear hkn2;go_wp2_with fail
     go_quiet (fail)
     have HI2:Hid (CtSt B (wr.drewN nq) t g s zs l pl kj nl nf tv):=zh (IsIn.below HI.out (Zai wr nq));have HT2:Hid (Touch (·=t) w (wr.drewN nq)):=zh (HT.out.trans (Zad _ wr nq) (fun _ h=>Or.inl h));clear HI HT c0 c2 c5 e5;generalize wr.drewN nq=wb at *;have hld:=InObj.counts HI2.out.obj;rw [show(cellsF 256 fun b=>Value.int .i64 (UnM.cnt s.data.toList kj b:Int))=cellsF 256 (cntF s.data.toList 0) from ZcI (fun b hb=>by rw [ZoF,HL.out])] at hld;have HFI:=zh (ZiI s.data.toList wb (by rw [Zfz];exact hs));have HX:=zh (fun b hb=>ZqR s.data.toList b hb);obtain⟨A,hA⟩:∃A,cellsF 256 (cntF s.data.toList 0)=A:=⟨_,rfl⟩
     rw [hA] at hld HFI;clear hA;go_wp2_with (refine Zf8 rfl 253 _ rfl ⟨t,1,none⟩ rfl _ hld ?_);refine HFI.out.mono ?_;rintro e w1 ⟨rfl,hb1⟩;have HI3:=zh (IsIn.below HI2.out hb1);have HT3:Hid (Touch (·=t) w w1):=zh (HT2.out.trans (Touch.ofBelow (S:=fun _=>False) hb1) (fun _ h=>absurd h (fun h=>h)));obtain⟨G,hst,hob⟩:=InObj.setAll (D:=UnM.nxt s.data.toList 0) HI3.out.obj (cntF s.data.toList 256) HX.out;obtain⟨A2,hA2⟩:∃A2,cellsF 256 (cntF s.data.toList 256)=A2:=⟨_,rfl⟩
     rw [hA2] at hst ⊢;have ht4:Touch (·=t) w1 (w1.setRow t G):=⟨rfl,rfl,rfl,by simp [World.setRow],fun j _ hj=>setRow_other w1 t j _ hj⟩
     have HR:=zh (IsIn.own HI3.out ht4 hob);have HT4:Hid (Touch (·=t) w (w1.setRow t G)):=zh (HT3.out.trans ht4 (fun _ h=>Or.inl h));clear hb1 hA2 ht4 hob hld;go_wp2_with (refine ZfA rfl 253 _ _ rfl ⟨t,1,none⟩ rfl _ rfl hst ?_);go_ret;refine⟨rfl,?_,HT4.out⟩;rw [HCS.out,<-HE.out];exact HR.out
    ·have hE:((kj:Int)==(s.size:Int))=false:=by have he:=HE.out;rw [beq_eq_false_iff_ne];omega
     have HC:Hid (cntS s.data.toList s.size (k+n)=UnM.cnt s.data.toList kj):=zh (by
      unfold cntS;rw [if_neg hkn2,HE.out])
     go_wp2_with fail
     go_quiet (fail)
     go_wp2_with fail;go_ret;refine⟨rfl,?_,HT.out.trans (Zad _ wr _) (fun _ h=>Or.inl h)⟩;rw [HC.out,<-HE.out];exact IsIn.below HI.out (Zai _ _)
end
end
section
open Go.RowKit
section
variable {P : Program} {ops : Array Oper} {Q : Exit -> Act -> World -> Prop} {md : Region.Mode} {S : World -> Prop} {m : Nat}
def wpAnyK (P:Program) (md:Region.Mode) (ops:Array Oper) (Q:Exit->Act->World->Prop) (S:World->Prop) (m:Nat):Nat->Array Bool->Act->World->Prop
 | 0,listed,a,w=>Region.ready md ops listed=[]/\Q .normal a w
 | fuel+1,listed,a,w=>(Region.ready md ops listed=[]->Q .normal a w)/\∀i∈Region.ready md ops listed,wpOp P ops Q i (fun a' w'=>(i≠m->S w')/\wpAnyK P md ops Q S m fuel (listed.setIfInBounds i true) a' w') a w
theorem ZgE:∀(fuel:Nat) (listed:Array Bool) (a:Act) (w:World),wpAnyK P md ops Q S m fuel listed a w->wpAny P md ops Q fuel listed a w
 | 0,_,_,_,h=>h
 | fuel+1,_,_,_,h=>⟨h.1,fun i hi=>wpOp_mono (fun a' w' h'=>ZgE fuel _ a' w' h'.2) (h.2 i hi)⟩
def waitsB (md:Region.Mode) (ops:Array Oper) (m i:Nat):Bool:=((ops[m]?).map (fun o=>o.after.any fun e=>Region.binds md e && e.on==i)).getD false
theorem ZsH {i:Nat} {listed:Array Bool} (hw:waitsB md ops m i=true) (hi:i∈Region.ready md ops listed):m∉Region.ready md ops listed:=fun hm=>by
 obtain⟨_,o,ho,hall⟩:=mem_ready.1 hm;have h0:=(mem_ready.1 hi).1;unfold waitsB at hw;rw [ho] at hw;simp only [Option.map_some,Option.getD_some,Array.any_eq_true,Bool.and_eq_true,beq_iff_eq] at hw;obtain⟨k,hk,hb,hon⟩:=hw;have h1:=hall _ (Array.getElem_mem hk) hb;rw [hon] at h1;rcases Nat.lt_or_ge i listed.size with c|c
 ·rw [Array.getD_eq_getD_getElem?,Array.getElem?_eq_getElem c] at h0 h1;simp at h0 h1;rw [h0] at h1;cases h1
 ·rw [Array.getD_eq_getD_getElem?,Array.getElem?_eq_none c] at h1;cases h1
theorem ZiK {i:Nat} {oi:Oper} {v:Value} (hi:ops[i]?=some oi) (hsel:∀(j:Nat) (o:Oper) cs b,ops[j]?=some o->o.op≠.select cs b)
  (hQ:∀c a w,Q (.panic c) (a.put oi.dst v) w->Q (.panic c) a w) (hwait:waitsB md ops m i=true) :
  ∀(fuel:Nat) (listed:Array Bool) (a:Act) (w:World),
   (∀j oj,ops[j]?=some oj->j≠i->listed.getD j true=false->(∀e∈oj.after,Region.binds md e=true->e.on≠i)->oi.apart ops oj=true) ->
   i∈Region.ready md ops listed->YieldsIf P ops S oi v a->S w ->
   wpAnyK P md ops Q S m fuel (listed.setIfInBounds i true) (a.put oi.dst v) w->wpAnyK P md ops Q S m (fuel+1) listed a w:=fun fuel=>by
 induction fuel with
 | zero=>
  intro listed a w _ hr hy hS H;refine⟨fun h=>absurd (h▸hr) (by simp),fun j hj=>?_⟩;by_cases e:j=i
  ·subst e;exact hy.wpOp hi hS ⟨fun _=>hS,H⟩
  ·exact absurd (H.1▸ready_mono hj e) (by simp)
 | succ fuel ih=>
  intro listed a w hfree hr hy hS H;refine⟨fun h=>absurd (h▸hr) (by simp),fun j hj=>?_⟩;by_cases e:j=i
  ·subst e;exact hy.wpOp hi hS ⟨fun _=>hS,H⟩
  ·have hjm:j≠m:=fun g=>ZsH hwait hr (g▸hj)
   obtain⟨hun,oj,hoj,hall⟩:=mem_ready.1 hj
   have hno:∀d∈oj.after,Region.binds md d=true->d.on≠i:=fun d hd hb g=>by
    have h1:=hall d hd hb;have h0:=(mem_ready.1 hr).1;rw [g] at h1;rcases Nat.lt_or_ge i listed.size with c|c
    ·rw [Array.getD_eq_getD_getElem?,Array.getElem?_eq_getElem c] at h0 h1;simp at h0 h1;rw [h0] at h1;cases h1
    ·rw [Array.getD_eq_getD_getElem?,Array.getElem?_eq_none c] at h1;cases h1
   have h2:=wpOp_putIf hoj (hfree j oj hoj e hun hno) (fun cs b=>hsel i oi cs b hi) (fun cs b=>hsel j oj cs b hoj) hQ hy (H.2 j (ready_mono hj e));refine wpOp_mono (fun a' w' h3=>⟨h3.2.1,ih (listed.setIfInBounds j true) a' w' (fun k ok hk hki hu hn=>hfree k ok hk hki ?_ hn) (ready_mono hr (fun g=>e g.symm)) h3.1 (h3.2.1 hjm) ?_⟩) h2
   ·by_cases g:j=k
    ·rw [<-g];exact hun
    ·rw [getD_set_ne true g] at hu;exact hu
   ·rw [Array.setIfInBounds_comm _ _ e];exact h3.2.2
theorem Zag {i:Nat} {oi:Oper} {v:Value} {fuel:Nat} {listed:Array Bool} {a:Act} {w:World} (hi:ops[i]?=some oi)
  (hs:Region.noSelect ops=true) (hf:Region.free md ops listed i=true) (hr:(Region.ready md ops listed).contains i=true) (hwait:waitsB md ops m i=true)
  (hQ:∀c a w,Q (.panic c) (a.put oi.dst v) w->Q (.panic c) a w) (hy:YieldsIf P ops S oi v a) (hS:S w)
  (h:wpAnyK P md ops Q S m fuel (listed.setIfInBounds i true) (a.put oi.dst v) w):wpAnyK P md ops Q S m (fuel+1) listed a w:=
 ZiK hi (Region.noSelect_spec hs) hQ hwait fuel listed a w (Region.free_spec hi hf) (by simpa using hr) hy hS h
theorem Zao {rs:List Nat} {fuel:Nat} {listed:Array Bool} {a:Act} {w:World} (hr:Region.ready md ops listed=rs) (hne:rs≠[])
  (h:∀i∈rs,wpOp P ops Q i (fun a' w'=>(i≠m->S w')/\wpAnyK P md ops Q S m fuel (listed.setIfInBounds i true) a' w') a w):wpAnyK P md ops Q S m (fuel+1) listed a w:=⟨fun h0=>absurd (hr▸h0) hne,hr▸h⟩
theorem ZaJ {i:Nat} {o:Oper} {a:Act} {w:World} {K:Act->World->Prop} (hi:ops[i]?=some o) (h:∀K':Act->World->Prop,(∀a w,K a w->K' a w)->if Region.wanted o (yielded ops a.tmps)=true then Oper.wp P o a w K' Q else K' (a.put o.dst undef) w):wpOp P ops Q i K a w:=by
 have h2:=h K (fun _ _ h=>h);unfold wpOp;simp only [hi];split
 ·rename_i hw;rw [if_pos hw] at h2;exact Or.inl h2
 ·rename_i hw;rw [if_neg hw] at h2;exact h2
theorem Zdf {listed:Array Bool} {a:Act} {w:World} (hr:Region.ready md ops listed=[]) (h:Q .normal a w):∀fuel,wpAnyK P md ops Q S m fuel listed a w
 | 0=>⟨hr,h⟩
 | _+1=>⟨fun _=>h,fun i hi=>by rw [hr] at hi;cases hi⟩
theorem Zdg {id:Nat} {l:List Oper} {a:Act} {w:World} (m:Nat) (S:World->Prop) (hm:P.follows .mixedOrders=true)
  (h:wpAnyK P .any l.toArray Q S m l.length (Array.replicate l.length false) a w.drew):(Code.region id l.toArray true).wp P Q a w:=by
 have hs:l.toArray.size=l.length:=by simp
 exact wp_region_any hm (ZgE (S:=S) (m:=m) _ _ _ _ (by rw [hs];exact h))
end
end
section
open Go.RowKit BwtM PkM
theorem IsIn.grown {B t g:Nat} {w w':World} {s:ByteArray} {C:Nat->Nat} {zs:List Int} {l l':List UInt8} {pl nc nl nf:Nat} {tv tv':Value} (h:IsIn B w t g s C zs l pl nc nl nf tv) (ht:Touch (fun k=>tv.ownBlock=some k) w w') (ho:OwnY w' B tv' l') (hv:∀k,tv'.ownBlock=some k->tv.ownBlock=some k\/w.heap.size<=k) :
  IsIn B (w'.setCell ⟨t,259,none⟩ tv') t g s C zs l' pl nc nl nf tv':=by
 have o1:=h.obj.other ht (fun e=>(h.lap t e).1 rfl);have r1:=h.row.other ht (fun e=>(h.lap g e).2 rfl);have t2:Touch (·=t) w' (w'.setCell ⟨t,259,none⟩ tv'):=Zaa (Touch.refl _ _);have lt1:=h.obj.lt;have lt2:=h.row.lt
 have hlap:∀j,tv'.ownBlock=some j->j≠t/\j≠g:=fun j hj=>by
  rcases hv j hj with e|e
  ·exact h.lap j e
  ·exact⟨by omega,by omega⟩
 exact⟨o1.set259 tv',r1.other t2 h.gt,h.len,ho.same (fun k hk=>t2.block k (ho.lt k hk).2 (hlap k hk).1),h.gt,hlap,h.base,h.gase⟩
def FwSt (v0:Value) (w0:World) (B:Nat) (w:World) (t g:Nat) (s:ByteArray) (C:Nat->Nat) (K:List Nat) (l:List UInt8) (o nc nl nf j:Nat):Prop:=∃tv,(∀k,tv.ownBlock=some k->v0.ownBlock=some k\/w0.heap.size<=k)/\IsIn B w t g s C (toI K) (l++BwtM.follow s.data.toList K j o) (UnM.plc K o j) nc nl (nf+j) tv
section
variable {B t g : Nat} {s : ByteArray} {C : Nat -> Nat} {K : List Nat} {l : List UInt8} {o nc nl nf : Nat}
theorem ZiL (w:World) (q:Nat) (tv0:Value) (h:IsIn B w t g s C (toI K) l o nc nl nf tv0) (hK:∀p,p<s.size->K.getD p 0<s.size) (ho:o<s.size) (hf:nf<=s.size) (hs:s.size<=100000) (hl:l.length<=100000) (hq:q<=9223372036854775807) (hbw:B<=w.heap.size) :
  Calls Tryz.prog 196 #[.pointer (some ⟨t,0,none⟩),.int .i64 (q:Int)] w fun e w'=>e=.returned (.int .i64 ((min q (s.size-nf):Nat):Int))/\FwSt tv0 w B w' t g s C K l o nc nl nf (min q (s.size-nf))/\Touch (fun x=>x=t\/tv0.ownBlock=some x) w w':=by
 obtain⟨c0,_,_,_,_,_,c7⟩:=h.obj.cells;obtain⟨d,hd⟩:∃d,s.size-nf=d:=⟨_,rfl⟩
 have hdi:(s.size:Int)-(nf:Int)=(d:Int):=by omega
 have hdw:IntKind.i64.wrap (d:Int)=(d:Int):=IntWalk.i64_in _ (by omega);obtain⟨n,hn⟩:∃n,min q d=n:=⟨_,rfl⟩
 have hnd:n<=d:=by omega
 have hnf:nf+n<=s.size:=by omega
 rw [hd,hn]
 have H0:Hid (FwSt tv0 w B w t g s C K l o nc nl nf 0):=zh ⟨tv0,fun k hk=>Or.inl hk,by
  show IsIn B w t g s C (toI K) (l++[]) o nc nl nf tv0;rw [List.append_nil];exact h⟩
 have HB0:Hid (Touch (fun x=>x=t\/tv0.ownBlock=some x) w w):=zh (Touch.refl _ _);have HK:=zh hK
 have HPL:Hid (∀j,UnM.plc K o j<s.size):=zh (fun j=>by
  induction j with
  | zero=>exact ho
  | succ i ih=>exact hK _ ih)
 have hcs:(d<q/\n=d)\/(¬d<q/\n=q):=by omega
 clear h hd hn hK;rcases hcs with⟨hdq,rfl⟩|⟨hdq,rfl⟩
 all_goals
  go_enter Tryz.func196,Tryz.ntmps196;go_wp2_with fail
  go_quiet (fail)
  go_wp2_with fail
  go_loopw [19] (fun vj wr=>∃(j m:Nat),vj=.int .i64 (j:Int)/\j<=n/\FwSt tv0 w B wr t g s C K l o nc nl nf j/\Touch (fun x=>x=t\/tv0.ownBlock=some x) w wr) (fun vj _=>n-(intOf vj).toNat)
  case atStart=>exact⟨0,0,rfl,Nat.zero_le _,(by obtain⟨tv,h0,h⟩:=H0.out;exact⟨tv,h0,h.below (Zai _ _)⟩),Zad _ _ _⟩
  case round=>
   clear H0 HB0 c0 c7;obtain⟨j,_,rfl,hj,hI,hB⟩:=hrel;have HB:=zh hB;have HF:=zh hI;by_cases hjn:j<n
   ·have hji:(j:Int)<(n:Int):=by omega
    obtain⟨tv,hV,hI⟩:=hI;have HV:=zh hV;clear hV;have HI:=zh hI;obtain⟨c0,c2,c3,_,_,_,_⟩:=hI.obj.cells;have e3:=hI.obj.frozen 258 (by omega);obtain⟨p,hp⟩:∃p,UnM.plc K o j=p:=⟨_,rfl⟩
    have hps:p<s.size:=by rw [<-hp];exact HPL.out j
    have hpi:(p:Int)<(s.size:Int):=by omega
    obtain⟨p2,hp2⟩:∃p2,K.getD p 0=p2:=⟨_,rfl⟩
    have hp2s:p2<s.size:=by rw [<-hp2];exact HK.out p hps
    have HP2:Hid (UnM.plc K o (j+1)=p2):=zh (by
     show K.getD (UnM.plc K o j) 0=p2;rw [hp,hp2])
    rw [hp] at c3;have cr:=(hI.row.cell (i:=p) (by rw [hI.len];exact hps)).1;rw [toI_getD,hp2] at cr;have I3:=hI.below (Zai wr 1);obtain⟨W5,hW5⟩:∃W5,(wr.drewN 1).setCell ⟨t,258,none⟩ (.int .i64 (p2:Int))=W5:=⟨_,rfl⟩
    have I5:=I3.own (Zaa (i:=258) (Touch.refl _ _)) (I3.obj.set258 p2);rw [hW5] at I5;have HI5:=zh I5
    have HB5:Hid (Touch (fun x=>x=t\/tv0.ownBlock=some x) w W5):=zh (by
     rw [<-hW5];exact(hB.trans (Zad _ wr 1) (fun _ h=>Or.inl h)).setCell (p:=⟨t,258,none⟩) (Or.inl (Or.inl rfl)) _)
    clear hI hB hp hp2 I3 I5;go_wp2_with fail
    go_still_tail 13,(by kernel_rfl)
    change wpList _ _ _ _ _ (wr.drewN 1);go_wp2_with fail;clear c0 c2 c3 e3 cr hW5;obtain⟨wb,rfl⟩:∃wb:World,wb=W5:=⟨_,rfl⟩
    obtain⟨c0,_,c3,c4,_,_,_⟩:=HI5.out.obj.cells;obtain⟨a4,cap4,hv4⟩:=HI5.out.told.slice;subst hv4;obtain⟨L,hL⟩:∃L,(l++BwtM.follow s.data.toList K j o).length=L:=⟨_,rfl⟩
    rw [hL] at c4 HI5 HV;have HLL:=zh hL
    have hLb:L<=1000000:=by
     rw [<-hL,List.length_append,UnM.follow_len];omega
    have hat:=ZlH s hp2s;obtain⟨y,hy⟩:∃y:UInt8,s.data.toList.getD p2 0=y:=⟨_,rfl⟩
    have hby:UnM.by_ s.data.toList p2=y.toNat:=by unfold UnM.by_;rw [hy]
    rw [hby] at hat;have HY:=zh hy;have hp2i:(p2:Int)<(s.size:Int):=by omega
    clear hL hy hby;have hSS:(fun W:World=>W.cell? ⟨t,259,none⟩=some (.slice a4 L cap4)/\W.cell? ⟨t,0,none⟩=some (.string s)/\W.cell? ⟨t,258,none⟩=some (.int .i64 (p2:Int))) wb.drew:=⟨c4,c0,c3⟩
    have hLT:t<wb.drew.heap.size:=HI5.out.obj.lt
    have hSX:(fun W:World=>W.cell? ⟨t,259,none⟩=some (.slice a4 L cap4)/\W.cell? ⟨t,0,none⟩=some (.string s)/\W.cell? ⟨t,258,none⟩=some (.int .i64 (p2:Int))) (wb.drew.alloc (.cells #[.int .u8 (y.toNat:Int)] 5)):=
     ⟨(World.cell?_alloc_some wb.drew _ _ (by rw [hSS.1];rfl)).trans hSS.1,(World.cell?_alloc_some wb.drew _ _ (by rw [hSS.2.1];rfl)).trans hSS.2.1,(World.cell?_alloc_some wb.drew _ _ (by rw [hSS.2.2];rfl)).trans hSS.2.2⟩
    refine Zdg 18 (fun W:World=>W.cell? ⟨t,259,none⟩=some (.slice a4 L cap4)/\W.cell? ⟨t,0,none⟩=some (.string s)/\W.cell? ⟨t,258,none⟩=some (.int .i64 (p2:Int))) (by kernel_rfl) ?_;refine Zag (i:=0) rfl (by kernel_rfl) (by kernel_rfl) (by kernel_rfl) (by kernel_rfl) (fun _ _ _ h=>h) (v:=?_) (Or.inl ⟨by rfl,?_⟩) hSS ?_;rotate_left
    ·rintro W ⟨k4,k0,k3⟩
     go_simp
     try with_reducible rfl
    try simp only [Act.put,List.setIfInBounds_toArray,List.set_cons_zero,List.set_cons_succ]
    refine Zag (i:=1) rfl (by kernel_rfl) (by kernel_rfl) (by kernel_rfl) (by kernel_rfl) (fun _ _ _ h=>h) (v:=?_) (Or.inl ⟨by rfl,?_⟩) hSS ?_;rotate_left
    ·rintro W ⟨k4,k0,k3⟩
     go_simp
     try with_reducible rfl
    try simp only [Act.put,List.setIfInBounds_toArray,List.set_cons_zero,List.set_cons_succ]
    refine Zag (i:=2) rfl (by kernel_rfl) (by kernel_rfl) (by kernel_rfl) (by kernel_rfl) (fun _ _ _ h=>h) (v:=?_) (Or.inl ⟨by rfl,?_⟩) hSS ?_;rotate_left
    ·rintro W ⟨k4,k0,k3⟩
     go_simp
     try with_reducible rfl
    try simp only [Act.put,List.setIfInBounds_toArray,List.set_cons_zero,List.set_cons_succ]
    refine Zag (i:=3) rfl (by kernel_rfl) (by kernel_rfl) (by kernel_rfl) (by kernel_rfl) (fun _ _ _ h=>h) (v:=?_) (Or.inl ⟨by rfl,?_⟩) hSS ?_;rotate_left
    ·rintro W ⟨k4,k0,k3⟩
     go_simp
     try with_reducible rfl
    try simp only [Act.put,List.setIfInBounds_toArray,List.set_cons_zero,List.set_cons_succ]
    refine Zag (i:=4) rfl (by kernel_rfl) (by kernel_rfl) (by kernel_rfl) (by kernel_rfl) (fun _ _ _ h=>h) (v:=?_) (Or.inl ⟨by rfl,?_⟩) hSS ?_;rotate_left
    ·rintro W ⟨k4,k0,k3⟩
     go_simp
     try with_reducible rfl
    try simp only [Act.put,List.setIfInBounds_toArray,List.set_cons_zero,List.set_cons_succ]
    refine Zag (i:=5) rfl (by kernel_rfl) (by kernel_rfl) (by kernel_rfl) (by kernel_rfl) (fun _ _ _ h=>h) (v:=?_) (Or.inl ⟨by rfl,?_⟩) hSS ?_;rotate_left
    ·rintro W ⟨k4,k0,k3⟩
     go_simp
     try with_reducible rfl
    try simp only [Act.put,List.setIfInBounds_toArray,List.set_cons_zero,List.set_cons_succ]
    refine Zag (i:=6) rfl (by kernel_rfl) (by kernel_rfl) (by kernel_rfl) (by kernel_rfl) (fun _ _ _ h=>h) (v:=?_) (Or.inl ⟨by rfl,?_⟩) hSS ?_;rotate_left
    ·rintro W ⟨k4,k0,k3⟩
     go_simp
     try with_reducible rfl
    try simp only [Act.put,List.setIfInBounds_toArray,List.set_cons_zero,List.set_cons_succ]
    refine Zag (i:=7) rfl (by kernel_rfl) (by kernel_rfl) (by kernel_rfl) (by kernel_rfl) (fun _ _ _ h=>h) (v:=?_) (Or.inl ⟨by rfl,?_⟩) hSS ?_;rotate_left
    ·rintro W ⟨k4,k0,k3⟩
     go_simp
     try with_reducible rfl
    try simp only [Act.put,List.setIfInBounds_toArray,List.set_cons_zero,List.set_cons_succ]
    refine Zag (i:=8) rfl (by kernel_rfl) (by kernel_rfl) (by kernel_rfl) (by kernel_rfl) (fun _ _ _ h=>h) (v:=?_) (Or.inl ⟨by rfl,?_⟩) hSS ?_;rotate_left
    ·rintro W ⟨k4,k0,k3⟩
     go_simp
     try with_reducible rfl
    try simp only [Act.put,List.setIfInBounds_toArray,List.set_cons_zero,List.set_cons_succ]
    refine Zag (i:=9) rfl (by kernel_rfl) (by kernel_rfl) (by kernel_rfl) (by kernel_rfl) (fun _ _ _ h=>h) (v:=?_) (Or.inl ⟨by rfl,?_⟩) hSS ?_;rotate_left
    ·rintro W ⟨k4,k0,k3⟩
     go_simp
     try with_reducible rfl
    try simp only [Act.put,List.setIfInBounds_toArray,List.set_cons_zero,List.set_cons_succ]
    refine Zag (i:=10) rfl (by kernel_rfl) (by kernel_rfl) (by kernel_rfl) (by kernel_rfl) (fun _ _ _ h=>h) (v:=?_) (Or.inl ⟨by rfl,?_⟩) hSS ?_;rotate_left
    ·rintro W ⟨k4,k0,k3⟩
     go_simp
     try with_reducible rfl
    try simp only [Act.put,List.setIfInBounds_toArray,List.set_cons_zero,List.set_cons_succ]
    refine Zag (i:=11) rfl (by kernel_rfl) (by kernel_rfl) (by kernel_rfl) (by kernel_rfl) (fun _ _ _ h=>h) (v:=?_) (Or.inl ⟨by rfl,?_⟩) hSS ?_;rotate_left
    ·rintro W ⟨k4,k0,k3⟩
     go_simp
     try with_reducible rfl
    try simp only [Act.put,List.setIfInBounds_toArray,List.set_cons_zero,List.set_cons_succ]
    refine Zag (i:=12) rfl (by kernel_rfl) (by kernel_rfl) (by kernel_rfl) (by kernel_rfl) (fun _ _ _ h=>h) (v:=?_) (Or.inl ⟨by rfl,?_⟩) hSS ?_;rotate_left
    ·rintro W ⟨k4,k0,k3⟩
     go_simp
     try with_reducible rfl
    try simp only [Act.put,List.setIfInBounds_toArray,List.set_cons_zero,List.set_cons_succ]
    refine Zao (rs:=[13]) (by kernel_rfl) (by simp) ?_;intro i hi;simp only [List.mem_cons,List.not_mem_nil,or_false] at hi;subst hi;refine ZaJ rfl ?_;intro KC hKC
    go_simp
    refine hKC _ _ ⟨fun _=>hSS,?_⟩
    try simp only [Act.put,List.setIfInBounds_toArray,List.set_cons_zero,List.set_cons_succ]
    clear hKC;refine Zao (rs:=[14]) (by kernel_rfl) (by simp) ?_;intro i hi;simp only [List.mem_cons,List.not_mem_nil,or_false] at hi;subst hi;refine ZaJ rfl ?_;intro KC hKC
    go_simp
    refine hKC _ _ ⟨fun _=>hSX,?_⟩
    try simp only [Act.put,List.setIfInBounds_toArray,List.set_cons_zero,List.set_cons_succ]
    clear hKC;refine Zao (rs:=[15]) (by kernel_rfl) (by simp) ?_;intro i hi;simp only [List.mem_cons,List.not_mem_nil,or_false] at hi;subst hi;refine ZaJ rfl ?_;intro KC hKC;have HOWN:Hid (OwnY (wb.drew.alloc (.cells #[.int .u8 (y.toNat:Int)] 5)) B (.slice a4 L cap4) (l++BwtM.follow s.data.toList K j o)):=zh (World.ownsRow.alloc (show wb.drew.ownsRow B 5 1 (.slice a4 L cap4) _ _ from HI5.out.told) _)
    have HBX:Hid ((wb.drew.alloc (.cells #[.int .u8 (y.toNat:Int)] 5)).cell? ⟨wb.heap.size,0,none⟩=some (u8v y)):=zh (by
     have:=cell_of_row _ _ 0 _ _ _ (heap_alloc_new wb.drew (.cells #[.int .u8 (y.toNat:Int)] 5));exact this)
    have HBZ:Hid (B<=(wb.drew.alloc (.cells #[.int .u8 (y.toNat:Int)] 5)).heap.size):=zh (by
     have h1:=HB5.out.size;have h2:wb.drew.heap.size=wb.heap.size:=rfl;simp;omega)
    refine ZbP (wb.drew.alloc (.cells #[.int .u8 (y.toNat:Int)] 5)) (by rfl) _ _ (by rfl) B wb.heap.size (.slice a4 L cap4) (l++BwtM.follow s.data.toList K j o) y HOWN.out (by rfl) (by rfl) HBX.out (by rw [HLL.out];exact hLb) HBZ.out ?_;intro v' w6 hO6 hB6 hk6 hf6;have hz:(wb.drew.alloc (.cells #[.int .u8 (y.toNat:Int)] 5)).heap.size=wb.heap.size+1:=by show(wb.heap.push _).size=_;simp
    have kt:w6.heap[t]?=wb.heap[t]?:=(hk6 t (by rw [hz];exact Nat.lt_succ_of_lt hLT) (fun e=>(HI5.out.lap t e).1 rfl)).trans (Zam (w:=wb.drew) hLT);have hS6:(fun W:World=>W.cell? ⟨t,259,none⟩=some (.slice a4 L cap4)/\W.cell? ⟨t,0,none⟩=some (.string s)/\W.cell? ⟨t,258,none⟩=some (.int .i64 (p2:Int))) w6:=⟨(World.cell?_of_block (w:=wb) (a:=⟨t,259,none⟩) kt).trans c4,(World.cell?_of_block (w:=wb) (a:=⟨t,0,none⟩) kt).trans c0,(World.cell?_of_block (w:=wb) (a:=⟨t,258,none⟩) kt).trans c3⟩
    have f4:w6.cell? ⟨t,259,none⟩=some (.slice a4 L cap4):=hS6.1;have g4:w6.frozen? ⟨t,259,none⟩=false:=(World.frozen?_of_block (w:=wb) (a:=⟨t,259,none⟩) kt).trans (HI5.out.obj.frozen 259 (by omega));refine hKC _ _ ⟨fun _=>hS6,?_⟩
    try simp only [Act.put,List.setIfInBounds_toArray,List.set_cons_zero,List.set_cons_succ]
    clear hKC;have HTB:Hid (Touch (fun k=>(Value.slice a4 L cap4).ownBlock=some k) wb w6):=zh ⟨hB6.os,hB6.tape,hB6.output,by have:=hB6.size;omega,fun k hk hn=>(hk6 k (by omega) hn).trans (Zam (w:=wb.drew) hk)⟩;have HI6:=zh (HI5.out.grown HTB.out hO6 (fun k hk=>(hf6 k hk).imp id (fun h=>by omega)));obtain⟨W7,hW7⟩:∃W7,(w6.setCell ⟨t,259,none⟩ v')=W7:=⟨_,rfl⟩
    have hb6:Touch (fun x=>x=t\/tv0.ownBlock=some x) w W7:=by
     rw [<-hW7];exact(HB5.out.trans HTB.out (fun x hx=>(HV.out x hx).imp Or.inr id)).setCell (p:=⟨t,259,none⟩) (Or.inl (Or.inl rfl)) _
    have HV7:Hid (∀k,v'.ownBlock=some k->tv0.ownBlock=some k\/w.heap.size<=k):=zh (fun k hk=>by
     have hsz:=HB5.out.size;have hs2:w.heap.size<=wb.heap.size:=hsz;rcases hf6 k hk with e|e
     ·exact HV.out k e
     ·exact Or.inr (by omega))
    have HB6:=zh hb6;rw [hW7] at HI6;obtain⟨_,_,_,_,_,_,c7⟩:=HI6.out.obj.cells;have e7:=HI6.out.obj.frozen 262 (by omega);obtain⟨f,hf2⟩:∃f,nf+j=f:=⟨_,rfl⟩
    rw [hf2] at c7;have hfi:(f:Int)+1=((f+1:Nat):Int):=by omega
    have hfw:IntKind.i64.wrap ((f+1:Nat):Int)=((f+1:Nat):Int):=IntWalk.i64_in _ (by omega);obtain⟨f1,hf1⟩:∃f1,f+1=f1:=⟨_,rfl⟩
    rw [hf1] at hfi hfw
    have HF8:Hid (FwSt tv0 w B (W7.setCell ⟨t,262,none⟩ (.int .i64 (f1:Int))) t g s C K l o nc nl nf (j+1)):=zh (by
     have h8:=HI6.out.own (Zaa (i:=262) (Touch.refl _ _)) (HI6.out.obj.set262 f1);refine⟨v',HV7.out,?_⟩;rw [UnM.follow_next,HP2.out,HY.out,<-List.append_assoc,show nf+(j+1)=f1 by omega];exact h8)
    have HB8:Hid (Touch (fun x=>x=t\/tv0.ownBlock=some x) w (W7.setCell ⟨t,262,none⟩ (.int .i64 (f1:Int)))):=zh (HB6.out.setCell (p:=⟨t,262,none⟩) (Or.inl (Or.inl rfl)) _);obtain⟨va,vc,hve⟩:=hO6.slice;obtain⟨vl,hvl⟩:∃vl,(l++BwtM.follow s.data.toList K j o++[y]).length=vl:=⟨_,rfl⟩
    rw [hvl] at hve;subst hve;clear hvl hf2 hf1 hb6;refine Zao (rs:=[16]) (by kernel_rfl) (by simp) ?_;intro i hi;simp only [List.mem_cons,List.not_mem_nil,or_false] at hi;subst hi;refine ZaJ rfl ?_;intro KC hKC
    go_simp
    refine hKC _ _ ⟨fun _=>hS6,?_⟩
    try simp only [Act.put,List.setIfInBounds_toArray,List.set_cons_zero,List.set_cons_succ]
    clear hKC;refine Zao (rs:=[17]) (by kernel_rfl) (by simp) ?_;intro i hi;simp only [List.mem_cons,List.not_mem_nil,or_false] at hi;subst hi;refine ZaJ rfl ?_;intro KC hKC
    go_simp
    refine hKC _ _ ⟨fun _=>hS6,?_⟩
    try simp only [Act.put,List.setIfInBounds_toArray,List.set_cons_zero,List.set_cons_succ]
    clear hKC;refine Zao (rs:=[18]) (by kernel_rfl) (by simp) ?_;intro i hi;simp only [List.mem_cons,List.not_mem_nil,or_false] at hi;subst hi;refine ZaJ rfl ?_;intro KC hKC
    go_simp
    refine hKC _ _ ⟨fun h=>absurd rfl h,?_⟩;refine Zdf (by kernel_rfl) ?_ _;clear f4 g4 hSS hSX kt hz;go_wp2_with fail;go_roundw
    case rel=>exact⟨j+1,0,by go_num,by omega,HF8.out,HB8.out⟩
    case measure=>simp [intOf];omega
   ·have hji:¬(j:Int)<(n:Int):=by omega
    have hje:j=n:=by omega
    have HE:=zh hje;clear hI hB hje;go_wp2_with fail;go_ret;exact⟨rfl,by rw [<-HE.out];exact HF.out,HB.out⟩
end
end
end Go.Proofs.YtnachbjhhpnadaaGreatDoor

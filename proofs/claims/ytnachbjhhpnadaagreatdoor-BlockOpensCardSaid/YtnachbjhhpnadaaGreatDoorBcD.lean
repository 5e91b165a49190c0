import Derived.Test.YtnachbjhhpnadaaGreatDoorBcA
import Derived.Test.YtnachbjhhpnadaaGreatDoorBcB
import Derived.Test.YtnachbjhhpnadaaGreatDoorBcC
import Derived.BigQuiet
import Derived.Deep.AppendSrc
import Derived.Deep.Upon
import Derived.StillTailTactics
import Derived.WalkKit
import Derived.ProofKit
import Derived.OpenShut
import Derived.ShutString
import Derived.ChangeOld
import Derived.Below
import Derived.Lib.Hide
import Derived.Lib.SmallJoins
import Derived.Deep.Slices
set_option linter.unusedVariables false
set_option linter.unusedSimpArgs false
set_option maxHeartbeats 8000000
set_option maxRecDepth 100000
namespace Go.Proofs.YtnachbjhhpnadaaGreatDoor
section
open Go.RowKit BitM
def padding (q:List Bool):List Bool:=field 0 ((8-q.length % 8) % 8)
theorem Zg3 (b:Nat) (v:Value) (q:List Bool) (tk:Nat) (w:World) (h:IsWriter w b v q tk) (hq:q.length<=1099511627776) :
  Calls Tryz.prog 15 #[.pointer (some ⟨b,0,none⟩)] w fun e w'=>
   e=.returned (.tuple #[])/\∃v1,IsWriter w' b v1 (q++padding q) tk/\Touch (foot b v) w w'/\(∀k,v1.ownBlock=some k->v.ownBlock=some k\/w.heap.size<=k):=by
 have H:=zh h;clear h;go_enter Tryz.func15,Tryz.ntmps15;go_wp2_with fail;refine(ZeK b v q tk w H.out).mono ?_;rintro e w' ⟨rfl,rfl⟩;go_wp2_with fail;refine(Zcz _ q.length rfl _ (by omega)).mono ?_;rintro e w' ⟨rfl,rfl⟩;go_wp2_with fail;refine(ZdX b v q tk 0 ((8-q.length % 8) % 8) w H.out (by omega) (Nat.two_pow_pos _) hq).mono ?_;rintro e w' ⟨rfl,hp⟩;have HP:=zh hp;clear hp;go_wp2_with fail;go_end0;exact⟨rfl,HP.out⟩
def IsRowB (w:World) (v:Value) (l:List UInt8):Prop:=
 (v=.slice none 0 0/\l=[])\/∃g off cap,v=.slice (some ⟨g,off,none⟩) l.length cap/\g<w.heap.size/\l.length<=cap/\cap<=maxLen /\
  (∀(i:Nat) (x:UInt8),l[i]?=some x->w.cell? ⟨g,off+i,none⟩=some (u8v x))/\(∀i,i<cap->∃n,w.cell? ⟨g,off+i,none⟩=some (.int .u8 n))/\(∀i,i<cap->w.frozen? ⟨g,off+i,none⟩=false)
def IsReader (w:World) (b:Nat) (v:Value) (l:List UInt8) (dr sp p:Nat):Prop:=
 w.heap[b]?=some (.cells #[v,.int .i64 (dr:Int),.int .i64 (sp:Int),.int .i64 (p:Int)] 91 (0,0))/\IsRowB w v l/\(∀k,v.ownBlock=some k->b≠k)/\8*dr<=p/\p<=8*(dr+l.length)
theorem IsReader.cells {w:World} {b:Nat} {v:Value} {l:List UInt8} {dr sp p:Nat} (h:IsReader w b v l dr sp p) :
  w.cell? ⟨b,0,none⟩=some v/\w.cell? ⟨b,1,none⟩=some (.int .i64 (dr:Int))/\w.cell? ⟨b,2,none⟩=some (.int .i64 (sp:Int))/\w.cell? ⟨b,3,none⟩=some (.int .i64 (p:Int)) /\
  w.frozen? ⟨b,0,none⟩=false/\w.frozen? ⟨b,1,none⟩=false/\w.frozen? ⟨b,2,none⟩=false/\w.frozen? ⟨b,3,none⟩=false:=by
 have h:=h.1;refine⟨?_,?_,?_,?_,frozen_of_row _ _ _ _ _ h,frozen_of_row _ _ _ _ _ h,frozen_of_row _ _ _ _ _ h,frozen_of_row _ _ _ _ _ h⟩<;>(rw [cell_of_row _ _ _ _ _ _ h];rfl)
theorem IsRowB.slice {w:World} {v:Value} {l:List UInt8} (h:IsRowB w v l):∃a cap,v=.slice a l.length cap/\l.length<=cap/\cap<=maxLen:=by
 rcases h with⟨rfl,rfl⟩|⟨g,off,cap,rfl,_,h1,h2,_⟩
 ·exact⟨none,0,rfl,Nat.le_refl _,by decide⟩
 ·exact⟨_,cap,rfl,h1,h2⟩
theorem IsRowB.cell {w:World} {v:Value} {l:List UInt8} (h:IsRowB w v l) {i:Nat} {x:UInt8} (hx:l[i]?=some x):∃g off cap,v=.slice (some ⟨g,off,none⟩) l.length cap/\w.cell? ⟨g,off+i,none⟩=some (.int .u8 (x.toNat:Int)):=by
 rcases h with⟨rfl,rfl⟩|⟨g,off,cap,rfl,hg,h1,h2,hc,_⟩
 ·simp at hx
 ·exact⟨g,off,cap,rfl,hc i x hx⟩
theorem IsRowB.other {w w':World} {v:Value} {l:List UInt8} (h:IsRowB w v l) (he:∀k,v.ownBlock=some k->w'.heap[k]?=w.heap[k]?):IsRowB w' v l:=by
 rcases h with h|⟨g,off,cap,rfl,hg,h1,h2,hc,ha,hf⟩
 ·exact Or.inl h
 ·have e:=he g rfl;refine Or.inr ⟨g,off,cap,rfl,(Array.getElem?_eq_some_iff.1 (e.trans (Array.getElem?_eq_getElem hg))).1,h1,h2,fun i x hx=>?_,fun i hi=>?_,fun i hi=>?_⟩
  ·rw [World.cell?_of_block (w:=w) (a:=⟨g,off+i,none⟩) e];exact hc i x hx
  ·rw [World.cell?_of_block (w:=w) (a:=⟨g,off+i,none⟩) e];exact ha i hi
  ·rw [World.frozen?_of_block (w:=w) (a:=⟨g,off+i,none⟩) e];exact hf i hi
theorem IsRowB.lt {w:World} {v:Value} {l:List UInt8} (h:IsRowB w v l):∀k,v.ownBlock=some k->k<w.heap.size:=by
 intro k hk;rcases h with⟨rfl,_⟩|⟨g,off,cap,rfl,hg,r⟩
 ·simp [Value.ownBlock] at hk
 ·simp [Value.ownBlock] at hk;subst hk;exact hg
theorem IsReader.lt {w:World} {b:Nat} {v:Value} {l:List UInt8} {dr sp p:Nat} (h:IsReader w b v l dr sp p):∀k,foot b v k->k<w.heap.size:=by
 intro k hk;rcases hk with rfl|hk
 ·exact(Array.getElem?_eq_some_iff.1 h.1).1
 ·exact h.2.1.lt k hk
theorem IsReader.other {w w':World} {b:Nat} {v:Value} {l:List UInt8} {dr sp p:Nat} (h:IsReader w b v l dr sp p) {S:Nat->Prop} (ht:Touch S w w') (hS:∀k,foot b v k->¬S k):IsReader w' b v l dr sp p:=
 ⟨(ht.block b (h.lt b (Or.inl rfl)) (hS b (Or.inl rfl))).trans h.1,h.2.1.other (fun k hk=>ht.block k (h.lt k (Or.inr hk)) (hS k (Or.inr hk))),h.2.2⟩
theorem IsReader.at_ {w:World} {b:Nat} {v:Value} {l:List UInt8} {dr sp p:Nat} (h:IsReader w b v l dr sp p) (q:Nat) (h1:8*dr<=q) (h2:q<=8*(dr+l.length)) (Q:Int) (hQ:Q=(q:Int)) :
  IsReader (w.setCell ⟨b,3,none⟩ (.int .i64 Q)) b v l dr sp q/\Touch (·=b) w (w.setCell ⟨b,3,none⟩ (.int .i64 Q)):=by
 subst hQ;exact⟨⟨heap_setCell_same _ _ 3 _ _ _ h.1,h.2.1.other (fun k hk=>heap_setCell_other _ _ _ _ (fun e=>h.2.2.1 k hk e.symm)),h.2.2.1,h1,h2⟩,Touch.setCell (S:=(·=b)) (Touch.refl _ _) (Or.inl rfl) _⟩
theorem ZcA (b:Nat) (v:Value) (l:List UInt8) (dr sp p:Nat) (w:World) (h:IsReader w b v l dr sp p):Calls Tryz.prog 26 #[.pointer (some ⟨b,0,none⟩)] w fun e w'=>e=.returned (.int .i64 (p:Int))/\w=w':=by
 obtain⟨c0,c1,c2,c3,f0,f1,f2,f3⟩:=h.cells;clear h;go_enter Tryz.func26,Tryz.ntmps26;go_wp2;go_ret;exact⟨rfl,rfl⟩
theorem Zk5 (b:Nat) (v:Value) (l:List UInt8) (dr sp p E:Nat) (w:World) (h:IsReader w b v l dr sp p) (hs:dr+l.length<=1099511627776) (hE:8*(dr+l.length)=E) :
  Calls Tryz.prog 62 #[.pointer (some ⟨b,0,none⟩)] w fun e w'=>e=.returned (.int .i64 (E:Int))/\∃n,w'=w.drewN n:=by
 obtain⟨c0,c1,c2,c3,f0,f1,f2,f3⟩:=h.cells;obtain⟨a,cap,rfl,_,_⟩:=h.2.1.slice;clear h;have hb1:(dr:Int)<=1099511627776:=by omega
 have hb2:(l.length:Int)<=1099511627776:=by omega
 have HE:=zh (show(8:Int)*((dr:Int)+(l.length:Int))=(E:Int) by omega);clear hE;go_enter Tryz.func62,Tryz.ntmps62;go_wp2_with fail
 go_quiet (fail)
 go_wp2_with fail;go_ret;rw [HE.out];exact⟨rfl,_,rfl⟩
theorem IsReader.drewN {w:World} {b:Nat} {v:Value} {l:List UInt8} {dr sp p:Nat} (h:IsReader w b v l dr sp p) (n:Nat):IsReader (w.drewN n) b v l dr sp p:=
 h.other (Zad (fun _=>False) w n) (fun _ _ hf=>hf)
theorem Zdt (b:Nat) (v:Value) (l:List UInt8) (dr sp p L:Nat) (w:World) (h:IsReader w b v l dr sp p) (hs:dr+l.length<=1099511627776) (hL:8*(dr+l.length)-p=L) :
  Calls Tryz.prog 186 #[.pointer (some ⟨b,0,none⟩)] w fun e w'=>e=.returned (.int .i64 (L:Int))/\∃n,w'=w.drewN n:=by
 obtain⟨c0,c1,c2,c3,f0,f1,f2,f3⟩:=h.cells;have h1:=h.2.2.2.1;have h2:=h.2.2.2.2;have H:=zh h;obtain⟨E,hE⟩:∃E,8*(dr+l.length)=E:=⟨_,rfl⟩
 have hb1:(E:Int)<=8796093022208:=by omega
 have hb2:(p:Int)<=(E:Int):=by omega
 have hb3:(0:Int)<=p:=by omega
 have HE:=zh (show(E:Int)-(p:Int)=(L:Int) by omega);have HEE:=zh hE;clear h hE hL h1 h2;go_enter Tryz.func186,Tryz.ntmps186;go_wp2_with fail
 go_quiet ((go_at_call 62;exact Calls.quiet_of (Zk5 b v l dr sp p E _ (H.out.drewN _) hs HEE.out)))
 go_wp2_with fail;go_ret;rw [HE.out];exact⟨rfl,_,rfl⟩
theorem ZpR (V x:Nat) (hV:V<2^32) (hx:x<256):bits BinOp.or IntKind.u64 (IntKind.u64.wrap ((V:Int)*256)) (x:Int)=((V*256+x:Nat):Int):=by
 have e:IntKind.u64.wrap ((V:Int)*256)=((V*256:Nat):Int):=by
  simp only [IntKind.wrap,IntKind.bits,IntKind.signed];simp;omega
 rw [e,u64_or_nat _ _ (by omega) (by omega),nat_join 8 _ _ (by omega) (by omega)]
theorem Zk6 (V u n:Nat) (hV:V<2^40) (hn:n<=32):bits BinOp.and IntKind.u64 ((V:Int) / 2^u) (IntKind.u64.wrap (IntKind.u64.wrap (2^n)-1)) % 4294967296=((V / 2^u % 2^n:Nat):Int):=by
 have h32:2^n<=2^32:=Nat.pow_le_pow_right (by omega) hn;have h1:1<=2^n:=Nat.two_pow_pos n;have e0:(V:Int) / 2^u=((V / 2^u:Nat):Int):=by simp
 have hVu:V / 2^u<=V:=Nat.div_le_self _ _;have e1:(2:Int)^n=((2^n:Nat):Int):=by simp
 have e2:IntKind.u64.wrap (IntKind.u64.wrap ((2^n:Nat):Int)-1)=((2^n-1:Nat):Int):=by
  generalize 2^n=z at *;simp only [IntKind.wrap,IntKind.bits,IntKind.signed];simp;omega
 rw [e0,e1,e2,u64_and_nat _ _ (by omega) (by omega),Nat.and_two_pow_sub_one_eq_mod];have hm:V / 2^u % 2^n<2^n:=Nat.mod_lt _ (by omega);omega
theorem Znw (sub:List UInt8) (h:sub.length<=5):num (bitsOf sub)<2^40:=by
 refine Nat.lt_of_lt_of_le (ZaB _) (Nat.pow_le_pow_right (by omega) ?_);rw [Zan];omega
theorem Ztg (sub:List UInt8) (k:Nat) (hk:k<=4):num (bitsOf (sub.take k))<2^32:=by
 refine Nat.lt_of_lt_of_le (ZaB _) (Nat.pow_le_pow_right (by omega) ?_);rw [Zan,List.length_take];omega
theorem Znx (b:Nat) (v:Value) (l:List UInt8) (dr sp p n:Nat) (w:World) (h:IsReader w b v l dr sp p) (hs:dr+l.length<=1099511627776) (hn:n<=32) (hp:p+n<=8*(dr+l.length)) :
  Calls Tryz.prog 233 #[.pointer (some ⟨b,0,none⟩),.int .i64 (n:Int)] w fun e w'=>e=.returned (.int .u32 (num (((bitsOf l).drop (p-8*dr)).take n):Int))/\∃n,w'=w.drewN n:=by
 obtain⟨c0,c1,c2,c3,f0,f1,f2,f3⟩:=h.cells;have h1:=h.2.2.2.1;have HR:=zh h.2.1;obtain⟨a,cap,hv,hcap,hcm⟩:=h.2.1.slice;unfold maxLen at hcm;obtain⟨fr,hfr⟩:∃fr,p-8*dr=fr:=⟨_,rfl⟩
 rw [hfr];have hf0:(p:Int)-8*(dr:Int)=(fr:Int):=by omega
 have hb1:(dr:Int)<=1099511627776:=by omega
 have hb2:(p:Int)<=17592186044416:=by omega
 have hft:fr+n<=8*l.length:=by omega
 clear h h1 hp hfr;subst hv;have hsub:((l.drop (fr / 8)).take ((fr+n+7) / 8-fr / 8)).length=(fr+n+7) / 8-fr / 8:=by simp;omega
 have HM:=zh (ZpI l fr n hft);generalize hs0:(l.drop (fr / 8)).take ((fr+n+7) / 8-fr / 8)=sub at *;have HS0:=zh hs0;have hcnt:(fr+n+7) / 8-fr / 8<=5:=by omega
 have HSUB:=zh hsub;clear hs0 hsub;by_cases hcf:cap=fr / 8
 ·have hc0:(fr+n+7) / 8-fr / 8=0:=by omega
  go_enter Tryz.func233,Tryz.ntmps233;go_wp2_with fail
  go_quiet (fail)
  go_wp2_with fail
  go_loop [7,9,34] (fun v _ i=>∃k:Nat,k<=(fr+n+7) / 8-fr / 8/\i=.int .i64 k/\v=.int .u64 (num (bitsOf (sub.take k)):Int)) (fun _ _ i=>((fr+n+7) / 8-fr / 8)-(intOf i).toNat)
  case atStart=>exact⟨0,by omega,rfl,rfl⟩
  case round=>
   obtain⟨k,hk,rfl,rfl⟩:=hrel;by_cases hlt:k<(fr+n+7) / 8-fr / 8
   ·exfalso;omega
   ·obtain rfl:k=(fr+n+7) / 8-fr / 8:=by omega
    go_wp2_with fail;refine(Zcz _ (fr+n) (by omega) _ (by omega)).mono ?_;rintro e w' ⟨rfl,rfl⟩;go_wp2_with fail;go_ret;have hs0:sub=[]:=List.eq_nil_of_length_eq_zero (HSUB.out.trans hc0);have hm:=HM.out;rw [hs0] at hm;rw [Zk6 _ _ _ (Znw [] (by decide)) hn,hm];exact⟨rfl,_,rfl⟩
 ·go_enter Tryz.func233,Tryz.ntmps233;go_wp2_with fail
  go_quiet (fail)
  go_wp2_with fail
  go_loop [7,9,34] (fun v _ i=>∃k:Nat,k<=(fr+n+7) / 8-fr / 8/\i=.int .i64 k/\v=.int .u64 (num (bitsOf (sub.take k)):Int)) (fun _ _ i=>((fr+n+7) / 8-fr / 8)-(intOf i).toNat)
  case atStart=>exact⟨0,by omega,rfl,rfl⟩
  case round=>
   obtain⟨k,hk,rfl,rfl⟩:=hrel;by_cases hlt:k<(fr+n+7) / 8-fr / 8
   ·have hx:∃x,sub[k]?=some x:=⟨sub[k]'(by have:=HSUB.out;omega),List.getElem?_eq_getElem _⟩
    obtain⟨x,hx⟩:=hx
    have hx2:l[fr / 8+k]?=some x:=by
     have:=hx;rw [<-HS0.out,List.getElem?_take,if_pos hlt,List.getElem?_drop] at this;exact this
    obtain⟨g,off,cap2,hv2,hc2⟩:=HR.out.cell hx2;simp only [Value.slice.injEq] at hv2;obtain⟨rfl,_,_⟩:=hv2;rw [<-Nat.add_assoc] at hc2
    have HT:Hid (num (bitsOf (sub.take (k+1)))=num (bitsOf (sub.take k))*256+x.toNat):=by
     obtain⟨hk1,hk2⟩:=List.getElem?_eq_some_iff.1 hx;rw [List.take_succ_eq_append_getElem hk1,ZeV,hk2];rfl
    have hxl:=x.toNat_lt;clear hx hx2;go_wp2_with fail
    go_round
    case rel=>
     refine⟨k+1,by omega,by go_num,?_⟩;rw [ZpR _ _ (Ztg sub k (by omega)) hxl,HT.out]
    case measure=>simp [intOf];omega
   ·obtain rfl:k=(fr+n+7) / 8-fr / 8:=by omega
    go_wp2_with fail;refine(Zcz _ (fr+n) (by omega) _ (by omega)).mono ?_;rintro e w' ⟨rfl,rfl⟩;go_wp2_with fail;go_ret;have hl5:sub.length<=5:=by rw [HSUB.out];exact hcnt
    rw [List.take_of_length_le (Nat.le_of_eq HSUB.out),Zk6 _ _ _ (Znw sub hl5) hn,HM.out];exact⟨rfl,_,rfl⟩
theorem Zce (b:Nat) (v:Value) (l:List UInt8) (dr sp p n:Nat) (w:World) (h:IsReader w b v l dr sp p) (hs:dr+l.length<=1099511627776) (hn:n<=32) (hp:p+n<=8*(dr+l.length)) :
  Calls Tryz.prog 187 #[.pointer (some ⟨b,0,none⟩),.int .i64 (n:Int)] w fun e w'=>
   e=.returned (.tuple #[.int .u32 (num (((bitsOf l).drop (p-8*dr)).take n):Int),.int .i64 0])/\IsReader w' b v l dr sp (p+n)/\Touch (·=b) w w':=by
 obtain⟨c0,c1,c2,c3,f0,f1,f2,f3⟩:=h.cells;obtain⟨L,hL⟩:∃L,8*(dr+l.length)-p=L:=⟨_,rfl⟩
 have hn1:(n:Int)<=L:=by omega
 have hpp:(p:Int)<=8796093022208:=by omega
 have h8:8*dr<=p:=h.2.2.2.1;have H:=zh h;have HL:=zh hL;clear h hL;go_enter Tryz.func187,Tryz.ntmps187;go_wp2_with fail;refine(Zcy _ _ (by omega) (by omega)).mono ?_;rintro e w' ⟨rfl,rfl⟩;go_wp2_with fail;refine(Zdt b v l dr sp p L w H.out hs HL.out).mono ?_;rintro e w' ⟨rfl,m,rfl⟩;go_wp2_with fail;refine(Znx b v l dr sp p n _ (H.out.drewN m) hs hn hp).mono ?_;rintro e w' ⟨rfl,m2,rfl⟩;go_wp2_with fail;go_ret2;obtain⟨d1,d2⟩:=(H.out.drewN (m+m2)).at_ (p+n) (by omega) hp ((p:Int)+(n:Int)) (by omega);exact⟨rfl,d1,(Zad (·=b) w (m+m2)).trans d2 (fun i hi=>Or.inl hi)⟩
theorem Zdu (b:Nat) (v:Value) (l:List UInt8) (dr sp p n:Nat) (w:World) (h:IsReader w b v l dr sp p) (hs:dr+l.length<=1099511627776) (hn:n<=32) (hp:8*(dr+l.length)<p+n) :
  Calls Tryz.prog 187 #[.pointer (some ⟨b,0,none⟩),.int .i64 (n:Int)] w fun e w'=>e=.returned (.tuple #[.int .u32 0,.int .i64 3])/\∃m,w'=w.drewN m:=by
 obtain⟨L,hL⟩:∃L,8*(dr+l.length)-p=L:=⟨_,rfl⟩
 have h2:=h.2.2.2.2;have hn1:(L:Int)<n:=by omega
 have H:=zh h;have HL:=zh hL;clear h hL h2;go_enter Tryz.func187,Tryz.ntmps187;go_wp2_with fail;refine(Zcy _ _ (by omega) (by omega)).mono ?_;rintro e w' ⟨rfl,rfl⟩;go_wp2_with fail;refine(Zdt b v l dr sp p L w H.out hs HL.out).mono ?_;rintro e w' ⟨rfl,m,rfl⟩;go_wp2_with fail;go_ret2;exact⟨rfl,m,rfl⟩
theorem Zcf (s:ByteArray) (w:World) (hs:s.size<=maxLen) :
  Calls Tryz.prog 22 #[.string s] w fun e w'=>∃b v,e=.returned (.pointer (some ⟨b,0,none⟩))/\IsReader w' b v s.data.toList 0 0 0/\Below w.heap.size w w'/\(∀k,foot b v k->w.heap.size<=k):=by
 have hcv:=run_bytes_of_string (P:=Tryz.prog) w 9 71 5 s Tryz.underlying9 Tryz.underlying71 Tryz.underlying5;have hge:=grownCap_ge w s.size 0 5;have hle:=grownCap_le_maxLen w s.size 0 5 hs
 have hsz:(bytesRow s (grownCap w s.size 0 5)).size=grownCap w s.size 0 5:=by
  have:s.data.size=s.size:=rfl;simp [bytesRow];omega
 have HB:Hid (∀i,i<grownCap w s.size 0 5->∃n,(bytesRow s (grownCap w s.size 0 5))[i]?=some (.int .u8 n)):=zh fun i hi=>by
  by_cases h:i<s.data.size
  ·exact⟨_,bytesRow_at s _ i h⟩
  ·refine⟨0,?_⟩;have e:s.data.size=s.size:=rfl;unfold bytesRow;rw [Array.getElem?_append_right (by simp;omega),Array.getElem?_replicate,if_pos (by rw [Array.size_map,e];omega)]
 generalize grownCap w s.size 0 5=C at *
 have HBA:Hid (∀(i:Nat) (x:UInt8),s.data.toList[i]?=some x->(bytesRow s C)[i]?=some (u8v x)):=zh fun i x hx=>by
  obtain⟨hi,rfl⟩:=List.getElem?_eq_some_iff.1 hx;exact bytesRow_at s _ i (by simpa using hi)
 generalize bytesRow s C=R at *;have HGE:=zh hge;have HLE:=zh hle;have HSZ:=zh hsz;clear hge hle hsz;go_enter Tryz.func22,Tryz.ntmps22;go_wp2_with fail;go_ret;have e:s.data.toList.length=s.size:=rfl;have ho:=heap_alloc2_old w (.cells R 5 (R.size,R.size+1)) (.cells #[.slice (some ⟨w.heap.size,0,none⟩) s.size C,.int .i64 0,.int .i64 0,.int .i64 0] 91);refine⟨w.heap.size+1,.slice (some ⟨w.heap.size,0,none⟩) s.size C,rfl,⟨heap_alloc2_new _ _ _,Or.inr ⟨w.heap.size,0,C,rfl,(Array.getElem?_eq_some_iff.1 ho).1,by rw [e];exact HGE.out,HLE.out,fun i x hx=>?_,fun i hi=>?_,fun i hi=>?_⟩,?_,by omega,by omega⟩,?_,?_⟩
 ·exact(cell_of_row _ _ _ _ _ _ ho).trans (by rw [Nat.zero_add];exact HBA.out i x hx)
 ·exact(HB.out i hi).imp fun n hn=>(cell_of_row _ _ _ _ _ _ ho).trans (by rw [Nat.zero_add];exact hn)
 ·have hi2:i<R.size:=by rw [HSZ.out];exact hi
  refine Eq.trans (b:=decide (R.size<=0+i) && decide (0+i<R.size+1)) ?_ (by simp;omega)
  have hx:∀(X:World),X.heap[w.heap.size]?=some (.cells R 5 (R.size,R.size+1))->X.frozen? ⟨w.heap.size,0+i,none⟩=(decide (R.size<=0+i) && decide (0+i<R.size+1)):=fun X hX=>by
   unfold World.frozen?;rw [hX]
  exact hx _ ho
 ·intro k hk;simp [Value.ownBlock] at hk;omega
 ·exact(((Below.refl _ _).alloc (Nat.le_refl _) _).alloc (by simp) _).drew
 ·intro k hk;rcases hk with rfl|hk
  ·omega
  ·simp [Value.ownBlock] at hk;omega
theorem ZbN {S:Nat->Prop} {g:Nat} (hS:S g):∀(vs:List Value) (o:Nat) (w:World),Touch S w (w.setCells g o vs)
 | [],_,w=>Touch.refl S w
 | v::r,o,w=>by
  have h1:Touch S w (w.setCell ⟨g,o,none⟩ v):=(Touch.refl S w).setCell (Or.inl hS) v;exact h1.trans (ZbN hS r (o+1) _) (fun i hi=>Or.inl hi)
theorem IsRowB.drop {w:World} {a:Option Addr} {cap n:Nat} {l:List UInt8} (h:IsRowB w (.slice a l.length cap) l) (hn:n<=l.length) (hc:cap≠n) :
  IsRowB w (.slice (Option.map (fun x=>x.add n) a) (l.length-n) (cap-n)) (l.drop n)/\(Value.slice (Option.map (fun x=>x.add n) a) (l.length-n) (cap-n)).ownBlock=(Value.slice a l.length cap).ownBlock:=by
 rcases h with⟨hv,rfl⟩|⟨g,off,cap',hv,hg,hlc,hcm,hcc,ha,hf⟩
 ·cases hv
  exfalso
  have:n=0:=by simpa using hn
  omega
 ·simp only [Value.slice.injEq,true_and] at hv;obtain⟨rfl,rfl⟩:=hv;have e:Option.map (fun x:Addr=>x.add n) (some ⟨g,off,none⟩)=some ⟨g,off+n,none⟩:=by rw [Option.map_some,Addr.add_lit]
  rw [e];refine⟨Or.inr ⟨g,off+n,cap-n,by rw [List.length_drop],hg,by rw [List.length_drop];omega,by omega,fun i x hx=>?_,fun i hi=>?_,fun i hi=>?_⟩,rfl⟩
  ·rw [List.getElem?_drop] at hx;rw [Nat.add_assoc];exact hcc (n+i) x hx
  ·rw [Nat.add_assoc];exact ha (n+i) (by omega)
  ·rw [Nat.add_assoc];exact hf (n+i) (by omega)
theorem Zbc (b:Nat) (v:Value) (l:List UInt8) (dr sp p q:Nat) (w:World) (h:IsReader w b v l dr sp p) (hs:dr+l.length<=1099511627776) (h1:8*dr<=q) (h2:q<=8*(dr+l.length)) :
  Calls Tryz.prog 23 #[.pointer (some ⟨b,0,none⟩),.int .i64 (q:Int)] w fun e w'=>e=.returned (.int .i64 0)/\IsReader w' b v l dr sp q/\Touch (·=b) w w':=by
 obtain⟨c0,c1,c2,c3,f0,f1,f2,f3⟩:=h.cells;obtain⟨E,hE⟩:∃E,8*(dr+l.length)=E:=⟨_,rfl⟩
 have hqE:(q:Int)<=E:=by omega
 have hdq:(8:Int)*dr<=q:=by omega
 have hdb:(dr:Int)<=1099511627776:=by omega
 have H:=zh h;have HE:=zh hE;clear h hE;go_enter Tryz.func23,Tryz.ntmps23;go_wp2_with fail;refine(Zk5 b v l dr sp p E w H.out hs HE.out).mono ?_;rintro e w' ⟨rfl,m,rfl⟩;go_wp2_with fail;go_ret;obtain⟨d1,d2⟩:=(H.out.drewN m).at_ q h1 h2 (q:Int) rfl;exact⟨rfl,d1,(Zad (·=b) w m).trans d2 (fun i hi=>Or.inl hi)⟩
end
section
namespace Opn
open Go.ChangeShapes Go.WideShapes Go.ChangeAt Go.RowKit Go.Deep
inductive Kd where
 | int (k:IntKind)
 | bool
 | str
 | sl (e:TypeId)
section
variable (P : Program)
end
section
variable {H : Type} {enc : TypeId × Value -> H} {P : Program} {w : World} {spare : Nat -> Bool}
def CellOk (enc:TypeId×Value->H) (P:Program) (w:World) (spare:Nat->Bool):Kd->Value->Prop
 | .int k,v=>∃n,v=.int k n/\(Lit.int k n).wf=true
 | .bool,v=>∃b,v=.bool b
 | .str,v=>∃s:ByteArray,v=.string s/\s.size<=maxLen
 | .sl e,v=>v=.slice none 0 0\/∃(a:Addr) (len cap n:Nat),v=.slice (some a) len cap/\len<=cap/\cap<=maxLen /\
   ∀i,i<len->∃cs x,w.cells? 0 (a.add (i*P.cellsOf e)) (P.cellsOf e)=some cs/\DataW.trod enc P w 0 spare true n e cs=some x
def AllOk (enc:TypeId×Value->H) (P:Program) (w:World) (spare:Nat->Bool):List Kd->List Value->Prop
 | [],[]=>True
 | k::ks,v::vs=>CellOk enc P w spare k v/\AllOk enc P w spare ks vs
 | _,_=>False
theorem AllOk.append:∀{ks ls:List Kd} {vs us:List Value},AllOk enc P w spare ks vs->AllOk enc P w spare ls us->AllOk enc P w spare (ks++ls) (vs++us)
 | [],_,[],_,_,h=>h
 | _::_,_,_::_,_,h,k=>⟨h.1,AllOk.append h.2 k⟩
 | [],_,_::_,_,h,_=>h.elim
 | _::_,_,[],_,h,_=>h.elim
theorem AllOk.length:∀{ks:List Kd} {vs:List Value},AllOk enc P w spare ks vs->vs.length=ks.length
 | [],[],_=>rfl
 | _::_,_::_,h=>by simpa using AllOk.length h.2
 | [],_::_,h=>h.elim
 | _::_,[],h=>h.elim
end
end Opn
end
section
open Go.RowKit BitM
end
section
open Go.RowKit CanM HufM BitM
theorem Zgn (b:Nat) (zs:List Int) (V n:Nat) (w:World) (h:IsCode w b zs) (h1:1<=n) (h20:n<=20) (hV:V<1048576) (hs:shr zs=1048576) (hlt:V<endc zs n) (hge:∀m,1<=m->m<n->endc zs m<=V) :
  Calls Tryz.prog 312 #[.pointer (some ⟨b,0,none⟩),.int .u32 (V:Int)] w fun e w'=>e=.returned (.int .i64 (n:Int))/\w'=w:=by
 have H:=zh h;have HLT:=zh hlt;have HGE:=zh hge;clear h hlt hge hs;go_enter Tryz.func312,Tryz.ntmps312;go_wp2_with fail
 go_loopw [5] (fun vm wr=>∃m:Nat,vm=.int .i64 (m:Int)/\1<=m/\m<=n/\wr=w) (fun vm _=>21-(intOf vm).toNat)
 case atStart=>exact⟨1,rfl,by omega,h1,rfl⟩
 case round=>
  obtain⟨m,rfl,hm1,hm2,rfl⟩:=hrel;obtain⟨A1,hA1⟩:∃A1,817+m=A1:=⟨_,rfl⟩
  have c1:wr.cell? ⟨b,A1,none⟩=some (.int .u32 (endc zs m:Int)):=by rw [<-hA1];exact(H.out.len hm1 (show m<=20 by omega)).2.2
  have hm21:(m:Int)<21:=by omega
  by_cases hmn:m<n
  ·have hle:(endc zs m:Int)<=(V:Int):=by have:=HGE.out m hm1 hmn;omega
   generalize endc zs m=E at *;go_wp2_with fail;go_roundw
   case rel=>exact⟨m+1,by go_num,by omega,by omega,by trivial⟩
   case measure=>simp [intOf];omega
  ·obtain rfl:m=n:=by omega
   have hle:(V:Int)<(endc zs m:Int):=by have:=HLT.out;omega
   generalize endc zs m=E at *;go_wp2_with fail;go_ret;exact⟨rfl,rfl⟩
theorem Zc8 {zs:List Int} (hw:∀z∈zs,1<=z/\z<=20) {i:Nat} (hi:i<zs.length):1<=ln zs i/\ln zs i<=20:=by
 have h:=hw (zs.getD i 0) (by rw [List.getD_eq_getElem?_getD,List.getElem?_eq_getElem hi];exact List.getElem_mem hi);unfold ln;omega
def code (zs:List Int) (i:Nat):List Bool:=field (cod zs (ln zs i,i)) (ln zs i)
theorem Zat (zs:List Int) (i:Nat):(code zs i).length=ln zs i:=Zac _ _
theorem ZpS (b g:Nat) (zs:List Int) (i:Nat) (v:Value) (q:List Bool) (tk:Nat) (w:World) (h:IsCode w b zs) (h258:zs.length<=258) (hwh:WholeP zs) (hi:i<zs.length) (hg:IsWriter w g v q tk) (hq:q.length<=1099511627776) :
  Calls Tryz.prog 112 #[.pointer (some ⟨b,0,none⟩),.pointer (some ⟨g,0,none⟩),.int .i64 (i:Int)] w fun e w'=>
   e=.returned (.int .i64 0)/\∃v1,IsWriter w' g v1 (q++code zs i) tk/\Touch (foot g v) w w'/\(∀k,v1.ownBlock=some k->v.ownBlock=some k\/w.heap.size<=k):=by
 have H:=zh h;have HW:=zh hwh;have HG:=zh hg;clear h hwh hg;go_enter Tryz.func112,Tryz.ntmps112;go_wp2_with fail;refine(Ztf b zs i _ H.out (fun z hz=>HW.out.1 z hz) h258 hi).mono ?_;rintro e w1 ⟨rfl,n,hw1⟩;have HG1:Hid (IsWriter w1 g v q tk):=zh (by rw [hw1];exact HG.out.other (Zad (fun _=>False) w n) (fun _ _ hf=>hf));have HT1:Hid (Touch (foot g v) w w1):=zh (by rw [hw1];exact Zad _ w n);have hsz:Hid (w1.heap.size=w.heap.size):=zh (by rw [hw1];rfl);have hln:=Zc8 (fun z hz=>HW.out.1 z hz) hi;have hcl:Hid (cod zs (ln zs i,i)<2^ln zs i):=zh (Zh4 (x:=(ln zs i,i)) (Zcx hi) HW.out.2 hln.2);clear hw1;go_wp2_with fail;refine(ZdX g v q tk _ _ w1 HG1.out (by omega) hcl.out hq).mono ?_;rintro e w2 ⟨rfl,v1,k1,k2,k3⟩;have K:Hid (IsWriter w2 g v1 (q++code zs i) tk/\Touch (foot g v) w w2/\(∀k,v1.ownBlock=some k->v.ownBlock=some k\/w.heap.size<=k)):=zh ⟨k1,HT1.out.trans k2 (fun j hj=>Or.inl hj),fun k hk=>by rw [<-hsz.out];exact k3 k hk⟩;clear k1 k2 k3;go_wp2_with fail;go_ret;exact⟨rfl,v1,K.out⟩
def GetP (zs:List Int) (q:List Bool) (p:Nat) (x e:Int) (p':Nat):Prop:=
 (∃i,i<zs.length/\Begins zs (ln zs i,i) q/\x=(i:Int)/\e=0/\p'=p+ln zs i)\/((∀i,i<zs.length->¬Begins zs (ln zs i,i) q)/\x=0/\e=3/\p'=p)
theorem ZpT (c:Nat) (zs:List Int) (b:Nat) (v:Value) (l:List UInt8) (dr sp p:Nat) (w:World) (h:IsCode w c zs) (h3:3<=zs.length) (h258:zs.length<=258) (hwh:WholeP zs) (hr:IsReader w b v l dr sp p) (hs:dr+l.length<=1099511627776) (hcb:c≠b) :
  Calls Tryz.prog 304 #[.pointer (some ⟨c,0,none⟩),.pointer (some ⟨b,0,none⟩)] w fun e w'=>
   ∃(x er:Int) (p':Nat),e=.returned (.tuple #[.int .i64 x,.int .i64 er])/\GetP zs ((bitsOf l).drop (p-8*dr)) p x er p'/\IsReader w' b v l dr sp p'/\Touch (·=b) w w':=by
 have H:=zh h;have HR:=zh hr;have HW:=zh hwh;have hp8:8*dr<=p:=hr.2.2.2.1;have hpe:p<=8*(dr+l.length):=hr.2.2.2.2;obtain⟨L,hL⟩:∃L,8*(dr+l.length)-p=L:=⟨_,rfl⟩
 have hql:Hid (((bitsOf l).drop (p-8*dr)).length=L):=zh (by rw [List.length_drop,Zan];omega);obtain⟨q,hq⟩:∃q,(bitsOf l).drop (p-8*dr)=q:=⟨_,rfl⟩
 rw [hq] at hql ⊢;have HQ:=zh hq;obtain⟨T,hT⟩:∃T,min L 20=T:=⟨_,rfl⟩
 obtain⟨V,hV⟩:∃V,num (q.take T)*2^(20-T)=V:=⟨_,rfl⟩
 obtain⟨i,hi,hn1,hn20,hV20,hend,hge,hcode,hyes,hno⟩:=ZpO (fun z hz=>HW.out.1 z hz) HW.out.2 q T V (by rw [hql.out,hT]) hV.symm;have HEND:=zh hend;have HGE:=zh hge;have HCODE:=zh hcode;have HYES:=zh hyes;have HNO:=zh hno;have HV:=zh hV;obtain⟨n,hn⟩:∃n,ln zs i=n:=⟨_,rfl⟩
 have HN:=zh hn;rw [hn] at hn1 hn20;have hz:((zs.length:Int)==0)=false:=by rw [beq_eq_false_iff_ne];omega
 have hTL:T<=L:=by omega
 have hT20:T<=20:=by omega
 have HTm:=zh hT;have hLb:L<=8796093022208:=by omega
 have hpb:p<=8796093022208:=by omega
 have HL:=zh hL;clear h hr hwh hq hend hge hcode hyes hno hV hn hT hL;go_enter Tryz.func304,Tryz.ntmps304;go_wp2_with fail;refine(Zh7 c zs _ H.out).mono ?_;rintro e w' ⟨rfl,rfl⟩;go_wp2_with fail;refine(ZcA b v l dr sp p _ HR.out).mono ?_;rintro e w1 ⟨rfl,rfl⟩;go_wp2_with fail;refine(Zdt b v l dr sp p L _ HR.out hs HL.out).mono ?_;rintro e w2 ⟨rfl,m,hw2⟩;have H2:Hid (IsCode w2 c zs):=zh (by rw [hw2];exact H.out.other (Zad (fun _=>False) _ m) (fun hf=>hf));have HR2:Hid (IsReader w2 b v l dr sp p):=zh (by rw [hw2];exact HR.out.drewN m);have HT2:Hid (Touch (·=b) w' w2):=zh (by rw [hw2];exact Zad _ _ m);clear hw2;go_wp2_with fail
 ·obtain rfl:T=20:=by have:=HTm.out;omega
  refine(Zce b v l dr sp p 20 w2 HR2.out hs (by omega) (by have:=HL.out;omega)).mono ?_;rintro e w3 ⟨rfl,hr3,ht3⟩;have H3:Hid (IsCode w3 c zs):=zh (H2.out.other ht3 hcb);have HR3:Hid (IsReader w3 b v l dr sp (p+20)):=zh hr3;have HT3:Hid (Touch (·=b) w' w3):=zh (HT2.out.trans ht3 (fun j hj=>Or.inl hj));rw [HQ.out];clear hr3 ht3;have hXV:num (q.take 20)=V:=by have h1:=HV.out;simpa using h1
  rw [hXV];clear hXV;go_wp2_with fail;refine(Zgn c zs V n w3 H3.out hn1 hn20 hV20 HW.out.2 (by have:=HEND.out;rw [HN.out] at this;exact this) (by have:=HGE.out;rw [HN.out] at this;exact this)).mono ?_;rintro e w4 ⟨rfl,rfl⟩;by_cases hnT:n<=20
  ·have hnTi:(n:Int)<=20:=by omega
   obtain⟨P2,hP2⟩:∃P2,p+n=P2:=⟨_,rfl⟩
   have hP2i:(p:Int)+(n:Int)=(P2:Int):=by omega
   have HP2:=zh hP2;have hP2b:P2<=8796093022300:=by omega
   go_wp2_with fail;refine(Zbc b v l dr sp (p+20) P2 w4 HR3.out hs (by omega) (by have:=HL.out;omega)).mono ?_;rintro e w5 ⟨rfl,hr5,ht5⟩;have H5:Hid (IsCode w5 c zs):=zh (H3.out.other ht5 hcb);have HR5:Hid (IsReader w5 b v l dr sp P2):=zh hr5;have HT5:Hid (Touch (·=b) w' w5):=zh (HT3.out.trans ht5 (fun j hj=>Or.inl hj));clear hr5 ht5 hP2 hP2i;obtain⟨S2,hS2⟩:∃S2:Nat,20-n=S2:=⟨_,rfl⟩
   have hS2i:(20:Int)-(n:Int)=(S2:Int):=by omega
   have hS20:¬(20:Int)-(n:Int)<0:=by omega
   have hS2b:S2<=20:=by omega
   have hpl:=Zbi zs hi;obtain⟨R,hR⟩:∃R,rank zs n i=R:=⟨_,rfl⟩
   obtain⟨Fc,hFc⟩:∃Fc,fcod zs n=Fc:=⟨_,rfl⟩
   obtain⟨Cl,hCl⟩:∃Cl,cl zs n=Cl:=⟨_,rfl⟩
   obtain⟨P,hP⟩:∃P,plc zs i=P:=⟨_,rfl⟩
   obtain⟨K,hK⟩:∃K,V / 2^S2=K:=⟨_,rfl⟩
   have hKe:K=Fc+R:=by have:=HCODE.out;rw [HN.out,hS2,hK,hFc,hR] at this;exact this
   have hPe:P=Cl+R:=by rw [<-hP,<-hCl,<-hR,<-HN.out];rfl
   rw [hP] at hpl;have hKi:(V:Int) / 2^S2=(K:Int):=by rw [<-hK];simp
   have hKb:K<=V:=by rw [<-hK];exact Nat.div_le_self _ _
   have hKF:(K:Int)-(Fc:Int)=(R:Int):=by omega
   have hFK:(Fc:Int)<=(K:Int):=by omega
   have hPi:(Cl:Int)+(R:Int)=(P:Int):=by omega
   have hP258:(P:Int)<258:=by omega
   have hn21:(n:Int)<21:=by omega
   obtain⟨B1,hB1⟩:∃B1,796+n=B1:=⟨_,rfl⟩
   obtain⟨B2,hB2⟩:∃B2,775+n=B2:=⟨_,rfl⟩
   obtain⟨B3,hB3⟩:∃B3,517+P=B3:=⟨_,rfl⟩
   have d1:w5.cell? ⟨c,B1,none⟩=some (.int .i64 (Cl:Int)):=by rw [<-hB1,<-hCl];exact(H5.out.len hn1 hn20).2.1
   have d2:w5.cell? ⟨c,B2,none⟩=some (.int .u32 (Fc:Int)):=by rw [<-hB2,<-hFc];exact(H5.out.len hn1 hn20).1
   have d3:w5.cell? ⟨c,B3,none⟩=some (.int .i64 (i:Int)):=by rw [<-hB3,<-hP];exact(H5.out.sym (fun z hz=>HW.out.1 z hz) h258 hi).2.2
   clear hKe hPe hK hP hCl hR hFc hS2;go_wp2_with fail
   go_quiet (fail)
   go_wp2_with fail;go_ret2;exact⟨(i:Int),0,P2,rfl,Or.inl ⟨i,hi,HYES.out (by rw [HN.out];exact hnT),rfl,rfl,by rw [HN.out];exact HP2.out.symm⟩,HR5.out.drewN _,HT5.out.trans (Zad _ _ _) (fun j hj=>Or.inl hj)⟩
  ·have hnTi:(20:Int)<n:=by omega
   go_wp2_with fail;refine(Zbc b v l dr sp (p+20) p w4 HR3.out hs (by omega) (by have:=HL.out;omega)).mono ?_;rintro e w5 ⟨rfl,hr5,ht5⟩;have HR5:Hid (IsReader w5 b v l dr sp p):=zh hr5;have HT5:Hid (Touch (·=b) w' w5):=zh (HT3.out.trans ht5 (fun j hj=>Or.inl hj));clear hr5 ht5;go_wp2_with fail;go_ret2;exact⟨0,3,p,rfl,Or.inr ⟨HNO.out (by rw [HN.out];omega),rfl,rfl,rfl⟩,HR5.out,HT5.out⟩
 ·obtain rfl:T=L:=by have:=HTm.out;omega
  refine(Zce b v l dr sp p T w2 HR2.out hs (by omega) (by have:=HL.out;omega)).mono ?_;rintro e w3 ⟨rfl,hr3,ht3⟩;have H3:Hid (IsCode w3 c zs):=zh (H2.out.other ht3 hcb);have HR3:Hid (IsReader w3 b v l dr sp (p+T)):=zh hr3;have HT3:Hid (Touch (·=b) w' w3):=zh (HT2.out.trans ht3 (fun j hj=>Or.inl hj));rw [HQ.out];clear hr3 ht3;obtain⟨X,hX⟩:∃X,num (q.take T)=X:=⟨_,rfl⟩
  obtain⟨S,hS⟩:∃S:Nat,20-T=S:=⟨_,rfl⟩
  have hSI:(20:Int)-(T:Int)=(S:Int):=by omega
  have hS0:¬(20:Int)-(T:Int)<0:=by omega
  have hSb:S<=20:=by omega
  have HVm:(X:Int)*2^S % 4294967296=(V:Int):=by
   have h1:=HV.out;rw [hX,hS] at h1;have h2:(X:Int)*2^S=(V:Int):=by rw [<-h1];rw [Int.natCast_mul,Int.natCast_pow];rfl
   rw [h2];omega
  rw [hX];clear hS;go_wp2_with fail;refine(Zgn c zs V n w3 H3.out hn1 hn20 hV20 HW.out.2 (by have:=HEND.out;rw [HN.out] at this;exact this) (by have:=HGE.out;rw [HN.out] at this;exact this)).mono ?_;rintro e w4 ⟨rfl,rfl⟩;by_cases hnT:n<=T
  ·have hnTi:(n:Int)<=T:=by omega
   obtain⟨P2,hP2⟩:∃P2,p+n=P2:=⟨_,rfl⟩
   have hP2i:(p:Int)+(n:Int)=(P2:Int):=by omega
   have HP2:=zh hP2;have hP2b:P2<=8796093022300:=by omega
   go_wp2_with fail;refine(Zbc b v l dr sp (p+T) P2 w4 HR3.out hs (by omega) (by have:=HL.out;omega)).mono ?_;rintro e w5 ⟨rfl,hr5,ht5⟩;have H5:Hid (IsCode w5 c zs):=zh (H3.out.other ht5 hcb);have HR5:Hid (IsReader w5 b v l dr sp P2):=zh hr5;have HT5:Hid (Touch (·=b) w' w5):=zh (HT3.out.trans ht5 (fun j hj=>Or.inl hj));clear hr5 ht5 hP2 hP2i;obtain⟨S2,hS2⟩:∃S2:Nat,20-n=S2:=⟨_,rfl⟩
   have hS2i:(20:Int)-(n:Int)=(S2:Int):=by omega
   have hS20:¬(20:Int)-(n:Int)<0:=by omega
   have hS2b:S2<=20:=by omega
   have hpl:=Zbi zs hi;obtain⟨R,hR⟩:∃R,rank zs n i=R:=⟨_,rfl⟩
   obtain⟨Fc,hFc⟩:∃Fc,fcod zs n=Fc:=⟨_,rfl⟩
   obtain⟨Cl,hCl⟩:∃Cl,cl zs n=Cl:=⟨_,rfl⟩
   obtain⟨P,hP⟩:∃P,plc zs i=P:=⟨_,rfl⟩
   obtain⟨K,hK⟩:∃K,V / 2^S2=K:=⟨_,rfl⟩
   have hKe:K=Fc+R:=by have:=HCODE.out;rw [HN.out,hS2,hK,hFc,hR] at this;exact this
   have hPe:P=Cl+R:=by rw [<-hP,<-hCl,<-hR,<-HN.out];rfl
   rw [hP] at hpl;have hKi:(V:Int) / 2^S2=(K:Int):=by rw [<-hK];simp
   have hKb:K<=V:=by rw [<-hK];exact Nat.div_le_self _ _
   have hKF:(K:Int)-(Fc:Int)=(R:Int):=by omega
   have hFK:(Fc:Int)<=(K:Int):=by omega
   have hPi:(Cl:Int)+(R:Int)=(P:Int):=by omega
   have hP258:(P:Int)<258:=by omega
   have hn21:(n:Int)<21:=by omega
   obtain⟨B1,hB1⟩:∃B1,796+n=B1:=⟨_,rfl⟩
   obtain⟨B2,hB2⟩:∃B2,775+n=B2:=⟨_,rfl⟩
   obtain⟨B3,hB3⟩:∃B3,517+P=B3:=⟨_,rfl⟩
   have d1:w5.cell? ⟨c,B1,none⟩=some (.int .i64 (Cl:Int)):=by rw [<-hB1,<-hCl];exact(H5.out.len hn1 hn20).2.1
   have d2:w5.cell? ⟨c,B2,none⟩=some (.int .u32 (Fc:Int)):=by rw [<-hB2,<-hFc];exact(H5.out.len hn1 hn20).1
   have d3:w5.cell? ⟨c,B3,none⟩=some (.int .i64 (i:Int)):=by rw [<-hB3,<-hP];exact(H5.out.sym (fun z hz=>HW.out.1 z hz) h258 hi).2.2
   clear hKe hPe hK hP hCl hR hFc hS2;go_wp2_with fail
   go_quiet (fail)
   go_wp2_with fail;go_ret2;exact⟨(i:Int),0,P2,rfl,Or.inl ⟨i,hi,HYES.out (by rw [HN.out];exact hnT),rfl,rfl,by rw [HN.out];exact HP2.out.symm⟩,HR5.out.drewN _,HT5.out.trans (Zad _ _ _) (fun j hj=>Or.inl hj)⟩
  ·have hnTi:(T:Int)<n:=by omega
   go_wp2_with fail;refine(Zbc b v l dr sp (p+T) p w4 HR3.out hs (by omega) (by have:=HL.out;omega)).mono ?_;rintro e w5 ⟨rfl,hr5,ht5⟩;have HR5:Hid (IsReader w5 b v l dr sp p):=zh hr5;have HT5:Hid (Touch (·=b) w' w5):=zh (HT3.out.trans ht5 (fun j hj=>Or.inl hj));clear hr5 ht5;go_wp2_with fail;go_ret2;exact⟨0,3,p,rfl,Or.inr ⟨HNO.out (by rw [HN.out];omega),rfl,rfl,rfl⟩,HR5.out,HT5.out⟩
instance (l:List Int) (x:Tr) (q:List Bool):Decidable (CanM.Begins l x q):=by unfold CanM.Begins;exact inferInstance
def SizeP (n:Nat):Prop:=3<=n/\n<=258
instance (n:Nat):Decidable (SizeP n):=by unfold SizeP;exact inferInstance
end
section
namespace FreqM
open Go.RowKit
def cap (x:Int):Int:=if 1099511627776<x then 1099511627776 else x
theorem ZrB (x:Int):cap x<=1099511627776:=by unfold cap;split<;>omega
theorem ZrC (x:Int) (h:0<=x):0<=cap x:=by unfold cap;split<;>omega
theorem Zgo (x:Int) (h:x<=1099511627776):cap x=x:=by unfold cap;split<;>omega
theorem ZrD (x:Int) (h:1099511627776<x):cap x=1099511627776:=by unfold cap;rw [if_pos h]
theorem Zny (a b:Int) (hb:0<=b):cap (cap a+b)=cap (a+b):=by
 unfold cap
 repeat' split
 all_goals omega
def Syms (l:List Int) (n:Int):Prop:=∀x∈l,0<=x/\x<n
def Nums (l:List Int):Prop:=∀x∈l,0<=x/\x<=1099511627776
theorem getD_mem (l:List Int) (k:Nat) (h:k<l.length):l.getD k 0∈l:=by
 rw [List.getD_eq_getElem?_getD,List.getElem?_eq_getElem h];exact List.getElem_mem h
def counts (l:List Int) (N:Nat):List Int:=(List.range N).map fun i:Nat=>(l.count (i:Int):Int)
theorem Zaq (l:List Int) (N:Nat):(counts l N).length=N:=by simp [counts]
theorem Zgp (l:List Int) (N i:Nat) (h:i<N):(counts l N).getD i 0=(l.count (i:Int):Int):=by
 rw [List.getD_eq_getElem?_getD,List.getElem?_eq_getElem (by rw [Zaq];exact h)];simp [counts]
theorem Zma (N:Nat):counts [] N=List.replicate N 0:=by
 apply List.ext_getElem
 ·simp [counts]
 ·intro i h1 h2;simp [counts]
theorem Zju (l:List Int) (N i:Nat) (h:i<N):counts (l++[(i:Int)]) N=(counts l N).set i ((counts l N).getD i 0+1):=by
 apply List.ext_getElem
 ·simp [counts]
 ·intro j h1 h2;rw [Zaq] at h1;rw [List.getElem_set];by_cases e:i=j
  ·subst e;rw [if_pos rfl,Zgp l N i h];simp [counts,List.count_append]
  ·rw [if_neg e];simp only [counts,List.getElem_map,List.getElem_range,List.count_append];rw [List.count_singleton,if_neg (by simp;omega)];simp
theorem Zjv (l:List Int) (N k:Nat) (hk:k<l.length) (x:Nat) (hx:l.getD k 0=(x:Int)) (hN:x<N):counts (l.take (k+1)) N=(counts (l.take k) N).set x ((counts (l.take k) N).getD x 0+1):=by
 rw [<-Zju _ _ _ hN,List.take_succ_eq_append_getElem hk];rw [List.getD_eq_getElem?_getD,List.getElem?_eq_getElem hk] at hx;rw [<-hx];rfl
theorem Zdv (l:List Int) (N:Nat):∀x∈counts l N,0<=x/\x<=(l.length:Int):=by
 intro x hx;obtain⟨i,_,rfl⟩:=List.mem_map.1 hx;have:=List.count_le_length (a:=(i:Int)) (l:=l);omega
theorem count_take (l:List Int) (x:Int) (k:Nat) (hk:k<l.length):(l.take (k+1)).count x=(l.take k).count x+if x=l.getD k 0 then 1 else 0:=by
 rw [List.take_succ_eq_append_getElem hk,List.count_append,List.getD_eq_getElem?_getD,List.getElem?_eq_getElem hk,List.count_singleton];show _+(if (l[k]==x)=true then 1 else 0)=_+(if x=l[k] then 1 else 0);by_cases e:x=l[k]
 ·rw [if_pos e,if_pos (by rw [e];exact beq_self_eq_true _)]
 ·rw [if_neg e,if_neg (by rw [beq_iff_eq];exact fun h=>e h.symm)]
def totS (n x:Int):Int:=if 0<x then cap (n+cap x) else n
def tot (l:List Int):Int:=l.foldl totS 0
def sumF:List Int->Int
 | []=>0
 | x::t=>x+sumF t
theorem Zg4 (a b:List Int):sumF (a++b)=sumF a+sumF b:=by
 induction a with
 | nil=>simp [sumF]
 | cons x t ih=>simp only [List.cons_append,sumF,ih];omega
theorem Zjw (a:List Int) (h:∀x∈a,0<=x):0<=sumF a:=by
 induction a with
 | nil=>simp [sumF]
 | cons x t ih=>
  have h1:=h x (List.mem_cons_self ..);have h2:=ih (fun y hy=>h y (List.mem_cons_of_mem _ hy));simp only [sumF];omega
def costS (l lens:List Int):Int:=sumF (l.map fun x=>lens.getD x.toNat 0)
theorem Zmb (l lens:List Int) (k:Nat) (h:k<l.length):costS (l.take (k+1)) lens=costS (l.take k) lens+lens.getD (l.getD k 0).toNat 0:=by
 unfold costS;rw [List.take_succ_eq_append_getElem h,List.map_append,Zg4,List.getD_eq_getElem?_getD (l:=l),List.getElem?_eq_getElem h];simp [sumF]
def ng (n:Nat):Nat:=(n+49) / 50
def grp (l:List Int) (i:Nat):List Int:=(l.drop (50*i)).take 50
theorem Zth (n:Nat) (h:0<n):(ng n:Int)=((n:Int)-1) / 50+1:=by unfold ng;omega
theorem ZcB (l:List Int) (i:Nat):(grp l i).length=min 50 (l.length-50*i):=by unfold grp;simp
theorem take_next (l:List Int) (i:Nat):l.take (50*(i+1))=l.take (50*i)++grp l i:=by
 unfold grp;rw [show 50*(i+1)=50*i+50 by omega,List.take_add]
end FreqM
end
section
open Go.RowKit FreqM
theorem Zbd (v:Value) (zs:List Int) (n:Int) (r:Bool) (w:World) (hv:IsInts w v zs) (hz:zs.length<=9223372036854775807) (hr:r=true↔Syms zs n) :
  Calls Tryz.prog 254 #[v,.int .i64 n] w fun e w'=>e=.returned (.bool r)/\w=w':=by
 have HV:=zh hv;have HR:=zh hr;obtain⟨a,cap,rfl,_⟩:=hv;clear hr;go_enter Tryz.func254,Tryz.ntmps254;go_wp2_with fail
 go_loop [9] (fun i=>∃k:Nat,k<=zs.length/\i=.int .i64 k/\∀j,j<k->0<=zs.getD j 0/\zs.getD j 0<n) (fun i=>zs.length-(intOf i).toNat)
 case atStart=>exact⟨0,by omega,rfl,fun j hj=>by omega⟩
 case round=>
  obtain⟨k,hk,rfl,hA⟩:=hrel;have HA:=zh hA;clear hA;by_cases hlk:k<zs.length
  ·have hki:(k:Int)<(zs.length:Int):=by omega
   obtain⟨b1,o1,k1,he1,c1⟩:=HV.out.cell hlk;simp only [Value.slice.injEq] at he1;obtain⟨rfl,_,rfl⟩:=he1;obtain⟨x,hx⟩:∃x,zs.getD k 0=x:=⟨_,rfl⟩
   have HM:Hid (x∈zs):=zh (by rw [<-hx];exact FreqM.getD_mem zs k hlk);rw [hx] at c1;have HX:=zh hx;clear hx;by_cases h0:x<0
   ·obtain rfl:r=false:=by
     rw [Bool.eq_false_iff];intro h;have:=(HR.out.1 h x HM.out).1;omega
    go_wp2_with fail;go_ret;exact⟨rfl,rfl⟩
   ·by_cases h1:n<=x
    ·obtain rfl:r=false:=by
      rw [Bool.eq_false_iff];intro h;have:=(HR.out.1 h x HM.out).2;omega
     go_wp2_with fail;go_ret;exact⟨rfl,rfl⟩
    ·go_wp2_with fail
     go_round
     case rel=>exact⟨k+1,by omega,by go_num,fun j hj=>by
      by_cases e:j=k
      ·subst e;rw [HX.out];omega
      ·exact HA.out j (by omega)⟩
     case measure=>simp [intOf];omega
  ·obtain rfl:k=zs.length:=by omega
   have hrt:r=true:=by
    rw [HR.out];intro p hp;obtain⟨i,hi,rfl⟩:=List.getElem_of_mem hp;have:=HA.out i hi;rw [List.getD_eq_getElem?_getD,List.getElem?_eq_getElem hi] at this;exact this
   subst hrt;go_wp2_with fail;go_ret;exact⟨rfl,rfl⟩
theorem Zc0 (v:Value) (zs:List Int) (r:Bool) (w:World) (hv:IsInts w v zs) (hz:zs.length<=9223372036854775807) (hr:r=true↔Nums zs) :
  Calls Tryz.prog 293 #[v] w fun e w'=>e=.returned (.bool r)/\w=w':=by
 have HV:=zh hv;have HR:=zh hr;obtain⟨a,cap,rfl,_⟩:=hv;clear hr;go_enter Tryz.func293,Tryz.ntmps293;go_wp2_with fail
 go_loop [7] (fun i=>∃k:Nat,k<=zs.length/\i=.int .i64 k/\∀j,j<k->0<=zs.getD j 0/\zs.getD j 0<=1099511627776) (fun i=>zs.length-(intOf i).toNat)
 case atStart=>exact⟨0,by omega,rfl,fun j hj=>by omega⟩
 case round=>
  obtain⟨k,hk,rfl,hA⟩:=hrel;have HA:=zh hA;clear hA;by_cases hlk:k<zs.length
  ·have hki:(k:Int)<(zs.length:Int):=by omega
   obtain⟨b1,o1,k1,he1,c1⟩:=HV.out.cell hlk;simp only [Value.slice.injEq] at he1;obtain⟨rfl,_,rfl⟩:=he1;obtain⟨x,hx⟩:∃x,zs.getD k 0=x:=⟨_,rfl⟩
   have HM:Hid (x∈zs):=zh (by rw [<-hx];exact FreqM.getD_mem zs k hlk);rw [hx] at c1;have HX:=zh hx;clear hx;by_cases h0:x<0
   ·obtain rfl:r=false:=by
     rw [Bool.eq_false_iff];intro h;have:=(HR.out.1 h x HM.out).1;omega
    go_wp2_with fail;go_ret;exact⟨rfl,rfl⟩
   ·by_cases h1:1099511627776<x
    ·obtain rfl:r=false:=by
      rw [Bool.eq_false_iff];intro h;have:=(HR.out.1 h x HM.out).2;omega
     go_wp2_with fail;go_ret;exact⟨rfl,rfl⟩
    ·go_wp2_with fail
     go_round
     case rel=>exact⟨k+1,by omega,by go_num,fun j hj=>by
      by_cases e:j=k
      ·subst e;rw [HX.out];omega
      ·exact HA.out j (by omega)⟩
     case measure=>simp [intOf];omega
  ·obtain rfl:k=zs.length:=by omega
   have hrt:r=true:=by
    rw [HR.out];intro p hp;obtain⟨i,hi,rfl⟩:=List.getElem_of_mem hp;have:=HA.out i hi;rw [List.getD_eq_getElem?_getD,List.getElem?_eq_getElem hi] at this;exact this
   subst hrt;go_wp2_with fail;go_ret;exact⟨rfl,rfl⟩
def CntOk (l:List Int) (n:Int):Prop:=3<=n/\n<=258/\Syms l n
def CntP (l:List Int) (n:Int) (zs:List Int) (err:Nat):Prop:=(¬CntOk l n/\zs=[]/\err=1)\/(CntOk l n/\zs=counts l n.toNat/\err=0)
theorem Zmc (v:Value) (zs:List Int) (n:Int) (w:World) (hv:IsInts w v zs) (hz:zs.length<=1000000) :
  Calls Tryz.prog 216 #[v,.int .i64 n] w fun e w'=>∃(u:Value) (ys:List Int) (err:Nat),e=.returned (.tuple #[u,.int .i64 (err:Int)])/\IsInts w' u ys/\Below w.heap.size w w'/\CntP zs n ys err:=by
 have HV:=zh hv;obtain⟨a,cap,rfl,_⟩:=hv;by_cases h1:n<3
 ·go_enter Tryz.func216,Tryz.ntmps216;go_wp2_with fail;go_ret2;exact⟨_,[],1,rfl,IsInts.nil _,Below.refl _ _,Or.inl ⟨fun h=>by have:=h.1;omega,rfl,rfl⟩⟩
 by_cases h2:258<n
 ·go_enter Tryz.func216,Tryz.ntmps216;go_wp2_with fail;go_ret2;exact⟨_,[],1,rfl,IsInts.nil _,Below.refl _ _,Or.inl ⟨fun h=>by have:=h.2.1;omega,rfl,rfl⟩⟩
 by_cases hs:Syms zs n
 ·have HA:=zh (Zbd _ zs n true w HV.out (by omega) ⟨fun _=>hs,fun _=>rfl⟩);have HS:=zh hs;obtain⟨N,rfl⟩:∃N:Nat,n=(N:Int):=⟨n.toNat,by omega⟩
  have HOK:Hid (CntOk zs (N:Int)):=zh ⟨by omega,by omega,hs⟩;have hNI:(N:Int)<=258:=by omega
  have hmk:=Za2 N (by omega) w;have HR0:=zh (RowI.made w N);have HB0:=zh ((Below.refl w.heap.size w).alloc (Nat.le_refl _) (.cells (madeCells #[Value.int .i64 0] N) 3));clear hs;generalize hw1:w.alloc (.cells (madeCells #[Value.int .i64 0] N) 3)=w1 at *;clear hw1;go_enter Tryz.func216,Tryz.ntmps216;go_wp2_with fail;refine HA.out.mono ?_;rintro e w' ⟨rfl,rfl⟩;clear HA;go_wp2_with fail;generalize hg:w.heap.size=g at *
  go_loopw [25] (fun i wr=>∃k:Nat,k<=zs.length/\i=.int .i64 k/\RowI wr g (counts (zs.take k) N)/\Below g w wr) (fun i _=>zs.length-(intOf i).toNat)
  case atStart=>exact⟨0,by omega,rfl,by rw [List.take_zero,Zma];exact HR0.out,HB0.out⟩
  case round=>
   clear HR0 HB0;obtain⟨k,hk,rfl,hR,hB⟩:=hrel;have HR:=zh hR;have HB:=zh hB;clear hR hB;by_cases hlk:k<zs.length
   ·have hki:(k:Int)<(zs.length:Int):=by omega
    have HV2:=zh (HV.out.below (hg▸HB.out));obtain⟨b1,o1,k1,he1,c1⟩:=HV2.out.cell hlk;simp only [Value.slice.injEq] at he1;obtain⟨rfl,_,rfl⟩:=he1;obtain⟨x,hx⟩:∃x,zs.getD k 0=x:=⟨_,rfl⟩
    have hxr:=HS.out x (by rw [<-hx];exact FreqM.getD_mem zs k hlk);obtain⟨y,rfl⟩:∃y:Nat,x=(y:Int):=⟨x.toNat,by omega⟩
    have HCT:=zh (Zjv zs N k hlk y hx (by omega));obtain⟨d0,d1,d2⟩:=HR.out.cell (i:=y) (by rw [Zaq];omega);have hnn:=Zdv (zs.take k) N ((counts (zs.take k) N).getD y 0) (FreqM.getD_mem _ _ (by rw [Zaq];omega));obtain⟨hn1,hn2⟩:=hnn;rw [List.length_take] at hn2;generalize (counts (zs.take k) N).getD y 0=c at *;have hd2:=d2 (c+1);rw [<-HCT.out] at hd2;have HD2:=zh hd2;have HB2:=zh (HB.out.setCell (p:=⟨g,y,none⟩) (Nat.le_refl _) (.int .i64 (c+1)));rw [hx] at c1;clear hx d2 hd2 HCT;have hy0:(0:Int)<=(y:Int):=by omega
    have hyN:(y:Int)<(N:Int):=hxr.2;have hcw:IntKind.i64.wrap (c+1)=c+1:=IntWalk.i64_in _ (by omega);clear hxr;go_wp2_with fail;go_roundw
    case rel=>exact⟨k+1,by omega,by go_num,HD2.out,HB2.out⟩
    case measure=>simp [intOf];omega
   ·obtain rfl:k=zs.length:=by omega
    rw [List.take_of_length_le (Nat.le_refl _)] at HR;go_wp2_with fail;go_ret2;exact⟨_,counts zs N,0,rfl,HR.out.ints N N (Zaq zs N).symm,hg▸HB.out,Or.inr ⟨HOK.out,by simp,rfl⟩⟩
 ·have HA:=zh (Zbd _ zs n false w HV.out (by omega) ⟨fun e=>(by cases e),fun e=>absurd e hs⟩);have HNO:Hid (¬CntOk zs n):=zh (fun h=>hs h.2.2);clear hs;go_enter Tryz.func216,Tryz.ntmps216;go_wp2_with fail;refine HA.out.mono ?_;rintro e w' ⟨rfl,rfl⟩;go_wp2_with fail;go_ret2;exact⟨_,[],1,rfl,IsInts.nil _,Below.refl _ _,Or.inl ⟨HNO.out,rfl,rfl⟩⟩
end
section
open Go.RowKit CanM HufM BitM
theorem Zjx {zs:List Int} (hwh:WholeP zs) {i:Nat} (hi:i<zs.length) (r:List Bool):CanM.Begins zs (ln zs i,i) (code zs i++r):=by
 refine⟨by rw [List.length_append,Zat];exact Nat.le_add_right _ _,?_⟩;show num ((code zs i++r).take (ln zs i))=cod zs (ln zs i,i);rw [List.take_left' (Zat zs i)];unfold code;rw [Zau];exact Nat.mod_eq_of_lt (Zh4 (x:=(ln zs i,i)) (Zcx hi) hwh.2 (Zc8 (fun z hz=>hwh.1 z hz) hi).2)
end
section
namespace SymM
open Go.RowKit
abbrev Row:=Nat->Int
def sw (d:Row) (i j:Nat):Row:=fun k=>if k=i then d j else if k=j then d i else d k
def swr (d:Row) (a b n:Nat):Row:=fun k=>if a<=k/\k<a+n then d (k-a+b) else if b<=k/\k<b+n then d (k-b+a) else d k
def rot (d:Row) (a m b:Nat):Row:=fun k=>if a<=k/\k<a+(b-m) then d (k+(m-a)) else if a+(b-m)<=k/\k<b then d (k-(b-m)) else d k
theorem ZpU (d:Row) (a b:Nat):swr d a b 0=d:=by
 funext k
 simp only [swr];rw [if_neg (by omega),if_neg (by omega)]
theorem ZpV (d:Row) {a b n:Nat} (h:a+n<b):sw (swr d a b n) (a+n) (b+n)=swr d a b (n+1):=by
 funext k
 simp only [swr,sw]
 repeat' split
 all_goals first
  | (exfalso;omega)
  | rfl
  | (congr 1;omega)
theorem ZpW (d:Row) {m i j:Nat} (h:j<i) (hi:i<=m):rot (swr d (m-i) m j) (m-(i-j)) m (m+j)=rot d (m-i) m (m+j):=by
 funext k
 simp only [rot,swr]
 repeat' split
 all_goals first
  | (exfalso;omega)
  | rfl
  | (congr 1;omega)
theorem Znz (d:Row) {m i j:Nat} (h:i<j) (hi:i<=m):rot (swr d (m-i) (m+j-i) i) (m-i) m (m+(j-i))=rot d (m-i) m (m+j):=by
 funext k
 simp only [rot,swr]
 repeat' split
 all_goals first
  | (exfalso;omega)
  | rfl
  | (congr 1;omega)
theorem ZpX (d:Row) {m i:Nat} (hi:i<=m):swr d (m-i) m i=rot d (m-i) m (m+i):=by
 funext k
 simp only [rot,swr]
 repeat' split
 all_goals first
  | (exfalso;omega)
  | rfl
  | (congr 1;omega)
theorem Zk7 (d:Row) (a m:Nat):rot d a m m=d:=by
 funext k
 simp only [rot];rw [if_neg (by omega)];split
 ·congr 1;omega
 ·rfl
theorem Zdw (d:Row) (m b:Nat):rot d m m b=d:=by
 funext k
 simp only [rot];split
 ·congr 1;omega
 ·rw [if_neg (by omega)]
theorem Zti (d:Row) {a k:Nat} (h:a<=k):sw (rot d a (a+1) (k+1)) k (k+1)=rot d a (a+1) (k+2):=by
 funext x
 simp only [rot,sw]
 repeat' split
 all_goals first
  | (exfalso;omega)
  | rfl
  | (congr 1;omega)
theorem Zk8 (d:Row) {k m:Nat} (h:k<m):sw (rot d (k+1) m (m+1)) (k+1) k=rot d k m (m+1):=by
 funext x
 simp only [rot,sw]
 repeat' split
 all_goals first
  | (exfalso;omega)
  | rfl
  | (congr 1;omega)
def seg (d:Row) (a n:Nat):List Int:=(List.range n).map fun i=>d (a+i)
theorem ZaZ (d:Row) (a m n:Nat):seg d a (m+n)=seg d a m++seg d (a+m) n:=by
 unfold seg;rw [List.range_add,List.map_append,List.map_map];congr 1;apply List.map_congr_left;intro i _;show d (a+(m+i))=d (a+m+i);rw [Nat.add_assoc]
theorem ZbS {d e:Row} {a b n:Nat} (h:∀i,i<n->d (a+i)=e (b+i)):seg d a n=seg e b n:=by
 unfold seg;apply List.map_congr_left;intro i hi;exact h i (List.mem_range.1 hi)
theorem ZdY {d:Row} {a n:Nat} {x:Int}:x∈seg d a n↔∃k,a<=k/\k<a+n/\d k=x:=by
 unfold seg;rw [List.mem_map];constructor
 ·rintro⟨i,hi,rfl⟩;have:=List.mem_range.1 hi;exact⟨a+i,by omega,by omega,rfl⟩
 ·rintro⟨k,h1,h2,rfl⟩;exact⟨k-a,List.mem_range.2 (by omega),by rw [show a+(k-a)=k by omega]⟩
structure Pm (d e:Row) (a b:Nat):Prop where
 perm:(seg e a (b-a)).Perm (seg d a (b-a))
 out:∀k,¬(a<=k/\k<b)->e k=d k
theorem Pm.refl (d:Row) (a b:Nat):Pm d d a b:=⟨List.Perm.refl _,fun _ _=>rfl⟩
theorem Pm.trans {d e f:Row} {a b:Nat} (h:Pm d e a b) (k:Pm e f a b):Pm d f a b:=
 ⟨k.perm.trans h.perm,fun x hx=>(k.out x hx).trans (h.out x hx)⟩
theorem Pm.wide {d e:Row} {a b a0 b0:Nat} (h:Pm d e a b) (h1:a0<=a) (h2:a<=b) (h3:b<=b0):Pm d e a0 b0:=by
 refine⟨?_,fun x hx=>h.out x (by omega)⟩;have e0:b0-a0=(a-a0)+((b-a)+(b0-b)):=by omega
 rw [e0,ZaZ,ZaZ,ZaZ d,ZaZ d,show a0+(a-a0)=a by omega,show a+(b-a)=b by omega];refine List.Perm.append ?_ (h.perm.append ?_)
 ·rw [ZbS (fun i hi=>h.out (a0+i) (by omega))]
 ·rw [ZbS (fun i hi=>h.out (b+i) (by omega))]
theorem Pm.mem {d e:Row} {a b:Nat} (h:Pm d e a b) {k:Nat} (h1:a<=k) (h2:k<b):∃k',a<=k'/\k'<b/\e k=d k':=by
 have h3:e k∈seg d a (b-a):=h.perm.mem_iff.1 (ZdY.2 ⟨k,h1,by omega,rfl⟩);obtain⟨k',h4,h5,h6⟩:=ZdY.1 h3;exact⟨k',h4,by omega,h6.symm⟩
theorem Zfa (d:Row) {a m b:Nat} (h1:a<=m) (h2:m<=b):Pm d (rot d a m b) a b:=by
 refine⟨?_,fun k hk=>?_⟩
 ·have e1:b-a=(b-m)+(m-a):=by omega
  have e2:b-a=(m-a)+(b-m):=by omega
  conv=>lhs;rw [e1,ZaZ]
  conv=>rhs;rw [e2,ZaZ]
  rw [show a+(m-a)=m by omega]
  have e3:seg (rot d a m b) a (b-m)=seg d m (b-m):=ZbS (fun i hi=>by
   simp only [rot];rw [if_pos (by omega)];congr 1;omega)
  have e4:seg (rot d a m b) (a+(b-m)) (m-a)=seg d a (m-a):=ZbS (fun i hi=>by
   simp only [rot];rw [if_neg (by omega),if_pos (by omega)];congr 1;omega)
  rw [e3,e4];exact List.perm_append_comm
 ·simp only [rot];rw [if_neg (by omega),if_neg (by omega)]
def L (w:Int->Int) (x y:Int):Prop:=w x<w y\/(w x=w y/\x<y)
def Srt (w:Int->Int) (d:Row) (a b:Nat):Prop:=∀i j,a<=i->i<j->j<b->L w (d i) (d j)
def Low (d:Row) (a m b:Nat):Prop:=∀i j,a<=i->i<m->m<=j->j<b->d i<d j
def Cross (w:Int->Int) (d:Row) (a m b:Nat):Prop:=∀i j,a<=i->i<m->m<=j->j<b->L w (d i) (d j)
theorem Srt.join {w:Int->Int} {d:Row} {a m b:Nat} (h1:Srt w d a m) (h2:Srt w d m b) (h3:Cross w d a m b):Srt w d a b:=by
 intro i j hi hij hj;by_cases h:j<m
 ·exact h1 i j hi hij h
 ·by_cases k:i<m
  ·exact h3 i j hi k (by omega) hj
  ·exact h2 i j (by omega) hij hj
theorem Srt.one (w:Int->Int) (d:Row) {a b:Nat} (h:b<=a+1):Srt w d a b:=fun i j hi hij hj=>by omega
theorem Cross.pm {w:Int->Int} {d e:Row} {a m b:Nat} (h:Cross w d a m b) (h1:∀k,a<=k->k<m->∃k',a<=k'/\k'<m/\e k=d k') (h2:∀k,m<=k->k<b->∃k',m<=k'/\k'<b/\e k=d k'):Cross w e a m b:=by
 intro i j hi him hj hjb;obtain⟨i',h3,h4,h5⟩:=h1 i hi him;obtain⟨j',h6,h7,h8⟩:=h2 j hj hjb;rw [h5,h8];exact h i' j' h3 h4 h6 h7
structure Cut (w:Int->Int) (d:Row) (a s m e b:Nat):Prop where
 o1:a<=s
 o2:s<=m
 o3:m<=e
 o4:e<=b
 sl:Srt w d a m
 sr:Srt w d m b
 low:Low d a m b
 c1:∀i j,a<=i->i<s->e<=j->j<b->L w (d i) (d j)
 c2:∀i j,s<=i->i<m->m<=j->j<e->L w (d j) (d i)
theorem Zgq (d:Row) {s m e k:Nat} (h:k<s):rot d s m e k=d k:=by
 simp only [rot];rw [if_neg (by omega),if_neg (by omega)]
theorem Zgr (d:Row) {s m e k:Nat} (h:s<=k) (h2:k<s+(e-m)):rot d s m e k=d (k+(m-s)):=by
 simp only [rot];rw [if_pos (by omega)]
theorem Zgs (d:Row) {s m e k:Nat} (h:s+(e-m)<=k) (h2:k<e):rot d s m e k=d (k-(e-m)):=by
 simp only [rot];rw [if_neg (by omega),if_pos (by omega)]
theorem Zgt (d:Row) {s m e k:Nat} (h:e<=k) (h2:s<=m) (h3:m<=e):rot d s m e k=d k:=by
 simp only [rot];rw [if_neg (by omega),if_neg (by omega)]
theorem Cut.srt {w:Int->Int} {d:Row} {a s m e b:Nat} (h:Cut w d a s m e b) :
  Srt w (rot d s m e) a s/\Srt w (rot d s m e) s (s+(e-m))/\Srt w (rot d s m e) (s+(e-m)) e/\Srt w (rot d s m e) e b:=by
 obtain⟨o1,o2,o3,o4,sl,sr,low,c1,c2⟩:=h;refine⟨fun i j hi hij hj=>?_,fun i j hi hij hj=>?_,fun i j hi hij hj=>?_,fun i j hi hij hj=>?_⟩
 ·rw [Zgq d (by omega),Zgq d (by omega)];exact sl i j (by omega) hij (by omega)
 ·rw [Zgr d (by omega) (by omega),Zgr d (by omega) (by omega)];exact sr _ _ (by omega) (by omega) (by omega)
 ·rw [Zgs d (by omega) (by omega),Zgs d (by omega) (by omega)];exact sl _ _ (by omega) (by omega) (by omega)
 ·rw [Zgt d (by omega) o2 o3,Zgt d (by omega) o2 o3];exact sr i j (by omega) hij (by omega)
theorem Cut.cross {w:Int->Int} {d:Row} {a s m e b:Nat} (h:Cut w d a s m e b):Cross w (rot d s m e) a (s+(e-m)) b:=by
 obtain⟨o1,o2,o3,o4,sl,sr,low,c1,c2⟩:=h;intro i j hi him hj hjb;by_cases h1:i<s
 ·rw [Zgq d h1];by_cases h2:j<e
  ·rw [Zgs d hj h2];exact sl _ _ hi (by omega) (by omega)
  ·rw [Zgt d (by omega) o2 o3];exact c1 i j hi h1 (by omega) hjb
 ·rw [Zgr d (by omega) him];by_cases h2:j<e
  ·rw [Zgs d hj h2];exact c2 _ _ (by omega) (by omega) (by omega) (by omega)
  ·rw [Zgt d (by omega) o2 o3];exact sr _ _ (by omega) (by omega) hjb
theorem Cut.low1 {w:Int->Int} {d:Row} {a s m e b:Nat} (h:Cut w d a s m e b):Low (rot d s m e) a s (s+(e-m)):=by
 obtain⟨o1,o2,o3,o4,sl,sr,low,c1,c2⟩:=h;intro i j hi him hj hjb;rw [Zgq d him,Zgr d hj hjb];exact low _ _ hi (by omega) (by omega) (by omega)
theorem Cut.low2 {w:Int->Int} {d:Row} {a s m e b:Nat} (h:Cut w d a s m e b):Low (rot d s m e) (s+(e-m)) e b:=by
 obtain⟨o1,o2,o3,o4,sl,sr,low,c1,c2⟩:=h;intro i j hi him hj hjb;rw [Zgs d hi him,Zgt d hj o2 o3];exact low _ _ (by omega) (by omega) (by omega) hjb
theorem Zr7 {w:Int->Int} {x y:Int} (h:x<y) (k:¬w y<w x):L w x y:=by unfold L;omega
theorem L.imp_le {w:Int->Int} {x y:Int} (h:L w x y):w x<=w y:=by unfold L at h;omega
theorem Srt.le {w:Int->Int} {d:Row} {a b i j:Nat} (h:Srt w d a b) (h1:a<=i) (h2:i<=j) (h3:j<b):w (d i)<=w (d j):=by
 by_cases e:i=j
 ·subst e;exact Int.le_refl _
 ·exact(h i j h1 (by omega) h3).imp_le
theorem ZnA {w:Int->Int} {d:Row} {a b i:Nat} (hs:Srt w d (a+1) b) (hl:Low d a (a+1) b) (h1:a+1<=i) (h2:i<=b) (e1:i=a+1\/w (d (i-1))<w (d a)) (e2:i=b\/¬w (d i)<w (d a)) :
  Srt w (rot d a (a+1) i) a b:=by
 have hc:Cut w d a a (a+1) i b:=⟨Nat.le_refl _,by omega,h1,h2,Srt.one w d (by omega),hs,hl,fun x y _ _ _ _=>by omega,fun x y hx hxa hy hyi=>by
  obtain rfl:x=a:=by omega
  rcases e1 with e|e
  ·omega
  ·have:=hs.le hy (show y<=i-1 by omega) (by omega);unfold L;omega⟩
 obtain⟨s1,s2,s3,s4⟩:=hc.srt;refine s2.join (s3.join s4 (fun x y hx hxi hy hyb=>?_)) hc.cross;rw [Zgs d hx hxi,Zgt d hy (by omega) h1];rcases e2 with e|e
 ·omega
 ·have h3:=hs.le h1 hy hyb;have h4:=hl (x-(i-(a+1))) y (by omega) (by omega) (by omega) hyb;have h5:x-(i-(a+1))=a:=by omega
  rw [h5] at h4 ⊢;exact Zr7 h4 (by omega)
theorem Zk9 {w:Int->Int} {d:Row} {a m i:Nat} (hs:Srt w d a m) (hl:Low d a m (m+1)) (h1:a<=i) (h2:i<=m) (e1:i=a\/¬w (d m)<w (d (i-1))) (e2:i=m\/w (d m)<w (d i)) :
  Srt w (rot d i m (m+1)) a (m+1):=by
 have hc:Cut w d a i m (m+1) (m+1):=⟨h1,h2,by omega,Nat.le_refl _,hs,Srt.one w d (by omega),hl,fun x y _ _ _ _=>by omega,fun x y hx hxa hy hyi=>by
  obtain rfl:y=m:=by omega
  rcases e2 with e|e
  ·omega
  ·have:=hs.le h1 hx hxa;have h9:=hs.le h1 (show i<=x from hx) hxa;unfold L;omega⟩
 obtain⟨s1,s2,s3,s4⟩:=hc.srt;refine(s1.join s2 (fun x y hx hxi hy hyb=>?_)).join (s3.join s4 (fun x y hx hxi hy hyb=>by omega)) hc.cross;rw [Zgq d hxi,Zgr d hy hyb];have h5:y+(m-i)=m:=by omega
 rw [h5];rcases e1 with e|e
 ·omega
 ·have h3:=hs.le hx (show x<=i-1 by omega) (by omega);exact Zr7 (hl x m hx (by omega) (by omega) (by omega)) (by omega)
theorem ZnB {w:Int->Int} {d:Row} {a m b mid s lo r0:Nat} (hsl:Srt w d a m) (hsr:Srt w d m b) (hl:Low d a m b) (ham:a<m) (hmb:m<b)
  (hmid:mid=(a+b) / 2) (hlo:lo=if mid<m then mid+m-b else a) (hr0:r0=if mid<m then mid else m)
  (h1:lo<=s) (h2:s<=r0) (e1:s=lo\/¬w (d (mid+m-1-(s-1)))<w (d (s-1))) (e2:s=r0\/w (d (mid+m-1-s))<w (d s)) :
  Cut w d a s m (mid+m-s) b:=by
 have hs0:a<=s:=by split at hlo<;>omega
 have hsm:s<=m:=by split at hr0<;>omega
 have hsd:s<=mid:=by split at hr0<;>omega
 have hb:mid+m-s<=b:=by split at hlo<;>omega
 refine⟨hs0,hsm,by omega,hb,hsl,hsr,hl,fun i j hi his hj hjb=>?_,fun i j hi him hj hje=>?_⟩
 ·rcases e1 with e|e
  ·split at hlo<;>omega
  ·rw [show mid+m-1-(s-1)=mid+m-s by omega] at e;have h3:=hsl.le hi (show i<=s-1 by omega) (by omega);have h4:=hsr.le (show m<=mid+m-s by omega) hj hjb;exact Zr7 (hl i j hi (by omega) (by omega) hjb) (by omega)
 ·rcases e2 with e|e
  ·split at hr0<;>omega
  ·have h3:=hsl.le hs0 hi him;have h4:=hsr.le hj (show j<=mid+m-1-s by omega) (by omega);unfold L;omega
theorem Zh8 {w:Int->Int} {d d2 d3:Row} {a s m e b:Nat} (h:Cut w d a s m e b) (p2:Pm (rot d s m e) d2 a (s+(e-m))) (p3:Pm d2 d3 (s+(e-m)) b)
  (s2:Srt w d2 a (s+(e-m))) (s3:Srt w d3 (s+(e-m)) b):Pm d d3 a b/\Srt w d3 a b:=by
 have hc:=h.cross;obtain⟨o1,o2,o3,o4,sl,sr,low,c1,c2⟩:=h;refine⟨(((Zfa d o2 o3).wide o1 (by omega) o4).trans (p2.wide (Nat.le_refl _) (by omega) (by omega))).trans (p3.wide (by omega) (by omega) (Nat.le_refl _)),?_⟩
 have s2':Srt w d3 a (s+(e-m)):=by
  intro i j hi hij hj;rw [p3.out i (by omega),p3.out j (by omega)];exact s2 i j hi hij hj
 refine s2'.join s3 (hc.pm (fun k h1 h2=>?_) (fun k h1 h2=>?_))
 ·rw [p3.out k (by omega)];exact p2.mem h1 h2
 ·obtain⟨k',h4,h5,h6⟩:=p3.mem h1 h2;exact⟨k',h4,h5,h6.trans (p2.out k' (by omega))⟩
structure Blk (w:Int->Int) (d:Row) (a b:Nat):Prop where
 perm:(seg d a (b-a)).Perm (seg (fun k=>(k:Int)) a (b-a))
 srt:Srt w d a b
theorem Blk.mem {w:Int->Int} {d:Row} {a b:Nat} (h:Blk w d a b) {k:Nat} (h1:a<=k) (h2:k<b):(a:Int)<=d k/\d k<(b:Int):=by
 have h3:d k∈seg (fun k=>(k:Int)) a (b-a):=h.perm.mem_iff.1 (ZdY.2 ⟨k,h1,by omega,rfl⟩);obtain⟨k',h4,h5,h6⟩:=ZdY.1 h3;omega
theorem Blk.low {w:Int->Int} {d:Row} {a m b:Nat} (h:Blk w d a m) (k:Blk w d m b):Low d a m b:=fun i j h1 h2 h3 h4=>by
 have:=h.mem h1 h2;have:=k.mem h3 h4;omega
theorem Blk.merge {w:Int->Int} {d e:Row} {a m b:Nat} (h:Blk w d a m) (k:Blk w d m b) (h1:a<=m) (h2:m<=b) (hp:Pm d e a b) (hs:Srt w e a b):Blk w e a b:=by
 refine⟨hp.perm.trans ?_,hs⟩;rw [show b-a=(m-a)+(b-m) by omega,ZaZ,ZaZ,show a+(m-a)=m by omega];exact h.perm.append k.perm
theorem Blk.stay {w:Int->Int} {d e:Row} {a b:Nat} (h:Blk w d a b) (he:∀k,a<=k->k<b->e k=d k):Blk w e a b:=by
 refine⟨?_,fun i j hi hij hj=>?_⟩
 ·rw [ZbS (fun i hi=>he (a+i) (by omega) (by omega))];exact h.perm
 ·rw [he i hi (by omega),he j (by omega) hj];exact h.srt i j hi hij hj
theorem Blk.nil (w:Int->Int) (d:Row) {a b:Nat} (h:b<=a):Blk w d a b:=by
 refine⟨?_,Srt.one w d (by omega)⟩;rw [show b-a=0 by omega];exact List.Perm.refl _
def Blks (w:Int->Int) (n B:Nat) (d:Row):Prop:=∀q,Blk w d (B*q) (min (B*q+B) n)
def Half (w:Int->Int) (n B t:Nat) (d:Row):Prop:=(∀q,q<t->Blk w d (2*B*q) (min (2*B*q+2*B) n))/\∀q,2*t<=q->Blk w d (B*q) (min (B*q+B) n)
theorem Half.start {w:Int->Int} {n B:Nat} {d:Row} (h:Blks w n B d):Half w n B 0 d:=⟨fun q hq=>by omega,fun q _=>h q⟩
theorem Zdx {B q t:Nat} (h:q<t):B*q+B<=B*t:=by
 have:=Nat.mul_le_mul_left B (show q+1<=t by omega);rw [Nat.mul_add,Nat.mul_one] at this;exact this
theorem Half.next {w:Int->Int} {n B t a b:Nat} {d e:Row} (h:Half w n B t d) (ha:a=2*B*t) (hb:b=min (a+2*B) n) (hab:a+B<=b)
  (hp:Pm d e a b) (hs:Srt w e a b):Half w n B (t+1) e:=by
 obtain⟨h1,h2⟩:=h;have hB:B*(2*t)=2*B*t:=by rw [Nat.mul_comm 2 B,Nat.mul_assoc]
 have hB1:B*(2*t+1)=2*B*t+B:=by rw [Nat.mul_add,Nat.mul_one,hB]
 refine⟨fun q hq=>?_,fun q hq=>?_⟩
 ·by_cases e:q=t
  ·subst e;have k1:=h2 (2*q) (by omega);have k2:=h2 (2*q+1) (by omega);rw [hB] at k1;rw [hB1] at k2;rw [<-ha] at k1 k2 ⊢;rw [<-hb];have e1:min (a+B) n=a+B:=by omega
   have e2:min (a+B+B) n=b:=by omega
   rw [e1] at k1;rw [e2] at k2;exact k1.merge k2 (by omega) hab hp hs
  ·have h3:=Zdx (B:=2*B) (show q<t by omega);exact(h1 q (by omega)).stay (fun k hk1 hk2=>hp.out k (by omega))
 ·have h3:=Zdx (B:=B) (show 2*t+1<q by omega);exact(h2 q (by omega)).stay (fun k hk1 hk2=>hp.out k (by omega))
theorem Half.end_ {w:Int->Int} {n B t a:Nat} {d:Row} (h:Half w n B t d) (ha:a=2*B*t) (hn:n<=a+B):Blks w n (2*B) d:=by
 obtain⟨h1,h2⟩:=h;intro q;by_cases hq:q<t
 ·exact h1 q hq
 ·by_cases e:q=t
  ·subst e;have k1:=h2 (2*q) (by omega);have hB:B*(2*q)=2*B*q:=by rw [Nat.mul_comm 2 B,Nat.mul_assoc]
   rw [hB] at k1;have e1:min (2*B*q+B) n=min (2*B*q+2*B) n:=by omega
   rw [e1] at k1;exact k1
  ·have h3:=Zdx (B:=2*B) (show t<q by omega);exact Blk.nil w d (by omega)
theorem Half.full {w:Int->Int} {n B t a:Nat} {d:Row} (h:Half w n B t d) (ha:a=2*B*t) (hn:n<=a):Blks w n (2*B) d:=h.end_ ha (by omega)
theorem Blks.all {w:Int->Int} {n B:Nat} {d:Row} (h:Blks w n B d) (hn:n<=B):Blk w d 0 n:=by
 have:=h 0;rw [Nat.mul_zero,show min (0+B) n=n by omega] at this;exact this
def Ins (w:Int->Int) (n B t:Nat) (d:Row):Prop:=(∀q,q<t->Blk w d (B*q) (min (B*q+B) n))/\∀k,B*t<=k->d k=(k:Int)
theorem Ins.next {w:Int->Int} {n B t a b:Nat} {d e:Row} (h:Ins w n B t d) (ha:a=B*t) (hb:b=min (a+B) n) (hp:Pm d e a b) (hs:Srt w e a b):Ins w n B (t+1) e:=by
 obtain⟨h1,h2⟩:=h;refine⟨fun q hq=>?_,fun k hk=>?_⟩
 ·by_cases e:q=t
  ·subst e;rw [<-ha,<-hb];refine⟨hp.perm.trans ?_,hs⟩;rw [ZbS (e:=fun k=>(k:Int)) (b:=a) (fun i hi=>h2 (a+i) (by omega))]
  ·have h3:=Zdx (B:=B) (show q<t by omega);exact(h1 q (by omega)).stay (fun k hk1 hk2=>hp.out k (by omega))
 ·have h3:B*(t+1)=B*t+B:=by rw [Nat.mul_add,Nat.mul_one]
  rw [hp.out k (by omega)];exact h2 k (by omega)
theorem Ins.end_ {w:Int->Int} {n B t:Nat} {d:Row} (h:Ins w n B t d) (hn:n<=B*t):Blks w n B d:=by
 intro q;by_cases hq:q<t
 ·exact h.1 q hq
 ·have h3:B*t<=B*q:=Nat.mul_le_mul_left B (by omega);exact Blk.nil w d (by omega)
end SymM
end
end Go.Proofs.YtnachbjhhpnadaaGreatDoor

import Derived.WalkKit
import Derived.Lib.BytesEntry
import Derived.Lib.IndexLaws
import Derived.Test.YtnachbjhhpnadaaGreatDoorRows
import Derived.WalkSpells
import Derived.WalkLawsBesides
import Derived.ProofKit
import Derived.OpenShut
import Derived.ShutString
import Derived.ChangeOld
import Derived.Below
import Derived.Lib.Hide
import Derived.BigQuiet
import Derived.SliceStrings
set_option linter.unusedVariables false
set_option linter.unusedSimpArgs false
set_option maxHeartbeats 8000000
set_option maxRecDepth 100000
namespace Go.Proofs.YtnachbjhhpnadaaGreatDoor
section
namespace BitM
open Go.RowKit
def bn (b:Bool):Nat:=if b then 1 else 0
def num (l:List Bool):Nat:=l.foldl (fun a b=>2*a+bn b) 0
theorem ZeA (l:List Bool):∀a,l.foldl (fun a b=>2*a+bn b) a=a*2^l.length+num l:=by
 induction l with
 | nil=>intro a;simp [num]
 | cons b l ih=>
  intro a
  have h0:num (b::l)=bn b*2^l.length+num l:=by
   show l.foldl _ (2*0+bn b)=_;rw [ih];simp
  rw [List.foldl_cons,ih,h0,List.length_cons,Nat.pow_succ,Nat.add_mul,Nat.add_assoc];congr 1;rw [Nat.mul_comm 2 a,Nat.mul_assoc,Nat.mul_comm 2]
theorem ZaE (l m:List Bool):num (l++m)=num l*2^m.length+num m:=by
 show(l++m).foldl _ 0=_;rw [List.foldl_append];exact ZeA m _
theorem ZeB (l:List Bool) (b:Bool):num (l++[b])=2*num l+bn b:=by
 rw [ZaE];show num l*2^1+(2*0+bn b)=_;omega
theorem ZrV (b:Bool):bn b<2:=by cases b<;>decide
theorem ZaB (l:List Bool):num l<2^l.length:=by
 induction l with
 | nil=>decide
 | cons b l ih=>
  have e:num (b::l)=bn b*2^l.length+num l:=by
   show l.foldl _ (2*0+bn b)=_;rw [ZeA];simp
  have hb:=ZrV b;rw [e,List.length_cons,Nat.pow_succ];have:bn b*2^l.length<=1*2^l.length:=Nat.mul_le_mul_right _ (by omega);omega
theorem ZkQ (l:List Bool) (m:Nat) (_h:m<=l.length):num (l.take m)=num l / 2^(l.length-m):=by
 conv=>rhs;rw [<-List.take_append_drop m l,ZaE]
 have hl:(l.drop m).length=l.length-m:=by simp
 rw [hl];have h2:(l.take m++l.drop m).length-m=l.length-m:=by rw [List.take_append_drop]
 rw [h2,Nat.mul_comm,Nat.mul_add_div (Nat.two_pow_pos _),Nat.div_eq_of_lt (by have:=ZaB (l.drop m);rwa [hl] at this)];rfl
theorem ZkR (l:List Bool) (m:Nat) (_h:m<=l.length):num (l.drop m)=num l % 2^(l.length-m):=by
 conv=>rhs;rw [<-List.take_append_drop m l,ZaE]
 have hl:(l.drop m).length=l.length-m:=by simp
 have h2:(l.take m++l.drop m).length-m=l.length-m:=by rw [List.take_append_drop]
 rw [hl,h2,Nat.mul_add_mod_self_right,Nat.mod_eq_of_lt (by have:=ZaB (l.drop m);rwa [hl] at this)]
theorem Zjg (l:List Bool) (i n:Nat) (h:i+n<=l.length):num ((l.drop i).take n)=num l / 2^(l.length-i-n) % 2^n:=by
 rw [ZkQ _ _ (by simp;omega),ZkR _ _ (by omega),List.length_drop];have e:2^(l.length-i)=2^(l.length-i-n)*2^n:=by rw [<-Nat.pow_add];congr 1;omega
 rw [e,Nat.mod_mul_right_div_self]
def field (v:Nat):Nat->List Bool
 | 0=>[]
 | n+1=>field (v / 2) n++[v % 2==1]
theorem Zac (v n:Nat):(field v n).length=n:=by
 induction n generalizing v with
 | zero=>rfl
 | succ n ih=>simp [field,ih]
theorem Zau (v n:Nat):num (field v n)=v % 2^n:=by
 induction n generalizing v with
 | zero=>simp [field,num,Nat.mod_one]
 | succ n ih=>
  rw [field,ZeB,ih]
  have hb:bn (v % 2==1)=v % 2:=by
   have:v % 2=0\/v % 2=1:=by omega
   rcases this with h|h<;>simp [h,bn]
  rw [hb,Nat.pow_succ,Nat.mul_comm (2^n) 2,Nat.mod_mul];omega
theorem Zcr:∀(l m:List Bool),l.length=m.length->num l=num m->l=m
 | [],[],_,_=>rfl
 | a::l,b::m,hl,h=>by
  have hl':l.length=m.length:=by simpa using hl
  have e1:num (a::l)=bn a*2^l.length+num l:=by show l.foldl _ (2*0+bn a)=_;rw [ZeA];simp
  have e2:num (b::m)=bn b*2^m.length+num m:=by show m.foldl _ (2*0+bn b)=_;rw [ZeA];simp
  have l1:=ZaB l;have l2:=ZaB m;rw [e1,e2,<-hl'] at h;rw [<-hl'] at l2
  have hab:a=b:=by
   cases a<;>cases b<;>simp [bn] at h ⊢<;>omega
  subst hab;rw [Zcr l m hl' (by omega)]
theorem ZeC (l:List Bool):field (num l) l.length=l:=
 Zcr _ _ (by rw [Zac]) (by rw [Zau,Nat.mod_eq_of_lt (ZaB l)])
def byts (q:List Bool):List UInt8:=(List.range (q.length / 8)).map fun i=>UInt8.ofNat (num ((q.drop (8*i)).take 8))
theorem ZaV (q:List Bool):(byts q).length=q.length / 8:=by simp [byts]
def tail (q:List Bool):List Bool:=q.drop (8*(q.length / 8))
theorem Zbw (q:List Bool):(tail q).length=q.length % 8:=by simp [tail];omega
theorem Zc2 (q f:List Bool):byts (q++f)=byts q++byts (tail q++f):=by
 have h1:(q++f).length / 8=q.length / 8+(tail q++f).length / 8:=by
  rw [List.length_append,List.length_append,Zbw];omega
 unfold byts;rw [h1,List.range_add,List.map_append,List.map_map];congr 1
 ·apply List.map_congr_left;intro i hi;have hi':=List.mem_range.1 hi;rw [List.drop_append_of_le_length (by omega),List.take_append_of_le_length (by simp;omega)]
 ·apply List.map_congr_left;intro i _;show UInt8.ofNat _=UInt8.ofNat _
  have:(q++f).drop (8*(q.length / 8+i))=(tail q++f).drop (8*i):=by
   unfold tail;rw [Nat.mul_add,<-List.drop_drop,List.drop_append_of_le_length (by omega:8*(q.length / 8)<=q.length)]
  rw [this]
theorem Zjh (q f:List Bool):tail (q++f)=(tail q++f).drop (8*((tail q++f).length / 8)):=by
 have h1:(q++f).length / 8=q.length / 8+(tail q++f).length / 8:=by
  rw [List.length_append,List.length_append,Zbw];omega
 show(q++f).drop (8*((q++f).length / 8))=_;rw [h1,Nat.mul_add,<-List.drop_drop,List.drop_append_of_le_length (by omega:8*(q.length / 8)<=q.length)];rfl
theorem byte_at (t:List Bool) (j:Nat) (h:8*j+8<=t.length):num ((t.drop (8*j)).take 8)=num t / 2^(t.length-8*j-8) % 256:=Zjg t (8*j) 8 h
def bitsOf (l:List UInt8):List Bool:=l.flatMap fun c=>field c.toNat 8
theorem Zan (l:List UInt8):(bitsOf l).length=8*l.length:=by
 induction l with
 | nil=>rfl
 | cons c l ih=>
  show(field c.toNat 8++bitsOf l).length=_;rw [List.length_append,Zac,ih,List.length_cons];omega
theorem ZaO (a b:List UInt8):bitsOf (a++b)=bitsOf a++bitsOf b:=by simp [bitsOf]
theorem Zji (l:List UInt8) (n:Nat):bitsOf (l.take n)=(bitsOf l).take (8*n):=by
 by_cases h:n<=l.length
 ·conv=>rhs;rw [<-List.take_append_drop n l,ZaO]
  rw [List.take_left' (by rw [Zan];simp;omega)]
 ·rw [List.take_of_length_le (by omega),List.take_of_length_le (by rw [Zan];omega)]
theorem Zjj (l:List UInt8) (n:Nat):bitsOf (l.drop n)=(bitsOf l).drop (8*n):=by
 by_cases h:n<=l.length
 ·conv=>rhs;rw [<-List.take_append_drop n l,ZaO]
  rw [List.drop_left' (by rw [Zan];simp;omega)]
 ·rw [List.drop_of_length_le (by omega),List.drop_of_length_le (by rw [Zan];omega)];rfl
theorem Zl5 (t:List Bool) (h:t.length=8):byts t=[UInt8.ofNat (num t)]/\tail t=[]:=by
 constructor
 ·unfold byts;rw [h];simp [List.take_of_length_le (Nat.le_of_eq h)]
 ·unfold tail;rw [h];exact List.drop_of_length_le (by omega)
theorem ZeU:∀(n:Nat) (q:List Bool),q.length=8*n->bitsOf (byts q)=q
 | 0,q,h=>by
  obtain rfl:q=[]:=List.eq_nil_of_length_eq_zero (by omega);rfl
 | n+1,q,h=>by
  have h8:(q.take 8).length=8:=by simp;omega
  obtain⟨e1,e2⟩:=Zl5 (q.take 8) h8
  have hq:byts q=UInt8.ofNat (num (q.take 8))::byts (q.drop 8):=by
   conv=>lhs;rw [<-List.take_append_drop 8 q,Zc2,e1,e2]
   rfl
  rw [hq];show field (UInt8.ofNat (num (q.take 8))).toNat 8++bitsOf (byts (q.drop 8))=q;rw [ZeU n (q.drop 8) (by simp;omega)];have hlt:=ZaB (q.take 8);rw [h8] at hlt;have e3:(UInt8.ofNat (num (q.take 8))).toNat=num (q.take 8):=by rw [UInt8.toNat_ofNat'];exact Nat.mod_eq_of_lt hlt
  have e4:field (num (q.take 8)) 8=q.take 8:=by
   have:=ZeC (q.take 8)
   rwa [h8] at this
  rw [e3,e4,List.take_append_drop]
theorem ZpI (l:List UInt8) (fr n:Nat) (h:fr+n<=8*l.length) :
  num (bitsOf ((l.drop (fr / 8)).take ((fr+n+7) / 8-fr / 8))) / 2^((8-(fr+n) % 8) % 8) % 2^n=num (((bitsOf l).drop fr).take n):=by
 have hc:(bitsOf ((l.drop (fr / 8)).take ((fr+n+7) / 8-fr / 8))).length=8*((fr+n+7) / 8-fr / 8):=by
  rw [Zan,List.length_take,List.length_drop];omega
 have h1:=Zjg (bitsOf ((l.drop (fr / 8)).take ((fr+n+7) / 8-fr / 8))) (fr % 8) n (by rw [hc];omega);rw [hc,show 8*((fr+n+7) / 8-fr / 8)-fr % 8-n=(8-(fr+n) % 8) % 8 by omega] at h1;rw [<-h1,Zji,Zjj,List.drop_take,List.drop_drop,List.take_take];rw [show 8*(fr / 8)+fr % 8=fr by omega,show min n (8*((fr+n+7) / 8-fr / 8)-fr % 8)=n by omega]
theorem ZeV (l:List UInt8) (c:UInt8):num (bitsOf (l++[c]))=num (bitsOf l)*256+c.toNat:=by
 rw [ZaO,ZaE];have:bitsOf [c]=field c.toNat 8:=by simp [bitsOf]
 rw [this,Zac,Zau,Nat.mod_eq_of_lt (by have:=c.toNat_lt;omega)]
end BitM
end
section
namespace PkM
open Go.RowKit BitM
def tch (o:List Nat) (i:Nat):List Nat:=(o.drop i).take 1++o.take i++o.drop (i+1)
theorem ZeD (o:List Nat) (i:Nat) (h:i<o.length):tch o i=o[i]::(o.take i++o.drop (i+1)):=by
 unfold tch;rw [List.drop_eq_getElem_cons h,List.append_assoc];rfl
theorem ZcO (o:List Nat) (i:Nat) (h:i<o.length):(tch o i).length=o.length:=by
 rw [ZeD o i h];simp;omega
def lead:List Bool->Nat
 | true::q=>lead q+1
 | _=>0
theorem ZdT:∀q:List Bool,lead q<=q.length
 | []=>Nat.le_refl _
 | false::q=>Nat.zero_le _
 | true::q=>by
  have:=ZdT q;simp only [lead,List.length_cons];omega
theorem ZkS (q:List Bool):∀n,lead (List.replicate n true++false::q)=n
 | 0=>rfl
 | n+1=>by
  rw [List.replicate_succ,List.cons_append,lead,ZkS q n]
theorem ZkT:∀(q r:List Bool),lead q<q.length->lead (q++r)=lead q
 | [],r,h=>absurd h (Nat.lt_irrefl _)
 | false::q,r,_=>rfl
 | true::q,r,h=>by
  simp only [lead,List.length_cons] at h;rw [List.cons_append,lead,lead,ZkT q r (by omega)]
theorem Zm7:∀(q r:List Bool),lead q<=lead (q++r)
 | [],r=>Nat.zero_le _
 | false::q,r=>Nat.zero_le _
 | true::q,r=>by
  rw [List.cons_append,lead,lead];have:=Zm7 q r;omega
def enc:List Nat->List Nat->List Bool
 | _,[]=>[]
 | o,p::t=>List.replicate (o.idxOf p) true++false::enc (tch o (o.idxOf p)) t
def ord:List Nat->List Nat->List Nat
 | o,[]=>o
 | o,p::t=>ord (tch o (o.idxOf p)) t
theorem Zm8:∀(o l m:List Nat),enc o (l++m)=enc o l++enc (ord o l) m
 | o,[],m=>rfl
 | o,p::t,m=>by
  rw [List.cons_append,enc,enc,ord,Zm8,List.append_assoc];rfl
theorem Zm9:∀(o l m:List Nat),ord o (l++m)=ord (ord o l) m
 | o,[],m=>rfl
 | o,p::t,m=>by rw [List.cons_append,ord,ord,Zm9]
def Ord (t:Nat) (o:List Nat):Prop:=o.length=6/\∀x,x<t↔x∈o.take t
theorem Ord.start {t:Nat} (h:t<=6):Ord t [0,1,2,3,4,5]:=by
 refine⟨rfl,fun x=>?_⟩;rcases(by omega:t=0\/t=1\/t=2\/t=3\/t=4\/t=5\/t=6) with rfl|rfl|rfl|rfl|rfl|rfl|rfl<;>simp<;>omega
theorem Ord.place {t:Nat} {o:List Nat} (h:Ord t o) (ht:t<=6) {p:Nat} (hp:p<t):o.idxOf p<t/\o[o.idxOf p]?=some p:=by
 have hm:=(h.2 p).1 hp
 have h1:o.idxOf p=(o.take t).idxOf p:=by
  conv=>lhs;rw [<-List.take_append_drop t o]
  rw [List.idxOf_append,if_pos hm]
 have h2:(o.take t).idxOf p<(o.take t).length:=List.idxOf_lt_length_of_mem hm;have h3:(o.take t).length=t:=by rw [List.length_take,h.1];omega
 refine⟨by omega,?_⟩;have h4:p∈o:=List.mem_of_mem_take hm;rw [List.getElem?_eq_getElem (List.idxOf_lt_length_of_mem h4),List.getElem_idxOf]
theorem Ord.tch {t:Nat} {o:List Nat} (h:Ord t o) (ht:t<=6) {i:Nat} (hi:i<t):Ord t (tch o i):=by
 have hl:=h.1;have hio:i<o.length:=by omega
 refine⟨by rw [ZcO o i hio,hl],fun x=>?_⟩;rw [h.2 x,ZeD o i hio];obtain⟨s,rfl⟩:∃s,t=i+1+s:=⟨t-(i+1),by omega⟩
 have e1:o.take (i+1+s)=o.take i++o[i]::(o.drop (i+1)).take s:=by
  rw [List.take_add,List.take_succ_eq_append_getElem hio,List.append_assoc];rfl
 have e2:(o[i]::(o.take i++o.drop (i+1))).take (i+1+s)=o[i]::(o.take i++(o.drop (i+1)).take s):=by
  rw [show i+1+s=(i+s)+1 by omega,List.take_succ_cons,List.take_append,List.length_take,Nat.min_eq_left (by omega),List.take_of_length_le (by rw [List.length_take];omega),show i+s-i=s by omega]
 rw [e1,e2];simp only [List.mem_append,List.mem_cons];constructor
 ·rintro(h|h|h)
  ·exact Or.inr (Or.inl h)
  ·exact Or.inl h
  ·exact Or.inr (Or.inr h)
 ·rintro(h|h|h)
  ·exact Or.inr (Or.inl h)
  ·exact Or.inl h
  ·exact Or.inr (Or.inr h)
inductive Res where
 | ok (l:List Nat) (n:Nat)
 | bad (to:Nat)
 | short
def Res.add (l:List Nat) (k:Nat):Res->Res
 | .ok l' n=>.ok (l++l') (k+n)
 | .bad to=>.bad (k+to)
 | .short=>.short
theorem add_add (r:Res) (l l':List Nat) (k k':Nat):(r.add l k).add l' k'=r.add (l'++l) (k'+k):=by
 cases r<;>simp [Res.add,Nat.add_assoc]
def run (t:Nat):List Bool->Nat->List Nat->Res
 | _,0,_=>.ok [] 0
 | q,m+1,o=>
  if t<=lead q then .bad t
  else if lead q=q.length then .short
  else(run t (q.drop (lead q+1)) m (tch o (lead q))).add [o.getD (lead q) 0] (lead q+1)
theorem ZrW {t:Nat} {o:List Nat} (h:Ord t o) (ht:t<=6) {p:Nat} (hp:p<t) (q:List Bool) (m:Nat) :
  run t (List.replicate (o.idxOf p) true++false::q) (m+1) o=(run t q m (tch o (o.idxOf p))).add [p] (o.idxOf p+1):=by
 obtain⟨h1,h2⟩:=h.place ht hp;rw [run,ZkS,if_neg (by omega),if_neg (by simp),List.drop_append,List.length_replicate,List.drop_of_length_le (by simp),Nat.add_sub_cancel_left,List.getD_eq_getElem?_getD,h2];rfl
theorem run_enc {t:Nat} (ht:t<=6) (q:List Bool):∀(ps o:List Nat),Ord t o->(∀p∈ps,p<t)->run t (enc o ps++q) ps.length o=.ok ps (enc o ps).length
 | [],o,_,_=>rfl
 | p::ps,o,h,hp=>by
  have hpt:=hp p (List.mem_cons_self);have h1:=h.place ht hpt;rw [enc,List.append_assoc,List.cons_append,List.length_cons,ZrW h ht hpt,run_enc ht q ps _ (h.tch ht h1.1) (fun x hx=>hp x (List.mem_cons_of_mem _ hx))];simp [Res.add]
  try omega
def rd (q:List Bool):Res:=
 if q.length<18 then .short
 else if num (q.take 3)<2\/6<num (q.take 3)\/num ((q.drop 3).take 15)=0 then .bad 18
 else(run (num (q.take 3)) (q.drop 18) (num ((q.drop 3).take 15)) [0,1,2,3,4,5]).add [] 18
def allB (ps:List Nat) (t:Nat):List Bool:=field t 3++field ps.length 15++enc [0,1,2,3,4,5] ps
def May (ps:List Nat) (t:Nat):Prop:=2<=t/\t<=6/\1<=ps.length/\ps.length<=32767/\∀p∈ps,p<t
theorem allB_length (ps:List Nat) (t:Nat):(allB ps t).length=18+(enc [0,1,2,3,4,5] ps).length:=by
 unfold allB;rw [List.length_append,List.length_append,Zac,Zac]
theorem rd_all {ps:List Nat} {t:Nat} (h:May ps t) (q:List Bool):rd (allB ps t++q)=.ok ps (allB ps t).length/\num ((allB ps t++q).take 3)=t/\num (((allB ps t++q).drop 3).take 15)=ps.length:=by
 obtain⟨h2,h6,h1,hm,hp⟩:=h;have f3:(field t 3).length=3:=Zac _ _;have f15:(field ps.length 15).length=15:=Zac _ _;have hl:=allB_length ps t
 have e3:(allB ps t++q).take 3=field t 3:=by
  unfold allB;rw [List.append_assoc,List.append_assoc,List.take_append_of_le_length (by omega),List.take_of_length_le (by omega)]
 have e15:((allB ps t++q).drop 3).take 15=field ps.length 15:=by
  unfold allB;rw [List.append_assoc,List.append_assoc,List.drop_append_of_le_length (by omega),List.drop_of_length_le (by omega),List.nil_append,List.take_append_of_le_length (by omega),List.take_of_length_le (by omega)]
 have e18:(allB ps t++q).drop 18=enc [0,1,2,3,4,5] ps++q:=by
  unfold allB;have e:(field t 3++field ps.length 15).length=18:=by rw [List.length_append,f3,f15]
  rw [List.append_assoc,List.drop_append_of_le_length (by omega),List.drop_of_length_le (by omega),List.nil_append]
 have n3:num (field t 3)=t:=by
  rw [Zau];omega
 have n15:num (field ps.length 15)=ps.length:=by
  rw [Zau];omega
 refine⟨?_,by rw [e3,n3],by rw [e15,n15]⟩;unfold rd;rw [if_neg (by rw [List.length_append];omega),e3,e15,e18,n3,n15,if_neg (by omega),run_enc h6 q ps _ (Ord.start h6) hp,hl];rfl
theorem ZpJ {t:Nat} (q r:List Bool) (m:Nat) (o:List Nat) (hl:lead q<t) (hq:lead q<q.length) :
  run t (q++r) (m+1) o=(run t (q.drop (lead q+1)++r) m (tch o (lead q))).add [o.getD (lead q) 0] (lead q+1):=by
 have h1:=ZkT q r hq;rw [run,h1,if_neg (by omega),if_neg (by rw [List.length_append];omega),List.drop_append_of_le_length (by omega)]
theorem Zna {t:Nat} (q r:List Bool) (m:Nat) (o:List Nat) (hl:t<=lead q):run t (q++r) (m+1) o=.bad t:=by
 have h1:=Zm7 q r;rw [run,if_pos (by omega)]
theorem ZhQ {t:Nat} (q:List Bool) (m:Nat) (o:List Nat) (hl:lead q<t) (hq:lead q=q.length):run t q (m+1) o=.short:=by
 rw [run,if_neg (by omega),if_pos hq]
end PkM
end
section
namespace UsedM
open Go.RowKit BitM
def row (S:Nat->Bool) (i:Nat):List Bool:=(List.range 16).map fun k=>S (16*i+k)
theorem ZaP (S:Nat->Bool) (i:Nat):(row S i).length=16:=by simp [row]
theorem Zjk (S:Nat->Bool) (i j:Nat) (h:j<16):(row S i)[j]'(by rw [ZaP];exact h)=S (16*i+j):=by simp [row]
def fld (S:Nat->Bool) (i:Nat):Nat:=num (row S i)
theorem ZeW (S:Nat->Bool) (i:Nat):fld S i<65536:=by
 have:=ZaB (row S i);rw [ZaP] at this;exact this
theorem Zjl (l:List Bool) (j:Nat) (h:j<l.length):(num l).testBit (l.length-1-j)=l[j]:=by
 have hm:=Zjg l j 1 (by omega)
 have e1:(l.drop j).take 1=[l[j]]:=by
  rw [List.drop_eq_getElem_cons h];rfl
 rw [e1,show l.length-j-1=l.length-1-j by omega] at hm;have e2:num [l[j]]=bn l[j]:=Nat.zero_add _;rw [e2] at hm;rw [Nat.testBit_eq_decide_div_mod_eq,show num l / 2^(l.length-1-j) % 2=bn l[j] from hm.symm];cases l[j]<;>rfl
theorem ZgU (S:Nat->Bool) (i j:Nat) (h:j<16):(fld S i).testBit (15-j)=S (16*i+j):=by
 have:=Zjl (row S i) j (by rw [ZaP];exact h);rw [Zjk S i j h] at this;simp only [ZaP] at this;exact this
theorem ZpK (S:Nat->Bool) (i k:Nat) (h:16<=k):(fld S i).testBit k=false:=by
 apply Nat.testBit_lt_two_pow;exact Nat.lt_of_lt_of_le (ZeW S i) (Nat.pow_le_pow_right (by omega) h:2^16<=2^k)
theorem Znb (S:Nat->Bool) (i X:Nat) (h:X<65536) (hb:∀j,j<16->X.testBit (15-j)=S (16*i+j)):X=fld S i:=by
 apply Nat.eq_of_testBit_eq;intro k;by_cases hk:k<16
 ·have e:k=15-(15-k):=by omega
  rw [e,hb (15-k) (by omega),ZgU S i (15-k) (by omega)]
 ·rw [ZpK S i k (by omega)];apply Nat.testBit_lt_two_pow;exact Nat.lt_of_lt_of_le h (Nat.pow_le_pow_right (by omega) (by omega):2^16<=2^k)
def put (S:Nat->Bool) (b:Nat):Nat->Bool:=fun x=>S x || x==b
theorem Zel (S:Nat->Bool) (i j:Nat) (h:j<16):fld S i ||| 2^(15-j)=fld (put S (16*i+j)) i:=by
 apply Znb
 ·have h1:=ZeW S i;have h2:2^(15-j)<2^16:=Nat.pow_lt_pow_right (by omega) (by omega);exact Nat.or_lt_two_pow (n:=16) h1 h2
 ·intro j' hj';rw [Nat.testBit_or,ZgU S i j' hj',Nat.testBit_two_pow];unfold put;congr 1;by_cases e:j=j'
  ·subst e;simp
  ·have h1:¬(15-j=15-j'):=by omega
   have h2:¬(j'=j):=fun h=>e h.symm
   simp [h1,h2]
theorem ZhR (S T:Nat->Bool) (i:Nat) (h:∀j,j<16->S (16*i+j)=T (16*i+j)):fld S i=fld T i:=by
 unfold fld row;congr 1;apply List.map_congr_left;intro k hk;exact h k (List.mem_range.1 hk)
theorem ZgV (S:Nat->Bool) (i b:Nat) (h:b / 16≠i):fld (put S b) i=fld S i:=by
 apply ZhR;intro j hj;unfold put;have:¬(16*i+j=b):=by omega
 simp [this]
theorem Znc (S:Nat->Bool) (i j:Nat) (h:j<16):fld S i &&& 2^(15-j)=if S (16*i+j) then 2^(15-j) else 0:=by
 apply Nat.eq_of_testBit_eq;intro k;rw [Nat.testBit_and,Nat.testBit_two_pow];by_cases e:15-j=k
 ·subst e;rw [ZgU S i j h];cases S (16*i+j)<;>simp
 ·cases S (16*i+j)<;>simp [e]
def ZaW (S:Nat->Bool) (i:Nat):Bool:=(row S i).any id
theorem Zb8 (S:Nat->Bool) (i:Nat):fld S i=0↔ZaW S i=false:=by
 constructor
 ·intro h;unfold ZaW row;rw [List.any_eq_false];intro x hx;obtain⟨k,hk,rfl⟩:=List.mem_map.1 hx;rw [<-ZgU S i k (List.mem_range.1 hk),h];simp
 ·intro h
  have:(0:Nat)=fld S i:=by
   apply Znb
   ·decide
   ·intro j hj;unfold ZaW row at h;rw [List.any_eq_false] at h;have:=h (S (16*i+j)) (List.mem_map.2 ⟨j,List.mem_range.2 hj,rfl⟩);simp at this;simp [this]
  exact this.symm
theorem ZeX (i:Nat):fld (fun _=>false) i=0:=by
 rw [Zb8];unfold ZaW row;rw [List.any_eq_false];intro x hx;obtain⟨k,_,rfl⟩:=List.mem_map.1 hx;simp
def syms (S:Nat->Bool) (n:Nat):List UInt8:=((List.range n).filter S).map UInt8.ofNat
theorem Znd (S:Nat->Bool):syms S 0=[]:=rfl
theorem Zbx (S:Nat->Bool) (n:Nat):syms S (n+1)=if S n then syms S n++[UInt8.ofNat n] else syms S n:=by
 unfold syms;rw [List.range_succ,List.filter_append,List.map_append];cases h:S n<;>simp [h]
theorem Zcs (S:Nat->Bool) (n:Nat):(syms S n).length<=n:=by
 unfold syms;rw [List.length_map];exact Nat.le_trans (List.length_filter_le _ _) (by simp)
theorem Zge (S T:Nat->Bool) (n:Nat) (h:∀b,b<n->S b=T b):syms S n=syms T n:=by
 unfold syms;congr 1;apply List.filter_congr;intro x hx;exact h x (List.mem_range.1 hx)
theorem ZeE (S:Nat->Bool) (n:Nat) (hn:n<=256) (x:UInt8):x∈syms S n↔x.toNat<n/\S x.toNat=true:=by
 unfold syms;rw [List.mem_map];constructor
 ·rintro⟨k,hk,rfl⟩;rw [List.mem_filter,List.mem_range] at hk;rw [UInt8.toNat_ofNat',Nat.mod_eq_of_lt (by omega)];exact hk
 ·intro ⟨h1,h2⟩;exact⟨x.toNat,List.mem_filter.2 ⟨List.mem_range.2 h1,h2⟩,by simp⟩
def has (l:List UInt8) (n:Nat):Bool:=l.any fun c=>c.toNat==n
theorem ZdU (l:List UInt8) (x:UInt8):has l x.toNat=true↔x∈l:=by
 unfold has;rw [List.any_eq_true];constructor
 ·rintro⟨c,hc,he⟩;have:c=x:=UInt8.toNat_inj.1 (by simpa using he);exact this▸hc
 ·intro h;exact⟨x,h,by simp⟩
theorem Zjm (l:List UInt8) (n:Nat) (h:256<=n):has l n=false:=by
 unfold has;rw [List.any_eq_false];intro c _;have:=c.toNat_lt;simp only [beq_iff_eq];omega
theorem ZgW (l:List UInt8) (c:UInt8):has (l++[c])=put (has l) c.toNat:=by
 funext x
 unfold has put;rw [List.any_append];simp only [List.any_cons,List.any_nil,Bool.or_false];congr 1;rw [Bool.eq_iff_iff];simp only [beq_iff_eq];omega
theorem ZkU (S:Nat->Bool) (n:Nat) (h:n<256):has (syms S 256) n=S n:=by
 have e:(UInt8.ofNat n).toNat=n:=by rw [UInt8.toNat_ofNat',Nat.mod_eq_of_lt (by omega)]
 rw [Bool.eq_iff_iff];have h1:=ZdU (syms S 256) (UInt8.ofNat n);rw [e] at h1;rw [h1,ZeE S 256 (by omega),e];exact⟨fun h=>h.2,fun h'=>⟨h,h'⟩⟩
def Rise (l:List UInt8):Prop:=∀(i:Nat) (x y:UInt8),l[i]?=some x->l[i+1]?=some y->x.toNat<y.toNat
def Sorted (l:List UInt8):Prop:=l.Pairwise fun x y=>x.toNat<y.toNat
theorem Rise.lt {l:List UInt8} (h:Rise l):∀(d i:Nat) (x y:UInt8),l[i]?=some x->l[i+1+d]?=some y->x.toNat<y.toNat
 | 0,i,x,y,hx,hy=>h i x y hx hy
 | d+1,i,x,y,hx,hy=>by
  have hlt:=(List.getElem?_eq_some_iff.1 hy).1;have hz:l[i+1+d]?=some (l[i+1+d]'(by omega)):=List.getElem?_eq_getElem _;have h1:=Rise.lt h d i x _ hx hz;have h2:=h (i+1+d) _ y hz (by rwa [show i+1+d+1=i+1+(d+1) by omega]);omega
theorem Rise.sorted {l:List UInt8} (h:Rise l):Sorted l:=by
 unfold Sorted;rw [List.pairwise_iff_getElem];intro i j hi hj hij;exact h.lt (j-i-1) i _ _ (List.getElem?_eq_getElem hi) (by rw [show i+1+(j-i-1)=j by omega];exact List.getElem?_eq_getElem hj)
theorem Sorted.rise {l:List UInt8} (h:Sorted l):Rise l:=by
 intro i x y hx hy;unfold Sorted at h;rw [List.pairwise_iff_getElem] at h;obtain⟨hi,rfl⟩:=List.getElem?_eq_some_iff.1 hx;obtain⟨hj,rfl⟩:=List.getElem?_eq_some_iff.1 hy;exact h i (i+1) hi hj (by omega)
theorem Zgf:∀(l m:List UInt8),Sorted l->Sorted m->(∀x,x∈l↔x∈m)->l=m
 | [],[],_,_,_=>rfl
 | [],b::m,_,_,h=>absurd ((h b).2 (by simp)) (by simp)
 | a::l,[],_,_,h=>absurd ((h a).1 (by simp)) (by simp)
 | a::l,b::m,hl,hm,h=>by
  unfold Sorted at hl hm;rw [List.pairwise_cons] at hl hm
  have hab:a=b:=by
   have h1:=(h a).1 (by simp);have h2:=(h b).2 (by simp);rcases List.mem_cons.1 h1 with e|e
   ·exact e
   ·rcases List.mem_cons.1 h2 with f|f
    ·exact f.symm
    ·have:=hl.1 b f;have:=hm.1 a e;omega
  subst hab
  have:l=m:=Zgf l m hl.2 hm.2 (fun x=>by
   constructor
   ·intro hx;rcases List.mem_cons.1 ((h x).1 (List.mem_cons_of_mem _ hx)) with e|e
    ·subst e;have:=hl.1 x hx;omega
    ·exact e
   ·intro hx;rcases List.mem_cons.1 ((h x).2 (List.mem_cons_of_mem _ hx)) with e|e
    ·subst e;have:=hm.1 x hx;omega
    ·exact e)
  rw [this]
theorem Zc3 (S:Nat->Bool):∀n,n<=256->Sorted (syms S n)
 | 0,_=>List.Pairwise.nil
 | n+1,h=>by
  rw [Zbx];have ih:=Zc3 S n (by omega);cases S n
  ·exact ih
  ·simp only [if_true];unfold Sorted;rw [List.pairwise_append];refine⟨ih,by simp,fun x hx y hy=>?_⟩;have h1:=((ZeE S n (by omega) x).1 hx).1;rw [List.mem_singleton] at hy;subst hy;rw [UInt8.toNat_ofNat',Nat.mod_eq_of_lt (by omega)];exact h1
theorem ZeY (S:Nat->Bool):Rise (syms S 256):=(Zc3 S 256 (Nat.le_refl _)).rise
theorem ZgX {l:List UInt8} (h:Rise l):syms (has l) 256=l:=
 Zgf _ _ (Zc3 _ 256 (Nat.le_refl _)) h.sorted (fun x=>by
  rw [ZeE _ _ (Nat.le_refl _),ZdU];have:=x.toNat_lt;exact⟨fun h=>h.2,fun h=>⟨by omega,h⟩⟩)
def IsSyms (l:List UInt8):Prop:=Rise l/\l≠[]
theorem Zdm {l:List UInt8} (h:IsSyms l):l.length<=256:=by
 have:=Zcs (has l) 256
 rwa [ZgX h.1] at this
theorem ZeF (S:Nat->Bool):syms S 256=[]↔∀b,b<256->S b=false:=by
 constructor
 ·intro h b hb;have:=ZkU S b hb;rw [h] at this;exact this.symm
 ·intro h;rw [Zge S (fun _=>false) 256 h];unfold syms;simp
theorem Zc4 (S:Nat->Bool) (h:∃b,b<256/\S b=true):IsSyms (syms S 256):=
 ⟨ZeY S,fun e=>by
  obtain⟨b,hb,hs⟩:=h;rw [(ZeF S).1 e b hb] at hs;simp at hs⟩
def which (S:Nat->Bool):List Bool:=(List.range 16).map (ZaW S)
theorem ZaK (S:Nat->Bool):(which S).length=16:=by simp [which]
def rows (S:Nat->Bool) (k:Nat):List Bool:=((List.range k).filter (ZaW S)).flatMap (row S)
theorem Zne (S:Nat->Bool):rows S 0=[]:=rfl
theorem rows_succ (S:Nat->Bool) (k:Nat):rows S (k+1)=if ZaW S k then rows S k++row S k else rows S k:=by
 unfold rows;rw [List.range_succ,List.filter_append,List.flatMap_append];cases h:ZaW S k<;>simp [h]
def cnt (S:Nat->Bool) (k:Nat):Nat:=((List.range k).filter (ZaW S)).length
theorem ZkV (S:Nat->Bool) (k:Nat):cnt S (k+1)=if ZaW S k then cnt S k+1 else cnt S k:=by
 unfold cnt;rw [List.range_succ,List.filter_append,List.length_append];cases h:ZaW S k<;>simp [h]
theorem cnt_le (S:Nat->Bool) (k:Nat):cnt S k<=k:=by
 unfold cnt;exact Nat.le_trans (List.length_filter_le _ _) (by simp)
theorem Za4 (S:Nat->Bool):∀k,(rows S k).length=16*cnt S k
 | 0=>rfl
 | k+1=>by
  rw [rows_succ,ZkV];have ih:=Za4 S k;cases ZaW S k
  ·exact ih
  ·simp only [if_true,List.length_append,ih,ZaP];omega
def ubits (S:Nat->Bool):List Bool:=which S++rows S 16
theorem Zbg (S:Nat->Bool):(ubits S).length=16+16*cnt S 16:=by
 unfold ubits;rw [List.length_append,ZaK,Za4]
def upto (S:Nat->Bool) (k:Nat):Nat->Bool:=fun i=>decide (i<k) && ZaW S i
theorem Znf (S:Nat->Bool):upto S 0=fun _=>false:=by funext i;simp [upto]
theorem Zng (S:Nat->Bool) (k:Nat):upto S (k+1)=if ZaW S k then put (upto S k) k else upto S k:=by
 funext i
 unfold upto put;by_cases e:i=k
 ·subst e;cases h:ZaW S i<;>simp [h]
 ·have h1:(i<k+1)↔(i<k):=by omega
  cases h:ZaW S k<;>simp [h1,e]
theorem ZpL (S:Nat->Bool):fld (upto S 16) 0=num (which S):=by
 unfold fld row which;congr 1
theorem Zjn (S:Nat->Bool):field (num (which S)) 16=which S:=by
 have:=ZeC (which S)
 rwa [ZaK] at this
theorem Znh (S:Nat->Bool) (i:Nat):field (fld S i) 16=row S i:=by
 have:=ZeC (row S i)
 rwa [ZaP] at this
def rdk (q:List Bool):Nat->Option (Nat×(Nat->Bool))
 | 0=>if q.length<16 then none else some (16,fun _=>false)
 | k+1=>match rdk q k with
  | none=>none
  | some (n,S)=>if q.getD k false then(if q.length<n+16 then none else some (n+16,fun b=>if b / 16=k then q.getD (n+b % 16) false else S b)) else some (n,S)
theorem Zb9 (q:List Bool):rdk q 0=if q.length<16 then none else some (16,fun _=>false):=rfl
theorem ZaR (q:List Bool) (k:Nat):rdk q (k+1)=match rdk q k with
  | none=>none
  | some (n,S)=>if q.getD k false then(if q.length<n+16 then none else some (n+16,fun b=>if b / 16=k then q.getD (n+b % 16) false else S b)) else some (n,S):=rfl
theorem Zem (q:List Bool):∀k n S,rdk q k=some (n,S)->n<=q.length/\16<=n/\n<=16+16*k
 | 0,n,S,h=>by
  rw [Zb9] at h;split at h
  ·cases h
  ·cases h;omega
 | k+1,n,S,h=>by
  rw [ZaR] at h;split at h
  ·cases h
  ·rename_i m T hm;have ih:=Zem q k m T hm;split at h
   ·split at h
    ·cases h
    ·cases h;omega
   ·cases h;omega
theorem Zjo (q:List Bool):∀k n S,rdk q k=some (n,S)->∀b,16*k<=b->S b=false
 | 0,n,S,h,b,_=>by
  rw [Zb9] at h;split at h
  ·cases h
  ·cases h;rfl
 | k+1,n,S,h,b,hb=>by
  rw [ZaR] at h;split at h
  ·cases h
  ·rename_i m T hm;have ih:=Zjo q k m T hm b (by omega);split at h
   ·split at h
    ·cases h
    ·cases h;have:¬(b / 16=k):=by omega
     simp [this,ih]
   ·cases h;exact ih
def cut (S:Nat->Bool) (k:Nat):Nat->Bool:=fun b=>decide (b<16*k) && S b
theorem ZrX (S:Nat->Bool) (h:∀b,256<=b->S b=false):cut S 16=S:=by
 funext b
 unfold cut;by_cases hb:b<16*16
 ·simp [hb]
 ·simp [hb,h b (by omega)]
theorem Zgg (S:Nat->Bool) (i:Nat) (h:ZaW S i=false) (j:Nat) (hj:j<16):S (16*i+j)=false:=by
 unfold ZaW row at h;rw [List.any_eq_false] at h;have:=h (S (16*i+j)) (List.mem_map.2 ⟨j,List.mem_range.2 hj,rfl⟩);simpa using this
theorem ZkW (S:Nat->Bool):∀(d k:Nat),∃t,rows S (k+d)=rows S k++t
 | 0,k=>⟨[],by simp⟩
 | d+1,k=>by
  obtain⟨t,ht⟩:=ZkW S d k;rw [show k+(d+1)=(k+d)+1 by omega,rows_succ,ht];cases ZaW S (k+d)
  ·exact⟨t,rfl⟩
  ·exact⟨t++row S (k+d),by simp⟩
theorem ZhS (S:Nat->Bool) (m:List Bool):∀k,k<=16->rdk (ubits S++m) k=some (16+16*cnt S k,cut S k)
 | 0,_=>by
  rw [Zb9];have h1:¬((ubits S++m).length<16):=by rw [List.length_append,Zbg];omega
  rw [if_neg h1];have:cut S 0=fun _=>false:=by funext b;simp [cut]
  rw [this];rfl
 | k+1,hk=>by
  have ih:=ZhS S m k (by omega)
  have hw:(ubits S++m).getD k false=ZaW S k:=by
   unfold ubits;rw [List.append_assoc,List.getD_eq_getElem?_getD,List.getElem?_append_left (by rw [ZaK];omega)];unfold which;rw [List.getElem?_map,List.getElem?_range (by omega)];rfl
  rw [ZaR,ih,ZkV];simp only [hw];cases hs:ZaW S k
  ·simp only [Bool.false_eq_true,if_false];congr 2
   funext b
   unfold cut;by_cases hb:b<16*k
   ·have:b<16*(k+1):=by omega
    simp [hb,this]
   ·by_cases hb2:b<16*(k+1)
    ·have:=Zgg S k hs (b-16*k) (by omega);rw [show 16*k+(b-16*k)=b by omega] at this;simp [hb,this]
    ·simp [hb,hb2]
  ·simp only [if_true];obtain⟨t,ht⟩:=ZkW S (16-(k+1)) (k+1);rw [show k+1+(16-(k+1))=16 by omega,rows_succ S k,hs] at ht;simp only [if_true] at ht
   have hlen:¬((ubits S++m).length<16+16*cnt S k+16):=by
    unfold ubits;rw [ht];simp only [List.length_append,ZaK,Za4,ZaP];omega
   rw [if_neg hlen];congr 2
   funext b
   by_cases e:b / 16=k
   ·rw [if_pos e];have hb:b=16*k+b % 16:=by omega
    have hc:cut S (k+1) b=S b:=by
     unfold cut;have:b<16*(k+1):=by omega
     simp [this]
    rw [hc];unfold ubits;rw [ht,List.getD_eq_getElem?_getD];have e1:which S++(rows S k++row S k++t)++m=(which S++rows S k)++(row S k++(t++m)):=by simp
    have e2:(which S++rows S k).length=16+16*cnt S k:=by rw [List.length_append,ZaK,Za4]
    rw [e1,List.getElem?_append_right (by rw [e2];omega),e2,show 16+16*cnt S k+b % 16-(16+16*cnt S k)=b % 16 by omega,
     List.getElem?_append_left (by rw [ZaP];omega),List.getElem?_eq_getElem (by rw [ZaP];omega),Option.getD_some,Zjk S k (b % 16) (by omega),<-hb]
   ·rw [if_neg e];unfold cut;by_cases hb:b<16*k
    ·have:b<16*(k+1):=by omega
     simp [hb,this]
    ·have:¬(b<16*(k+1)):=by omega
     simp [hb,this]
end UsedM
end
section
namespace MtfM
open Go.RowKit UsedM
def touch (l:List UInt8) (i:Nat):List UInt8:=(l.drop i).take 1++l.take i++l.drop (i+1)
theorem ZbD (l:List UInt8) (i:Nat) (h:i<l.length):(touch l i).length=l.length:=by
 unfold touch;simp only [List.length_append,List.length_take,List.length_drop];omega
theorem Zgh (l:List UInt8) (i:Nat) (h:i<l.length):touch l i=l[i]::(l.take i++l.drop (i+1)):=by
 unfold touch;rw [List.drop_eq_getElem_cons h];rfl
theorem Zni (l:List UInt8) (i:Nat) (h:i<l.length) (x:UInt8):x∈touch l i↔x∈l:=by
 rw [Zgh l i h]
 conv=>rhs;rw [<-List.take_append_drop i l,List.drop_eq_getElem_cons h]
 simp only [List.mem_cons,List.mem_append];constructor
 ·rintro(h|h|h)
  ·exact Or.inr (Or.inl h)
  ·exact Or.inl h
  ·exact Or.inr (Or.inr h)
 ·rintro(h|h|h)
  ·exact Or.inr (Or.inl h)
  ·exact Or.inl h
  ·exact Or.inr (Or.inr h)
theorem place_is {l:List UInt8} {c:UInt8} {k:Nat} (h:l[k]?=some c) (hn:∀j,j<k->l[j]?≠some c):Lib.indexByte l c=(k:Int):=by
 have hge:=Lib.indexByte_ge l c;by_cases h1:Lib.indexByte l c=-1
 ·exact absurd h (Lib.indexByte_none h1 k)
 ·obtain⟨o,ho⟩:∃o:Nat,Lib.indexByte l c=(o:Int):=⟨(Lib.indexByte l c).toNat,by omega⟩
  obtain⟨h2,h3⟩:=Lib.indexByte_some ho;rw [ho];by_cases hlt:o<k
  ·exact absurd h2 (hn o hlt)
  ·by_cases hgt:k<o
   ·exact absurd h (h3 k hgt)
   ·omega
theorem Za5 (l:List UInt8) (c:UInt8):Lib.indexByte l c=-1\/∃o:Nat,Lib.indexByte l c=(o:Int)/\o<l.length/\l[o]?=some c:=by
 have hge:=Lib.indexByte_ge l c;by_cases h1:Lib.indexByte l c=-1
 ·exact Or.inl h1
 ·obtain⟨o,ho⟩:∃o:Nat,Lib.indexByte l c=(o:Int):=⟨(Lib.indexByte l c).toNat,by omega⟩
  obtain⟨h2,_⟩:=Lib.indexByte_some ho;exact Or.inr ⟨o,ho,(List.getElem?_eq_some_iff.1 h2).1,h2⟩
theorem Znj {l:List UInt8} {c:UInt8} (h:c∈l):∃o:Nat,Lib.indexByte l c=(o:Int)/\o<l.length/\l[o]?=some c:=by
 rcases Za5 l c with h1|h1
 ·obtain⟨i,hi,he⟩:=List.mem_iff_getElem.1 h;exact absurd (by rw [List.getElem?_eq_getElem hi,he]) (Lib.indexByte_none h1 i)
 ·exact h1
end MtfM
end
section
theorem zh {p:Prop} (h:p):Go.RowKit.Hid p:=h
open Go.ChangeShapes Go.WideShapes Go.ChangeAt Go.RowKit
open Go.ChangeMaps (open_string shut_string)
namespace LawShell
end LawShell
theorem Zae {B:Nat} {a w:World} (h:Below B a w) {g:Nat} (hg:B<=g) (cs:Array Value):Below B a (w.setRow g cs):=
 h.trans ⟨rfl,rfl,rfl,by simp [World.setRow],fun j hj=>setRow_other _ _ j _ (by omega)⟩
theorem Zaw (w:World) (g:Nat) (cs:Array Value):(w.setRow g cs).heap.size=w.heap.size:=by simp [World.setRow]
structure Beneath (B:Nat) (w:World):Type where
 val:World
 is:Below B w val
instance (B:Nat) (w:World):Nonempty (Beneath B w):=⟨⟨w,Below.refl _ _⟩⟩
end
section
namespace PkM
open Go.RowKit
def toI (ps:List Nat):List Int:=ps.map fun(x:Nat)=>(x:Int)
theorem toI_length (ps:List Nat):(toI ps).length=ps.length:=by simp [toI]
theorem toI_getD (ps:List Nat) (k:Nat):(toI ps).getD k 0=((ps.getD k 0:Nat):Int):=by
 unfold toI;rw [List.getD_eq_getElem?_getD,List.getElem?_map,List.getD_eq_getElem?_getD];cases ps[k]?<;>rfl
theorem Zjp (ps qs:List Nat):toI (ps++qs)=toI ps++toI qs:=by simp [toI]
end PkM
end
section
namespace PkM
open Go.RowKit BitM
structure PO where
 err:Int
 used:Nat
 t:Nat
 n:Nat
 ps:List Nat
 o:List Nat
 bad:Bool
def pstep (q:List Bool) (t n:Nat) (ps o:List Nat) (bad:Bool):PO:=
 if bad=true then⟨25,0,t,n,ps,o,true⟩
 else if n=0 then
  if q.length<18 then⟨3,0,t,0,ps,o,false⟩
  else if num (q.take 3)<2\/6<num (q.take 3) then⟨25,18,t,0,ps,o,true⟩
  else if num ((q.drop 3).take 15)=0 then⟨25,18,num (q.take 3),0,ps,o,true⟩
  else⟨0,18,num (q.take 3),num ((q.drop 3).take 15),ps,[0,1,2,3,4,5],false⟩
 else if t<=lead q then⟨25,t,t,n,ps,o,true⟩
 else if lead q=q.length then⟨3,0,t,n,ps,o,false⟩
 else⟨0,lead q+1,t,n,ps++[o.getD (lead q) 0],tch o (lead q),false⟩
theorem Znk (q:List Bool) (t n:Nat) (ps o:List Nat):pstep q t n ps o true=⟨25,0,t,n,ps,o,true⟩:=rfl
theorem ZhT (q:List Bool) (t:Nat) (ps o:List Nat) (h:q.length<18):pstep q t 0 ps o false=⟨3,0,t,0,ps,o,false⟩:=by
 unfold pstep;rw [if_neg (by simp),if_pos rfl,if_pos h]
theorem ZhU (q:List Bool) (t:Nat) (ps o:List Nat) (h:¬q.length<18) (h2:num (q.take 3)<2\/6<num (q.take 3)):pstep q t 0 ps o false=⟨25,18,t,0,ps,o,true⟩:=by
 unfold pstep;rw [if_neg (by simp),if_pos rfl,if_neg h,if_pos h2]
theorem ZhV (q:List Bool) (t:Nat) (ps o:List Nat) (h:¬q.length<18) (h2:¬(num (q.take 3)<2\/6<num (q.take 3))) (h3:num ((q.drop 3).take 15)=0):pstep q t 0 ps o false=⟨25,18,num (q.take 3),0,ps,o,true⟩:=by
 unfold pstep;rw [if_neg (by simp),if_pos rfl,if_neg h,if_neg h2,if_pos h3]
theorem ZeZ (q:List Bool) (t:Nat) (ps o:List Nat) (h:¬q.length<18) (h2:¬(num (q.take 3)<2\/6<num (q.take 3))) (h3:¬num ((q.drop 3).take 15)=0):pstep q t 0 ps o false=⟨0,18,num (q.take 3),num ((q.drop 3).take 15),ps,[0,1,2,3,4,5],false⟩:=by
 unfold pstep;rw [if_neg (by simp),if_pos rfl,if_neg h,if_neg h2,if_neg h3]
theorem Ze0 (q:List Bool) {t n:Nat} (ps o:List Nat) (hn:n≠0) (h:t<=lead q):pstep q t n ps o false=⟨25,t,t,n,ps,o,true⟩:=by
 unfold pstep;rw [if_neg (by simp),if_neg hn,if_pos h]
theorem Ze1 (q:List Bool) {t n:Nat} (ps o:List Nat) (hn:n≠0) (h:¬t<=lead q) (h2:lead q=q.length):pstep q t n ps o false=⟨3,0,t,n,ps,o,false⟩:=by
 unfold pstep;rw [if_neg (by simp),if_neg hn,if_neg h,if_pos h2]
theorem ZhW (q:List Bool) {t n:Nat} (ps o:List Nat) (hn:n≠0) (h:¬t<=lead q) (h2:¬lead q=q.length):pstep q t n ps o false=⟨0,lead q+1,t,n,ps++[o.getD (lead q) 0],tch o (lead q),false⟩:=by
 unfold pstep;rw [if_neg (by simp),if_neg hn,if_neg h,if_neg h2]
def Rt (Q:List Bool) (p t n:Nat) (ps o:List Nat):Prop:=
 (n=0/\t=0/\ps=[]/\p=0) \/
 (2<=t/\t<=6/\1<=n/\n<=32767/\ps.length<=n/\Ord t o/\(∀x∈ps,x<t)/\18<=Q.length/\num (Q.take 3)=t/\num ((Q.drop 3).take 15)=n/\rd Q=(run t (Q.drop p) (n-ps.length) o).add ps p)
theorem Rt.start (Q:List Bool) (o:List Nat):Rt Q 0 0 0 [] o:=Or.inl ⟨rfl,rfl,rfl,rfl⟩
theorem Ord.getD {t:Nat} {o:List Nat} (h:Ord t o) {i:Nat} (hi:i<t) (ht:t<=6):o.getD i 0<t:=by
 have hl:=h.1;have h1:i<o.length:=by omega
 rw [List.getD_eq_getElem?_getD,List.getElem?_eq_getElem h1];refine(h.2 _).2 ?_;have h2:i<(o.take t).length:=by rw [List.length_take];omega
 have:=List.getElem_mem h2;rw [List.getElem_take] at this;exact this
theorem Rt.step {Q:List Bool} {p t n:Nat} {ps o:List Nat} (h:Rt Q p t n ps o) (hl:n=0\/ps.length<n) (q r:List Bool) (hq:Q.drop p=q++r) :
  ((pstep q t n ps o false).err=0/\(pstep q t n ps o false).bad=false/\1<=(pstep q t n ps o false).used/\(pstep q t n ps o false).used<=q.length/\Rt Q (p+(pstep q t n ps o false).used) (pstep q t n ps o false).t (pstep q t n ps o false).n (pstep q t n ps o false).ps (pstep q t n ps o false).o/\1<=(pstep q t n ps o false).n) \/
  ((pstep q t n ps o false).err=25/\(pstep q t n ps o false).bad=true/\(pstep q t n ps o false).used<=q.length/\rd Q=.bad (p+(pstep q t n ps o false).used)/\(pstep q t n ps o false).ps=ps/\(pstep q t n ps o false).n=n) \/
  (pstep q t n ps o false=⟨3,0,t,n,ps,o,false⟩/\(r=[]->rd Q=.short)):=by
 rcases h with⟨rfl,rfl,rfl,rfl⟩|⟨h2,h6,hn1,hn2,hle,hO,hlt,hQ18,ht,hn,hr⟩
 ·rw [List.drop_zero] at hq;by_cases h18:q.length<18
  ·refine Or.inr (Or.inr ⟨ZhT q _ _ _ h18,fun hr=>?_⟩);rw [hr,List.append_nil] at hq;unfold rd;rw [hq,if_pos h18]
  ·have hQ18:¬Q.length<18:=by rw [hq,List.length_append];omega
   have e3:Q.take 3=q.take 3:=by rw [hq,List.take_append_of_le_length (by omega)]
   have e15:(Q.drop 3).take 15=(q.drop 3).take 15:=by rw [hq,List.drop_append_of_le_length (by omega),List.take_append_of_le_length (by rw [List.length_drop];omega)]
   by_cases hT:num (q.take 3)<2\/6<num (q.take 3)
   ·rw [ZhU q _ _ _ h18 hT];refine Or.inr (Or.inl ⟨rfl,rfl,by show 18<=q.length;omega,?_,rfl,rfl⟩);unfold rd;rw [if_neg hQ18,e3,if_pos (by omega)];rfl
   ·by_cases hN:num ((q.drop 3).take 15)=0
    ·rw [ZhV q _ _ _ h18 hT hN];refine Or.inr (Or.inl ⟨rfl,rfl,by show 18<=q.length;omega,?_,rfl,rfl⟩);unfold rd;rw [if_neg hQ18,e3,e15,if_pos (by omega)];rfl
    ·rw [ZeZ q _ _ _ h18 hT hN];have hlt:=ZaB ((q.drop 3).take 15);have hl15:((q.drop 3).take 15).length=15:=by rw [List.length_take,List.length_drop];omega
     rw [hl15] at hlt;refine Or.inl ⟨rfl,rfl,by show 1<=18;omega,by show 18<=q.length;omega,Or.inr ⟨by show 2<=num _;omega,by show num _<=6;omega,by show 1<=num _;omega,by show num _<=32767;omega,Nat.zero_le _,Ord.start (by show num _<=6;omega),fun x hx=>absurd hx (by simp),by omega,?_,?_,?_⟩,by show 1<=num _;omega⟩
     ·show num (Q.take 3)=num (q.take 3);rw [e3]
     ·show num ((Q.drop 3).take 15)=num ((q.drop 3).take 15);rw [e15]
     ·unfold rd;rw [if_neg hQ18,e3,e15,if_neg (by omega)];rfl
 ·have hn0:n≠0:=by omega
  obtain⟨M,hM⟩:∃M,n-ps.length=M+1:=⟨n-ps.length-1,by omega⟩
  rw [hM,hq] at hr;have hll:=ZdT q;by_cases hw:t<=lead q
  ·rw [Ze0 q ps o hn0 hw];refine Or.inr (Or.inl ⟨rfl,rfl,by show t<=q.length;omega,?_,rfl,rfl⟩);rw [hr,Zna q r M o hw];rfl
  ·by_cases hs:lead q=q.length
   ·refine Or.inr (Or.inr ⟨Ze1 q ps o hn0 hw hs,fun e=>?_⟩);subst e;rw [hr,List.append_nil,ZhQ q M o (by omega) hs];rfl
   ·rw [ZhW q ps o hn0 hw hs]
    have hd:Q.drop (p+(lead q+1))=q.drop (lead q+1)++r:=by
     rw [<-List.drop_drop,hq,List.drop_append_of_le_length (by omega)]
    have hlen:(ps++[o.getD (lead q) 0]).length=ps.length+1:=by rw [List.length_append];rfl
    refine Or.inl ⟨rfl,rfl,by show 1<=lead q+1;omega,by show lead q+1<=q.length;omega,Or.inr ⟨h2,h6,hn1,hn2,by show(ps++[o.getD (lead q) 0]).length<=n;omega,hO.tch h6 (by omega),fun x hx=>?_,hQ18,ht,hn,?_⟩,hn1⟩
    ·rcases List.mem_append.1 hx with h|h
     ·exact hlt x h
     ·rw [List.mem_singleton] at h;subst h;exact hO.getD (by omega) h6
    ·show rd Q=(run t (Q.drop (p+(lead q+1))) (n-(ps++[o.getD (lead q) 0]).length) (tch o (lead q))).add (ps++[o.getD (lead q) 0]) (p+(lead q+1));rw [hr,hd,hlen,show n-(ps.length+1)=M by omega,ZpJ q r M o (by omega) (by omega),add_add]
theorem Rt.all {Q:List Bool} {p t n:Nat} {ps o:List Nat} (h:Rt Q p t n ps o) (hn:1<=n) (hl:ps.length=n):rd Q=.ok ps p/\num (Q.take 3)=t:=by
 rcases h with⟨rfl,_⟩|⟨h2,h6,hn1,hn2,hle,hO,hlt,hQ18,ht,hn,hr⟩
 ·omega
 ·refine⟨?_,ht⟩;rw [hr,show n-ps.length=0 by omega];show Res.ok (ps++[]) (p+0)=_;rw [List.append_nil];rfl
theorem Rt.bnd {Q:List Bool} {p t n:Nat} {ps o:List Nat} (h:Rt Q p t n ps o):(n=0/\ps=[])\/(2<=t/\t<=6/\1<=n/\n<=32767/\ps.length<=n):=by
 rcases h with⟨rfl,_,h,_⟩|⟨h2,h6,hn1,hn2,hle,_⟩
 ·exact Or.inl ⟨rfl,h⟩
 ·exact Or.inr ⟨h2,h6,hn1,hn2,hle⟩
def Six (o:List Nat):Prop:=o.length=6/\∀x∈o,x<6
theorem Six.start:Six [0,1,2,3,4,5]:=⟨rfl,by decide⟩
theorem Six.tch {o:List Nat} (h:Six o) {i:Nat} (hi:i<6):Six (tch o i):=by
 have hl:=h.1;refine⟨by rw [ZcO o i (by omega),hl],fun x hx=>?_⟩;rw [ZeD o i (by omega)] at hx;simp only [List.mem_cons,List.mem_append] at hx;rcases hx with rfl|hx|hx
 ·exact h.2 _ (List.getElem_mem _)
 ·exact h.2 _ (List.mem_of_mem_take hx)
 ·exact h.2 _ (List.mem_of_mem_drop hx)
theorem ZhX {o:List Nat} {p j:Nat} (hj:j<o.idxOf p):o[j]?≠some p:=by
 intro h;obtain⟨h1,h2⟩:=List.getElem?_eq_some_iff.1 h;have h3:j<o.findIdx (·==p):=hj;have h4:=List.not_of_lt_findIdx h3;simp [h2] at h4
def O6:List Nat:=[0,1,2,3,4,5]
def ordK (ps:List Nat) (k:Nat):List Nat:=ord O6 (ps.take k)
def encK (ps:List Nat) (k:Nat):List Bool:=enc O6 (ps.take k)
theorem take_next (ps:List Nat) {k:Nat} (h:k<ps.length):ps.take (k+1)=ps.take k++[ps.getD k 0]:=by
 rw [List.take_succ_eq_append_getElem h,List.getD_eq_getElem?_getD,List.getElem?_eq_getElem h];rfl
theorem Ze2 (ps:List Nat) {k:Nat} (h:k<ps.length):encK ps (k+1)=encK ps k++(List.replicate ((ordK ps k).idxOf (ps.getD k 0)) true++[false]):=by
 unfold encK ordK;rw [take_next ps h,Zm8,enc];rfl
theorem Ze3 (ps:List Nat) {k:Nat} (h:k<ps.length):ordK ps (k+1)=tch (ordK ps k) ((ordK ps k).idxOf (ps.getD k 0)):=by
 unfold ordK;rw [take_next ps h,Zm9,ord,ord]
theorem ZeG (ps:List Nat) {t:Nat} (ht:t<=6) (hp:∀x∈ps,x<t):∀k,k<=ps.length->Ord t (ordK ps k)/\Six (ordK ps k)
 | 0,_=>⟨Ord.start ht,Six.start⟩
 | k+1,hk=>by
  have ih:=ZeG ps ht hp k (by omega);rw [Ze3 ps (by omega)]
  have h1:ps.getD k 0<t:=by
   rw [List.getD_eq_getElem?_getD,List.getElem?_eq_getElem (by omega)];exact hp _ (List.getElem_mem _)
  have h2:=(ih.1.place ht h1).1;exact⟨ih.1.tch ht h2,ih.2.tch (by omega)⟩
theorem encK_len (ps:List Nat) {t:Nat} (ht:t<=6) (hp:∀x∈ps,x<t):∀k,k<=ps.length->(encK ps k).length<=6*k
 | 0,_=>Nat.le_refl _
 | k+1,hk=>by
  have ih:=encK_len ps ht hp k (by omega)
  have h1:ps.getD k 0<t:=by
   rw [List.getD_eq_getElem?_getD,List.getElem?_eq_getElem (by omega)];exact hp _ (List.getElem_mem _)
  have h2:=((ZeG ps ht hp k (by omega)).1.place ht h1).1;rw [Ze2 ps (by omega),List.length_append,List.length_append,List.length_replicate,List.length_singleton];omega
theorem encK_all (ps:List Nat) (k:Nat) (hk:ps.length<=k):encK ps k=enc [0,1,2,3,4,5] ps:=by
 unfold encK;rw [List.take_of_length_le hk];rfl
def MayI (zs:List Int) (t:Int):Prop:=2<=t/\t<=6/\1<=zs.length/\zs.length<=32767/\∀z∈zs,0<=z/\z<t
theorem May.int {ps:List Nat} {T:Nat} (h:May ps T):MayI (toI ps) (T:Int):=by
 obtain⟨h2,h6,h1,hm,hp⟩:=h;refine⟨by omega,by omega,by rw [toI_length];exact h1,by rw [toI_length];exact hm,fun z hz=>?_⟩;obtain⟨x,hx,rfl⟩:=List.mem_map.1 hz;have:=hp x hx;constructor
 ·show(0:Int)<=(x:Int);omega
 ·show(x:Int)<(T:Int);omega
end PkM
end
section
namespace DelM
open Go.RowKit BitM
def two (b:Bool):Nat->List Bool
 | 0=>[]
 | k+1=>two b k++[true,b]
theorem ZaI (b:Bool):∀k,(two b k).length=2*k
 | 0=>rfl
 | k+1=>by
  rw [two,List.length_append,ZaI b k];show 2*k+2=_;omega
theorem ZgY (b:Bool):∀k,two b (k+1)=true::b::two b k
 | 0=>rfl
 | k+1=>by
  show two b (k+1)++[true,b]=true::b::(two b k++[true,b]);rw [ZgY b k];rfl
def mv (last x:Int):List Bool:=two false (x-last).toNat++two true (last-x).toNat
theorem ZhY (last x:Int):((mv last x).length:Int)=2*max (x-last) (last-x):=by
 unfold mv;rw [List.length_append,ZaI,ZaI];omega
def prv (zs:List Int) (k:Nat):Int:=zs.getD (k-1) 0
def encK (zs:List Int):Nat->List Bool
 | 0=>[]
 | k+1=>encK zs k++(mv (prv zs k) (zs.getD k 0)++[false])
def allB (zs:List Int):List Bool:=field (zs.getD 0 0).toNat 5++encK zs zs.length
theorem ZpM (zs:List Int) (k:Nat):prv zs (k+1)=zs.getD k 0:=rfl
def May (zs:List Int):Prop:=3<=zs.length/\zs.length<=258/\∀z∈zs,1<=z/\z<=20
theorem May.at_ {zs:List Int} (h:May zs) {k:Nat} (hk:k<zs.length):1<=zs.getD k 0/\zs.getD k 0<=20:=
 h.2.2 _ (by rw [List.getD_eq_getElem?_getD,List.getElem?_eq_getElem hk];exact List.getElem_mem hk)
theorem May.prv {zs:List Int} (h:May zs) {k:Nat} (hk:k<=zs.length):1<=prv zs k/\prv zs k<=20:=by
 have h3:=h.1;exact h.at_ (show k-1<zs.length by omega)
theorem encK_le {zs:List Int} (h:May zs):∀{k:Nat},k<=zs.length->(encK zs k).length<=39*k/\k<=(encK zs k).length
 | 0,_=>⟨Nat.le_refl _,Nat.le_refl _⟩
 | k+1,hk=>by
  have h1:=encK_le h (k:=k) (by omega);have h2:=ZhY (prv zs k) (zs.getD k 0);have h3:=h.at_ (show k<zs.length by omega);have h4:=h.prv (show k<=zs.length by omega);rw [encK,List.length_append,List.length_append];show _+(_+1)<=_/\_<=_+(_+1);omega
theorem allB_length (zs:List Int):(allB zs).length=5+(encK zs zs.length).length:=by
 unfold allB;rw [List.length_append,Zac]
inductive Res where
 | short:Res
 | table:Res
 | ok:List Int->Nat->Res
deriving DecidableEq
def Res.add (l:List Int) (k:Nat):Res->Res
 | .short=>.short
 | .table=>.table
 | .ok l' k'=>.ok (l++l') (k+k')
theorem add_add (r:Res) (l l':List Int) (k k':Nat):(r.add l k).add l' k'=r.add (l'++l) (k'+k):=by
 cases r with
 | short=>rfl
 | table=>rfl
 | ok a b=>simp [Res.add,Nat.add_assoc]
def nx (now:Int) (b:Bool):Int:=if b then now-1 else now+1
def run:List Bool->Nat->Int->Res
 | _,0,_=>.ok [] 0
 | [],_+1,_=>.short
 | [true],_+1,_=>.short
 | false::t,m+1,now=>(run t m now).add [now] 1
 | true::b::t,m+1,now=>if nx now b<1\/20<nx now b then .table else(run t (m+1) (nx now b)).add [] 2
def rd (q:List Bool) (m:Nat):Res:=
 if q.length<5 then .short else if (num (q.take 5):Int)<1\/20<(num (q.take 5):Int) then .table else(run (q.drop 5) m (num (q.take 5))).add [] 5
theorem run_zero (q:List Bool) (now:Int):run q 0 now=.ok [] 0:=by
 cases q with
 | nil=>rfl
 | cons a t=>cases t with
  | nil=>cases a<;>rfl
  | cons b u=>cases a<;>rfl
theorem run_same (t:List Bool) (m:Nat) (now:Int):run (false::t) (m+1) now=(run t m now).add [now] 1:=by
 cases t<;>rfl
theorem run_bad (b:Bool) (t:List Bool) (m:Nat) (now:Int) (h:nx now b<1\/20<nx now b):run (true::b::t) (m+1) now=.table:=by
 show(if nx now b<1\/20<nx now b then Res.table else _)=_;rw [if_pos h]
theorem run_move (b:Bool) (t:List Bool) (m:Nat) (now:Int) (h:¬(nx now b<1\/20<nx now b)):run (true::b::t) (m+1) now=(run t (m+1) (nx now b)).add [] 2:=by
 show(if nx now b<1\/20<nx now b then Res.table else _)=_;rw [if_neg h]
theorem ZrA (q:List Bool) (m:Nat):∀(k:Nat) (now:Int),1<=now->now+(k:Int)<=20->run (two false k++q) (m+1) now=(run q (m+1) (now+k)).add [] (2*k)
 | 0,now,_,_=>by
  show run q (m+1) now=_;have e:now+((0:Nat):Int)=now:=by omega
  rw [e];cases run q (m+1) now with
  | short=>rfl
  | table=>rfl
  | ok a b=>show Res.ok a b=Res.ok ([]++a) (2*0+b);simp
 | k+1,now,h1,h2=>by
  rw [ZgY];show run (true::false::(two false k++q)) (m+1) now=_;have e1:nx now false=now+1:=rfl;rw [run_move _ _ _ _ (by rw [e1];omega),e1,ZrA q m k (now+1) (by omega) (by omega),add_add];have e2:now+1+(k:Int)=now+((k+1:Nat):Int):=by omega
  rw [e2];congr 1;omega
theorem ZkX (q:List Bool) (m:Nat):∀(k:Nat) (now:Int),now<=20->1<=now-(k:Int)->run (two true k++q) (m+1) now=(run q (m+1) (now-k)).add [] (2*k)
 | 0,now,_,_=>by
  show run q (m+1) now=_;have e:now-((0:Nat):Int)=now:=by omega
  rw [e];cases run q (m+1) now with
  | short=>rfl
  | table=>rfl
  | ok a b=>show Res.ok a b=Res.ok ([]++a) (2*0+b);simp
 | k+1,now,h1,h2=>by
  rw [ZgY];show run (true::true::(two true k++q)) (m+1) now=_;have e1:nx now true=now-1:=rfl;rw [run_move _ _ _ _ (by rw [e1];omega),e1,ZkX q m k (now-1) (by omega) (by omega),add_add];have e2:now-1-(k:Int)=now-((k+1:Nat):Int):=by omega
  rw [e2];congr 1;omega
theorem Ztb (q:List Bool) (m:Nat) (last x:Int) (h1:1<=last/\last<=20) (h2:1<=x/\x<=20):run (mv last x++(false::q)) (m+1) last=(run q m x).add [x] ((mv last x).length+1):=by
 have hl:=ZhY last x;unfold mv at hl ⊢;rw [List.append_assoc,ZrA _ _ _ _ h1.1 (by omega),ZkX _ _ _ _ (by omega) (by omega),run_same,add_add,add_add];have e:last+((x-last).toNat:Int)-((last-x).toNat:Int)=x:=by omega
 rw [e];congr 1;rw [List.length_append,ZaI,ZaI]
theorem run_enc {zs:List Int} (h:May zs) (q:List Bool):∀(e k:Nat),k+e=zs.length->∃s,encK zs zs.length=encK zs k++s/\run (s++q) e (prv zs k)=.ok (zs.drop k) s.length
 | 0,k,hk=>by
  obtain rfl:k=zs.length:=by omega
  refine⟨[],by simp,?_⟩;rw [run_zero,List.drop_length];rfl
 | e+1,k,hk=>by
  obtain⟨s,h1,h2⟩:=run_enc h q e (k+1) (by omega);have hk2:k<zs.length:=by omega
  refine⟨mv (prv zs k) (zs.getD k 0)++(false::s),?_,?_⟩
  ·rw [h1,encK];simp
  ·rw [List.append_assoc];show run (mv (prv zs k) (zs.getD k 0)++(false::(s++q))) (e+1) (prv zs k)=_;rw [Ztb _ _ _ _ (h.prv (by omega)) (h.at_ hk2)];rw [ZpM] at h2;rw [h2];show Res.ok ([zs.getD k 0]++zs.drop (k+1)) _=_
   have e1:zs.drop k=zs.getD k 0::zs.drop (k+1):=by
    rw [List.getD_eq_getElem?_getD,List.getElem?_eq_getElem hk2];exact List.drop_eq_getElem_cons hk2
   rw [e1];congr 1;rw [List.length_append];show _+1+s.length=_+(s.length+1);omega
theorem rd_all {zs:List Int} (h:May zs) (q:List Bool):rd (allB zs++q) zs.length=.ok zs (allB zs).length:=by
 obtain⟨s,h1,h2⟩:=run_enc h q zs.length 0 (by omega);have h3:=h.1;have h0:=h.at_ (show 0<zs.length by omega);have hs:encK zs zs.length=s:=by rw [h1];rfl
 have hl:=allB_length zs;have hf:(field (zs.getD 0 0).toNat 5).length=5:=Zac _ _
 have ht:(allB zs++q).take 5=field (zs.getD 0 0).toNat 5:=by
  unfold allB;rw [List.append_assoc,List.take_append_of_le_length (by omega),List.take_of_length_le (by omega)]
 have hd:(allB zs++q).drop 5=s++q:=by
  unfold allB;rw [List.append_assoc,List.drop_append_of_le_length (by omega),List.drop_of_length_le (by omega),hs];rfl
 have hn:(num (field (zs.getD 0 0).toNat 5):Int)=zs.getD 0 0:=by
  rw [Zau];have:(zs.getD 0 0).toNat<32:=by omega
  omega
 unfold rd;rw [if_neg (by rw [List.length_append,hl];omega),ht,hd,hn,if_neg (by omega)];have e0:prv zs 0=zs.getD 0 0:=rfl;rw [e0] at h2;rw [h2];show Res.ok ([]++zs.drop 0) _=_;rw [hl,hs];rfl
end DelM
end
section
namespace DelM
open Go.RowKit BitM
def okLen (x:Int):Bool:=decide (1<=x) && decide (x<=20)
theorem Zct (x:Int):okLen x=true↔1<=x/\x<=20:=by unfold okLen;simp
structure DO where
 err:Int
 used:Nat
 ls:List Int
 now:Int
 bad:Bool
def eOf (b:Bool):Int:=if b then 0 else 22
def dstep (q:List Bool) (ls:List Int) (now:Int) (bad:Bool):DO:=
 if bad=true then⟨22,0,ls,now,true⟩
 else if now=0 then
  if q.length<5 then⟨3,0,ls,0,false⟩
  else⟨eOf (okLen (num (q.take 5))),5,ls,num (q.take 5),!okLen (num (q.take 5))⟩
 else match q with
  | []=>⟨3,0,ls,now,false⟩
  | [true]=>⟨3,0,ls,now,false⟩
  | false::_=>⟨0,1,ls++[now],now,false⟩
  | true::b::_=>⟨eOf (okLen (nx now b)),2,ls,nx now b,!okLen (nx now b)⟩
theorem Znl (q:List Bool) (ls:List Int) (now:Int):dstep q ls now true=⟨22,0,ls,now,true⟩:=rfl
theorem ZhZ (q:List Bool) (ls:List Int) (h:q.length<5):dstep q ls 0 false=⟨3,0,ls,0,false⟩:=by
 unfold dstep;rw [if_neg (by simp),if_pos rfl,if_pos h]
theorem Ze4 (q:List Bool) (ls:List Int) (h:¬q.length<5):dstep q ls 0 false=⟨eOf (okLen (num (q.take 5))),5,ls,num (q.take 5),!okLen (num (q.take 5))⟩:=by
 unfold dstep;rw [if_neg (by simp),if_pos rfl,if_neg h]
theorem Zh0 (ls:List Int) {now:Int} (h:now≠0):dstep [] ls now false=⟨3,0,ls,now,false⟩:=by
 unfold dstep;rw [if_neg (by simp),if_neg h]
theorem Zh1 (ls:List Int) {now:Int} (h:now≠0):dstep [true] ls now false=⟨3,0,ls,now,false⟩:=by
 unfold dstep;rw [if_neg (by simp),if_neg h]
theorem Zgi (t:List Bool) (ls:List Int) {now:Int} (h:now≠0):dstep (false::t) ls now false=⟨0,1,ls++[now],now,false⟩:=by
 unfold dstep;rw [if_neg (by simp),if_neg h]
theorem Zgj (b:Bool) (t:List Bool) (ls:List Int) {now:Int} (h:now≠0):dstep (true::b::t) ls now false=⟨eOf (okLen (nx now b)),2,ls,nx now b,!okLen (nx now b)⟩:=by
 unfold dstep;rw [if_neg (by simp),if_neg h]
def Rt (Q:List Bool) (N p:Nat) (ls:List Int) (now:Int):Prop:=
 ls.length<=N/\((now=0/\ls=[]/\p=0)\/(1<=now/\now<=20/\rd Q N=(run (Q.drop p) (N-ls.length) now).add ls p))
theorem Rt.start (Q:List Bool) (N:Nat):Rt Q N 0 [] 0:=⟨Nat.zero_le _,Or.inl ⟨rfl,rfl,rfl⟩⟩
theorem ZrY {Q:List Bool} {N:Nat} (h:¬Q.length<5):rd Q N=if (num (Q.take 5):Int)<1\/20<(num (Q.take 5):Int) then .table else(run (Q.drop 5) N (num (Q.take 5))).add [] 5:=by
 unfold rd;rw [if_neg h]
theorem Rt.step {Q:List Bool} {N p:Nat} {ls:List Int} {now:Int} (h:Rt Q N p ls now) (hl:ls.length<N) (q r:List Bool) (hq:Q.drop p=q++r) :
  ((dstep q ls now false).err=0/\(dstep q ls now false).bad=false/\1<=(dstep q ls now false).used/\(dstep q ls now false).used<=q.length/\Rt Q N (p+(dstep q ls now false).used) (dstep q ls now false).ls (dstep q ls now false).now) \/
  ((dstep q ls now false).err=22/\(dstep q ls now false).bad=true/\(dstep q ls now false).used<=q.length/\rd Q N=.table/\(dstep q ls now false).ls=ls) \/
  (dstep q ls now false=⟨3,0,ls,now,false⟩/\(r=[]->rd Q N=.short)):=by
 obtain⟨hle,h|⟨h1,h20,hr⟩⟩:=h
 ·obtain⟨rfl,rfl,rfl⟩:=h;rw [List.drop_zero] at hq;by_cases h5:q.length<5
  ·refine Or.inr (Or.inr ⟨ZhZ q [] h5,fun hr=>?_⟩);rw [hr,List.append_nil] at hq;unfold rd;rw [hq,if_pos h5]
  ·rw [Ze4 q [] h5];have hQ5:¬Q.length<5:=by rw [hq,List.length_append];omega
   have ht:Q.take 5=q.take 5:=by rw [hq,List.take_append_of_le_length (by omega)]
   have h2:=ZrY (N:=N) hQ5;rw [ht] at h2;cases hk:okLen (num (q.take 5))
   ·refine Or.inr (Or.inl ⟨rfl,rfl,by show 5<=q.length;omega,?_,rfl⟩);rw [h2,if_pos];have h3:¬(1<=(num (q.take 5):Int)/\(num (q.take 5):Int)<=20):=fun e=>by rw [(Zct _).2 e] at hk;cases hk
    omega
   ·have h3:=(Zct _).1 hk;refine Or.inl ⟨rfl,rfl,by show 1<=5;omega,by show 5<=q.length;omega,hle,Or.inr ⟨h3.1,h3.2,?_⟩⟩;rw [h2,if_neg (by omega)];rfl
 ·have hn0:now≠0:=by omega
  obtain⟨M,hM⟩:∃M,N-ls.length=M+1:=⟨N-ls.length-1,by omega⟩
  rw [hM,hq] at hr
  match q,hq,hr with
  | [],hq,hr=>
   refine Or.inr (Or.inr ⟨Zh0 ls hn0,fun e=>?_⟩);subst e;rw [hr];rfl
  | [true],hq,hr=>
   refine Or.inr (Or.inr ⟨Zh1 ls hn0,fun e=>?_⟩);subst e;rw [hr];rfl
  | false::t,hq,hr=>
   rw [Zgi t ls hn0];refine Or.inl ⟨rfl,rfl,Nat.le_refl _,by show 1<=t.length+1;omega,by show(ls++[now]).length<=N;rw [List.length_append];exact hl,Or.inr ⟨h1,h20,?_⟩⟩
   have hd:Q.drop (p+1)=t++r:=by
    rw [<-List.drop_drop,hq];rfl
   show rd Q N=(run (Q.drop (p+1)) (N-(ls++[now]).length) now).add (ls++[now]) (p+1);rw [hr,hd];show(run (false::(t++r)) (M+1) now).add ls p=_;rw [run_same,add_add,List.length_append,show N-(ls.length+[now].length)=M from by show N-(ls.length+1)=M;omega]
  | true::b::t,hq,hr=>
   rw [Zgj b t ls hn0]
   have hd:Q.drop (p+2)=t++r:=by
    rw [<-List.drop_drop,hq];rfl
   cases hk:okLen (nx now b)
   ·have h3:¬(1<=nx now b/\nx now b<=20):=fun e=>by rw [(Zct _).2 e] at hk;cases hk
    refine Or.inr (Or.inl ⟨rfl,rfl,by show 2<=t.length+2;omega,?_,rfl⟩);rw [hr];show(run (true::b::(t++r)) (M+1) now).add ls p=_;rw [run_bad _ _ _ _ (by omega)];rfl
   ·have h3:=(Zct _).1 hk;refine Or.inl ⟨rfl,rfl,by show 1<=2;omega,by show 2<=t.length+2;omega,hle,Or.inr ⟨h3.1,h3.2,?_⟩⟩;show rd Q N=(run (Q.drop (p+2)) (N-ls.length) (nx now b)).add ls (p+2);rw [hr,hd,hM];show(run (true::b::(t++r)) (M+1) now).add ls p=_;rw [run_move _ _ _ _ (by omega),add_add,List.append_nil]
theorem Rt.all {Q:List Bool} {N p:Nat} {ls:List Int} {now:Int} (h:Rt Q N p ls now) (hl:ls.length=N) (hN:0<N):rd Q N=.ok ls p:=by
 obtain⟨hle,h|⟨h1,h20,hr⟩⟩:=h
 ·obtain⟨rfl,rfl,rfl⟩:=h;simp at hl;omega
 ·rw [hr,show N-ls.length=0 by omega,run_zero];show Res.ok (ls++[]) (p+0)=_;rw [List.append_nil];rfl
theorem Rt.now {Q:List Bool} {N p:Nat} {ls:List Int} {now:Int} (h:Rt Q N p ls now):0<=now/\now<=20:=by
 obtain⟨hle,h|⟨h1,h20,hr⟩⟩:=h
 ·omega
 ·omega
end DelM
end
end Go.Proofs.YtnachbjhhpnadaaGreatDoor

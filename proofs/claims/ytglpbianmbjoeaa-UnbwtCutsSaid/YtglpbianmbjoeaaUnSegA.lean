/-
  MERGED by seg.py out of: LawKit Foot Row Cells Ints ObjF BwtMath UnMath UnA OwnY UnB UnC UnD UnG UnH ToI UnE UnI.
-/
import Derived.Test.YtglpbianmbjoeaaRows
import Derived.WalkKit
import Derived.WalkSpells
import Derived.WalkLawsBesides
import Derived.ProofKit
import Derived.OpenShut
import Derived.ShutString
import Derived.ChangeOld
import Derived.Below
import Derived.Lib.Hide
import Derived.BigQuiet
import Derived.SliceStrings
import Derived.Laws.OwnMore
import Derived.Laws.AppendOwnNone
import Derived.StillTailTactics
namespace Go.Proofs.Ytglpbianmbjoeaa
open Go.ChangeShapes Go.WideShapes Go.ChangeAt Go.RowKit
open Go.ChangeMaps (open_string shut_string)
namespace LawShell
theorem own : ownKnob Try.prog.godebug = none := by kernel_rfl
theorem laidOut : laidOutB Try.prog = true := by kernel_rfl
end LawShell

/-- WHAT A WALK IS TOLD OF A SLICE OF INTEGERS THAT CAME IN. -/
def IsRow (k : IntKind) (w : World) (a : Option Addr) (len cap : Nat) (zs : List Int) : Prop :=
  (a = none ∧ len = 0 ∧ cap = 0 ∧ zs = []) ∨
  ∃ x, a = some x ∧ len ≤ cap ∧ cap ≤ maxLen ∧ zs.length = cap ∧ (∀ i, i < zs.length → w.cell? (x.add i) = some (.int k (zs.getD i 0))) ∧ ∀ n ∈ zs, (Lit.int k n).wf = true

theorem open_row {H : Type} {enc : TypeId × Value → H} {P : Program} {W : World} {base : Nat} {t e : TypeId} {k : IntKind} {v : Value} {d : DataW H} {p : List MemPlace}
    (ht : P.underlying t = some (.slice e)) (he : P.underlying e = some (.int k)) (hc : P.cellsOf e = 1) (hv : Value.okWide P W .any base t v)
    (h : DataW.Trod enc P W 0 (fun _ => true) true t v d p) : ∃ a len cap zs, v = .slice a len cap ∧ IsRow k W a len cap zs := by
  obtain ⟨a0, len0, cap0, rfl⟩ := okWide_slice ht hv
  obtain ⟨fuel, hf⟩ := h
  rcases open_ints ht he hc hf with ⟨hcs, _⟩ | ⟨x, l, c, zs, hcs, _, hl, hm, hz, _, hcell, hwz⟩
  · simp [Value.cells] at hcs
    obtain ⟨rfl, rfl, rfl⟩ := hcs
    exact ⟨_, _, _, [], rfl, .inl ⟨rfl, rfl, rfl, rfl⟩⟩
  · simp [Value.cells] at hcs
    obtain ⟨rfl, rfl, rfl⟩ := hcs
    exact ⟨_, _, _, zs, rfl, .inr ⟨_, rfl, hl, hm, by simpa using hz, hcell, hwz⟩⟩

/-- WHAT A WALK IS TOLD OF A SLICE OF STRINGS THAT CAME IN. -/
def IsStrs (w : World) (a : Option Addr) (len _cap : Nat) (ss : List ByteArray) : Prop :=
  ss.length = len ∧ len ≤ maxLen ∧ (∀ i, i < len → ∃ b off, a = some ⟨b, off, none⟩ ∧ w.cell? ⟨b, off + i, none⟩ = some (.string (ss.getD i ByteArray.empty))) ∧ ∀ s ∈ ss, s.size ≤ maxLen
theorem open_strs {H : Type} {enc : TypeId × Value → H} {P : Program} {W : World} {base : Nat} {t e : TypeId} {v : Value} {d : DataW H} {p : List MemPlace}
    (ht : P.underlying t = some (.slice e)) (he : P.underlying e = some .string) (hc : P.cellsOf e = 1) (hv : Value.okWide P W .any base t v)
    (h : DataW.Trod enc P W 0 (fun _ => true) true t v d p) : ∃ a len cap ss, v = .slice a len cap ∧ IsStrs W a len cap ss := by
  obtain ⟨a0, len0, cap0, rfl⟩ := okWide_slice ht hv
  obtain ⟨fuel, hf⟩ := h
  rcases open_strings ht he hc hf with ⟨hcs, _⟩ | ⟨x, l, c, ss, hcs, _, hl, hm, hz, _, hcell, hws⟩
  · simp [Value.cells] at hcs
    obtain ⟨rfl, rfl, rfl⟩ := hcs
    exact ⟨_, _, _, [], rfl, rfl, by decide, fun i hi => by omega, fun s hs => by simp at hs⟩
  · simp [Value.cells] at hcs
    obtain ⟨rfl, rfl, rfl⟩ := hcs
    simp only [if_true] at hz
    refine ⟨_, _, _, ss.take len0, rfl, by simp; omega, by omega, fun i hi => ?_, fun s hs => hws s (List.mem_of_mem_take hs)⟩
    have hi' := hcell i (by omega)
    obtain ⟨b, off, spot⟩ := x
    have hspot : spot = none := by simpa [Addr.add] using World.cell?_spot (hcell 0 (by omega))
    subst hspot
    refine ⟨b, off, rfl, ?_⟩
    rw [← add_plain, hi']
    simp [List.getD, hi]

theorem below_setRow {B : Nat} {a w : World} (h : Below B a w) {g : Nat} (hg : B ≤ g) (cs : Array Value) : Below B a (w.setRow g cs) :=
  h.trans ⟨rfl, rfl, rfl, by simp [World.setRow], fun j hj => setRow_other _ _ j _ (by omega)⟩
theorem setRow_size (w : World) (g : Nat) (cs : Array Value) : (w.setRow g cs).heap.size = w.heap.size := by simp [World.setRow]

/-! ### A region that draws its order, whose callees may make memory of their own: the class of worlds in which every block that stood ahead of the region is as it was -/
/-- The worlds that are as w below block number B. -/
structure Beneath (B : Nat) (w : World) : Type where
  val : World
  is : Below B w val
instance (B : Nat) (w : World) : Nonempty (Beneath B w) := ⟨⟨w, Below.refl _ _⟩⟩
theorem Beneath.cell {B : Nat} {w : World} {p : Addr} {v : Value} (h : w.cell? p = some v) (hB : p.block < B) (s : Beneath B w) : s.val.cell? p = some v := (s.is.cell hB).trans h
theorem wp_region_beneath {P : Program} {id : Nat} {Q : Exit → Act → World → Prop} {a : Act} {w : World} {l : List Oper} (B : Nat) (w0 : World) (h0 : Below B w0 w) (hm : P.follows .mixedOrders = true) (hB : Region.lexB .any l.toArray = true)
    (h : wpQuiet P l.toArray (fun w' => ∃ s : Beneath B w0, w' = s.val) (fun a' => ∀ w', (∃ s : Beneath B w0, w' = s.val) → Q .normal a' w') l a) : (Code.region id l.toArray true).wp P Q a w :=
  wp_region_quiet (C := fun w' => ∃ s : Beneath B w0, w' = s.val) hm hB ⟨⟨w.drew, h0.drew⟩, rfl⟩ (by simpa using h)
/-- A callee that makes memory of its own alone. -/
theorem Calls.beneath {P : Program} {f : FuncId} {args : Array Value} {B : Nat} {w : World} {v : Value} (s : Beneath B w) (hB : B ≤ w.heap.size)
    (h : Calls P f args s.val fun e w' => e = .returned v ∧ Below s.val.heap.size s.val w') : Calls P f args s.val fun e w'' => e = .returned v ∧ ∃ s' : Beneath B w, w'' = s'.val :=
  h.mono fun _ w' ⟨he, hb⟩ => ⟨he, ⟨w', s.is.trans (hb.mono (Nat.le_trans hB s.is.size))⟩, rfl⟩
/-- A callee that leaves the world alone. -/
theorem Calls.beneath_same {P : Program} {f : FuncId} {args : Array Value} {B : Nat} {w : World} {v : Value} (s : Beneath B w)
    (h : Calls P f args s.val fun e w' => e = .returned v ∧ s.val = w') : Calls P f args s.val fun e w'' => e = .returned v ∧ ∃ s' : Beneath B w, w'' = s'.val :=
  h.mono fun _ _ ⟨he, hb⟩ => ⟨he, s, hb.symm⟩
end Go.Proofs.Ytglpbianmbjoeaa
namespace Go.Proofs.Ytglpbianmbjoeaa
open Go.RowKit

/-- Of what was there only blocks of S may have turned. -/
structure Touch (S : Nat → Prop) (w w' : World) : Prop where
  os : w'.os = w.os
  tape : w'.tape = w.tape
  output : w'.output = w.output
  size : w.heap.size ≤ w'.heap.size
  block : ∀ k, k < w.heap.size → ¬ S k → w'.heap[k]? = w.heap[k]?
namespace Touch
variable {S T : Nat → Prop} {a b c : World}
theorem refl (S : Nat → Prop) (w : World) : Touch S w w := ⟨rfl, rfl, rfl, Nat.le_refl _, fun _ _ _ => rfl⟩
theorem trans (h : Touch S a b) (k : Touch T b c) (hT : ∀ i, T i → S i ∨ a.heap.size ≤ i) : Touch S a c :=
  ⟨k.os.trans h.os, k.tape.trans h.tape, k.output.trans h.output, Nat.le_trans h.size k.size, fun i hi hS =>
    (k.block i (Nat.lt_of_lt_of_le hi h.size) (fun ht => by rcases hT i ht with g | g; exact hS g; omega)).trans (h.block i hi hS)⟩
theorem mono (h : Touch S a b) (hS : ∀ i, S i → T i) : Touch T a b := ⟨h.os, h.tape, h.output, h.size, fun i hi ht => h.block i hi (fun hs => ht (hS i hs))⟩
theorem drew (h : Touch S a b) : Touch S a b.drew := ⟨h.os, h.tape, h.output, h.size, h.block⟩
theorem alloc (h : Touch S a b) (o : Obj) : Touch S a (b.alloc o) :=
  ⟨h.os, h.tape, h.output, by have := h.size; simp; omega, fun i hi hs => (Below.heap_alloc b o i (Nat.lt_of_lt_of_le hi h.size)).trans (h.block i hi hs)⟩
theorem setCell (h : Touch S a b) {p : Addr} (hp : S p.block ∨ a.heap.size ≤ p.block) (v : Value) : Touch S a (b.setCell p v) :=
  ⟨h.os, h.tape, h.output, by simpa [World.setCell] using h.size, fun i hi hs => (heap_setCell_other b p i v (fun e => by rcases hp with g | g; exact hs (e ▸ g); omega)).trans (h.block i hi hs)⟩
theorem grown (h : Touch S a b) {r : Option Nat} (hg : b.grownBy c r) (hr : ∀ i, r = some i → S i ∨ a.heap.size ≤ i) : Touch S a c :=
  ⟨hg.os.trans h.os, hg.tape.trans h.tape, hg.output.trans h.output, Nat.le_trans h.size hg.size, fun i hi hs =>
    (hg.block i (Nat.lt_of_lt_of_le hi h.size) (fun e => by rcases hr i e.symm with g | g; exact hs g; omega)).trans (h.block i hi hs)⟩
theorem ofBelow (h : Below a.heap.size a b) : Touch S a b := ⟨h.os, h.tape, h.output, h.size, fun i hi _ => h.block i hi⟩
theorem below {B : Nat} (h : Touch S a b) (hB : B ≤ a.heap.size) (hS : ∀ i, S i → B ≤ i) : Below B a b :=
  ⟨h.os, h.tape, h.output, h.size, fun i hi => h.block i (by omega) (fun hs => by have := hS i hs; omega)⟩
end Touch
theorem touch_drewN (S : Nat → Prop) (w : World) (n : Nat) : Touch S w (w.drewN n) := ⟨rfl, rfl, rfl, Nat.le_refl _, fun _ _ _ => rfl⟩
theorem touch_cell {b i : Nat} {w0 w : World} {v : Value} (h : Touch (· = b) w0 w) : Touch (· = b) w0 (w.setCell ⟨b, i, none⟩ v) := Touch.setCell (S := (· = b)) (p := ⟨b, i, none⟩) h (Or.inl rfl) v
def u8v (x : UInt8) : Value := .int .u8 (x.toNat : Int)
theorem info5 : (Try.prog.info? 5).map (fun i => (i.zero, i.size, i.bytes)) = some (some (.int .u8 0), 1, 1) := by kernel_rfl
/-- What an object with one row of its own may write. -/
def foot (b : Nat) (v : Value) (k : Nat) : Prop := k = b ∨ v.ownBlock = some k
/-- 'append' to a row of the call's own: its block is the old one, or a new one. -/
theorem run_append_own2 {P : Program} (w : World) (base : Nat) (t ty e : TypeId) (i : TypeInfo) (z : Value) (size bytes : Nat) (ht : P.underlying t = some (.slice e)) (hi : P.info? e = some i) (hz : i.zero = some z)
    (hsize : i.size = size) (hby : i.bytes = bytes) (hzs : z.cells.size = size) (hsz : 0 < size)
    (v : Value) (n : Nat) (xs : List Value) (hown : w.ownsRow base e size v n xs)
    (a : Addr) (m c : Nat) (news : List Value) (hl : news.length = m * size) (hnews : ∀ j u, news[j]? = some u → w.cell? (a.add j) = some u) (h1 : ∀ u ∈ news, u.oneCell' = true)
    (h63 : n + m ≤ maxLen) (hbytes : (n + m) * bytes ≤ 140737488355328) (hbase : base ≤ w.heap.size) :
    ∃ v' w', (Builtin.append_ #[t, t] ty #[v, .slice (some a) m c]).run P w = .ok v' w' ∧ w'.ownsRow base e size v' (n + m) (xs ++ news) ∧ w.grownBy w' v.ownBlock ∧
      (∀ k, v'.ownBlock = some k → v.ownBlock = some k ∨ w.heap.size ≤ k) := by
  obtain ⟨v', w', hr, h2, h3, h4⟩ := run_append_own (P := P) w base t ty e i z size bytes ht hi hz hsize hby hzs hsz v n xs hown a m c news hl hnews h1 h63 hbytes hbase
  refine ⟨v', w', hr, h2, h3, fun k hk => ?_⟩
  have hsmall : n + m ≤ 9223372036854775807 := by simp only [maxLen] at h63; omega
  subst hsize
  subst hby
  rcases hown.2 with ⟨rfl, rfl⟩ | ⟨g, cap, cur, rfl, _, hg, hnc, hcm, hcs, htake⟩
  · by_cases hm : m = 0
    · rw [(h4.2 ⟨rfl, hm⟩)] at hk
      simp [Value.ownBlock] at hk
    · have hr2 := run_append_nil (P := P) w t ty e i z ht hi hz a m c news hl hnews (by omega) (by omega) (by have hb := hbytes; simp only [Nat.zero_add] at hb; omega)
      rw [hr] at hr2
      simp only [Result.ok.injEq] at hr2
      rw [hr2.1] at hk
      simp [Value.ownBlock] at hk
      exact Or.inr (by omega)
  · by_cases hroom : n + m ≤ cap
    · have hfit : n * i.size + news.length ≤ cur.size := by rw [hl, hcs, ← Nat.add_mul]; exact Nat.mul_le_mul_right _ hroom
      have hr2 := run_append_room (P := P) w t ty e i ht hi g n cap cur hg a m c news hl hnews h1 hroom hfit
      rw [hr] at hr2
      simp only [Result.ok.injEq] at hr2
      rw [hr2.1] at hk
      exact Or.inl hk
    · have holds : ∀ j u, xs[j]? = some u → w.cell? ((⟨g, 0, none⟩ : Addr).add j) = some u := hown.cells (g := g) rfl
      have hr2 := run_append_grow (P := P) w t ty e i z ht hi hz ⟨g, 0, none⟩ n cap xs hown.1 holds a m c news hl hnews (by omega) (by omega) (growslice_fits (by omega) hbytes)
      rw [hr] at hr2
      simp only [Result.ok.injEq] at hr2
      rw [hr2.1] at hk
      simp [Value.ownBlock] at hk
      exact Or.inr (by omega)
/-- 'append', where an operation of a region that draws its order stands. -/
theorem step_append_own' {P : Program} {ops : Array Oper} {o : Oper} {a : Act} {w : World} {K : Act → World → Prop} {Q : Exit → Act → World → Prop} {E : Prop} (hg : o.guard = none) (s x : Operand) (t : TypeId)
    (ho : o.op = .call { callee := .builtin .append, args := #[s, x], argTypes := #[t, t] })
    (base : Nat) (e : TypeId) (i : TypeInfo) (z : Value) (size bytes : Nat) (ht : P.underlying t = some (.slice e)) (hi : P.info? e = some i) (hz : i.zero = some z)
    (hsize : i.size = size) (hby : i.bytes = bytes) (hzs : z.cells.size = size) (hsz : 0 < size)
    (v : Value) (n : Nat) (xs : List Value) (hs : a.eval s = v) (hown : w.ownsRow base e size v n xs)
    (ad : Addr) (m c : Nat) (news : List Value) (hx : a.eval x = .slice (some ad) m c) (hl : news.length = m * size) (hnews : ∀ j u, news[j]? = some u → w.cell? (ad.add j) = some u) (h1 : ∀ u ∈ news, u.oneCell' = true)
    (h63 : n + m ≤ maxLen) (hbytes : (n + m) * bytes ≤ 140737488355328) (hbase : base ≤ w.heap.size)
    (h : ∀ v' w', w'.ownsRow base e size v' (n + m) (xs ++ news) → w.grownBy w' v.ownBlock → (∀ k, v'.ownBlock = some k → v.ownBlock = some k ∨ w.heap.size ≤ k) → K (a.put o.dst v') w') :
    if Region.wanted o (yielded ops a.tmps) = true then Oper.wp P o a w K Q else E := by
  have hw : Region.wanted o (yielded ops a.tmps) = true := by simp [Region.wanted, hg]
  rw [if_pos hw]
  obtain ⟨v', w', hr, h2, h3, h4⟩ := run_append_own2 (P := P) w base t o.type e i z size bytes ht hi hz hsize hby hzs hsz v n xs hown ad m c news hl hnews h1 h63 hbytes hbase
  unfold Oper.wp execOp
  simp only [ho, resolve, invoke, builtin, Sem.run_bind, Sem.run_pure, Result.andThen_ok, List.map_toArray, List.map_cons, List.map_nil, hs, hx, hr]
  exact h v' w' h2 h3 h4
end Go.Proofs.Ytglpbianmbjoeaa
namespace Go.Proofs.Ytglpbianmbjoeaa
open Go.RowKit
theorem iv {a b : Int} {k : IntKind} (h : a = b) : Value.int k a = Value.int k b := by rw [h]
theorem slice_of_own {w : World} {base e size : Nat} {v : Value} {n : Nat} {xs : List Value} (h : w.ownsRow base e size v n xs) : ∃ a cap, v = .slice a n cap := by
  rcases h.2 with ⟨rfl, rfl⟩ | ⟨g, cap, cur, rfl, _⟩
  · exact ⟨none, 0, rfl⟩
  · exact ⟨_, cap, rfl⟩
theorem ownsRow_other {w w' : World} {base e size : Nat} {v : Value} {n : Nat} {xs : List Value} (h : w.ownsRow base e size v n xs) (he : ∀ k, v.ownBlock = some k → w'.heap[k]? = w.heap[k]?) : w'.ownsRow base e size v n xs := by
  refine ⟨h.1, ?_⟩
  rcases h.2 with hn | ⟨g, cap, cur, rfl, hb, hg, r⟩
  · exact Or.inl hn
  · exact Or.inr ⟨g, cap, cur, rfl, hb, (he g rfl).trans hg, r⟩
theorem ownsRow_far {w : World} {e size : Nat} {v : Value} {n : Nat} {xs : List Value} {base : Nat} (h : w.ownsRow base e size v n xs) (b : Nat) (hb : b < base) (o : Nat) (x : Value) : (w.setCell ⟨b, o, none⟩ x).ownsRow base e size v n xs := by
  refine ⟨h.1, ?_⟩
  rcases h.2 with hn | ⟨g, cap, cur, rfl, hbg, hg, r⟩
  · exact Or.inl hn
  · exact Or.inr ⟨g, cap, cur, rfl, hbg, (heap_setCell_other w ⟨b, o, none⟩ g x (by show g ≠ b; omega)).trans hg, r⟩
/-- The cells of a block that was just made. -/
theorem news_new (w : World) (cs : Array Value) (t : TypeId) (n : Nat) (hn : n = w.heap.size) : ∀ (j : Nat) u, cs.toList[j]? = some u → (w.alloc (.cells cs t)).cell? ((⟨n, 0, none⟩ : Addr).add j) = some u := by
  subst hn
  intro j u hj
  rw [Addr.add_lit, cell_of_row _ _ _ _ _ _ (heap_alloc_new w (.cells cs t)), Nat.zero_add]
  simpa using hj
/-- 'string(x)', x a row of bytes of the call's own. -/
theorem conv_row {W : World} {base : Nat} {v : Value} {n : Nat} {l : List UInt8} (h : W.ownsRow base 5 1 v n (l.map u8v)) :
    (convert 47 9 v).run Try.prog W = .ok (.string ⟨l.toArray⟩) W := by
  have hl : l.length = n := by simpa using h.1
  rcases h.2 with ⟨rfl, rfl⟩ | ⟨g, cap, cur, rfl, _, hg, _⟩
  · obtain rfl : l = [] := List.eq_nil_of_length_eq_zero hl
    exact run_convert_bytes_nil W 47 5 Try.underlying47 Try.underlying5 0 0 9 Try.underlying9
  · subst hl
    refine run_convert_bytes_back W 47 9 5 ⟨g, 0, none⟩ cap l Try.underlying47 Try.underlying5 Try.underlying9 (fun j hj => ?_)
    rw [Addr.add_lit, Nat.zero_add, h.cellAt j (by omega)]
    simp [hj, u8v]
theorem bytes_conv (W : World) (b cap : Nat) (l : List UInt8) (m : Nat) (hm : m = l.length) (h : ∀ j x, l[j]? = some x → W.cell? ⟨b, j, none⟩ = some (u8v x)) :
    (convert 47 9 (.slice (some ⟨b, 0, none⟩) m cap)).run Try.prog W = .ok (.string ⟨l.toArray⟩) W := by
  subst hm
  refine run_convert_bytes_back W 47 9 5 ⟨b, 0, none⟩ cap l Try.underlying47 Try.underlying5 Try.underlying9 (fun j hj => ?_)
  rw [Addr.add_lit, Nat.zero_add, h j _ (List.getElem?_eq_getElem hj)]
  simp [u8v]
/-- 'string([]byte{x})'. -/
theorem one_conv (w : World) (x : UInt8) (X : Int) (hX : X = (x.toNat : Int)) : (convert 47 9 (.slice (some ⟨w.heap.size, 0, none⟩) 1 1)).run Try.prog (w.alloc (.cells #[.int .u8 X] 5)) = .ok (.string ⟨#[x]⟩) (w.alloc (.cells #[.int .u8 X] 5)) := by
  subst hX
  refine bytes_conv _ w.heap.size 1 [x] 1 rfl (fun j y hj => ?_)
  rw [cell_of_row _ _ _ _ _ _ (heap_alloc_new w _)]
  have : j < 1 := (List.getElem?_eq_some_iff.1 hj).1
  obtain rfl : j = 0 := by omega
  have e : x = y := by simpa using hj
  subst e
  rfl
theorem text_eq (s : ByteArray) : s = ⟨s.data.toList.toArray⟩ := by cases s; simp
theorem text_append (a b : List UInt8) : (⟨a.toArray⟩ : ByteArray) ++ ⟨b.toArray⟩ = ⟨(a ++ b).toArray⟩ := by
  apply ByteArray.ext; simp
theorem text_size (a : List UInt8) : (⟨a.toArray⟩ : ByteArray).size = a.length := by show a.toArray.size = _; simp
end Go.Proofs.Ytglpbianmbjoeaa
namespace Go.Proofs.Ytglpbianmbjoeaa
open Go.RowKit
set_option linter.unusedVariables false
/-- One place told anew. -/
def upd (F : Nat → Value) (i : Nat) (v : Value) : Nat → Value := fun k => if k = i then v else F k
theorem upd_same (F : Nat → Value) (i : Nat) (v : Value) : upd F i v i = v := if_pos rfl
theorem upd_ne (F : Nat → Value) {i k : Nat} (v : Value) (h : k ≠ i) : upd F i v k = F k := if_neg h
def cellsF (M : Nat) (F : Nat → Value) : Array Value := ((List.range M).map F).toArray
theorem cellsF_get (M : Nat) (F : Nat → Value) {i : Nat} (hi : i < M) : (cellsF M F)[i]? = some (F i) := by
  unfold cellsF
  rw [List.getElem?_toArray, List.getElem?_map, List.getElem?_range hi]
  rfl
theorem cellsF_set (M : Nat) (F : Nat → Value) (i : Nat) (x : Value) : (cellsF M F).setIfInBounds i x = cellsF M (upd F i x) := by
  apply Array.toList_inj.1
  rw [Array.toList_setIfInBounds]
  show ((List.range M).map F).set i x = (List.range M).map (fun k => if k = i then x else F k)
  apply List.ext_getElem
  · simp
  · intro j h1 h2
    rw [List.getElem_set]
    by_cases e : i = j
    · subst e; simp
    · rw [if_neg e]
      have : ¬ j = i := fun h => e h.symm
      simp [this]
theorem wpList_build_one {P : Program} {ops : Array Oper} {rest : List Oper} {o : Oper} {a : Act} {w : World} {Q : Exit → Act → World → Prop} (hg : o.guard = none) (t : TypeId) (n : Nat) (y : Operand) (ho : o.op = .build t #[(n, y)]) (v : Value) (hy : a.eval y = v) (Z : Array Value)
    (hb : P.built t [(n, v)] = some Z) (h : wpList P ops Q rest (a.put o.dst (.agg Z)) w) : wpList P ops Q (o :: rest) a w := by
  subst hy
  refine wpList_build hg t #[(n, y)] ho ?_ ?_
  · simp [hb]
  · simpa [hb] using h
theorem wpList_build_is {P : Program} {ops : Array Oper} {rest : List Oper} {o : Oper} {a : Act} {w : World} {Q : Exit → Act → World → Prop} (hg : o.guard = none) (t : TypeId) (ho : o.op = .build t #[]) (Z : Array Value)
    (hb : P.built t [] = some Z) (h : wpList P ops Q rest (a.put o.dst (.agg Z)) w) : wpList P ops Q (o :: rest) a w := by
  refine wpList_build hg t #[] ho ?_ ?_
  · simp [hb]
  · simpa [hb] using h
end Go.Proofs.Ytglpbianmbjoeaa
namespace Go.Proofs.Ytglpbianmbjoeaa
open Go.RowKit
set_option linter.unusedVariables false
theorem drewN_add (w : World) (m n : Nat) : (w.drewN m).drewN n = w.drewN (m + n) := by simp [World.drewN, Nat.add_assoc]
theorem below_drewN (w : World) (n : Nat) : Below w.heap.size w (w.drewN n) := ⟨rfl, rfl, rfl, Nat.le_refl _, fun _ _ => rfl⟩
/-- v is a row of the numbers zs. -/
def IsInts (w : World) (v : Value) (zs : List Int) : Prop := ∃ a cap, v = .slice a zs.length cap ∧ ∀ i x, zs[i]? = some x → ∃ b off, a = some ⟨b, off, none⟩ ∧ w.cell? ⟨b, off + i, none⟩ = some (.int .i64 x)
theorem cell_lt {w : World} {p : Addr} {v : Value} (h : w.cell? p = some v) : p.block < w.heap.size := by
  by_cases hlt : p.block < w.heap.size
  · exact hlt
  · exfalso
    unfold World.cell? at h
    rw [Array.getElem?_eq_none (by omega)] at h
    cases h
theorem IsInts.below {w w' : World} {v : Value} {zs : List Int} (h : IsInts w v zs) (hb : Below w.heap.size w w') : IsInts w' v zs := by
  obtain ⟨a, cap, hv, hc⟩ := h
  refine ⟨a, cap, hv, fun i x hx => ?_⟩
  obtain ⟨b, off, ha, hcell⟩ := hc i x hx
  exact ⟨b, off, ha, (hb.cell (cell_lt hcell)).trans hcell⟩
theorem IsInts.nil (w : World) : IsInts w (.slice none 0 0) [] := ⟨none, 0, rfl, fun i x hx => by simp at hx⟩
def iv64 (x : Int) : Value := .int .i64 x
theorem ints_of_row {w : World} {g N cap : Nat} {zs : List Int} {rest : List Value} {t : TypeId} (h : w.heap[g]? = some (.cells (zs.map iv64 ++ rest).toArray t (0, 0))) (hN : N = zs.length) : IsInts w (.slice (some ⟨g, 0, none⟩) N cap) zs := by
  subst hN
  refine ⟨_, cap, rfl, fun i x hx => ⟨g, 0, rfl, ?_⟩⟩
  have hi := (List.getElem?_eq_some_iff.1 hx).1
  rw [cell_of_row _ _ _ _ _ _ h, Nat.zero_add, List.getElem?_toArray, List.getElem?_append_left (by simpa using hi), List.getElem?_map, hx]
  rfl
theorem set_row (n k : Nat) (zs : List Int) (x : Int) (hk : k < n) (hz : zs.length = k) : ((zs.map iv64 ++ List.replicate (n - k) (iv64 0)).toArray).setIfInBounds k (.int .i64 x) = ((zs ++ [x]).map iv64 ++ List.replicate (n - (k + 1)) (iv64 0)).toArray := by
  apply Array.toList_inj.1
  rw [Array.toList_setIfInBounds]
  have e : n - k = (n - (k + 1)) + 1 := by omega
  show (zs.map iv64 ++ List.replicate (n - k) (iv64 0)).set k (.int .i64 x) = (zs ++ [x]).map iv64 ++ List.replicate (n - (k + 1)) (iv64 0)
  rw [List.set_append_right _ _ (by simp [hz]), e, List.replicate_succ]
  simp [hz, iv64]
theorem made_row (n : Nat) : madeCells #[Value.int .i64 0] n = (([] : List Int).map iv64 ++ List.replicate (n - 0) (iv64 0)).toArray := by
  apply Array.toList_inj.1
  rw [toList_madeCells_one]
  rfl
set_option maxHeartbeats 1000000 in
theorem make_ints (n : Nat) (hn : n ≤ 1000000) (W : World) : (Instr.makeSlice 27 (.int .i64 (n : Int)) (.int .i64 (n : Int))).run Try.prog W = .ok (.slice (some ⟨W.heap.size, 0, none⟩) n n) (W.alloc (.cells (madeCells #[Value.int .i64 0] n) 3)) := by
  obtain ⟨i0, hi, hz0, hz1, hz2⟩ := info_parts (show (Try.prog.info? 3).map (fun i => (i.zero, i.size, i.bytes)) = some (some (.int .i64 0), 1, 8) by kernel_rfl)
  have := run_make (P := Try.prog) W 27 3 i0 (.int .i64 0) Try.underlying27 hi hz0 .i64 .i64 (n : Int) (n : Int) (by omega) (by omega) (by rw [hz2]; omega) (by omega)
  rw [hz1] at this
  simpa [Value.cells] using this
theorem IsInts.cell {w : World} {v : Value} {zs : List Int} (h : IsInts w v zs) {k : Nat} (hk : k < zs.length) : ∃ b off cap, v = .slice (some ⟨b, off, none⟩) zs.length cap ∧ w.cell? ⟨b, off + k, none⟩ = some (.int .i64 (zs.getD k 0)) := by
  obtain ⟨a, cap, rfl, hc⟩ := h
  obtain ⟨b, off, rfl, hcell⟩ := hc k zs[k] (List.getElem?_eq_getElem hk)
  refine ⟨b, off, cap, rfl, ?_⟩
  rw [hcell, List.getD_eq_getElem?_getD, List.getElem?_eq_getElem hk]
  rfl
theorem ints_of_own {w : World} {base e n : Nat} {v : Value} {zs : List Int} (h : w.ownsRow base e 1 v n (zs.map iv64)) : IsInts w v zs := by
  have hl : zs.length = n := by simpa using h.1
  rcases h.2 with ⟨rfl, h0⟩ | ⟨g, cap, cur, rfl, _, hg, _⟩
  · obtain rfl : zs = [] := List.eq_nil_of_length_eq_zero (by omega)
    exact IsInts.nil w
  · subst hl
    refine ⟨_, cap, rfl, fun i x hx => ⟨g, 0, rfl, ?_⟩⟩
    have hi := (List.getElem?_eq_some_iff.1 hx).1
    rw [Nat.zero_add, h.cellAt i (by omega)]
    rw [List.getElem?_map, hx]
    rfl
theorem info_int : (Try.prog.info? 3).map (fun i => (i.zero, i.size, i.bytes)) = some (some (.int .i64 0), 1, 8) := by kernel_rfl
theorem ints_lit (w : World) (a b c : Int) : IsInts (w.alloc (.cells #[.int .i64 a, .int .i64 b, .int .i64 c] 3)) (.slice (some ⟨w.heap.size, 0, none⟩) 3 3) [a, b, c] :=
  ints_of_row (zs := [a, b, c]) (rest := []) (heap_alloc_new w _) rfl
theorem ints_in {w : World} {a : Option Addr} {len cap : Nat} {zs : List Int} (h : IsRow .i64 w a len cap zs) : IsInts w (.slice a len cap) (zs.take len) ∧ (zs.take len).length = len := by
  rcases h with ⟨rfl, rfl, rfl, rfl⟩ | ⟨x, rfl, hl, _, hz, hc, _⟩
  · exact ⟨IsInts.nil w, rfl⟩
  · have hlen : (zs.take len).length = len := by rw [List.length_take]; omega
    refine ⟨⟨some x, cap, by rw [hlen], fun i y hy => ?_⟩, hlen⟩
    have hi := (List.getElem?_eq_some_iff.1 hy).1
    rw [List.getElem?_take] at hy
    rw [hlen] at hi
    rw [if_pos hi] at hy
    have hcell := hc i (by omega)
    obtain ⟨b, off, spot⟩ := x
    have hspot : spot = none := by simpa [Addr.add] using World.cell?_spot (hc 0 (by omega))
    subst hspot
    refine ⟨b, off, rfl, ?_⟩
    rw [Addr.add_lit] at hcell
    rw [hcell, List.getD_eq_getElem?_getD, hy]
    rfl
theorem isRow_len {w : World} {a : Option Addr} {len cap : Nat} {zs : List Int} (h : IsRow .i64 w a len cap zs) : len ≤ cap ∧ cap ≤ 9223372036854775807 := by
  rcases h with ⟨rfl, rfl, rfl, rfl⟩ | ⟨x, rfl, hl, hc, _⟩
  · exact ⟨Nat.le_refl _, by omega⟩
  · simp only [maxLen] at hc
    exact ⟨hl, by omega⟩
set_option maxRecDepth 100000 in
set_option maxHeartbeats 1000000 in
theorem ints_any (v u : Value) (zs ys : List Int) (r : Bool) (w : World) (hv : IsInts w v zs) (hu : IsInts w u ys) (hr : r = true ↔ zs = ys) (hz1 : zs.length ≤ 9223372036854775807) (hz2 : ys.length ≤ 9223372036854775807) :
    Calls Try.prog 11 #[v, u] w fun e w' => e = .returned (.bool r) ∧ ∃ n, w' = w.drewN n := by
  have HV := Lib.hid hv
  have HU := Lib.hid hu
  obtain ⟨a, cap, rfl, _⟩ := hv
  obtain ⟨a2, cap2, rfl, _⟩ := hu
  by_cases hl : zs.length = ys.length
  · have hli : (zs.length : Int) = (ys.length : Int) := by omega
    have HR := Lib.hid hr
    clear hr
    have hne : ((zs.length : Int) != (ys.length : Int)) = false := by rw [bne_eq_false_iff_eq]; exact hli
    go_enter Try.func11, Try.ntmps11
    go_wp2_with fail
    go_loopw [13] (fun i wr => ∃ k n : Nat, k ≤ zs.length ∧ i = .int .i64 k ∧ wr = w.drewN n ∧ ∀ j, j < k → zs.getD j 0 = ys.getD j 0) (fun i _ => zs.length - (intOf i).toNat)
    case atStart => exact ⟨0, 0, by omega, rfl, rfl, fun j hj => by omega⟩
    case round =>
      obtain ⟨k, n, hk, rfl, rfl, hA⟩ := hrel
      have HA := Lib.hid hA
      clear hA
      by_cases hlk : k < zs.length
      · have hki : (k : Int) < (zs.length : Int) := by omega
        have hki2 : (k : Int) < (ys.length : Int) := by omega
        obtain ⟨b1, o1, k1, he1, c1⟩ := HV.out.cell hlk
        obtain ⟨b2, o2, k2, he2, c2⟩ := HU.out.cell (show k < ys.length by omega)
        simp only [Value.slice.injEq] at he1 he2
        obtain ⟨rfl, _, rfl⟩ := he1
        obtain ⟨rfl, _, rfl⟩ := he2
        obtain ⟨x, hx⟩ : ∃ x, zs.getD k 0 = x := ⟨_, rfl⟩
        obtain ⟨y, hy⟩ : ∃ y, ys.getD k 0 = y := ⟨_, rfl⟩
        rw [hx] at c1
        rw [hy] at c2
        have HX := Lib.hid hx
        have HY := Lib.hid hy
        clear hx hy
        by_cases hxy : x = y
        · subst hxy
          go_wp2_with fail
          go_quiet (fail)
          go_wp2_with fail
          go_roundw
          case rel => exact ⟨k + 1, _, by omega, by go_num, rfl, fun j hj => by
            by_cases e : j = k
            · subst e; rw [HX.out, HY.out]
            · exact HA.out j (by omega)⟩
          case measure => simp [intOf]; omega
        · have hd : (x != y) = true := by rw [bne_iff_ne]; exact hxy
          have hrf : r = false := by
            rw [Bool.eq_false_iff, Ne, HR.out]
            rintro rfl
            exact hxy (HX.out.symm.trans HY.out)
          subst hrf
          clear hxy
          go_wp2_with fail
          go_quiet (fail)
          go_wp2_with fail
          go_ret
          exact ⟨rfl, _, drewN_add _ _ _⟩
      · obtain rfl : k = zs.length := by omega
        have hrt : r = true := by
          rw [HR.out]
          apply List.ext_getElem hl
          intro i h1 h2
          have := HA.out i h1
          rw [List.getD_eq_getElem?_getD, List.getD_eq_getElem?_getD, List.getElem?_eq_getElem h1, List.getElem?_eq_getElem h2] at this
          exact this
        subst hrt
        go_wp2_with fail
        go_ret
        exact ⟨rfl, n, rfl⟩
  · have hne : ((zs.length : Int) != (ys.length : Int)) = true := by rw [bne_iff_ne]; omega
    have hrf : r = false := by
      rw [Bool.eq_false_iff, Ne, hr]
      rintro rfl
      exact hl rfl
    subst hrf
    clear hr
    go_enter Try.func11, Try.ntmps11
    go_wp2_with fail
    go_ret
    exact ⟨rfl, 0, rfl⟩
/-! ### A row of the call's own -/
/-- v is a row of the numbers zs, in a block of the call's own (from base on). -/
def OwnI (w : World) (base : Nat) (v : Value) (zs : List Int) : Prop := w.ownsRow base 3 1 v zs.length (zs.map iv64)
theorem OwnI.ints {w : World} {base : Nat} {v : Value} {zs : List Int} (h : OwnI w base v zs) : IsInts w v zs := ints_of_own h
theorem OwnI.nil (w : World) (base : Nat) : OwnI w base (.slice none 0 0) [] := World.ownsRow_nil _ _ _ _
theorem OwnI.slice {w : World} {base : Nat} {v : Value} {zs : List Int} (h : OwnI w base v zs) : ∃ a cap, v = .slice a zs.length cap := slice_of_own h
theorem OwnI.alloc {w : World} {base : Nat} {v : Value} {zs : List Int} (h : OwnI w base v zs) (o : Obj) : OwnI (w.alloc o) base v zs := World.ownsRow.alloc h o
theorem OwnI.drewN {w : World} {base : Nat} {v : Value} {zs : List Int} (h : OwnI w base v zs) (n : Nat) : OwnI (w.drewN n) base v zs := h
theorem OwnI.below {w w' : World} {base : Nat} {v : Value} {zs : List Int} (h : OwnI w base v zs) (hb : Below w.heap.size w w') : OwnI w' base v zs :=
  ownsRow_other h fun k hk => hb.block k (World.ownsRow.lt h k hk).2
set_option maxHeartbeats 400000 in
theorem push_int {ops : Array Oper} {rest : List Oper} {o : Oper} {a : Act} {Q : Exit → Act → World → Prop} (W : World) (hgd : o.guard = none) (s x : Operand)
    (ho : o.op = .call { callee := .builtin .append, args := #[s, x], argTypes := #[27, 27] })
    (base : Nat) (v : Value) (zs : List Int) (c : Int) (hown : OwnI W base v zs) (hs : a.eval s = v) (hx : a.eval x = .slice (some ⟨W.heap.size, 0, none⟩) 1 1)
    (hlen : zs.length + 1 ≤ 17592186044416) (hb : base ≤ W.heap.size)
    (h : ∀ v' w', OwnI w' base v' (zs ++ [c]) → Below base W w' → wpList Try.prog ops Q rest (a.put o.dst v') w') :
    wpList Try.prog ops Q (o :: rest) a (W.alloc (.cells #[.int .i64 c] 3)) := by
  obtain ⟨i0, hi, hz0, hz1, hz2⟩ := info_parts info_int
  refine wpList_append_own _ hgd s x 27 ho base 3 i0 (.int .i64 0) 1 8 Try.underlying27 hi hz0 hz1 hz2 rfl (by decide) v zs.length (zs.map iv64) hs (World.ownsRow.alloc hown _) ⟨W.heap.size, 0, none⟩ 1 1 [.int .i64 c] hx rfl ?_ ?_ ?_ ?_ ?_ ?_
  · exact news_new _ _ _ _ rfl
  · intro u hu; simp at hu; subst hu; rfl
  · unfold maxLen; omega
  · omega
  · simp; omega
  · intro v' w' hown' hg _
    refine h v' w' ?_ (Below.grown ((Below.refl base W).alloc hb _) hg (by simp; omega) (fun j hj => (World.ownsRow.lt hown j hj).1))
    unfold OwnI
    rw [List.length_append, List.map_append]
    exact hown'
set_option maxHeartbeats 400000 in
theorem push_own {ops : Array Oper} {rest : List Oper} {o : Oper} {a : Act} {Q : Exit → Act → World → Prop} (W : World) (hgd : o.guard = none) (s x : Operand)
    (ho : o.op = .call { callee := .builtin .append, args := #[s, x], argTypes := #[27, 27] })
    (base : Nat) (v : Value) (zs : List Int) (base2 : Nat) (u : Value) (ys : List Int) (hown : OwnI W base v zs) (hsrc : OwnI W base2 u ys) (hs : a.eval s = v) (hx : a.eval x = u)
    (hlen : zs.length + ys.length ≤ 17592186044416) (hb : base ≤ W.heap.size)
    (h : ∀ v' w', OwnI w' base v' (zs ++ ys) → Below base W w' → wpList Try.prog ops Q rest (a.put o.dst v') w') :
    wpList Try.prog ops Q (o :: rest) a W := by
  obtain ⟨i0, hi, hz0, hz1, hz2⟩ := info_parts info_int
  rcases hsrc.2 with ⟨rfl, h0⟩ | ⟨g, cap, cur, rfl, _, hg, hnc, _, _, htake⟩
  · obtain rfl : ys = [] := List.eq_nil_of_length_eq_zero h0
    refine wpList_append_own_none hgd s x 27 ho base 3 i0 1 Try.underlying27 hi v zs.length (zs.map iv64) hs hown hx ?_
    have := h v W
    rw [List.append_nil] at this
    exact this hown (Below.refl _ _)
  · refine wpList_append_own _ hgd s x 27 ho base 3 i0 (.int .i64 0) 1 8 Try.underlying27 hi hz0 hz1 hz2 rfl (by decide) v zs.length (zs.map iv64) hs hown ⟨g, 0, none⟩ ys.length cap (ys.map iv64) hx (by simp) ?_ ?_ ?_ ?_ ?_ ?_
    · exact World.ownsRow.cells hsrc rfl
    · intro u hu; obtain ⟨y, _, rfl⟩ := List.mem_map.1 hu; rfl
    · unfold maxLen; omega
    · omega
    · exact hb
    · intro v' w' hown' hgr _
      refine h v' w' ?_ (Below.grown (Below.refl base W) hgr hb (fun j hj => (World.ownsRow.lt hown j hj).1))
      unfold OwnI
      rw [List.length_append, List.map_append]
      exact hown'

/-! ### A whole block of numbers -/
/-- Block g is the numbers zs. -/
def RowI (w : World) (g : Nat) (zs : List Int) : Prop := w.heap[g]? = some (.cells (zs.map iv64).toArray 3 (0, 0))
theorem RowI.lt {w : World} {g : Nat} {zs : List Int} (h : RowI w g zs) : g < w.heap.size := (Array.getElem?_eq_some_iff.1 h).1
theorem RowI.below {w w' : World} {g : Nat} {zs : List Int} (h : RowI w g zs) (hb : Below w.heap.size w w') : RowI w' g zs := (hb.block g h.lt).trans h
theorem RowI.other {w w' : World} {g : Nat} {zs : List Int} (h : RowI w g zs) {S : Nat → Prop} (ht : Touch S w w') (hS : ¬ S g) : RowI w' g zs := (ht.block g h.lt hS).trans h
theorem RowI.ints {w : World} {g : Nat} {zs : List Int} (h : RowI w g zs) (N cap : Nat) (hN : N = zs.length) : IsInts w (.slice (some ⟨g, 0, none⟩) N cap) zs :=
  ints_of_row (rest := []) (by rw [List.append_nil]; exact h) hN
theorem RowI.made (w : World) (n : Nat) : RowI (w.alloc (.cells (madeCells #[Value.int .i64 0] n) 3)) w.heap.size (List.replicate n 0) := by
  have := made_row n
  simp only [List.map_nil, List.nil_append, Nat.sub_zero] at this
  unfold RowI
  rw [List.map_replicate, ← this]
  exact heap_alloc_new _ _
theorem RowI.cell {w : World} {g : Nat} {zs : List Int} (h : RowI w g zs) {i : Nat} (hi : i < zs.length) : w.cell? ⟨g, i, none⟩ = some (.int .i64 (zs.getD i 0)) ∧ w.frozen? ⟨g, i, none⟩ = false ∧
    ∀ x : Int, RowI (w.setCell ⟨g, i, none⟩ (.int .i64 x)) g (zs.set i x) := by
  refine ⟨?_, frozen_of_row _ _ _ _ _ h, fun x => ?_⟩
  · rw [cell_of_row _ _ _ _ _ _ h, List.getElem?_toArray, List.getElem?_map, List.getD_eq_getElem?_getD, List.getElem?_eq_getElem hi]
    rfl
  · have := heap_setCell_same w g i _ _ (.int .i64 x) h
    unfold RowI
    rw [this]
    congr 2
    apply Array.toList_inj.1
    rw [Array.toList_setIfInBounds, List.map_set]
    rfl
theorem set_next (l : List Int) (m : Nat) (x : Int) : (l ++ List.replicate (m + 1) 0).set l.length x = l ++ [x] ++ List.replicate m 0 := by
  rw [List.set_append_right _ _ (Nat.le_refl _), Nat.sub_self, List.replicate_succ]
  simp

/-! ### 'append', and which blocks it leaves alone -/
theorem wpList_append_own2 {P : Program} {w : World} {ops : Array Oper} {rest : List Oper} {o : Oper} {a : Act} {Q : Exit → Act → World → Prop} (hgd : o.guard = none) (s x : Operand) (t : TypeId)
    (ho : o.op = .call { callee := .builtin .append, args := #[s, x], argTypes := #[t, t] })
    (base : Nat) (e : TypeId) (i : TypeInfo) (z : Value) (size bytes : Nat) (ht : P.underlying t = some (.slice e)) (hi : P.info? e = some i) (hz : i.zero = some z)
    (hsize : i.size = size) (hby : i.bytes = bytes) (hzs : z.cells.size = size) (hsz : 0 < size)
    (v : Value) (n : Nat) (xs : List Value) (hown : w.ownsRow base e size v n xs) (hs : a.eval s = v)
    (ad : Addr) (m c : Nat) (news : List Value) (hx : a.eval x = .slice (some ad) m c) (hl : news.length = m * size) (hnews : ∀ j u, news[j]? = some u → w.cell? (ad.add j) = some u) (h1 : ∀ u ∈ news, u.oneCell' = true)
    (h63 : n + m ≤ maxLen) (hbytes : (n + m) * bytes ≤ 140737488355328) (hbase : base ≤ w.heap.size)
    (h : ∀ v' w', w'.ownsRow base e size v' (n + m) (xs ++ news) → w.grownBy w' v.ownBlock → (∀ k, v'.ownBlock = some k → v.ownBlock = some k ∨ w.heap.size ≤ k) → wpList P ops Q rest (a.put o.dst v') w') : wpList P ops Q (o :: rest) a w :=
  wpList_plain hgd fun _ hK => by
    obtain ⟨v', w', hr, h2, h3, h4⟩ := run_append_own2 (P := P) w base t o.type e i z size bytes ht hi hz hsize hby hzs hsz v n xs hown ad m c news hl hnews h1 h63 hbytes hbase
    unfold Oper.wp execOp
    simp only [ho, resolve, invoke, builtin, Sem.run_bind, Sem.run_pure, Result.andThen_ok, List.map_toArray, List.map_cons, List.map_nil, hs, hx, hr]
    exact hK _ _ (h v' w' h2 h3 h4)
theorem alloc_old {w : World} {o : Obj} {k : Nat} (hk : k < w.heap.size) : (w.alloc o).heap[k]? = w.heap[k]? := Below.heap_alloc w o k hk
set_option maxHeartbeats 400000 in
theorem push_int2 {ops : Array Oper} {rest : List Oper} {o : Oper} {a : Act} {Q : Exit → Act → World → Prop} (W : World) (hgd : o.guard = none) (s x : Operand)
    (ho : o.op = .call { callee := .builtin .append, args := #[s, x], argTypes := #[27, 27] })
    (base : Nat) (v : Value) (zs : List Int) (c : Int) (hown : OwnI W base v zs) (hs : a.eval s = v) (hx : a.eval x = .slice (some ⟨W.heap.size, 0, none⟩) 1 1)
    (hlen : zs.length + 1 ≤ 17592186044416) (hb : base ≤ W.heap.size)
    (h : ∀ v' w', OwnI w' base v' (zs ++ [c]) → Below base W w' → (∀ k, k < W.heap.size → v.ownBlock ≠ some k → w'.heap[k]? = W.heap[k]?) → (∀ k, v'.ownBlock = some k → v.ownBlock = some k ∨ W.heap.size ≤ k) →
      wpList Try.prog ops Q rest (a.put o.dst v') w') :
    wpList Try.prog ops Q (o :: rest) a (W.alloc (.cells #[.int .i64 c] 3)) := by
  obtain ⟨i0, hi, hz0, hz1, hz2⟩ := info_parts info_int
  refine wpList_append_own2 hgd s x 27 ho base 3 i0 (.int .i64 0) 1 8 Try.underlying27 hi hz0 hz1 hz2 rfl (by decide) v zs.length (zs.map iv64) (World.ownsRow.alloc hown _) hs ⟨W.heap.size, 0, none⟩ 1 1 [.int .i64 c] hx rfl ?_ ?_ ?_ ?_ ?_ ?_
  · exact news_new _ _ _ _ rfl
  · intro u hu; simp at hu; subst hu; rfl
  · unfold maxLen; omega
  · omega
  · simp; omega
  · intro v' w' hown' hg hv
    refine h v' w' ?_ (Below.grown ((Below.refl base W).alloc hb _) hg (by simp; omega) (fun j hj => (World.ownsRow.lt hown j hj).1)) (fun k hk hne => (hg.block k (by simp; omega) (fun e => hne e.symm)).trans (alloc_old hk)) (fun k hk => (hv k hk).imp id (fun h => by simp at h; omega))
    unfold OwnI
    rw [List.length_append, List.map_append]
    exact hown'
theorem OwnI.lower {w : World} {base b2 : Nat} {v : Value} {zs : List Int} (h : OwnI w base v zs) (hb : b2 ≤ base) : OwnI w b2 v zs := by
  refine ⟨h.1, ?_⟩
  rcases h.2 with h2 | ⟨g, cap, cur, rfl, hb2, r⟩
  · exact Or.inl h2
  · exact Or.inr ⟨g, cap, cur, rfl, Nat.le_trans hb hb2, r⟩
theorem OwnI.setRow {w : World} {base : Nat} {v : Value} {zs : List Int} (h : OwnI w base v zs) (g : Nat) (cs : Array Value) (hg : g < base) : OwnI (w.setRow g cs) base v zs :=
  ownsRow_other h fun k hk => setRow_other _ _ k _ (by have := (World.ownsRow.lt h k hk).1; omega)
theorem OwnI.same {w w' : World} {base : Nat} {v : Value} {zs : List Int} (h : OwnI w base v zs) (he : ∀ k, v.ownBlock = some k → w'.heap[k]? = w.heap[k]?) : OwnI w' base v zs := ownsRow_other h he
theorem OwnI.lt {w : World} {base : Nat} {v : Value} {zs : List Int} (h : OwnI w base v zs) : ∀ k, v.ownBlock = some k → base ≤ k ∧ k < w.heap.size := World.ownsRow.lt h
theorem drop_cons (zs : List Int) (k : Nat) (h : k < zs.length) : zs.drop k = zs.getD k 0 :: zs.drop (k + 1) := by
  rw [List.drop_eq_getElem_cons h, List.getD_eq_getElem?_getD, List.getElem?_eq_getElem h]
  rfl
theorem OwnI.lit (w : World) (base : Nat) (hb : base ≤ w.heap.size) : OwnI (w.alloc (.cells #[] 3)) base (.slice (some ⟨w.heap.size, 0, none⟩) 0 0) [] :=
  World.ownsRow_lit w #[] 0 hb (by decide) rfl
set_option maxHeartbeats 400000 in
/-- 'append' of a row that lies anywhere. -/
theorem push_src {ops : Array Oper} {rest : List Oper} {o : Oper} {a : Act} {Q : Exit → Act → World → Prop} (W : World) (hgd : o.guard = none) (s x : Operand)
    (ho : o.op = .call { callee := .builtin .append, args := #[s, x], argTypes := #[27, 27] })
    (base : Nat) (v : Value) (zs : List Int) (b off m c : Nat) (ys : List Int) (hown : OwnI W base v zs) (hsrc : IsInts W (.slice (some ⟨b, off, none⟩) m c) ys) (hs : a.eval s = v) (hx : a.eval x = .slice (some ⟨b, off, none⟩) m c)
    (hlen : zs.length + ys.length ≤ 17592186044416) (hb : base ≤ W.heap.size)
    (h : ∀ v' w', OwnI w' base v' (zs ++ ys) → Below base W w' → wpList Try.prog ops Q rest (a.put o.dst v') w') :
    wpList Try.prog ops Q (o :: rest) a W := by
  obtain ⟨i0, hi, hz0, hz1, hz2⟩ := info_parts info_int
  obtain ⟨a1, cap1, he, hc⟩ := hsrc
  simp only [Value.slice.injEq] at he
  obtain ⟨rfl, rfl, rfl⟩ := he
  refine wpList_append_own _ hgd s x 27 ho base 3 i0 (.int .i64 0) 1 8 Try.underlying27 hi hz0 hz1 hz2 rfl (by decide) v zs.length (zs.map iv64) hs hown ⟨b, off, none⟩ ys.length c (ys.map iv64) hx (by simp) ?_ ?_ ?_ ?_ ?_ ?_
  · intro j u hu
    rw [List.getElem?_map] at hu
    cases hj : ys[j]? with
    | none => rw [hj] at hu; cases hu
    | some y =>
      rw [hj] at hu
      cases hu
      obtain ⟨b', off', e, hcell⟩ := hc j y hj
      simp only [Option.some.injEq, Addr.mk.injEq, and_true] at e
      obtain ⟨rfl, rfl⟩ := e
      rw [Addr.add_lit]
      exact hcell
  · intro u hu; obtain ⟨y, _, rfl⟩ := List.mem_map.1 hu; rfl
  · unfold maxLen; omega
  · omega
  · exact hb
  · intro v' w' hown' hgr _
    refine h v' w' ?_ (Below.grown (Below.refl base W) hgr hb (fun j hj => (World.ownsRow.lt hown j hj).1))
    unfold OwnI
    rw [List.length_append, List.map_append]
    exact hown'
theorem IsInts.alloc {w : World} {v : Value} {zs : List Int} (h : IsInts w v zs) (o : Obj) : IsInts (w.alloc o) v zs := h.below ((Below.refl _ _).alloc (Nat.le_refl _) _)
/-- A part of a row. -/
theorem IsInts.part {w : World} {b off m c : Nat} {zs : List Int} (h : IsInts w (.slice (some ⟨b, off, none⟩) m c) zs) (i n c2 : Nat) (hn : n ≤ m - i) : IsInts w (.slice (some ⟨b, off + i, none⟩) n c2) ((zs.drop i).take n) := by
  obtain ⟨a, cap, he, hc⟩ := h
  simp only [Value.slice.injEq] at he
  obtain ⟨rfl, rfl, rfl⟩ := he
  refine ⟨_, c2, by rw [List.length_take, List.length_drop, Nat.min_eq_left hn], fun j x hx => ⟨b, off + i, rfl, ?_⟩⟩
  have hj := (List.getElem?_eq_some_iff.1 hx).1
  rw [List.getElem?_take, List.getElem?_drop] at hx
  split at hx
  · obtain ⟨b', off', e, hcell⟩ := hc (i + j) x hx
    simp only [Option.some.injEq, Addr.mk.injEq, and_true] at e
    obtain ⟨rfl, rfl⟩ := e
    rw [Nat.add_assoc]
    exact hcell
  · cases hx
end Go.Proofs.Ytglpbianmbjoeaa
namespace Go.Proofs.Ytglpbianmbjoeaa
open Go.RowKit
set_option linter.unusedVariables false
def ObjF (n : Nat) (T : TypeId) (w : World) (b : Nat) (F : Nat → Value) : Prop := w.heap[b]? = some (.cells (cellsF n F) T (0, 0))
theorem ObjF.cell {n : Nat} {T : TypeId} {w : World} {b : Nat} {F : Nat → Value} (h : ObjF n T w b F) {i : Nat} (hi : i < n) : w.cell? ⟨b, i, none⟩ = some (F i) ∧ w.frozen? ⟨b, i, none⟩ = false :=
  ⟨(cell_of_row _ _ _ _ _ _ h).trans (cellsF_get n F hi), frozen_of_row _ _ _ _ _ h⟩
theorem ObjF.set {n : Nat} {T : TypeId} {w : World} {b : Nat} {F : Nat → Value} (h : ObjF n T w b F) (i : Nat) (x : Value) : ObjF n T (w.setCell ⟨b, i, none⟩ x) b (upd F i x) := by
  have := heap_setCell_same w b i _ _ x h
  rw [cellsF_set] at this
  exact this
theorem ObjF.lt {n : Nat} {T : TypeId} {w : World} {b : Nat} {F : Nat → Value} (h : ObjF n T w b F) : b < w.heap.size := (Array.getElem?_eq_some_iff.1 h).1
theorem ObjF.other {n : Nat} {T : TypeId} {w w' : World} {b : Nat} {F : Nat → Value} (h : ObjF n T w b F) {S : Nat → Prop} (ht : Touch S w w') (hS : ¬ S b) : ObjF n T w' b F :=
  (ht.block b h.lt hS).trans h
theorem ObjF.below {n : Nat} {T : TypeId} {w w' : World} {b B : Nat} {F : Nat → Value} (h : ObjF n T w b F) (ht : Below B w w') (hB : b < B) : ObjF n T w' b F :=
  (ht.block b hB).trans h
theorem ObjF.drewN {n : Nat} {T : TypeId} {w : World} {b : Nat} {F : Nat → Value} (h : ObjF n T w b F) (m : Nat) : ObjF n T (w.drewN m) b F := h
theorem cellsF_size (n : Nat) (F : Nat → Value) : (cellsF n F).size = n := by simp [cellsF]
theorem cellsF_congr {n : Nat} {F G : Nat → Value} (h : ∀ k, k < n → F k = G k) : cellsF n F = cellsF n G := by
  unfold cellsF
  congr 1
  exact List.map_congr_left (fun k hk => h k (List.mem_range.1 hk))
theorem ObjF.ext {n : Nat} {T : TypeId} {w : World} {b : Nat} {F G : Nat → Value} (h : ObjF n T w b F) (e : ∀ k, k < n → F k = G k) : ObjF n T w b G := by
  unfold ObjF
  rw [← cellsF_congr e]
  exact h
/-- Some cells are stored side by side. -/
theorem cellsF_part (n : Nat) (F : Nat → Value) (o : Nat) (vs : List Value) (h : o + vs.length ≤ n) :
    ((cellsF n F).toList.take o ++ vs ++ (cellsF n F).toList.drop (o + vs.length)).toArray = cellsF n (fun k => if k < o then F k else if k < o + vs.length then vs.getD (k - o) (F k) else F k) := by
  apply Array.toList_inj.1
  show (List.take o ((List.range n).map F) ++ vs ++ List.drop (o + vs.length) ((List.range n).map F)) = (List.range n).map _
  apply List.ext_getElem
  · simp
    omega
  · intro j h1 h2
    have hjn : j < n := by simpa using h2
    simp only [List.getElem_map, List.getElem_range]
    by_cases c1 : j < o
    · rw [if_pos c1, List.getElem_append_left (by simp; omega), List.getElem_append_left (by simp; omega)]
      simp
    · rw [if_neg c1]
      by_cases c2 : j < o + vs.length
      · rw [if_pos c2, List.getElem_append_left (by simp; omega), List.getElem_append_right (by simp; omega)]
        have : min o n = o := by omega
        simp only [List.length_take, List.length_map, List.length_range, this]
        rw [List.getD_eq_getElem?_getD, List.getElem?_eq_getElem (by omega)]
        rfl
      · rw [if_neg c2, List.getElem_append_right (by simp; omega)]
        simp only [List.getElem_drop, List.getElem_map, List.getElem_range]
        congr 1
        simp
        omega
end Go.Proofs.Ytglpbianmbjoeaa
namespace Go.Proofs.Ytglpbianmbjoeaa
namespace BwtM
open Go.RowKit
set_option linter.unusedVariables false

/-! ### Byte by byte -/
def lle : List UInt8 → List UInt8 → Prop
  | [], _ => True
  | _ :: _, [] => False
  | a :: s, b :: t => a.toNat < b.toNat ∨ (a = b ∧ lle s t)
theorem lle_refl : ∀ s, lle s s
  | [] => trivial
  | a :: s => Or.inr ⟨rfl, lle_refl s⟩
theorem lle_anti : ∀ s t, lle s t → lle t s → s = t
  | [], [], _, _ => rfl
  | [], _ :: _, _, h => h.elim
  | _ :: _, [], h, _ => h.elim
  | a :: s, b :: t, h, k => by
    rcases h with h | ⟨rfl, h⟩
    · rcases k with k | ⟨rfl, k⟩
      · omega
      · omega
    · rcases k with k | ⟨_, k⟩
      · omega
      · rw [lle_anti s t h k]
theorem lle_trans : ∀ r s t, lle r s → lle s t → lle r t
  | [], _, _, _, _ => trivial
  | _ :: _, [], _, h, _ => h.elim
  | _ :: _, _ :: _, [], _, h => h.elim
  | a :: r, b :: s, c :: t, h, k => by
    rcases h with h | ⟨rfl, h⟩
    · rcases k with k | ⟨rfl, k⟩
      · exact Or.inl (by omega)
      · exact Or.inl h
    · rcases k with k | ⟨rfl, k⟩
      · exact Or.inl k
      · exact Or.inr ⟨rfl, lle_trans r s t h k⟩
theorem lle_total : ∀ s t, lle s t ∨ lle t s
  | [], _ => Or.inl trivial
  | _ :: _, [] => Or.inr trivial
  | a :: s, b :: t => by
    rcases Nat.lt_trichotomy a.toNat b.toNat with h | h | h
    · exact Or.inl (Or.inl h)
    · have e : a = b := UInt8.toNat_inj.1 h
      rcases lle_total s t with k | k
      · exact Or.inl (Or.inr ⟨e, k⟩)
      · exact Or.inr (Or.inr ⟨e.symm, k⟩)
    · exact Or.inr (Or.inl h)
/-- What is less stays so, if both lose their ends. -/
theorem lle_cut : ∀ (s t : List UInt8), lle s t → s.length = t.length → lle s.dropLast t.dropLast
  | [], _, _, _ => trivial
  | _ :: _, [], h, _ => h.elim
  | [a], b :: t, _, _ => trivial
  | a :: c :: s, [b], _, hl => by simp at hl
  | a :: c :: s, b :: d :: t, h, hl => by
    rcases h with h | ⟨rfl, h⟩
    · exact Or.inl h
    · exact Or.inr ⟨rfl, lle_cut (c :: s) (d :: t) h (by simpa using hl)⟩
/-- There is one order only. -/
theorem sorted_one : ∀ {a b : List (List UInt8)}, a.Perm b → a.Pairwise lle → b.Pairwise lle → a = b
  | [], b, hp, _, _ => by rw [List.nil_perm.1 hp]
  | x :: s, [], hp, _, _ => by have := hp.length_eq; simp at this
  | x :: s, y :: t, hp, ha, hb => by
    obtain ⟨h1, h2⟩ := List.pairwise_cons.1 ha
    obtain ⟨h3, h4⟩ := List.pairwise_cons.1 hb
    have e : x = y := by
      have hx : x ∈ y :: t := hp.mem_iff.1 (List.mem_cons_self ..)
      have hy : y ∈ x :: s := hp.mem_iff.2 (List.mem_cons_self ..)
      rcases List.mem_cons.1 hx with e | hx
      · exact e
      · rcases List.mem_cons.1 hy with e | hy
        · exact e.symm
        · exact lle_anti _ _ (h1 y hy) (h3 x hx)
    subst e
    rw [sorted_one hp.cons_inv h2 h4]

/-! ### Rotations -/
def rot (T : List UInt8) (i : Nat) : List UInt8 := T.drop i ++ T.take i
/-- The last byte goes to the front. -/
def rotr (s : List UInt8) : List UInt8 := s.getLastD 0 :: s.dropLast
theorem rot_len (T : List UInt8) (i : Nat) (h : i ≤ T.length) : (rot T i).length = T.length := by
  unfold rot; rw [List.length_append, List.length_drop, List.length_take]; omega
theorem rotr_snoc (s : List UInt8) (x : UInt8) : rotr (s ++ [x]) = x :: s := by
  unfold rotr
  rw [List.dropLast_concat, List.getLastD_concat]
theorem rotr_len (s : List UInt8) (h : s ≠ []) : (rotr s).length = s.length := by
  unfold rotr
  have := List.length_pos_iff.2 h
  simp; omega
theorem rotr_inj {s t : List UInt8} (hs : s ≠ []) (ht : t ≠ []) (h : rotr s = rotr t) : s = t := by
  unfold rotr at h
  simp only [List.cons.injEq] at h
  rw [← List.dropLast_concat_getLast hs, ← List.dropLast_concat_getLast ht, h.2]
  congr 2
  have e1 : s.getLastD 0 = s.getLast hs := by rw [List.getLastD_eq_getLast?, List.getLast?_eq_some_getLast hs]; rfl
  have e2 : t.getLastD 0 = t.getLast ht := by rw [List.getLastD_eq_getLast?, List.getLast?_eq_some_getLast ht]; rfl
  rw [← e1, ← e2, h.1]
/-- A rotation, its last byte in front, is the one at the place ahead. -/
theorem rotr_rot (T : List UInt8) (i : Nat) (h : i + 1 ≤ T.length) : rotr (rot T (i + 1)) = rot T i := by
  have hi : i < T.length := by omega
  unfold rot
  rw [List.take_succ_eq_append_getElem hi, ← List.append_assoc, rotr_snoc]
  conv => rhs; rw [List.drop_eq_getElem_cons hi]
  rfl
theorem rot_zero (T : List UInt8) : rot T 0 = T := by simp [rot]
theorem rot_all (T : List UInt8) : rot T T.length = T := by simp [rot]
theorem rotr_first (T : List UInt8) (h : 0 < T.length) : rotr (rot T 0) = rot T (T.length - 1) := by
  rw [rot_zero, ← rot_all T]
  conv => lhs; rw [show T.length = T.length - 1 + 1 by omega]
  rw [rotr_rot T (T.length - 1) (by omega), rot_all]
theorem rots_perm (T : List UInt8) (h : 0 < T.length) : ((List.range T.length).map fun p => rotr (rot T p)).Perm ((List.range T.length).map (rot T)) := by
  obtain ⟨m, hm⟩ : ∃ m, T.length = m + 1 := ⟨T.length - 1, by omega⟩
  rw [hm]
  have e1 : (List.range (m + 1)).map (fun p => rotr (rot T p)) = rot T m :: (List.range m).map (rot T) := by
    rw [List.range_succ_eq_map, List.map_cons, List.map_map]
    congr 1
    · rw [rotr_first T h, hm]; rfl
    · apply List.map_congr_left
      intro p hp
      have := List.mem_range.1 hp
      exact rotr_rot T p (by omega)
  rw [e1, List.range_succ, List.map_append]
  exact List.perm_append_comm (l₁ := [rot T m]) (l₂ := (List.range m).map (rot T))

/-! ### Links -/
/-- The places of T in the order of their rotations. -/
def IsOrd (T : List UInt8) (P : List Nat) : Prop := P.Perm (List.range T.length) ∧ (P.map (rot T)).Pairwise lle
/-- The last bytes. -/
def lasts (T : List UInt8) (P : List Nat) : List UInt8 := P.map fun p => (rot T p).getLastD 0
/-- The places of L by their bytes, those of one byte as they stand. -/
def IsLinks (L : List UInt8) (K : List Nat) : Prop := K.Perm (List.range L.length) ∧ K.Pairwise fun a b => (L.getD a 0).toNat < (L.getD b 0).toNat ∨ (L.getD a 0 = L.getD b 0 ∧ a < b)
theorem map_range_getD {β : Type} (f : Nat → β) (P : List Nat) : (List.range P.length).map (fun j => f (P.getD j 0)) = P.map f := by
  apply List.ext_getElem
  · simp
  · intro i h1 h2
    simp only [List.length_map] at h2
    rw [List.getElem_map, List.getElem_range, List.getElem_map, List.getD_eq_getElem?_getD, List.getElem?_eq_getElem h2]
    rfl
theorem mem_lt {T : List UInt8} {P : List Nat} (h : IsOrd T P) {p : Nat} (hp : p ∈ P) : p < T.length := List.mem_range.1 (h.1.mem_iff.1 hp)
theorem ord_len {T : List UInt8} {P : List Nat} (h : IsOrd T P) : P.length = T.length := by rw [h.1.length_eq, List.length_range]
theorem lasts_len (T : List UInt8) (P : List Nat) : (lasts T P).length = P.length := by simp [lasts]
theorem lasts_get {T : List UInt8} {P : List Nat} {i : Nat} (h : i < P.length) : (lasts T P).getD i 0 = (rot T (P.getD i 0)).getLastD 0 := by
  unfold lasts
  rw [List.getD_eq_getElem?_getD, List.getElem?_map, List.getD_eq_getElem?_getD, List.getElem?_eq_getElem h]
  rfl
/-- A link leads to a rotation that, its last byte in front, is the one that it comes from. -/
theorem links_rot {T : List UInt8} {P K : List Nat} (hn : 0 < T.length) (hP : IsOrd T P) (hK : IsLinks (lasts T P) K) : K.map (fun j => rotr (rot T (P.getD j 0))) = P.map (rot T) := by
  have hpl := ord_len hP
  have hkr : K.Perm (List.range P.length) := by have := hK.1; rwa [lasts_len] at this
  apply sorted_one
  · refine (hkr.map _).trans ?_
    rw [map_range_getD (fun p => rotr (rot T p)) P]
    exact ((hP.1.map _).trans (rots_perm T hn)).trans (hP.1.map (rot T)).symm
  · rw [List.pairwise_map]
    have hin : ∀ a ∈ K, a < P.length := fun a ha => List.mem_range.1 (hkr.mem_iff.1 ha)
    refine List.Pairwise.imp_of_mem (fun {a b} ha hb h => ?_) hK.2
    have ha' := hin a ha
    have hb' := hin b hb
    rw [lasts_get ha', lasts_get hb'] at h
    have hma : P.getD a 0 ∈ P := by
      rw [List.getD_eq_getElem?_getD, List.getElem?_eq_getElem ha']; exact List.getElem_mem ha'
    have hmb : P.getD b 0 ∈ P := by
      rw [List.getD_eq_getElem?_getD, List.getElem?_eq_getElem hb']; exact List.getElem_mem hb'
    rcases h with h | ⟨h, hab⟩
    · exact Or.inl h
    · refine Or.inr ⟨h, lle_cut _ _ ?_ ?_⟩
      · have hp := List.pairwise_iff_getElem.1 hP.2 a b (by simpa using ha') (by simpa using hb') hab
        rw [List.getElem_map, List.getElem_map] at hp
        rw [List.getD_eq_getElem?_getD, List.getElem?_eq_getElem ha', List.getD_eq_getElem?_getD, List.getElem?_eq_getElem hb']
        exact hp
      · rw [rot_len T _ (Nat.le_of_lt (mem_lt hP hma)), rot_len T _ (Nat.le_of_lt (mem_lt hP hmb))]
  · exact hP.2
theorem link_rot {T : List UInt8} {P K : List Nat} (hn : 0 < T.length) (hP : IsOrd T P) (hK : IsLinks (lasts T P) K) {i : Nat} (hi : i < T.length) :
    K.getD i 0 < T.length ∧ rotr (rot T (P.getD (K.getD i 0) 0)) = rot T (P.getD i 0) := by
  have h := links_rot hn hP hK
  have hpl := ord_len hP
  have hkr : K.Perm (List.range P.length) := by have := hK.1; rwa [lasts_len] at this
  have hkl : K.length = P.length := by rw [hkr.length_eq, List.length_range]
  have hki : i < K.length := by omega
  have hpi : i < P.length := by omega
  refine ⟨?_, ?_⟩
  · have hm : K.getD i 0 ∈ K := by
      rw [List.getD_eq_getElem?_getD, List.getElem?_eq_getElem hki]; exact List.getElem_mem hki
    have := List.mem_range.1 (hkr.mem_iff.1 hm)
    omega
  · have e := congrArg (fun l => l[i]?) h
    simp only [List.getElem?_map] at e
    rw [List.getElem?_eq_getElem hki, List.getElem?_eq_getElem hpi] at e
    simp only [Option.map_some, Option.some.injEq] at e
    rw [List.getD_eq_getElem?_getD (l := K), List.getElem?_eq_getElem hki, List.getD_eq_getElem?_getD (l := P) (i := i), List.getElem?_eq_getElem hpi]
    exact e
/-- What is told from a place on. -/
def follow (L : List UInt8) (K : List Nat) : Nat → Nat → List UInt8
  | 0, _ => []
  | k + 1, at_ => L.getD (K.getD at_ 0) 0 :: follow L K k (K.getD at_ 0)
theorem follow_text {T : List UInt8} {P K : List Nat} (hn : 0 < T.length) (hP : IsOrd T P) (hK : IsLinks (lasts T P) K) : ∀ (k m a : Nat), m + k = T.length → a < T.length → rot T (P.getD a 0) = rot T m →
    follow (lasts T P) K k a = T.drop m
  | 0, m, a, hm, _, _ => by rw [List.drop_eq_nil_of_le (by omega)]; rfl
  | k + 1, m, a, hm, ha, hr => by
    obtain ⟨h1, h2⟩ := link_rot hn hP hK ha
    have hpl := ord_len hP
    have hml : m < T.length := by omega
    have hin : P.getD (K.getD a 0) 0 ∈ P := by
      rw [List.getD_eq_getElem?_getD, List.getElem?_eq_getElem (by omega)]; exact List.getElem_mem _
    have hne : rot T (P.getD (K.getD a 0) 0) ≠ [] := fun e => by
      have := congrArg List.length e
      rw [rot_len T _ (Nat.le_of_lt (mem_lt hP hin))] at this
      simp at this; rw [this] at hn; simp at hn
    have hne2 : rot T (m + 1) ≠ [] := fun e => by
      have := congrArg List.length e
      rw [rot_len T _ (by omega)] at this
      simp at this; rw [this] at hn; simp at hn
    have e1 : rot T (P.getD (K.getD a 0) 0) = rot T (m + 1) := rotr_inj hne hne2 (by rw [h2, hr, rotr_rot T m (by omega)])
    have e2 : (lasts T P).getD (K.getD a 0) 0 = T[m] := by
      rw [lasts_get (by omega), e1]
      unfold rot
      rw [List.take_succ_eq_append_getElem hml, ← List.append_assoc, List.getLastD_concat]
    show (lasts T P).getD (K.getD a 0) 0 :: follow (lasts T P) K k (K.getD a 0) = T.drop m
    rw [e2, List.drop_eq_getElem_cons hml]
    congr 1
    by_cases hk : k = 0
    · subst hk
      rw [List.drop_eq_nil_of_le (by omega)]
      rfl
    · exact follow_text hn hP hK k (m + 1) (K.getD a 0) (by omega) h1 e1
/-- OF THE LAST BYTES AND THE ORIGIN OF A TEXT THE TEXT COMES BACK: of such as are several times the same, too. -/
theorem back {T : List UInt8} {P K : List Nat} (hn : 0 < T.length) (hP : IsOrd T P) (hK : IsLinks (lasts T P) K) {o : Nat} (ho : o < T.length) (h0 : P.getD o 0 = 0) : follow (lasts T P) K T.length o = T := by
  have := follow_text hn hP hK T.length 0 o (by omega) ho (by rw [h0])
  rw [List.drop_zero] at this
  exact this

/-! ### The period -/
theorem rot_add (T : List UInt8) (i k : Nat) (h : i + k ≤ T.length) : rot (rot T i) k = rot T (i + k) := by
  unfold rot
  rw [List.drop_append_of_le_length (by rw [List.length_drop]; omega), List.take_append_of_le_length (by rw [List.length_drop]; omega), List.drop_drop, List.append_assoc]
  congr 1
  rw [← List.take_add]
theorem rot_back (T : List UInt8) (i : Nat) (h : i ≤ T.length) : rot (rot T i) (T.length - i) = T := by
  rw [rot_add T i _ (by omega), show i + (T.length - i) = T.length by omega, rot_all]
/-- Two rotations are the same just if the text, turned by how far they are apart, is the same. -/
theorem rot_same (T : List UInt8) (i d : Nat) (h : i + d ≤ T.length) : rot T (i + d) = rot T i ↔ rot T d = T := by
  constructor
  · intro e
    have h1 : rot (rot T d) i = rot T i := by rw [rot_add T d i (by omega), Nat.add_comm, e]
    have h2 : rot (rot (rot T d) i) (T.length - i) = rot (rot T i) (T.length - i) := congrArg (fun s => rot s (T.length - i)) h1
    rw [rot_back T i (by omega)] at h2
    have h3 := rot_back (rot T d) i (by rw [rot_len T d (by omega)]; omega)
    rw [rot_len T d (by omega)] at h3
    rw [← h3, h2]
  · intro e
    rw [Nat.add_comm, ← rot_add T d i (by omega), e]
/-- By how far a text may be turned and is the same. -/
def Turns (T : List UInt8) (d : Nat) : Prop := d ≤ T.length ∧ rot T d = T
theorem turns_sub {T : List UInt8} {a b : Nat} (ha : Turns T a) (hb : Turns T b) (h : b ≤ a) : Turns T (a - b) := by
  refine ⟨by have := ha.1; omega, ?_⟩
  have e := (rot_same T b (a - b) (by have := ha.1; omega)).1 (by rw [show b + (a - b) = a by omega, ha.2, hb.2])
  exact e
theorem turns_gcd {T : List UInt8} : ∀ (n a b : Nat), a + b ≤ n → Turns T a → Turns T b → Turns T (Nat.gcd a b)
  | 0, a, b, h, ha, _ => by
    obtain rfl : a = 0 := by omega
    obtain rfl : b = 0 := by omega
    exact ha
  | n + 1, a, b, h, ha, hb => by
    by_cases h0 : a = 0
    · subst h0; rw [Nat.gcd_zero_left]; exact hb
    · by_cases h1 : b = 0
      · subst h1; rw [Nat.gcd_zero_right]; exact ha
      · by_cases hab : b ≤ a
        · have := turns_gcd n (a - b) b (by omega) (turns_sub ha hb hab) hb
          rwa [Nat.gcd_sub_self_left hab] at this
        · have := turns_gcd n a (b - a) (by omega) ha (turns_sub hb ha (by omega))
          rwa [Nat.gcd_sub_self_right (by omega)] at this
/-- p is the least by which the text may be turned, of those that divide its length. -/
def IsPeriod (T : List UInt8) (p : Nat) : Prop := 0 < p ∧ p ∣ T.length ∧ rot T p = T ∧ ∀ q, 0 < q → q ∣ T.length → rot T q = T → p ≤ q
theorem turns_mul {T : List UInt8} {p : Nat} (hp : Turns T p) : ∀ m : Nat, m * p ≤ T.length → Turns T (m * p)
  | 0, _ => by rw [Nat.zero_mul]; exact ⟨Nat.zero_le _, rot_zero T⟩
  | m + 1, h => by
    rw [Nat.add_mul, Nat.one_mul] at h ⊢
    have h1 := turns_mul hp m (by omega)
    exact ⟨h, by rw [← rot_add T (m * p) p h, h1.2, hp.2]⟩
theorem period_turns {T : List UInt8} {p d : Nat} (hn : 0 < T.length) (hp : IsPeriod T p) (hd : d ≤ T.length) : rot T d = T ↔ p ∣ d := by
  obtain ⟨h0, h1, h2, h3⟩ := hp
  have hpt : Turns T p := ⟨Nat.le_of_dvd hn h1, h2⟩
  constructor
  · intro e
    have hg := turns_gcd (p + d) p d (Nat.le_refl _) hpt ⟨hd, e⟩
    have hgp := Nat.gcd_dvd_left p d
    have hg0 : 0 < Nat.gcd p d := Nat.pos_of_dvd_of_pos hgp h0
    have h4 := h3 _ hg0 (Nat.dvd_trans hgp h1) hg.2
    have h5 := Nat.le_of_dvd h0 hgp
    have h6 : Nat.gcd p d = p := Nat.le_antisymm h5 h4
    rw [← h6]
    exact Nat.gcd_dvd_right p d
  · rintro ⟨m, rfl⟩
    rw [Nat.mul_comm] at hd ⊢
    exact (turns_mul hpt m hd).2
/-- TWO ROTATIONS ARE THE SAME JUST IF THEIR PLACES DIFFER BY A MULTIPLE OF THE PERIOD. -/
theorem alike {T : List UInt8} {p i k : Nat} (hp : IsPeriod T p) (hi : i < T.length) (hk : k < T.length) : rot T i = rot T k ↔ ((i : Int) - (k : Int)) % (p : Int) = 0 := by
  have hn : 0 < T.length := by omega
  have hd : (p : Int) ∣ (i : Int) - (k : Int) ↔ ((i : Int) - (k : Int)) % (p : Int) = 0 := ⟨Int.emod_eq_zero_of_dvd, Int.dvd_of_emod_eq_zero⟩
  rw [← hd]
  by_cases h : k ≤ i
  · obtain ⟨d, rfl⟩ := Nat.exists_eq_add_of_le h
    rw [rot_same T k d (by omega), period_turns hn hp (by omega), show ((k + d : Nat) : Int) - (k : Int) = (d : Int) by omega, Int.natCast_dvd_natCast]
  · obtain ⟨d, rfl⟩ := Nat.exists_eq_add_of_le (show i ≤ k by omega)
    rw [eq_comm, rot_same T i d (by omega), period_turns hn hp (by omega), show (i : Int) - ((i + d : Nat) : Int) = -(d : Int) by omega, Int.dvd_neg, Int.natCast_dvd_natCast]

/-! ### The sorted places -/
/-- Is the rotation at i ahead of that at k? -/
def Ahead (T : List UInt8) (i k : Nat) : Prop := (lle (rot T i) (rot T k) ∧ rot T i ≠ rot T k) ∨ (rot T i = rot T k ∧ i < k)
theorem ahead_lle {T : List UInt8} {i k : Nat} (h : Ahead T i k) : lle (rot T i) (rot T k) := by
  rcases h with h | h
  · exact h.1
  · rw [h.1]; exact lle_refl _
theorem ahead_asym {T : List UInt8} {i k : Nat} (h : Ahead T i k) : ¬ Ahead T k i := by
  intro g
  have e := lle_anti _ _ (ahead_lle h) (ahead_lle g)
  rcases h with h | h
  · exact h.2 e
  · rcases g with g | g
    · exact g.2 e.symm
    · omega
theorem ahead_trans {T : List UInt8} {i k m : Nat} (h : Ahead T i k) (g : Ahead T k m) : Ahead T i m := by
  have l := lle_trans _ _ _ (ahead_lle h) (ahead_lle g)
  by_cases e : rot T i = rot T m
  · have e2 : rot T i = rot T k := lle_anti _ _ (ahead_lle h) (by rw [e]; exact ahead_lle g)
    rcases h with h | h
    · exact absurd e2 h.2
    · rcases g with g | g
      · exact absurd (e2.symm.trans e) g.2
      · exact Or.inr ⟨e, by omega⟩
  · exact Or.inl ⟨l, e⟩
theorem ahead_total {T : List UInt8} {i k : Nat} (h : i ≠ k) : Ahead T i k ∨ Ahead T k i := by
  by_cases e : rot T i = rot T k
  · rcases Nat.lt_or_gt_of_ne h with g | g
    · exact Or.inl (Or.inr ⟨e, g⟩)
    · exact Or.inr (Or.inr ⟨e.symm, g⟩)
  · rcases lle_total (rot T i) (rot T k) with g | g
    · exact Or.inl (Or.inl ⟨g, e⟩)
    · exact Or.inr (Or.inl ⟨g, fun h => e h.symm⟩)
theorem strict_one {α : Type} {R : α → α → Prop} (hR : ∀ a b, R a b → ¬ R b a) : ∀ {a b : List α}, a.Perm b → a.Pairwise R → b.Pairwise R → a = b
  | [], b, hp, _, _ => by rw [List.nil_perm.1 hp]
  | x :: s, [], hp, _, _ => by have := hp.length_eq; simp at this
  | x :: s, y :: t, hp, ha, hb => by
    obtain ⟨h1, h2⟩ := List.pairwise_cons.1 ha
    obtain ⟨h3, h4⟩ := List.pairwise_cons.1 hb
    have e : x = y := by
      rcases List.mem_cons.1 (hp.mem_iff.1 (List.mem_cons_self ..)) with e | hx
      · exact e
      · rcases List.mem_cons.1 (hp.mem_iff.2 (List.mem_cons_self ..)) with e | hy
        · exact e.symm
        · exact absurd (h3 x hx) (hR _ _ (h1 y hy))
    subst e
    rw [strict_one hR hp.cons_inv h2 h4]
/-- P are the sorted places of T. -/
def IsSorted (T : List UInt8) (P : List Nat) : Prop := P.Perm (List.range T.length) ∧ P.Pairwise (Ahead T)
theorem IsSorted.same {T : List UInt8} {P Q : List Nat} (h : IsSorted T P) (k : IsSorted T Q) : P = Q := strict_one (fun _ _ => ahead_asym) (h.1.trans k.1.symm) h.2 k.2
theorem IsSorted.ord {T : List UInt8} {P : List Nat} (h : IsSorted T P) : IsOrd T P := ⟨h.1, by
  rw [List.pairwise_map]
  exact h.2.imp (fun h => ahead_lle h)⟩
open Classical in
/-- A place, put ahead of the first one that it is ahead of. -/
noncomputable def insP (T : List UInt8) (i : Nat) : List Nat → List Nat
  | [] => [i]
  | k :: t => if Ahead T i k then i :: k :: t else k :: insP T i t
theorem insP_perm (T : List UInt8) (i : Nat) : ∀ l, (insP T i l).Perm (i :: l)
  | [] => List.Perm.refl _
  | k :: t => by
    unfold insP
    split
    · exact List.Perm.refl _
    · exact ((insP_perm T i t).cons k).trans (List.Perm.swap i k t)
theorem insP_sorted (T : List UInt8) (i : Nat) : ∀ l, l.Pairwise (Ahead T) → i ∉ l → (insP T i l).Pairwise (Ahead T)
  | [], _, _ => List.pairwise_singleton _ _
  | k :: t, h, hn => by
    obtain ⟨h1, h2⟩ := List.pairwise_cons.1 h
    unfold insP
    split
    · rename_i ha
      exact List.pairwise_cons.2 ⟨fun x hx => by
        rcases List.mem_cons.1 hx with rfl | hx
        · exact ha
        · exact ahead_trans ha (h1 x hx), h⟩
    · rename_i ha
      have hki : Ahead T k i := (ahead_total (fun e => hn (by rw [e]; exact List.mem_cons_self ..))).resolve_left ha
      refine List.pairwise_cons.2 ⟨fun x hx => ?_, insP_sorted T i t h2 (fun h => hn (List.mem_cons_of_mem _ h))⟩
      rcases List.mem_cons.1 ((insP_perm T i t).mem_iff.1 hx) with rfl | hx
      · exact hki
      · exact h1 x hx
/-- The first k places, each put where it belongs. -/
noncomputable def sortP (T : List UInt8) : Nat → List Nat
  | 0 => []
  | k + 1 => insP T k (sortP T k)
theorem sortP_perm (T : List UInt8) : ∀ k, (sortP T k).Perm (List.range k)
  | 0 => List.Perm.refl _
  | k + 1 => by
    rw [List.range_succ]
    exact ((insP_perm T k _).trans ((sortP_perm T k).cons k)).trans (List.perm_append_comm (l₁ := [k]) (l₂ := List.range k))
theorem sortP_sorted (T : List UInt8) : ∀ k, (sortP T k).Pairwise (Ahead T)
  | 0 => List.Pairwise.nil
  | k + 1 => insP_sorted T k _ (sortP_sorted T k) (fun h => by
    have := List.mem_range.1 ((sortP_perm T k).mem_iff.1 h)
    omega)
theorem sortP_is (T : List UInt8) : IsSorted T (sortP T T.length) := ⟨sortP_perm T _, sortP_sorted T _⟩

/-! ### Of a rotation of the text the last bytes are the same -/
theorem turn_perm (T : List UInt8) (j : Nat) (hj : j ≤ T.length) : ((List.range T.length).map (rot (rot T j))).Perm ((List.range T.length).map (rot T)) := by
  obtain ⟨m, hm⟩ : ∃ m, T.length = m + j := ⟨T.length - j, by omega⟩
  have e1 : (List.range T.length).map (rot (rot T j)) = (List.range m).map (fun i => rot T (j + i)) ++ (List.range j).map (rot T) := by
    rw [hm, List.range_add, List.map_append, List.map_map]
    congr 1
    · apply List.map_congr_left
      intro i hi
      have := List.mem_range.1 hi
      exact rot_add T j i (by omega)
    · apply List.map_congr_left
      intro i hi
      have := List.mem_range.1 hi
      show rot (rot T j) (m + i) = rot T i
      have h1 := rot_back T j hj
      rw [show T.length - j = m by omega] at h1
      rw [← rot_add (rot T j) m i (by rw [rot_len T j hj]; omega), h1]
  have e2 : (List.range T.length).map (rot T) = (List.range j).map (rot T) ++ (List.range m).map (fun i => rot T (j + i)) := by
    rw [hm, Nat.add_comm m j, List.range_add, List.map_append, List.map_map]
    rfl
  rw [e1, e2]
  exact List.perm_append_comm
theorem lasts_turn {T : List UInt8} {j : Nat} {P Q : List Nat} (hj : j ≤ T.length) (hP : IsOrd T P) (hQ : IsOrd (rot T j) Q) : lasts (rot T j) Q = lasts T P := by
  have hl := rot_len T j hj
  have h1 : Q.map (rot (rot T j)) = P.map (rot T) := by
    refine sorted_one ?_ hQ.2 hP.2
    have h2 := hQ.1.map (rot (rot T j))
    rw [hl] at h2
    exact (h2.trans (turn_perm T j hj)).trans (hP.1.map (rot T)).symm
  have h3 : (Q.map (rot (rot T j))).map (fun s => s.getLastD 0) = (P.map (rot T)).map (fun s => s.getLastD 0) := by rw [h1]
  rw [List.map_map, List.map_map] at h3
  exact h3
/-- The last bytes are those of the text, in another order. -/
theorem lasts_perm {T : List UInt8} {P : List Nat} (hn : 0 < T.length) (hP : IsOrd T P) : (lasts T P).Perm T := by
  obtain ⟨m, hm⟩ : ∃ m, T.length = m + 1 := ⟨T.length - 1, by omega⟩
  have hlast : ∀ i, i < T.length → (rot T (i + 1)).getLastD 0 = T.getD i 0 := fun i hi => by
    unfold rot
    rw [List.take_succ_eq_append_getElem hi, ← List.append_assoc, List.getLastD_concat, List.getD_eq_getElem?_getD, List.getElem?_eq_getElem hi]
    rfl
  have h0 : (rot T 0).getLastD 0 = T.getD m 0 := by
    have h5 := hlast m (by omega)
    rw [show m + 1 = T.length by omega, rot_all] at h5
    rw [rot_zero]
    exact h5
  have e1 : T = (List.range T.length).map fun i => T.getD i 0 := by
    apply List.ext_getElem
    · simp
    · intro i h1 h2
      rw [List.getElem_map, List.getElem_range, List.getD_eq_getElem?_getD, List.getElem?_eq_getElem h1]
      rfl
  have h1 : (lasts T P).Perm ((List.range T.length).map fun p => (rot T p).getLastD 0) := hP.1.map _
  have e2 : (List.range T.length).map (fun p => (rot T p).getLastD 0) = T.getD m 0 :: (List.range m).map fun i => T.getD i 0 := by
    rw [hm, List.range_succ_eq_map, List.map_cons, List.map_map, h0]
    congr 1
    apply List.map_congr_left
    intro i hi
    have := List.mem_range.1 hi
    exact hlast i (by omega)
  have e3 : T = (List.range m).map (fun i => T.getD i 0) ++ [T.getD m 0] := by
    conv => lhs; rw [e1, hm, List.range_succ, List.map_append]
    rfl
  rw [e2] at h1
  refine h1.trans ?_
  conv => rhs; rw [e3]
  exact List.perm_append_comm (l₁ := [T.getD m 0]) (l₂ := (List.range m).map fun i => T.getD i 0)
end BwtM
end Go.Proofs.Ytglpbianmbjoeaa
namespace Go.Proofs.Ytglpbianmbjoeaa
open BwtM
set_option linter.unusedVariables false
set_option linter.unusedSimpArgs false
namespace UnM
/-- The byte at a place. -/
def by_ (L : List UInt8) (i : Nat) : Nat := (L.getD i 0).toNat
/-- The places of one byte, as they stand. -/
def blk (L : List UInt8) (b : Nat) : List Nat := (List.range L.length).filter fun i => by_ L i == b
/-- The places of the bytes below m. -/
def linksU (L : List UInt8) (m : Nat) : List Nat := (List.range m).flatMap (blk L)
def links (L : List UInt8) : List Nat := linksU L 256
/-- How often a byte stands in the first k. -/
def cnt (L : List UInt8) (k b : Nat) : Nat := ((List.range k).filter fun i => by_ L i == b).length
/-- How many places have a byte below b. -/
def fst_ (L : List UInt8) : Nat → Nat
  | 0 => 0
  | b + 1 => fst_ L b + cnt L L.length b
theorem by_lt (L : List UInt8) (i : Nat) : by_ L i < 256 := UInt8.toNat_lt _
theorem cnt_zero (L : List UInt8) (b : Nat) : cnt L 0 b = 0 := rfl
theorem cnt_next (L : List UInt8) (k b : Nat) : cnt L (k + 1) b = cnt L k b + if by_ L k = b then 1 else 0 := by
  unfold cnt
  rw [List.range_succ, List.filter_append, List.length_append]
  congr 1
  by_cases h : by_ L k = b
  · rw [if_pos h]
    simp [List.filter, h]
  · rw [if_neg h]
    have : (by_ L k == b) = false := by rw [beq_eq_false_iff_ne]; exact h
    simp [List.filter, this]
theorem cnt_le (L : List UInt8) (k b : Nat) : cnt L k b ≤ k := by
  unfold cnt
  refine Nat.le_trans (List.length_filter_le _ _) ?_
  rw [List.length_range]; exact Nat.le_refl _
theorem linksU_next (L : List UInt8) (m : Nat) : linksU L (m + 1) = linksU L m ++ blk L m := by
  unfold linksU
  rw [List.range_succ, List.flatMap_append]
  simp
theorem linksU_len (L : List UInt8) : ∀ m, (linksU L m).length = fst_ L m
  | 0 => rfl
  | m + 1 => by
    rw [linksU_next, List.length_append, linksU_len L m]
    rfl
theorem blk_get (L : List UInt8) {i : Nat} (hi : i < L.length) : (blk L (by_ L i))[cnt L i (by_ L i)]? = some i := by
  unfold blk cnt
  have e : List.range L.length = List.range i ++ i :: (List.range (L.length - i - 1)).map (fun x => i + 1 + x) := by
    have h1 : L.length = i + (1 + (L.length - i - 1)) := by omega
    conv => lhs; rw [h1, List.range_add, List.range_add]
    simp [Nat.add_assoc]
  rw [e, List.filter_append, List.getElem?_append_right (Nat.le_refl _), Nat.sub_self, List.filter_cons_of_pos (by simp)]
  rfl
theorem linksU_get (L : List UInt8) (b j : Nat) (hj : j < (blk L b).length) : ∀ m, b < m → (linksU L m)[fst_ L b + j]? = (blk L b)[j]?
  | 0, h => by omega
  | m + 1, h => by
    rw [linksU_next]
    by_cases hb : b < m
    · have ih := linksU_get L b j hj m hb
      rw [List.getElem?_eq_getElem hj] at ih
      obtain ⟨h1, _⟩ := List.getElem?_eq_some_iff.1 ih
      rw [List.getElem?_append_left h1, ih, List.getElem?_eq_getElem hj]
    · obtain rfl : b = m := by omega
      have hl := linksU_len L b
      rw [List.getElem?_append_right (by omega), hl, Nat.add_sub_cancel_left]
/-- Where a place's link stands. -/
def pos (L : List UInt8) (i : Nat) : Nat := fst_ L (by_ L i) + cnt L i (by_ L i)
theorem links_pos (L : List UInt8) {i : Nat} (hi : i < L.length) : (links L)[pos L i]? = some i := by
  have hb := blk_get L hi
  obtain ⟨h1, _⟩ := List.getElem?_eq_some_iff.1 hb
  unfold links pos
  rw [linksU_get L _ _ h1 256 (by_lt L i), hb]
theorem mem_blk {L : List UInt8} {b i : Nat} : i ∈ blk L b ↔ i < L.length ∧ by_ L i = b := by
  unfold blk
  rw [List.mem_filter, List.mem_range, beq_iff_eq]
theorem mem_linksU {L : List UInt8} {m i : Nat} : i ∈ linksU L m ↔ i < L.length ∧ by_ L i < m := by
  unfold linksU
  rw [List.mem_flatMap]
  constructor
  · rintro ⟨b, hb, hi⟩
    rw [List.mem_range] at hb
    rw [mem_blk] at hi
    exact ⟨hi.1, by omega⟩
  · rintro ⟨h1, h2⟩
    exact ⟨by_ L i, List.mem_range.2 h2, mem_blk.2 ⟨h1, rfl⟩⟩
theorem linksU_sorted (L : List UInt8) : ∀ m, (linksU L m).Pairwise fun a b => by_ L a < by_ L b ∨ (by_ L a = by_ L b ∧ a < b)
  | 0 => List.Pairwise.nil
  | m + 1 => by
    rw [linksU_next, List.pairwise_append]
    refine ⟨linksU_sorted L m, ?_, fun a ha b hb => ?_⟩
    · have h : (blk L m).Pairwise (· < ·) := List.Pairwise.sublist List.filter_sublist List.pairwise_lt_range
      refine List.Pairwise.imp_of_mem (fun {a b} ha hb h => ?_) h
      exact Or.inr ⟨(mem_blk.1 ha).2.trans (mem_blk.1 hb).2.symm, h⟩
    · rw [mem_linksU] at ha
      rw [mem_blk] at hb
      exact Or.inl (by omega)
theorem links_nodup (L : List UInt8) : (links L).Nodup := by
  refine List.Pairwise.imp ?_ (linksU_sorted L 256)
  rintro a b h rfl
  omega
theorem links_perm (L : List UInt8) : (links L).Perm (List.range L.length) := by
  rw [List.perm_ext_iff_of_nodup (links_nodup L) List.nodup_range]
  intro a
  unfold links
  rw [mem_linksU, List.mem_range]
  exact ⟨fun h => h.1, fun h => ⟨h, by_lt L a⟩⟩
theorem links_len (L : List UInt8) : (links L).length = L.length := by rw [(links_perm L).length_eq, List.length_range]
theorem links_is (L : List UInt8) : IsLinks L (links L) := by
  refine ⟨links_perm L, List.Pairwise.imp (fun {a b} h => ?_) (linksU_sorted L 256)⟩
  rcases h with h | ⟨h, h2⟩
  · exact Or.inl h
  · exact Or.inr ⟨UInt8.toNat.inj h, h2⟩
theorem links_lt {L : List UInt8} {p : Nat} (hp : p < L.length) : (links L).getD p 0 < L.length := by
  rw [List.getD_eq_getElem?_getD, List.getElem?_eq_getElem (by rw [links_len]; exact hp)]
  have := (links_perm L).mem_iff.1 (List.getElem_mem (l := links L) (n := p) (by rw [links_len]; exact hp))
  exact List.mem_range.1 this
theorem pos_lt {L : List UInt8} {i : Nat} (hi : i < L.length) : pos L i < L.length := by
  obtain ⟨h, _⟩ := List.getElem?_eq_some_iff.1 (links_pos L hi)
  rwa [links_len] at h
theorem pos_iff {L : List UInt8} {i p : Nat} (hi : i < L.length) (hp : p < L.length) : (links L).getD p 0 = i ↔ p = pos L i := by
  have h := links_pos L hi
  constructor
  · intro e
    have hp' : p < (links L).length := by rw [links_len]; exact hp
    obtain ⟨h1, h2⟩ := List.getElem?_eq_some_iff.1 h
    rw [List.getD_eq_getElem?_getD, List.getElem?_eq_getElem hp'] at e
    have hnd := List.pairwise_iff_getElem.1 (links_nodup L)
    rcases Nat.lt_trichotomy p (pos L i) with hlt | heq | hlt
    · exact absurd (e.trans h2.symm) (hnd p (pos L i) hp' h1 hlt)
    · exact heq
    · exact absurd (h2.trans e.symm) (hnd (pos L i) p h1 hp' hlt)
  · rintro rfl
    rw [List.getD_eq_getElem?_getD, h]; rfl
/-- The row of links, when the first k places were linked. -/
def rowAt (L : List UInt8) (k : Nat) : List Nat := (links L).map fun i => if i < k then i else 0
theorem rowAt_len (L : List UInt8) (k : Nat) : (rowAt L k).length = L.length := by unfold rowAt; rw [List.length_map, links_len]
theorem rowAt_zero (L : List UInt8) : rowAt L 0 = List.replicate L.length 0 := by
  unfold rowAt
  rw [← links_len]
  apply List.ext_getElem
  · simp
  · intro i h1 h2
    simp
theorem rowAt_all (L : List UInt8) {k : Nat} (hk : L.length ≤ k) : rowAt L k = links L := by
  unfold rowAt
  conv => rhs; rw [← List.map_id (links L)]
  refine List.map_congr_left (fun a ha => ?_)
  have := List.mem_range.1 ((links_perm L).mem_iff.1 ha)
  rw [if_pos (by omega)]
  rfl
theorem rowAt_next (L : List UInt8) {k : Nat} (hk : k < L.length) : rowAt L (k + 1) = (rowAt L k).set (pos L k) k := by
  apply List.ext_getElem
  · rw [List.length_set, rowAt_len, rowAt_len]
  · intro p h1 h2
    rw [rowAt_len] at h1
    have hl : p < (links L).length := by rw [links_len]; exact h1
    have hi := pos_iff (i := k) hk h1
    rw [List.getD_eq_getElem?_getD, List.getElem?_eq_getElem hl] at hi
    rw [List.getElem_set]
    simp only [rowAt, List.getElem_map]
    by_cases hp : pos L k = p
    · rw [if_pos hp]
      have e : (links L)[p] = k := hi.2 hp.symm
      rw [e, if_pos (by omega)]
    · rw [if_neg hp]
      have e : ¬ (links L)[p] = k := fun e => hp (hi.1 e).symm
      by_cases h3 : (links L)[p] < k
      · rw [if_pos h3, if_pos (by omega)]
      · rw [if_neg h3, if_neg (by omega)]
/-- What stands at a byte while the places are linked: where its next link goes. -/
def nxt (L : List UInt8) (k b : Nat) : Nat := fst_ L b + cnt L k b
theorem nxt_pos (L : List UInt8) (k : Nat) : nxt L k (by_ L k) = pos L k := rfl
theorem nxt_next (L : List UInt8) (k b : Nat) : nxt L (k + 1) b = if b = by_ L k then nxt L k b + 1 else nxt L k b := by
  unfold nxt
  rw [cnt_next]
  by_cases h : by_ L k = b
  · rw [if_pos h, if_pos h.symm, Nat.add_assoc]
  · rw [if_neg h, if_neg (fun e => h e.symm), Nat.add_zero]
theorem fst_le (L : List UInt8) (b : Nat) : fst_ L b ≤ L.length := by
  rw [← linksU_len]
  have h : (linksU L b).Nodup := by
    refine List.Pairwise.imp ?_ (linksU_sorted L b)
    rintro a b h rfl
    omega
  have hs : linksU L b ⊆ List.range L.length := fun a ha => List.mem_range.2 (mem_linksU.1 ha).1
  have := List.Nodup.length_le_of_subset h hs
  rwa [List.length_range] at this
/-- The place behind k links. -/
def plc (K : List Nat) (o : Nat) : Nat → Nat
  | 0 => o
  | k + 1 => K.getD (plc K o k) 0
theorem plc_shift (K : List Nat) (o : Nat) : ∀ k, plc K (K.getD o 0) k = plc K o (k + 1)
  | 0 => rfl
  | k + 1 => by
    show K.getD (plc K (K.getD o 0) k) 0 = K.getD (plc K o (k + 1)) 0
    rw [plc_shift K o k]
theorem follow_len (L : List UInt8) (K : List Nat) : ∀ k o, (BwtM.follow L K k o).length = k
  | 0, _ => rfl
  | k + 1, o => by
    show (BwtM.follow L K k (K.getD o 0)).length + 1 = k + 1
    rw [follow_len L K k]
theorem follow_next (L : List UInt8) (K : List Nat) : ∀ k o, BwtM.follow L K (k + 1) o = BwtM.follow L K k o ++ [L.getD (plc K o (k + 1)) 0]
  | 0, o => rfl
  | k + 1, o => by
    show L.getD (K.getD o 0) 0 :: BwtM.follow L K (k + 1) (K.getD o 0) = (L.getD (K.getD o 0) 0 :: BwtM.follow L K k (K.getD o 0)) ++ [L.getD (plc K o (k + 2)) 0]
    rw [follow_next L K k (K.getD o 0), plc_shift K o (k + 1)]
    rfl
theorem plc_lt {L : List UInt8} {o : Nat} (ho : o < L.length) : ∀ k, plc (links L) o k < L.length
  | 0 => ho
  | k + 1 => links_lt (plc_lt ho k)
end UnM
end Go.Proofs.Ytglpbianmbjoeaa
namespace Go.Proofs.Ytglpbianmbjoeaa
open Go.RowKit BwtM
set_option linter.unusedVariables false
set_option linter.unusedSimpArgs false
/-- The cells of an inverter: C tells of each byte what stands at it. -/
structure InF (F : Nat → Value) (s : ByteArray) (C : Nat → Nat) (lv : Value) (pl : Nat) (tv : Value) (nc nl nf : Nat) : Prop where
  f0 : F 0 = .string s
  fc : ∀ b, b < 256 → F (1 + b) = .int .i64 (C b : Int)
  f257 : F 257 = lv
  f258 : F 258 = .int .i64 (pl : Int)
  f259 : F 259 = tv
  f260 : F 260 = .int .i64 (nc : Int)
  f261 : F 261 = .int .i64 (nl : Int)
  f262 : F 262 = .int .i64 (nf : Int)
def InObj (w : World) (t : Nat) (s : ByteArray) (C : Nat → Nat) (lv : Value) (pl : Nat) (tv : Value) (nc nl nf : Nat) : Prop := ∃ F, ObjF 263 53 w t F ∧ InF F s C lv pl tv nc nl nf
section
variable {w w' : World} {t : Nat} {s : ByteArray} {C : Nat → Nat} {lv tv : Value} {pl nc nl nf : Nat}
theorem InObj.cells (h : InObj w t s C lv pl tv nc nl nf) : w.cell? ⟨t, 0, none⟩ = some (.string s) ∧ w.cell? ⟨t, 257, none⟩ = some (lv) ∧ w.cell? ⟨t, 258, none⟩ = some (.int .i64 (pl : Int)) ∧ w.cell? ⟨t, 259, none⟩ = some (tv) ∧ w.cell? ⟨t, 260, none⟩ = some (.int .i64 (nc : Int)) ∧ w.cell? ⟨t, 261, none⟩ = some (.int .i64 (nl : Int)) ∧ w.cell? ⟨t, 262, none⟩ = some (.int .i64 (nf : Int)) := by
  obtain ⟨F, h1, h2⟩ := h
  refine ⟨?_, ?_, ?_, ?_, ?_, ?_, ?_⟩
  · rw [(h1.cell (i := 0) (by omega)).1, h2.f0]
  · rw [(h1.cell (i := 257) (by omega)).1, h2.f257]
  · rw [(h1.cell (i := 258) (by omega)).1, h2.f258]
  · rw [(h1.cell (i := 259) (by omega)).1, h2.f259]
  · rw [(h1.cell (i := 260) (by omega)).1, h2.f260]
  · rw [(h1.cell (i := 261) (by omega)).1, h2.f261]
  · rw [(h1.cell (i := 262) (by omega)).1, h2.f262]
theorem InObj.count (h : InObj w t s C lv pl tv nc nl nf) {b : Nat} (hb : b < 256) : w.cell? ⟨t, 1 + b, none⟩ = some (.int .i64 (C b : Int)) := by
  obtain ⟨F, h1, h2⟩ := h
  rw [(h1.cell (i := 1 + b) (by omega)).1, h2.fc b hb]
theorem InObj.frozen (h : InObj w t s C lv pl tv nc nl nf) (i : Nat) (hi : i < 263) : w.frozen? ⟨t, i, none⟩ = false := by
  obtain ⟨F, h1, h2⟩ := h
  exact (h1.cell hi).2
theorem InObj.lt (h : InObj w t s C lv pl tv nc nl nf) : t < w.heap.size := by
  obtain ⟨F, h1, h2⟩ := h
  exact h1.lt
theorem InObj.other (h : InObj w t s C lv pl tv nc nl nf) {X : Nat → Prop} (ht : Touch X w w') (hX : ¬ X t) : InObj w' t s C lv pl tv nc nl nf := by
  obtain ⟨F, h1, h2⟩ := h
  exact ⟨F, h1.other ht hX, h2⟩
theorem InObj.setC (h : InObj w t s C lv pl tv nc nl nf) {b : Nat} (hb : b < 256) (x : Nat) : InObj (w.setCell ⟨t, 1 + b, none⟩ (.int .i64 (x : Int))) t s (fun k => if k = b then x else C k) lv pl tv nc nl nf := by
  obtain ⟨F, h1, h2⟩ := h
  refine ⟨_, h1.set (1 + b) _, (upd_ne _ _ (by omega)).trans h2.f0, fun k hk => ?_, (upd_ne _ _ (by omega)).trans h2.f257, (upd_ne _ _ (by omega)).trans h2.f258, (upd_ne _ _ (by omega)).trans h2.f259, (upd_ne _ _ (by omega)).trans h2.f260, (upd_ne _ _ (by omega)).trans h2.f261, (upd_ne _ _ (by omega)).trans h2.f262⟩
  by_cases e : k = b
  · subst e
    rw [if_pos rfl]
    exact upd_same _ _ _
  · rw [if_neg e]
    exact (upd_ne _ _ (by omega)).trans (h2.fc k hk)
theorem InObj.set258 (h : InObj w t s C lv pl tv nc nl nf) (x : Nat) : InObj (w.setCell ⟨t, 258, none⟩ (.int .i64 (x : Int))) t s C lv x tv nc nl nf := by
  obtain ⟨F, h1, h2⟩ := h
  exact ⟨_, h1.set 258 _, (upd_ne _ _ (by omega)).trans h2.f0, fun k hk => (upd_ne _ _ (by omega)).trans (h2.fc k hk), (upd_ne _ _ (by omega)).trans h2.f257, upd_same _ _ _, (upd_ne _ _ (by omega)).trans h2.f259, (upd_ne _ _ (by omega)).trans h2.f260, (upd_ne _ _ (by omega)).trans h2.f261, (upd_ne _ _ (by omega)).trans h2.f262⟩
theorem InObj.set259 (h : InObj w t s C lv pl tv nc nl nf) (x : Value) : InObj (w.setCell ⟨t, 259, none⟩ (x)) t s C lv pl x nc nl nf := by
  obtain ⟨F, h1, h2⟩ := h
  exact ⟨_, h1.set 259 _, (upd_ne _ _ (by omega)).trans h2.f0, fun k hk => (upd_ne _ _ (by omega)).trans (h2.fc k hk), (upd_ne _ _ (by omega)).trans h2.f257, (upd_ne _ _ (by omega)).trans h2.f258, upd_same _ _ _, (upd_ne _ _ (by omega)).trans h2.f260, (upd_ne _ _ (by omega)).trans h2.f261, (upd_ne _ _ (by omega)).trans h2.f262⟩
theorem InObj.set260 (h : InObj w t s C lv pl tv nc nl nf) (x : Nat) : InObj (w.setCell ⟨t, 260, none⟩ (.int .i64 (x : Int))) t s C lv pl tv x nl nf := by
  obtain ⟨F, h1, h2⟩ := h
  exact ⟨_, h1.set 260 _, (upd_ne _ _ (by omega)).trans h2.f0, fun k hk => (upd_ne _ _ (by omega)).trans (h2.fc k hk), (upd_ne _ _ (by omega)).trans h2.f257, (upd_ne _ _ (by omega)).trans h2.f258, (upd_ne _ _ (by omega)).trans h2.f259, upd_same _ _ _, (upd_ne _ _ (by omega)).trans h2.f261, (upd_ne _ _ (by omega)).trans h2.f262⟩
theorem InObj.set261 (h : InObj w t s C lv pl tv nc nl nf) (x : Nat) : InObj (w.setCell ⟨t, 261, none⟩ (.int .i64 (x : Int))) t s C lv pl tv nc x nf := by
  obtain ⟨F, h1, h2⟩ := h
  exact ⟨_, h1.set 261 _, (upd_ne _ _ (by omega)).trans h2.f0, fun k hk => (upd_ne _ _ (by omega)).trans (h2.fc k hk), (upd_ne _ _ (by omega)).trans h2.f257, (upd_ne _ _ (by omega)).trans h2.f258, (upd_ne _ _ (by omega)).trans h2.f259, (upd_ne _ _ (by omega)).trans h2.f260, upd_same _ _ _, (upd_ne _ _ (by omega)).trans h2.f262⟩
theorem InObj.set262 (h : InObj w t s C lv pl tv nc nl nf) (x : Nat) : InObj (w.setCell ⟨t, 262, none⟩ (.int .i64 (x : Int))) t s C lv pl tv nc nl x := by
  obtain ⟨F, h1, h2⟩ := h
  exact ⟨_, h1.set 262 _, (upd_ne _ _ (by omega)).trans h2.f0, fun k hk => (upd_ne _ _ (by omega)).trans (h2.fc k hk), (upd_ne _ _ (by omega)).trans h2.f257, (upd_ne _ _ (by omega)).trans h2.f258, (upd_ne _ _ (by omega)).trans h2.f259, (upd_ne _ _ (by omega)).trans h2.f260, (upd_ne _ _ (by omega)).trans h2.f261, upd_same _ _ _⟩
end
set_option maxHeartbeats 2000000 in
theorem unstep_nil (w : World) (k : Int) : Calls Try.prog 17 #[.pointer none, .int .i64 k] w fun e w' => e = .returned (.int .i64 0) ∧ w' = w := by
  go_enter Try.func17, Try.ntmps17
  go_wp2_with fail
  go_ret
  exact ⟨rfl, rfl⟩
set_option maxHeartbeats 2000000 in
theorem untake_nil (w : World) : Calls Try.prog 18 #[.pointer none] w fun e w' => e = .returned (.string ⟨#[]⟩) ∧ w' = w := by
  go_enter Try.func18, Try.ntmps18
  go_wp2_with fail
  go_ret
  exact ⟨rfl, rfl⟩
set_option maxHeartbeats 2000000 in
theorem unwaiting_nil (w : World) : Calls Try.prog 19 #[.pointer none] w fun e w' => e = .returned (.int .i64 0) ∧ w' = w := by
  go_enter Try.func19, Try.ntmps19
  go_wp2_with fail
  go_ret
  exact ⟨rfl, rfl⟩
set_option maxHeartbeats 2000000 in
theorem unsteps_nil (w : World) : Calls Try.prog 20 #[.pointer none] w fun e w' => e = .returned (.int .i64 0) ∧ w' = w := by
  go_enter Try.func20, Try.ntmps20
  go_wp2_with fail
  go_ret
  exact ⟨rfl, rfl⟩
set_option maxHeartbeats 2000000 in
theorem unheld_nil (w : World) : Calls Try.prog 22 #[.pointer none] w fun e w' => e = .returned (.int .i64 0) ∧ w' = w := by
  go_enter Try.func22, Try.ntmps22
  go_wp2_with fail
  go_ret
  exact ⟨rfl, rfl⟩
set_option maxHeartbeats 2000000 in
theorem undone_nil (w : World) : Calls Try.prog 21 #[.pointer none] w fun e w' => e = .returned (.bool false) ∧ ∃ m, w' = w.drewN m := by
  go_enter Try.func21, Try.ntmps21
  go_wp2_with fail
  go_quiet (fail)
  go_wp2_with fail
  go_ret
  exact ⟨rfl, _, rfl⟩
end Go.Proofs.Ytglpbianmbjoeaa
namespace Go.Proofs.Ytglpbianmbjoeaa
open Go.RowKit
set_option linter.unusedVariables false
set_option linter.unusedSimpArgs false
/-- A row of bytes, the call's own from block B on. -/
def OwnY (W : World) (B : Nat) (v : Value) (l : List UInt8) : Prop := W.ownsRow B 5 1 v l.length (l.map u8v)
theorem OwnY.nil (W : World) (B : Nat) : OwnY W B (.slice none 0 0) [] := World.ownsRow_nil _ _ _ _
theorem OwnY.slice {W : World} {B : Nat} {v : Value} {l : List UInt8} (h : OwnY W B v l) : ∃ a cap, v = .slice a l.length cap := slice_of_own h
theorem OwnY.lt {W : World} {B : Nat} {v : Value} {l : List UInt8} (h : OwnY W B v l) : ∀ k, v.ownBlock = some k → B ≤ k ∧ k < W.heap.size := World.ownsRow.lt h
theorem OwnY.same {W W' : World} {B : Nat} {v : Value} {l : List UInt8} (h : OwnY W B v l) (he : ∀ k, v.ownBlock = some k → W'.heap[k]? = W.heap[k]?) : OwnY W' B v l := ownsRow_other h he
theorem info_byte : (Try.prog.info? 5).map (fun i => (i.zero, i.size, i.bytes)) = some (some (.int .u8 0), 1, 1) := by kernel_rfl
set_option maxHeartbeats 1000000 in
/-- 'append' of one byte, where an operation of a region that draws its order stands. -/
theorem step_push_byte {ops : Array Oper} {o : Oper} {a : Act} {K : Act → World → Prop} {Q : Exit → Act → World → Prop} {E : Prop} (W : World) (hg : o.guard = none) (s x : Operand)
    (ho : o.op = .call { callee := .builtin .append, args := #[s, x], argTypes := #[47, 47] })
    (B G : Nat) (v : Value) (l : List UInt8) (y : UInt8) (hown : OwnY W B v l) (hs : a.eval s = v) (hx : a.eval x = .slice (some ⟨G, 0, none⟩) 1 1) (hG : W.cell? ⟨G, 0, none⟩ = some (u8v y))
    (hlen : l.length ≤ 1000000) (hb : B ≤ W.heap.size)
    (h : ∀ v' w', OwnY w' B v' (l ++ [y]) → Below B W w' → (∀ k, k < W.heap.size → v.ownBlock ≠ some k → w'.heap[k]? = W.heap[k]?) → (∀ k, v'.ownBlock = some k → v.ownBlock = some k ∨ W.heap.size ≤ k) → K (a.put o.dst v') w') :
    if Region.wanted o (yielded ops a.tmps) = true then Oper.wp Try.prog o a W K Q else E := by
  obtain ⟨i0, hi, hz0, hz1, hz2⟩ := info_parts info_byte
  refine step_append_own' hg s x 47 ho B 5 i0 (.int .u8 0) 1 1 Try.underlying47 hi hz0 hz1 hz2 rfl (by decide) v l.length (l.map u8v) hs hown ⟨G, 0, none⟩ 1 1 [u8v y] hx rfl ?_ ?_ ?_ ?_ hb ?_
  · intro j u hu
    have hj : j < 1 := (List.getElem?_eq_some_iff.1 hu).1
    obtain rfl : j = 0 := by omega
    have e : u8v y = u := by simpa using hu
    rw [Addr.add_lit, ← e]
    exact hG
  · intro u hu
    rw [List.mem_singleton] at hu
    subst hu
    rfl
  · unfold maxLen; omega
  · omega
  · intro v' w' hown' hg' hv
    refine h v' w' ?_ (Below.grown (Below.refl B W) hg' hb (fun j hj => (World.ownsRow.lt hown j hj).1)) (fun k hk hne => hg'.block k hk (fun e => hne e.symm)) hv
    unfold OwnY
    rw [List.length_append, List.map_append]
    exact hown'
end Go.Proofs.Ytglpbianmbjoeaa
namespace Go.Proofs.Ytglpbianmbjoeaa
open Go.RowKit BwtM
set_option linter.unusedVariables false
set_option linter.unusedSimpArgs false
/-- An inverter at block t, its row of links at g: the row is zs, the bytes l wait. -/
structure IsIn (B : Nat) (w : World) (t g : Nat) (s : ByteArray) (C : Nat → Nat) (zs : List Int) (l : List UInt8) (pl nc nl nf : Nat) (tv : Value) : Prop where
  obj : InObj w t s C (.slice (some ⟨g, 0, none⟩) s.size s.size) pl tv nc nl nf
  row : RowI w g zs
  len : zs.length = s.size
  told : OwnY w B tv l
  gt : g ≠ t
  lap : ∀ j, tv.ownBlock = some j → j ≠ t ∧ j ≠ g
  base : B ≤ t
  gase : B ≤ g
section
variable {B t g : Nat} {w w' : World} {s : ByteArray} {C C' : Nat → Nat} {zs zs' : List Int} {l : List UInt8} {pl nc nl nf pl' nc' nl' nf' : Nat} {tv : Value}
/-- Only the inverter's own cells have turned. -/
theorem IsIn.own (h : IsIn B w t g s C zs l pl nc nl nf tv) (ht : Touch (· = t) w w') (ho : InObj w' t s C' (.slice (some ⟨g, 0, none⟩) s.size s.size) pl' tv nc' nl' nf') : IsIn B w' t g s C' zs l pl' nc' nl' nf' tv :=
  ⟨ho, h.row.other ht h.gt, h.len, h.told.same (fun k hk => ht.block k (h.told.lt k hk).2 (h.lap k hk).1), h.gt, h.lap, h.base, h.gase⟩
/-- Only the row of links has turned. -/
theorem IsIn.linked (h : IsIn B w t g s C zs l pl nc nl nf tv) (ht : Touch (· = g) w w') (hr : RowI w' g zs') (hl : zs'.length = zs.length) : IsIn B w' t g s C zs' l pl nc nl nf tv :=
  ⟨h.obj.other ht (fun e => h.gt e.symm), hr, hl.trans h.len, h.told.same (fun k hk => ht.block k (h.told.lt k hk).2 (h.lap k hk).2), h.gt, h.lap, h.base, h.gase⟩
theorem IsIn.other (h : IsIn B w t g s C zs l pl nc nl nf tv) {X : Nat → Prop} (ht : Touch X w w') (h1 : ¬ X t) (h2 : ¬ X g) (h3 : ∀ k, tv.ownBlock = some k → ¬ X k) : IsIn B w' t g s C zs l pl nc nl nf tv :=
  ⟨h.obj.other ht h1, h.row.other ht h2, h.len, h.told.same (fun k hk => ht.block k (h.told.lt k hk).2 (h3 k hk)), h.gt, h.lap, h.base, h.gase⟩
theorem IsIn.below (h : IsIn B w t g s C zs l pl nc nl nf tv) (ht : Below w.heap.size w w') : IsIn B w' t g s C zs l pl nc nl nf tv :=
  h.other (Touch.ofBelow (S := fun _ => False) ht) (fun e => e) (fun e => e) (fun _ _ e => e)
set_option maxHeartbeats 1000000 in
theorem unwaiting_any (h : IsIn B w t g s C zs l pl nc nl nf tv) : Calls Try.prog 19 #[.pointer (some ⟨t, 0, none⟩)] w fun e w' => e = .returned (.int .i64 (l.length : Int)) ∧ w' = w := by
  obtain ⟨_, _, _, c4, _, _, _⟩ := h.obj.cells
  obtain ⟨a, cap, rfl⟩ := h.told.slice
  obtain ⟨n, hn⟩ : ∃ n, l.length = n := ⟨_, rfl⟩
  rw [hn] at c4 ⊢
  clear h hn
  go_enter Try.func19, Try.ntmps19
  go_wp2_with fail
  go_ret
  exact ⟨rfl, rfl⟩
set_option maxHeartbeats 1000000 in
theorem unsteps_any (h : IsIn B w t g s C zs l pl nc nl nf tv) (hc : nc ≤ 1000000) (hl : nl ≤ 1000000) (hf : nf ≤ 1000000) : Calls Try.prog 20 #[.pointer (some ⟨t, 0, none⟩)] w fun e w' => e = .returned (.int .i64 ((nc + nl + nf : Nat) : Int)) ∧ ∃ m, w' = w.drewN m := by
  obtain ⟨_, _, _, _, c5, c6, c7⟩ := h.obj.cells
  obtain ⟨a, ha⟩ : ∃ a, nc + nl = a := ⟨_, rfl⟩
  have hai : (nc : Int) + (nl : Int) = (a : Int) := by omega
  have haw : IntKind.i64.wrap (a : Int) = (a : Int) := IntWalk.i64_in _ (by omega)
  obtain ⟨q, hq⟩ : ∃ q, a + nf = q := ⟨_, rfl⟩
  have hqi : (a : Int) + (nf : Int) = (q : Int) := by omega
  have hqw : IntKind.i64.wrap (q : Int) = (q : Int) := IntWalk.i64_in _ (by omega)
  rw [ha, hq]
  clear h ha hq
  go_enter Try.func20, Try.ntmps20
  go_wp2_with fail
  go_quiet (fail)
  go_wp2_with fail
  go_ret
  exact ⟨rfl, _, rfl⟩
set_option maxHeartbeats 1000000 in
theorem unheld_any (h : IsIn B w t g s C zs l pl nc nl nf tv) (hs : s.size ≤ 1000000) (hl : l.length ≤ 1000000) : Calls Try.prog 22 #[.pointer (some ⟨t, 0, none⟩)] w fun e w' => e = .returned (.int .i64 ((2 * s.size + l.length : Nat) : Int)) ∧ ∃ m, w' = w.drewN m := by
  obtain ⟨c0, c2, _, c4, _, _, _⟩ := h.obj.cells
  obtain ⟨a0, cap, rfl⟩ := h.told.slice
  obtain ⟨n, hn⟩ : ∃ n, l.length = n := ⟨_, rfl⟩
  obtain ⟨z, hz⟩ : ∃ z, s.size = z := ⟨_, rfl⟩
  have hzi : (s.size : Int) = (z : Int) := by omega
  rw [hn] at c4 hl ⊢
  rw [hz] at c2 hs ⊢
  obtain ⟨a, ha⟩ : ∃ a, z + z = a := ⟨_, rfl⟩
  have hai : (z : Int) + (z : Int) = (a : Int) := by omega
  have haw : IntKind.i64.wrap (a : Int) = (a : Int) := IntWalk.i64_in _ (by omega)
  obtain ⟨q, hq⟩ : ∃ q, 2 * z + n = q := ⟨_, rfl⟩
  have hqi : (a : Int) + (n : Int) = (q : Int) := by omega
  have hqw : IntKind.i64.wrap (q : Int) = (q : Int) := IntWalk.i64_in _ (by omega)
  rw [hq]
  clear h hn hz ha hq
  go_enter Try.func22, Try.ntmps22
  go_wp2_with fail
  go_quiet (fail)
  go_wp2_with fail
  go_ret
  exact ⟨rfl, _, rfl⟩
set_option maxHeartbeats 1000000 in
theorem undone_any (h : IsIn B w t g s C zs l pl nc nl nf tv) (hs : 0 < s.size) : Calls Try.prog 21 #[.pointer (some ⟨t, 0, none⟩)] w fun e w' => e = .returned (.bool (nf == s.size)) ∧ ∃ m, w' = w.drewN m := by
  obtain ⟨c0, _, _, _, _, _, c7⟩ := h.obj.cells
  have hemp : s.toList.isEmpty = false := by
    rw [ByteArray.toList_eq]
    have h2 : s.data.toList.length = s.size := by simp
    cases hl : s.data.toList with
    | nil => rw [hl] at h2; simp at h2; omega
    | cons a t => rfl
  obtain ⟨r, hr⟩ : ∃ r, (nf == s.size) = r := ⟨_, rfl⟩
  have hri : ((nf : Int) == (s.size : Int)) = r := by rw [← hr, Bool.eq_iff_iff, beq_iff_eq, beq_iff_eq]; omega
  rw [hr]
  clear h hr
  go_enter Try.func21, Try.ntmps21
  go_wp2_with fail
  go_quiet (fail)
  go_wp2_with fail
  go_ret
  exact ⟨rfl, _, rfl⟩
end
end Go.Proofs.Ytglpbianmbjoeaa
namespace Go.Proofs.Ytglpbianmbjoeaa
open Go.RowKit BwtM
set_option linter.unusedVariables false
set_option linter.unusedSimpArgs false
theorem bsl_none (a : Option Addr) (n cap : Nat) (h2 : n ≤ cap) (h3 : cap ≤ 9223372036854775807) (W : World) : (Instr.slice 47 (.slice a n cap) none (some (.int .i64 0)) none).run Try.prog W = .ok (.slice a 0 cap) W := by
  have hs : (sizeOf (Try.prog.elem 47)).run Try.prog W = .ok 1 W := by kernel_rfl
  rw [run_slice_h W 47 a n cap (by kernel_rfl) .i64 0 (by omega) (by omega), hs]
  cases a <;> simp [Result.andThen, sliced, Addr.add]
theorem OwnY.emptied {W : World} {B : Nat} {a : Option Addr} {n cap : Nat} {l : List UInt8} (h : OwnY W B (.slice a n cap) l) : OwnY W B (.slice a 0 cap) [] ∧ n = l.length ∧ n ≤ cap ∧ cap ≤ 9223372036854775807 := by
  have hl := h.1
  rcases h.2 with ⟨e, h0⟩ | ⟨g, cap', cur, e, hB, hg, hnc, hcm, hcs, ht⟩
  · simp only [Value.slice.injEq] at e
    obtain ⟨rfl, rfl, rfl⟩ := e
    exact ⟨OwnY.nil _ _, h0.symm, Nat.le_refl _, by omega⟩
  · simp only [Value.slice.injEq] at e
    obtain ⟨rfl, rfl, rfl⟩ := e
    refine ⟨⟨rfl, Or.inr ⟨g, cap, cur, rfl, hB, hg, Nat.zero_le _, hcm, hcs, by simp⟩⟩, rfl, hnc, by unfold maxLen at hcm; omega⟩
section
variable {B t g : Nat} {s : ByteArray} {C : Nat → Nat} {zs : List Int} {l : List UInt8} {pl nc nl nf : Nat} {tv : Value}
set_option maxHeartbeats 4000000 in
theorem untake_any (w : World) (h : IsIn B w t g s C zs l pl nc nl nf tv) : Calls Try.prog 18 #[.pointer (some ⟨t, 0, none⟩)] w fun e w' => e = .returned (.string ⟨l.toArray⟩) ∧ (∃ tv', IsIn B w' t g s C zs [] pl nc nl nf tv') ∧ Touch (· = t) w w' := by
  obtain ⟨_, _, _, c4, _, _, _⟩ := h.obj.cells
  have e4 := h.obj.frozen 259 (by omega)
  have H := Lib.hid h
  have HCV := conv_row (W := w) h.told
  obtain ⟨a, cap, hv⟩ := h.told.slice
  subst hv
  obtain ⟨n, hn⟩ : ∃ n, l.length = n := ⟨_, rfl⟩
  have he := h.told.emptied
  rw [hn] at c4 HCV he H
  have hsl := bsl_none a n cap he.2.2.1 he.2.2.2
  have HR : Hid (IsIn B (w.setCell ⟨t, 259, none⟩ (.slice a 0 cap)) t g s C zs [] pl nc nl nf (.slice a 0 cap)) := Lib.hid (by
    have ht : Touch (· = t) w (w.setCell ⟨t, 259, none⟩ (.slice a 0 cap)) := touch_cell (Touch.refl _ _)
    have hlap : ∀ j, (Value.slice a 0 cap).ownBlock = some j → j ≠ t ∧ j ≠ g := fun j hj => H.out.lap j (by cases a <;> simp_all [Value.ownBlock])
    have hemp : OwnY w B (.slice a 0 cap) [] := he.1
    exact ⟨H.out.obj.set259 (.slice a 0 cap), H.out.row.other ht H.out.gt, H.out.len, hemp.same (fun k hk => ht.block k (hemp.lt k hk).2 (hlap k hk).1), H.out.gt, hlap, H.out.base, H.out.gase⟩)
  have HT : Hid (Touch (· = t) w (w.setCell ⟨t, 259, none⟩ (.slice a 0 cap))) := Lib.hid (touch_cell (Touch.refl _ _))
  clear h he hn
  go_enter Try.func18, Try.ntmps18
  go_wp2_with fail
  go_ret
  exact ⟨rfl, ⟨_, HR.out⟩, HT.out⟩
end
end Go.Proofs.Ytglpbianmbjoeaa
namespace Go.Proofs.Ytglpbianmbjoeaa
open Go.RowKit BwtM
set_option linter.unusedVariables false
set_option linter.unusedSimpArgs false
theorem wpList_build_three {P : Program} {ops : Array Oper} {rest : List Oper} {o : Oper} {a : Act} {w : World} {Q : Exit → Act → World → Prop} (hg : o.guard = none) (t : TypeId) (n m k : Nat) (y z x : Operand) (ho : o.op = .build t #[(n, y), (m, z), (k, x)]) (v u r : Value) (hy : a.eval y = v) (hz : a.eval z = u) (hx : a.eval x = r) (Z : Array Value)
    (hb : P.built t [(n, v), (m, u), (k, r)] = some Z) (h : wpList P ops Q rest (a.put o.dst (.agg Z)) w) : wpList P ops Q (o :: rest) a w := by
  subst hy hz hx
  refine wpList_build hg t #[(n, y), (m, z), (k, x)] ho ?_ ?_
  · simp [hb]
  · simpa [hb] using h
def inF0 (s : ByteArray) (lv : Value) (p : Nat) (k : Nat) : Value := if k = 0 then .string s else if k = 257 then lv else if k = 258 then .int .i64 (p : Int) else if k = 259 then .slice none 0 0 else .int .i64 0
theorem inv_built (s : ByteArray) (b n p : Nat) : Try.prog.built 53 [(0, .string s), (2, .slice (some ⟨b, 0, none⟩) n n), (3, .int .i64 (p : Int))] = some (cellsF 263 (inF0 s (.slice (some ⟨b, 0, none⟩) n n) p)) := by kernel_rfl
theorem inF0_is (s : ByteArray) (lv : Value) (p : Nat) : InF (inF0 s lv p) s (fun _ => 0) lv p (.slice none 0 0) 0 0 0 := by
  refine ⟨rfl, fun b hb => ?_, rfl, rfl, rfl, rfl, rfl, rfl⟩
  unfold inF0
  rw [if_neg (by omega), if_neg (by omega), if_neg (by omega), if_neg (by omega)]
  rfl
set_option maxRecDepth 100000 in
set_option maxHeartbeats 4000000 in
theorem inverter_any (s : ByteArray) (p : Nat) (w : World) (hs : s.size ≤ 1000000) : Calls Try.prog 24 #[.string s, .int .i64 (p : Int)] w fun e w' => ∃ t g, e = .returned (.pointer (some ⟨t, 0, none⟩)) ∧ IsIn w.heap.size w' t g s (fun _ => 0) (List.replicate s.size 0) [] p 0 0 0 (.slice none 0 0) ∧ Below w.heap.size w w' := by
  obtain ⟨n, hn⟩ : ∃ n, s.size = n := ⟨_, rfl⟩
  have hsi : (s.size : Int) = (n : Int) := by omega
  have hmk := fun W => make_ints n (by omega) W
  have HB := Lib.hid (inv_built s w.heap.size n p)
  have HZ := Lib.hid (inF0_is s (.slice (some ⟨w.heap.size, 0, none⟩) n n) p)
  obtain ⟨F, hF⟩ : ∃ F, inF0 s (.slice (some ⟨w.heap.size, 0, none⟩) n n) p = F := ⟨_, rfl⟩
  rw [hF] at HB HZ
  obtain ⟨Z, hZ⟩ : ∃ Z, cellsF 263 F = Z := ⟨_, rfl⟩
  rw [hZ] at HB
  have HZZ := Lib.hid hZ
  rw [hn]
  have HN := Lib.hid hn
  clear hn hF hZ hs
  go_enter Try.func24, Try.ntmps24
  go_wp2_with (refine wpList_build_three rfl 53 0 2 3 _ _ _ rfl _ _ _ rfl rfl rfl Z HB.out ?_)
  have HR : Hid (IsIn w.heap.size ((w.alloc (.cells (madeCells #[Value.int .i64 0] n) 3)).alloc (.cells Z 53)) (w.alloc (.cells (madeCells #[Value.int .i64 0] n) 3)).heap.size w.heap.size s (fun _ => 0) (List.replicate n 0) [] p 0 0 0 (.slice none 0 0)) := Lib.hid (by
    have hz : (w.alloc (.cells (madeCells #[Value.int .i64 0] n) 3)).heap.size = w.heap.size + 1 := by show (w.heap.push _).size = _; simp
    have h1 : RowI (w.alloc (.cells (madeCells #[Value.int .i64 0] n) 3)) w.heap.size (List.replicate n 0) := RowI.made w n
    have hob : InObj ((w.alloc (.cells (madeCells #[Value.int .i64 0] n) 3)).alloc (.cells Z 53)) (w.alloc (.cells (madeCells #[Value.int .i64 0] n) 3)).heap.size s (fun _ => 0) (.slice (some ⟨w.heap.size, 0, none⟩) s.size s.size) p (.slice none 0 0) 0 0 0 := by
      rw [HN.out]
      refine ⟨F, ?_, HZ.out⟩
      unfold ObjF
      rw [HZZ.out]
      exact heap_alloc_new (w.alloc (.cells (madeCells #[Value.int .i64 0] n) 3)) (.cells Z 53)
    exact ⟨hob, (alloc_old (w := w.alloc (.cells (madeCells #[Value.int .i64 0] n) 3)) h1.lt).trans h1, by rw [List.length_replicate, HN.out], OwnY.nil _ _, by omega, fun j hj => (by cases hj), by omega, Nat.le_refl _⟩)
  have HBL : Hid (Below w.heap.size w ((w.alloc (.cells (madeCells #[Value.int .i64 0] n) 3)).alloc (.cells Z 53))) := Lib.hid (((Below.refl _ _).alloc (Nat.le_refl _) _).alloc (by show w.heap.size ≤ (w.heap.push _).size; simp) _)
  have hz : (w.alloc (.cells (madeCells #[Value.int .i64 0] n) 3)).heap.size = w.heap.size + 1 := by show (w.heap.push _).size = _; simp
  have HR2 := Lib.hid HR.out
  rw [hz] at HR2
  clear hz
  go_ret
  exact ⟨_, _, rfl, HR2.out, HBL.out⟩
set_option maxRecDepth 100000 in
set_option maxHeartbeats 4000000 in
theorem unnew_any (s : ByteArray) (p : Nat) (w : World) (h0 : 0 < s.size) (hs : s.size ≤ 900000) (hp : p < s.size) : Calls Try.prog 16 #[.string s, .int .i64 (p : Int)] w fun e w' => ∃ t g, e = .returned (.tuple #[.pointer (some ⟨t, 0, none⟩), .int .i64 0]) ∧ IsIn w.heap.size w' t g s (fun _ => 0) (List.replicate s.size 0) [] p 0 0 0 (.slice none 0 0) ∧ Below w.heap.size w w' := by
  have hemp : s.toList.isEmpty = false := by
    rw [ByteArray.toList_eq]
    have h2 : s.data.toList.length = s.size := by simp
    cases hl : s.data.toList with
    | nil => rw [hl] at h2; simp at h2; omega
    | cons a t => rfl
  have h1i : ¬ (900000 : Int) < (s.size : Int) := by omega
  have h2i : (p : Int) < (s.size : Int) := by omega
  have h3i : ¬ (p : Int) < 0 := by omega
  have h4i : ¬ (p : Int) ≥ (s.size : Int) := by omega
  have HI := Lib.hid (fun W => inverter_any s p W (by omega))
  clear hp
  go_enter Try.func16, Try.ntmps16
  go_wp2_with fail
  refine (HI.out _).mono ?_
  rintro e w1 ⟨t, g, rfl, h, hb⟩
  have H := Lib.hid h
  have HB := Lib.hid hb
  clear h hb
  go_wp2_with fail
  go_ret2
  exact ⟨_, _, rfl, H.out, HB.out⟩
end Go.Proofs.Ytglpbianmbjoeaa
namespace Go.Proofs.Ytglpbianmbjoeaa
open Go.RowKit BwtM
set_option linter.unusedVariables false
set_option linter.unusedSimpArgs false
set_option maxHeartbeats 2000000 in
theorem unnew_empty (o : Int) (w : World) : Calls Try.prog 16 #[.string ByteArray.empty, .int .i64 o] w fun e w' => e = .returned (.tuple #[.pointer none, .int .i64 1]) ∧ w' = w := by
  go_enter Try.func16, Try.ntmps16
  go_wp2_with fail
  go_ret2
  exact ⟨rfl, rfl⟩
theorem un_some (s : ByteArray) (h : 0 < s.size) : s.toList.isEmpty = false := by
  rw [ByteArray.toList_eq]
  have h2 : s.data.toList.length = s.size := by simp
  cases hl : s.data.toList with
  | nil => rw [hl] at h2; simp at h2; omega
  | cons a t => rfl
set_option maxHeartbeats 2000000 in
theorem unnew_long (s : ByteArray) (o : Int) (w : World) (hs : 900000 < s.size) : Calls Try.prog 16 #[.string s, .int .i64 o] w fun e w' => e = .returned (.tuple #[.pointer none, .int .i64 2]) ∧ w' = w := by
  have hemp := un_some s (by omega)
  have h1i : (900000 : Int) < (s.size : Int) := by omega
  go_enter Try.func16, Try.ntmps16
  go_wp2_with fail
  go_ret2
  exact ⟨rfl, rfl⟩
set_option maxHeartbeats 2000000 in
theorem unnew_out (s : ByteArray) (o : Int) (w : World) (h0 : 0 < s.size) (hs : s.size ≤ 900000) (ho : o < 0 ∨ (s.size : Int) ≤ o) : Calls Try.prog 16 #[.string s, .int .i64 o] w fun e w' => e = .returned (.tuple #[.pointer none, .int .i64 23]) ∧ ∃ m, w' = w.drewN m := by
  have hemp := un_some s h0
  have h1i : ¬ (900000 : Int) < (s.size : Int) := by omega
  rcases ho with h | h
  · go_enter Try.func16, Try.ntmps16
    go_wp2_with fail
    go_ret2
    exact ⟨rfl, 0, rfl⟩
  · by_cases hn : o < 0
    · go_enter Try.func16, Try.ntmps16
      go_wp2_with fail
      go_ret2
      exact ⟨rfl, 0, rfl⟩
    · have h4 : o ≥ (s.size : Int) := h
      go_enter Try.func16, Try.ntmps16
      go_wp2_with fail
      go_ret2
      exact ⟨rfl, 0, rfl⟩
end Go.Proofs.Ytglpbianmbjoeaa
namespace Go.Proofs.Ytglpbianmbjoeaa
open Go.RowKit BwtM
set_option linter.unusedVariables false
set_option linter.unusedSimpArgs false
def cntF (L : List UInt8) (k b : Nat) : Value := .int .i64 ((if b < k then UnM.fst_ L b else UnM.cnt L L.length b : Nat) : Int)
theorem arr256_index (F : Nat → Value) (k : Nat) (hk : k < 256) (W : World) : (Instr.index 51 (.agg (cellsF 256 F)) (.int .i64 (k : Int))).run Try.prog W = .ok (F k) W := by
  have hg : (cellsF 256 F)[k]? = some (F k) := cellsF_get 256 F hk
  have hu := Try.underlying51
  simp [Instr.index, run_underlying hu, asIntOf, go_sem, hg]
  intro h
  omega
theorem zero256 (W : World) : (zeroValue 51).run Try.prog W = .ok (.agg (cellsF 256 fun _ => .int .i64 0)) W := by kernel_rfl
theorem info256 : (Try.prog.info? 51).map (·.size) = some 256 := by kernel_rfl
set_option maxRecDepth 100000 in
set_option maxHeartbeats 4000000 in
theorem unfirsts_any (L : List UInt8) (w : World) (hL : L.length ≤ 1000000) : Calls Try.prog 30 #[.agg (cellsF 256 (cntF L 0))] w fun e w' => e = .returned (.agg (cellsF 256 (cntF L 256))) ∧ Below w.heap.size w w' := by
  obtain ⟨A, hA⟩ : ∃ A, cellsF 256 (cntF L 0) = A := ⟨_, rfl⟩
  have hix := fun k (hk : k < 256) W => arr256_index (cntF L 0) k hk W
  have hsz : A.size = 256 := by rw [← hA]; exact cellsF_size _ _
  rw [hA] at hix ⊢
  have HA := Lib.hid hA
  have HIX := Lib.hid hix
  obtain ⟨Z, hZ⟩ : ∃ Z : Array Value, (cellsF 256 fun _ => Value.int .i64 0) = Z := ⟨_, rfl⟩
  have hzv := zero256
  rw [hZ] at hzv
  have hg0 : ((w.alloc (.cells A 51)).alloc (.cells Z 51)).heap[w.heap.size]? = some (.cells A 51 (0, 0)) := by
    refine (alloc_old (w := w.alloc (.cells A 51)) (by show _ < (w.heap.push _).size; simp)).trans ?_
    exact heap_alloc_new w (.cells A 51)
  have hi : (Try.prog.info? 51).map (·.size) = some A.size := by rw [hsz]; exact info256
  have hZs : Z.size = 256 := by rw [← hZ]; exact cellsF_size _ _
  clear hA hZ hix
  go_enter Try.func30, Try.ntmps30
  go_wp2_with (refine wpList_load_row rfl 51 _ rfl w.heap.size rfl 51 A (0, 0) _ hg0 Try.underlying51 rfl hi ?_)
  have hz1 : ((w.alloc (.cells A 51)).alloc (.cells Z 51)).heap[w.heap.size + 1]? = some (.cells Z 51 (0, 0)) := by
    have := heap_alloc_new (w.alloc (.cells A 51)) (.cells Z 51)
    have hz : (w.alloc (.cells A 51)).heap.size = w.heap.size + 1 := by show (w.heap.push _).size = _; simp
    rw [hz] at this
    exact this
  have HO0 : Hid (ObjF 256 51 ((w.alloc (.cells A 51)).alloc (.cells Z 51)) w.heap.size (cntF L 0)) := Lib.hid (by unfold ObjF; rw [HA.out]; exact hg0)
  have HZ1 := Lib.hid hz1
  have HB0 : Hid (Below w.heap.size w ((w.alloc (.cells A 51)).alloc (.cells Z 51))) := Lib.hid (((Below.refl _ _).alloc (Nat.le_refl _) _).alloc (by show w.heap.size ≤ (w.heap.push _).size; simp) _)
  clear hg0 hz1
  go_loopw [7, 3] (fun vi va wr => ∃ i q : Nat, vi = .int .i64 (i : Int) ∧ i ≤ 256 ∧ va = .int .i64 (q : Int) ∧ q = UnM.fst_ L i ∧ ObjF 256 51 wr w.heap.size (cntF L i) ∧ wr.heap[w.heap.size + 1]? = some (.cells Z 51 (0, 0)) ∧ Below w.heap.size w wr) (fun vi _ _ => 256 - (intOf vi).toNat)
  case atStart => exact ⟨0, 0, rfl, by omega, rfl, rfl, HO0.out, HZ1.out, HB0.out⟩
  case round =>
    clear HO0 HZ1 HB0
    obtain ⟨i, q, rfl, hi2, rfl, hq, hO, hZ2, hB⟩ := hrel
    have HO := Lib.hid hO
    have HZ2 := Lib.hid hZ2
    have HB := Lib.hid hB
    have HQ := Lib.hid hq
    have hqb : q ≤ 1000000 := by rw [hq]; exact Nat.le_trans (UnM.fst_le L i) hL
    clear hZ2 hB
    by_cases hin : i < 256
    · have hii : (i : Int) < 256 := by omega
      obtain ⟨c, hc⟩ : ∃ c, UnM.cnt L L.length i = c := ⟨_, rfl⟩
      have hcb : c ≤ 1000000 := by rw [← hc]; exact Nat.le_trans (UnM.cnt_le L _ i) hL
      have hiw : ∀ W, (Instr.index 51 (.agg A) (.int .i64 (i : Int))).run Try.prog W = .ok (.int .i64 (c : Int)) W := fun W => by
        rw [HIX.out i hin W]
        unfold cntF
        rw [if_neg (by omega), hc]
      obtain ⟨q2, hq2⟩ : ∃ q2, q + c = q2 := ⟨_, rfl⟩
      have hq2i : (q : Int) + (c : Int) = (q2 : Int) := by omega
      have hq2w : IntKind.i64.wrap (q2 : Int) = (q2 : Int) := IntWalk.i64_in _ (by omega)
      have HQ2 : Hid (q2 = UnM.fst_ L (i + 1)) := Lib.hid (by
        show q2 = UnM.fst_ L i + UnM.cnt L L.length i
        rw [hc, ← hq, hq2])
      have hcell := hO.cell hin
      have c1 := hcell.1
      have e1 := hcell.2
      have HO2 : Hid (ObjF 256 51 (wr.setCell ⟨w.heap.size, i, none⟩ (.int .i64 (q : Int))) w.heap.size (cntF L (i + 1))) := Lib.hid (by
        refine (hO.set i (.int .i64 (q : Int))).ext (fun k hk => ?_)
        by_cases e : k = i
        · subst e
          rw [upd_same]
          unfold cntF
          rw [if_pos (by omega), hq]
        · rw [upd_ne _ _ e]
          unfold cntF
          by_cases h3 : k < i
          · rw [if_pos h3, if_pos (by omega)]
          · rw [if_neg h3, if_neg (by omega)])
      have HZ3 : Hid ((wr.setCell ⟨w.heap.size, i, none⟩ (.int .i64 (q : Int))).heap[w.heap.size + 1]? = some (.cells Z 51 (0, 0))) := Lib.hid (((show Touch (· = w.heap.size) wr (wr.setCell ⟨w.heap.size, i, none⟩ (.int .i64 (q : Int))) from touch_cell (Touch.refl _ _)).block (w.heap.size + 1) (Array.getElem?_eq_some_iff.1 HZ2.out).1 (by omega)).trans HZ2.out)
      have HB3 : Hid (Below w.heap.size w (wr.setCell ⟨w.heap.size, i, none⟩ (.int .i64 (q : Int)))) := Lib.hid (HB.out.setCell (p := ⟨w.heap.size, i, none⟩) (Nat.le_refl _) _)
      obtain ⟨x0, hx0⟩ : ∃ x0, cntF L i i = x0 := ⟨_, rfl⟩
      rw [hx0] at c1
      clear hO hcell hq hc hq2 hx0
      go_wp2_with fail
      go_roundw
      case rel => exact ⟨i + 1, q2, by go_num, by omega, rfl, HQ2.out, HO2.out, HZ3.out, HB3.out⟩
      case measure => simp [intOf]; omega
    · have hii : ¬ (i : Int) < 256 := by omega
      have hie : i = 256 := by omega
      rw [hie] at HO
      obtain ⟨A2, hA2⟩ : ∃ A2, cellsF 256 (cntF L 256) = A2 := ⟨_, rfl⟩
      have hs2 : A2.size = 256 := by rw [← hA2]; exact cellsF_size _ _
      have ha : A2.all (·.oneCell') = true := by
        rw [← hA2, Array.all_eq_true]
        intro k hk
        simp only [cellsF, List.getElem_toArray, List.getElem_map]
        rfl
      have hc : wr.heap[w.heap.size]? = some (.cells A2 51 (0, 0)) := by rw [← hA2]; exact HO.out
      have hz2 := HZ2.out
      have hi2' : (Try.prog.info? 51).map (·.size) = some A2.size := by rw [hs2]; exact info256
      have hold : Z.size = A2.size := by rw [hZs, hs2]
      have HA2 := Lib.hid hA2
      clear hq hO hie hA2
      go_wp2_with (first | (refine wpList_load_row rfl 51 _ rfl w.heap.size rfl 51 A2 (0, 0) _ hc Try.underlying51 rfl hi2' ?_) | (refine wpList_store_row rfl 51 _ _ rfl (w.heap.size + 1) A2 rfl rfl 51 Z hz2 hi2' hold ha ?_))
      refine bodyPost_ret (v := .agg A2) (results_cell_row rfl _ _ (w.heap.size + 1) 51 A2 (0, 0) _ rfl (setRow_heap wr _ Z A2 51 _ hz2) Try.underlying51 rfl hi2') rfl ⟨by rw [HA2.out], ?_⟩
      exact HB.out.trans ⟨rfl, rfl, rfl, by simp [World.setRow], fun j hj => setRow_other wr _ j _ (by omega)⟩
end Go.Proofs.Ytglpbianmbjoeaa
namespace Go.Proofs.Ytglpbianmbjoeaa
namespace PkM
open Go.RowKit
set_option linter.unusedVariables false
def toI (ps : List Nat) : List Int := ps.map fun (x : Nat) => (x : Int)
theorem toI_length (ps : List Nat) : (toI ps).length = ps.length := by simp [toI]
theorem toI_inj {ps qs : List Nat} : toI ps = toI qs ↔ ps = qs := by
  constructor
  · intro h
    have := congrArg (List.map Int.toNat) h
    simpa [toI, Function.comp_def] using this
  · rintro rfl
    rfl
theorem toI_getD (ps : List Nat) (k : Nat) : (toI ps).getD k 0 = ((ps.getD k 0 : Nat) : Int) := by
  unfold toI
  rw [List.getD_eq_getElem?_getD, List.getElem?_map, List.getD_eq_getElem?_getD]
  cases ps[k]? <;> rfl
theorem toI_app (ps qs : List Nat) : toI (ps ++ qs) = toI ps ++ toI qs := by simp [toI]
end PkM
end Go.Proofs.Ytglpbianmbjoeaa
namespace Go.Proofs.Ytglpbianmbjoeaa
open Go.RowKit BwtM PkM
set_option linter.unusedVariables false
set_option linter.unusedSimpArgs false
theorem at_get (s : ByteArray) {i : Nat} (h : i < s.size) : (s[i].toNat : Int) = (UnM.by_ s.data.toList i : Int) := by
  unfold UnM.by_
  have hl : i < s.data.toList.length := by simpa using h
  rw [List.getD_eq_getElem?_getD, List.getElem?_eq_getElem hl]
  rfl
/-- Between links: k places were linked. -/
def LkSt (B : Nat) (w : World) (t g : Nat) (s : ByteArray) (l : List UInt8) (pl nc k nf : Nat) (tv : Value) : Prop := IsIn B w t g s (UnM.nxt s.data.toList k) (toI (UnM.rowAt s.data.toList k)) l pl nc k nf tv
section
variable {B t g : Nat} {s : ByteArray} {l : List UInt8} {pl nc nf : Nat} {tv : Value}
/-- One more is linked: the row, then what stands at the byte, then how many. -/
theorem LkSt.next {w : World} {k b p : Nat} (h : LkSt B w t g s l pl nc k nf tv) (hk : k < s.size) (hb : UnM.by_ s.data.toList k = b) (hp : UnM.nxt s.data.toList k b = p) :
    LkSt B (((w.setCell ⟨g, p, none⟩ (.int .i64 (k : Int))).setCell ⟨t, 1 + b, none⟩ (.int .i64 ((p + 1 : Nat) : Int))).setCell ⟨t, 261, none⟩ (.int .i64 ((k + 1 : Nat) : Int))) t g s l pl nc (k + 1) nf tv := by
  have hl : s.data.toList.length = s.size := by simp
  have hk2 : k < s.data.toList.length := by omega
  have hpp : p = UnM.pos s.data.toList k := by rw [← hp, ← hb]; rfl
  have hpl : p < s.data.toList.length := by rw [hpp]; exact UnM.pos_lt hk2
  have hrl : (toI (UnM.rowAt s.data.toList k)).length = s.size := h.len
  have h1 := (h.row.cell (i := p) (by omega)).2.2 (k : Int)
  have e1 : (toI (UnM.rowAt s.data.toList k)).set p (k : Int) = toI (UnM.rowAt s.data.toList (k + 1)) := by
    rw [UnM.rowAt_next _ hk2, ← hpp]
    simp [toI, List.map_set]
  rw [e1] at h1
  have h2 := h.linked (touch_cell (Touch.refl _ _)) h1 (by rw [toI_length, toI_length, UnM.rowAt_len, UnM.rowAt_len])
  have hb2 : b < 256 := by rw [← hb]; exact UnM.by_lt _ _
  have h3 := h2.own (touch_cell (Touch.refl _ _)) (h2.obj.setC hb2 (p + 1))
  have h4 := h3.own (touch_cell (Touch.refl _ _)) (h3.obj.set261 (k + 1))
  have e2 : (fun c => if c = b then p + 1 else UnM.nxt s.data.toList k c) = UnM.nxt s.data.toList (k + 1) := by
    funext c
    rw [UnM.nxt_next, hb]
    by_cases e : c = b
    · rw [if_pos e, if_pos e, e, hp]
    · rw [if_neg e, if_neg e]
  rw [e2] at h4
  exact h4
set_option maxRecDepth 100000 in
set_option maxHeartbeats 8000000 in
theorem unlink_any (w : World) (k q : Nat) (h : LkSt B w t g s l pl nc k nf tv) (hk : k ≤ s.size) (hs : s.size ≤ 1000000) (hq : q ≤ 9223372036854775807) :
    Calls Try.prog 26 #[.pointer (some ⟨t, 0, none⟩), .int .i64 (q : Int)] w fun e w' => e = .returned (.int .i64 ((min q (s.size - k) : Nat) : Int)) ∧ LkSt B w' t g s l pl nc (k + min q (s.size - k)) nf tv ∧ Touch (fun x => x = t ∨ x = g) w w' := by
  obtain ⟨c0, c2, _, _, _, c6, _⟩ := h.obj.cells
  obtain ⟨d, hd⟩ : ∃ d, s.size - k = d := ⟨_, rfl⟩
  have hdi : (s.size : Int) - (k : Int) = (d : Int) := by omega
  have hdw : IntKind.i64.wrap (d : Int) = (d : Int) := IntWalk.i64_in _ (by omega)
  obtain ⟨n, hn⟩ : ∃ n, min q d = n := ⟨_, rfl⟩
  have hmin : min (q : Int) (d : Int) = (n : Int) := by omega
  have hnd : n ≤ d := by omega
  have hkn : k + n ≤ s.size := by omega
  rw [hd, hn]
  have H := Lib.hid h
  have HT0 : Hid (Touch (fun x => x = t ∨ x = g) w w) := Lib.hid (Touch.refl _ _)
  have HLT := Lib.hid (And.intro h.gt (And.intro h.obj.lt h.row.lt))
  have hcs : (d < q ∧ n = d) ∨ (¬ d < q ∧ n = q) := by omega
  clear h hd hn hmin
  rcases hcs with ⟨hdq, rfl⟩ | ⟨hdq, rfl⟩
  all_goals
    go_enter Try.func26, Try.ntmps26
    go_wp2_with fail
    go_quiet (fail)
    go_wp2_with fail
    go_loopw [20] (fun vj wr => ∃ (j m : Nat), vj = .int .i64 (j : Int) ∧ j ≤ n ∧ LkSt B wr t g s l pl nc (k + j) nf tv ∧ Touch (fun x => x = t ∨ x = g) w wr) (fun vj _ => n - (intOf vj).toNat)
    case atStart => exact ⟨0, 0, rfl, Nat.zero_le _, IsIn.below H.out (below_drewN _ _), touch_drewN _ _ _⟩
    case round =>
      clear H HT0 c0 c2 c6
      obtain ⟨j, _, rfl, hj, hI, hT⟩ := hrel
      have hI : LkSt B wr t g s l pl nc (k + j) nf tv := hI
      unfold LkSt at hI
      have HI := Lib.hid hI
      have HT := Lib.hid hT
      obtain ⟨kj, hkj⟩ : ∃ kj, k + j = kj := ⟨_, rfl⟩
      rw [hkj] at HI hI
      have HKJ := Lib.hid hkj
      obtain ⟨c0, c2, _, _, _, c6, _⟩ := hI.obj.cells
      have e6 := hI.obj.frozen 261 (by omega)
      by_cases hjn : j < n
      · have hji : (j : Int) < (n : Int) := by omega
        have hks : kj < s.size := by omega
        have hat := at_get s hks
        obtain ⟨b, hb⟩ : ∃ b, UnM.by_ s.data.toList kj = b := ⟨_, rfl⟩
        have hb2 : b < 256 := by rw [← hb]; exact UnM.by_lt _ _
        rw [hb] at hat
        have cb := hI.obj.count hb2
        have eb := hI.obj.frozen (1 + b) (by omega)
        obtain ⟨p, hp⟩ : ∃ p, UnM.nxt s.data.toList kj b = p := ⟨_, rfl⟩
        rw [hp] at cb
        have hNX := LkSt.next hI hks hb hp
        have hsl : s.data.toList.length = s.size := by simp
        have hpl : p < s.size := by
          rw [← hp, ← hb, ← hsl]
          exact UnM.pos_lt (by rw [hsl]; exact hks)
        have hrw := hI.row.cell (i := p) (by rw [hI.len]; exact hpl)
        have er := hrw.2.1
        have HNX := Lib.hid (fun W (h : IsIn B W t g s (UnM.nxt s.data.toList kj) (toI (UnM.rowAt s.data.toList kj)) l pl nc kj nf tv) => LkSt.next h hks hb hp)
        have hpr : p < (toI (UnM.rowAt s.data.toList kj)).length := by rw [hI.len]; exact hpl
        have HPR := Lib.hid hpr
        have HBB := Lib.hid hb
        have HPP := Lib.hid hp
        have hpi : (p : Int) < (s.size : Int) := by omega
        obtain ⟨k1, hk1⟩ : ∃ k1, kj + 1 = k1 := ⟨_, rfl⟩
        have hk1i : (kj : Int) + 1 = (k1 : Int) := by omega
        have hk1w : IntKind.i64.wrap (k1 : Int) = (k1 : Int) := IntWalk.i64_in _ (by omega)
        obtain ⟨p1, hp1⟩ : ∃ p1, p + 1 = p1 := ⟨_, rfl⟩
        have hp1i : (p : Int) + 1 = (p1 : Int) := by omega
        have hp1w : IntKind.i64.wrap (p1 : Int) = (p1 : Int) := IntWalk.i64_in _ (by omega)
        have HK1 := Lib.hid (And.intro hk1 hp1)
        clear hI hT hNX hb hp hrw hkj hsl hpr hk1 hp1
        go_wp2_with fail
        go_quiet (fail)
        go_wp2_with fail
        have HI2 : Hid (IsIn B (wr.drewN nq) t g s (UnM.nxt s.data.toList kj) (toI (UnM.rowAt s.data.toList kj)) l pl nc kj nf tv) := Lib.hid (IsIn.below HI.out (below_drewN wr nq))
        have HT2 : Hid (Touch (fun x => x = t ∨ x = g) w (wr.drewN nq)) := Lib.hid (HT.out.trans (touch_drewN _ wr nq) (fun _ h => h))
        clear HI HT c0 c2 c6 e6 cb eb er
        generalize wr.drewN nq = wb at *
        obtain ⟨c0, c2, _, _, _, c6, _⟩ := HI2.out.obj.cells
        have e6 := HI2.out.obj.frozen 261 (by omega)
        have cb := HI2.out.obj.count hb2
        rw [HPP.out] at cb
        have eb := HI2.out.obj.frozen (1 + b) (by omega)
        have er := (HI2.out.row.cell HPR.out).2.1
        have cr := (HI2.out.row.cell HPR.out).1
        generalize (toI (UnM.rowAt s.data.toList kj)).getD p 0 = v0 at cr
        have hgt := HLT.out.1
        have I3 := IsIn.below HI2.out (below_drewN wb 1)
        obtain ⟨W5, hW5⟩ : ∃ W5, (wb.drewN 1).setCell ⟨g, p, none⟩ (.int .i64 (kj : Int)) = W5 := ⟨_, rfl⟩
        have t5 : Touch (· = g) (wb.drewN 1) W5 := by rw [← hW5]; exact touch_cell (Touch.refl _ _)
        have o5 := I3.obj.other t5 (fun e => hgt e.symm)
        obtain ⟨W6, hW6⟩ : ∃ W6, W5.setCell ⟨t, 1 + b, none⟩ (.int .i64 (p1 : Int)) = W6 := ⟨_, rfl⟩
        have t6 : Touch (· = t) W5 W6 := by rw [← hW6]; exact touch_cell (Touch.refl _ _)
        have o6 := o5.setC hb2 p1
        rw [hW6] at o6
        obtain ⟨W7, hW7⟩ : ∃ W7, W6.setCell ⟨t, 261, none⟩ (.int .i64 (k1 : Int)) = W7 := ⟨_, rfl⟩
        have t7 : Touch (· = t) W6 W7 := by rw [← hW7]; exact touch_cell (Touch.refl _ _)
        have t5' : Touch (fun x => x = t ∨ x = g) (wb.drewN 1) W5 := t5.mono (fun _ h => Or.inr h)
        have t6' : Touch (fun x => x = t ∨ x = g) W5 W6 := t6.mono (fun _ h => Or.inl h)
        have t7' : Touch (fun x => x = t ∨ x = g) W6 W7 := t7.mono (fun _ h => Or.inl h)
        have HT7 : Hid (Touch (fun x => x = t ∨ x = g) w W7) := Lib.hid ((((HT2.out.trans (touch_drewN _ wb 1) (fun _ h => h)).trans t5' (fun _ h => Or.inl h)).trans t6' (fun _ h => Or.inl h)).trans t7' (fun _ h => Or.inl h))
        have HF7 : Hid (LkSt B W7 t g s l pl nc (k + (j + 1)) nf tv) := Lib.hid (by
          have hf := HNX.out _ I3
          rw [HK1.out.1, HK1.out.2, hW5, hW6, hW7] at hf
          have ek : k + (j + 1) = k1 := by
            have h1 := HK1.out.1
            have h2 := HKJ.out
            omega
          rw [ek]
          exact hf)
        have cb5 := o5.count hb2
        rw [HPP.out] at cb5
        have eb5 := o5.frozen (1 + b) (by omega)
        obtain ⟨_, _, _, _, _, c66, _⟩ := o6.cells
        have e66 := o6.frozen 261 (by omega)
        clear I3 t5 t6 t7 t5' t6' t7' o5 o6 hgt
        go_still_tail 12, (by kernel_rfl)
        change wpList _ _ _ _ _ (wb.drewN 1)
        go_wp2_with fail
        go_roundw
        case rel => exact ⟨j + 1, 0, by go_num, by omega, HF7.out, HT7.out⟩
        case measure => simp [intOf]; omega
      · have hji : ¬ (j : Int) < (n : Int) := by omega
        have HE : Hid (kj = k + n) := Lib.hid (by omega)
        clear hI hT hkj
        go_wp2_with fail
        go_ret
        exact ⟨rfl, by rw [← HE.out]; exact HI.out, HT.out⟩
end
end Go.Proofs.Ytglpbianmbjoeaa
namespace Go.Proofs.Ytglpbianmbjoeaa
open Go.RowKit BwtM PkM
set_option linter.unusedVariables false
set_option linter.unusedSimpArgs false
theorem un_len (s : ByteArray) : s.data.toList.length = s.size := by simp
theorem cnt_set (L : List UInt8) (k b p : Nat) (hb : UnM.by_ L k = b) (hp : UnM.cnt L k b = p) : (fun c => if c = b then p + 1 else UnM.cnt L k c) = UnM.cnt L (k + 1) := by
  funext c
  rw [UnM.cnt_next, hb]
  by_cases e : c = b
  · rw [if_pos e, if_pos e.symm, e, hp]
  · rw [if_neg e, if_neg (fun h => e h.symm)]; rfl
theorem cntF_zero (L : List UInt8) (b : Nat) : cntF L 0 b = .int .i64 (UnM.cnt L L.length b : Int) := by unfold cntF; rw [if_neg (by omega)]
theorem cntF_all (L : List UInt8) (b : Nat) (hb : b < 256) : cntF L 256 b = .int .i64 (UnM.nxt L 0 b : Int) := by
  unfold cntF UnM.nxt
  rw [if_pos hb, UnM.cnt_zero, Nat.add_zero]
/-- The array inside an inverter, loaded whole. -/
theorem InObj.counts {w : World} {t : Nat} {s : ByteArray} {C : Nat → Nat} {lv tv : Value} {pl nc nl nf : Nat} (h : InObj w t s C lv pl tv nc nl nf) : (loadVar 51 ⟨t, 1, none⟩).run Try.prog w = .ok (.agg (cellsF 256 fun b => .int .i64 (C b : Int))) w := by
  have hl : (loadCells ⟨t, 1, none⟩ 256).run Try.prog w = .ok (cellsF 256 fun b => .int .i64 (C b : Int)) w := by
    have := run_loadCells_list (P := Try.prog) w ⟨t, 1, none⟩ ((List.range 256).map fun b => Value.int .i64 (C b : Int)) (fun j v hv => by
      rw [List.getElem?_map] at hv
      obtain ⟨b, hb, rfl⟩ := Option.map_eq_some_iff.1 hv
      obtain ⟨h1, h2⟩ := List.getElem?_eq_some_iff.1 hb
      simp only [List.length_range] at h1
      simp only [List.getElem_range] at h2
      subst h2
      have hadd : (⟨t, 1, none⟩ : Addr).add j = ⟨t, 1 + j, none⟩ := Addr.add_lit _ _ _
      rw [hadd]
      exact h.count h1)
    rw [List.length_map, List.length_range] at this
    exact this
  have hagg : (isAgg 51).run Try.prog w = .ok true w := by
    unfold isAgg
    rw [Sem.run_bind, run_underlying Try.underlying51 w]
    rfl
  have hi := info256
  cases hq : Try.prog.info? 51 with
  | none => simp [hq] at hi
  | some i =>
    have hs : i.size = 256 := by simpa [hq] using hi
    simp [loadVar, Sem.run_bind, hagg, sizeOf, typeInfo, hq, hs, hl]
/-- The array inside an inverter, stored whole. -/
theorem InObj.setAll {w : World} {t : Nat} {s : ByteArray} {C D : Nat → Nat} {lv tv : Value} {pl nc nl nf : Nat} (h : InObj w t s C lv pl tv nc nl nf) (X : Nat → Value) (hX : ∀ b, b < 256 → X b = .int .i64 (D b : Int)) : ∃ G, (storeVar 51 ⟨t, 1, none⟩ (.agg (cellsF 256 X))).run Try.prog w = .ok () (w.setRow t G) ∧ InObj (w.setRow t G) t s D lv pl tv nc nl nf := by
  obtain ⟨F, h1, h2⟩ := h
  have hlen : ((List.range 256).map X).length = 256 := by rw [List.length_map, List.length_range]
  have hst := run_storeCells_at (P := Try.prog) t 1 53 ((List.range 256).map X) 0 (cellsF 263 F) w h1 (by rw [hlen, cellsF_size]; omega) (fun v hv => by
    obtain ⟨b, hb, rfl⟩ := List.mem_map.1 hv
    rw [hX b (List.mem_range.1 hb)]
    rfl)
  simp only [Nat.add_zero] at hst
  rw [cellsF_part 263 F 1 _ (by rw [hlen]; omega), hlen] at hst
  refine ⟨cellsF 263 (fun k => if k < 1 then F k else if k < 1 + 256 then ((List.range 256).map X).getD (k - 1) (F k) else F k), ?_, ⟨_, setRow_heap w t _ _ _ _ h1, ?_⟩⟩
  · have hi := info256
    cases hq : Try.prog.info? 51 with
    | none => simp [hq] at hi
    | some i =>
      have hs : i.size = 256 := by simpa [hq] using hi
      have hz : (cellsF 256 X).size = 256 := cellsF_size _ _
      have hl : (cellsF 256 X).toList = (List.range 256).map X := by simp [cellsF]
      simp [storeVar, sizeOf, typeInfo, hq, Value.cells, hs, hz, hl, hst]
  · refine ⟨?_, fun b hb => ?_, ?_, ?_, ?_, ?_, ?_, ?_⟩
    · rw [if_pos (by omega)]; exact h2.f0
    · rw [if_neg (by omega), if_pos (by omega), show 1 + b - 1 = b by omega, List.getD_eq_getElem?_getD, List.getElem?_map, List.getElem?_range hb]
      exact hX b hb
    · rw [if_neg (by omega), if_neg (by omega)]; exact h2.f257
    · rw [if_neg (by omega), if_neg (by omega)]; exact h2.f258
    · rw [if_neg (by omega), if_neg (by omega)]; exact h2.f259
    · rw [if_neg (by omega), if_neg (by omega)]; exact h2.f260
    · rw [if_neg (by omega), if_neg (by omega)]; exact h2.f261
    · rw [if_neg (by omega), if_neg (by omega)]; exact h2.f262
theorem wpList_loadRun {P : Program} {ops : Array Oper} {rest : List Oper} {o : Oper} {a : Act} {w : World} {Q : Exit → Act → World → Prop} (hgd : o.guard = none) (ty : TypeId) (x : Operand) (ho : o.op = .load ty x) (p : Addr) (hx : a.eval x = .pointer (some p)) (v : Value)
    (hl : (loadVar ty p).run P w = .ok v w) (h : wpList P ops Q rest (a.put o.dst v) w) : wpList P ops Q (o :: rest) a w :=
  wpList_plain hgd fun _ hK => by
    unfold Oper.wp execOp
    simp only [ho, hx, Instr.loadAt, Instr.sureAddr, Sem.run_bind, Sem.run_pure, Result.andThen_ok, hl]
    exact hK _ _ h
theorem wpList_storeRun {P : Program} {ops : Array Oper} {rest : List Oper} {o : Oper} {a : Act} {w w' : World} {Q : Exit → Act → World → Prop} (hgd : o.guard = none) (ty : TypeId) (x y : Operand) (ho : o.op = .store ty x y) (p : Addr) (hx : a.eval x = .pointer (some p)) (v : Value) (hy : a.eval y = v)
    (hl : (storeVar ty p v).run P w = .ok () w') (h : wpList P ops Q rest (a.put o.dst undef) w') : wpList P ops Q (o :: rest) a w :=
  wpList_plain hgd fun _ hK => by
    unfold Oper.wp execOp
    simp only [ho, hx, hy, Instr.storeAt, Instr.sureAddr, Sem.run_bind, Sem.run_pure, Result.andThen_ok, hl]
    exact hK _ _ h
set_option maxRecDepth 100000 in
theorem at256 (t : Nat) {b : Nat} (hb : b < 256) (W : World) : (Instr.indexAt 51 (.pointer (some ⟨t, 1, none⟩)) (.int .u8 (b : Int))).run Try.prog W = .ok (.pointer (some ⟨t, 1 + b, none⟩)) W := by
  have e : Try.prog.arrayLen 51 = 256 := by kernel_rfl
  have hs : (sizeOf (Try.prog.elem 51)).run Try.prog W = .ok 1 W := by kernel_rfl
  rw [run_indexAt_array (P := Try.prog) W 51 ⟨t, 1, none⟩ .u8 (b : Int) (by kernel_rfl), e, if_pos (by omega), hs]
  simp [Result.andThen, Addr.add]
section
variable {B t g : Nat} {s : ByteArray} {zs : List Int} {l : List UInt8} {pl nl nf : Nat} {tv : Value} {C : Nat → Nat}
set_option maxRecDepth 100000 in
set_option maxHeartbeats 8000000 in
/-- Nothing is counted. -/
theorem uncount_none (w : World) (k q : Nat) (h : IsIn B w t g s C zs l pl k nl nf tv) (hk : k ≤ s.size) (hs : s.size ≤ 1000000) (hq : q ≤ 9223372036854775807) (h0 : k = s.size ∨ q = 0) :
    Calls Try.prog 25 #[.pointer (some ⟨t, 0, none⟩), .int .i64 (q : Int)] w fun e w' => e = .returned (.int .i64 0) ∧ ∃ m, w' = w.drewN m := by
  obtain ⟨c0, _, _, _, c5, _, _⟩ := h.obj.cells
  obtain ⟨d, hd⟩ : ∃ d, s.size - k = d := ⟨_, rfl⟩
  have hdi : (s.size : Int) - (k : Int) = (d : Int) := by omega
  have hdw : IntKind.i64.wrap (d : Int) = (d : Int) := IntWalk.i64_in _ (by omega)
  obtain ⟨n, hn⟩ : ∃ n, min q d = n := ⟨_, rfl⟩
  have hn0 : n = 0 := by omega
  have hni : ¬ (0 : Int) < (n : Int) := by omega
  have hng : ¬ (n : Int) > 0 := by omega
  have HN := Lib.hid hn0
  have hcs : (d < q ∧ n = d) ∨ (¬ d < q ∧ n = q) := by omega
  clear h hd hn hn0 hk h0
  rcases hcs with ⟨hdq, rfl⟩ | ⟨hdq, rfl⟩
  all_goals
    go_enter Try.func25, Try.ntmps25
    go_wp2_with fail
    go_quiet (fail)
    go_wp2_with fail
    go_loopw [19] (fun vj wr => vj = .int .i64 0 ∧ ∃ m, wr = w.drewN m) (fun _ _ => 0)
    case atStart => exact ⟨rfl, _, rfl⟩
    case round =>
      obtain ⟨rfl, m, rfl⟩ := hrel
      go_wp2_with fail
      go_quiet (fail)
      go_wp2_with fail
      go_ret
      exact ⟨by rw [HN.out]; rfl, _, drewN_add _ _ _⟩
/-- Between counts: k bytes were counted. -/
def CtSt (B : Nat) (w : World) (t g : Nat) (s : ByteArray) (zs : List Int) (l : List UInt8) (pl k nl nf : Nat) (tv : Value) : Prop := IsIn B w t g s (UnM.cnt s.data.toList k) zs l pl k nl nf tv
/-- One more is counted. -/
theorem CtSt.next {w : World} {k b p : Nat} (h : CtSt B w t g s zs l pl k nl nf tv) (hb : UnM.by_ s.data.toList k = b) (hp : UnM.cnt s.data.toList k b = p) :
    CtSt B ((w.setCell ⟨t, 1 + b, none⟩ (.int .i64 ((p + 1 : Nat) : Int))).setCell ⟨t, 260, none⟩ (.int .i64 ((k + 1 : Nat) : Int))) t g s zs l pl (k + 1) nl nf tv := by
  have hb2 : b < 256 := by rw [← hb]; exact UnM.by_lt _ _
  have h3 := h.own (touch_cell (i := 1 + b) (Touch.refl _ _)) (h.obj.setC hb2 (p + 1))
  have h4 := h3.own (touch_cell (i := 260) (Touch.refl _ _)) (h3.obj.set260 (k + 1))
  rw [cnt_set _ _ _ _ hb hp] at h4
  exact h4
def cntS (L : List UInt8) (n k : Nat) : Nat → Nat := if k = n then UnM.nxt L 0 else UnM.cnt L k
set_option maxRecDepth 100000 in
set_option maxHeartbeats 8000000 in
theorem uncount_any (w : World) (k q : Nat) (h : CtSt B w t g s zs l pl k nl nf tv) (hk : k < s.size) (hs : s.size ≤ 1000000) (hq : q ≤ 9223372036854775807) (h0 : 0 < q) :
    Calls Try.prog 25 #[.pointer (some ⟨t, 0, none⟩), .int .i64 (q : Int)] w fun e w' => e = .returned (.int .i64 ((min q (s.size - k) : Nat) : Int)) ∧ IsIn B w' t g s (cntS s.data.toList s.size (k + min q (s.size - k))) zs l pl (k + min q (s.size - k)) nl nf tv ∧ Touch (· = t) w w' := by
  obtain ⟨c0, _, _, _, c5, _, _⟩ := h.obj.cells
  obtain ⟨d, hd⟩ : ∃ d, s.size - k = d := ⟨_, rfl⟩
  have hdi : (s.size : Int) - (k : Int) = (d : Int) := by omega
  have hdw : IntKind.i64.wrap (d : Int) = (d : Int) := IntWalk.i64_in _ (by omega)
  obtain ⟨n, hn⟩ : ∃ n, min q d = n := ⟨_, rfl⟩
  have hnd : n ≤ d := by omega
  have hkn : k + n ≤ s.size := by omega
  have hn0 : 0 < n := by omega
  have hng : (n : Int) > 0 := by omega
  rw [hd, hn]
  have H := Lib.hid h
  have HT0 : Hid (Touch (· = t) w w) := Lib.hid (Touch.refl _ _)
  have hcs : (d < q ∧ n = d) ∨ (¬ d < q ∧ n = q) := by omega
  clear h hd hn
  rcases hcs with ⟨hdq, rfl⟩ | ⟨hdq, rfl⟩
  all_goals
    go_enter Try.func25, Try.ntmps25
    go_wp2_with fail
    go_quiet (fail)
    go_wp2_with fail
    go_loopw [19] (fun vj wr => ∃ (j m : Nat), vj = .int .i64 (j : Int) ∧ j ≤ n ∧ CtSt B wr t g s zs l pl (k + j) nl nf tv ∧ Touch (· = t) w wr) (fun vj _ => n - (intOf vj).toNat)
    case atStart => exact ⟨0, 0, rfl, Nat.zero_le _, IsIn.below H.out (below_drewN _ _), touch_drewN _ _ _⟩
    case round =>
      clear H HT0 c0 c5
      obtain ⟨j, _, rfl, hj, hI, hT⟩ := hrel
      have hI : CtSt B wr t g s zs l pl (k + j) nl nf tv := hI
      unfold CtSt at hI
      have HI := Lib.hid hI
      have HT := Lib.hid hT
      obtain ⟨kj, hkj⟩ : ∃ kj, k + j = kj := ⟨_, rfl⟩
      rw [hkj] at HI hI
      have HKJ := Lib.hid hkj
      obtain ⟨c0, c2, _, _, c5, _, _⟩ := hI.obj.cells
      have e5 := hI.obj.frozen 260 (by omega)
      by_cases hjn : j < n
      · have hji : (j : Int) < (n : Int) := by omega
        have hks : kj < s.size := by omega
        have hat := at_get s hks
        obtain ⟨b, hb⟩ : ∃ b, UnM.by_ s.data.toList kj = b := ⟨_, rfl⟩
        have hb2 : b < 256 := by rw [← hb]; exact UnM.by_lt _ _
        rw [hb] at hat
        have cb := hI.obj.count hb2
        have eb := hI.obj.frozen (1 + b) (by omega)
        obtain ⟨p, hp⟩ : ∃ p, UnM.cnt s.data.toList kj b = p := ⟨_, rfl⟩
        rw [hp] at cb
        have hpk : p ≤ kj := by rw [← hp]; exact UnM.cnt_le _ _ _
        have HNX := Lib.hid (fun W (h : CtSt B W t g s zs l pl kj nl nf tv) => CtSt.next h hb hp)
        have HBB := Lib.hid hb
        have HPP := Lib.hid hp
        obtain ⟨k1, hk1⟩ : ∃ k1, kj + 1 = k1 := ⟨_, rfl⟩
        have hk1i : (kj : Int) + 1 = (k1 : Int) := by omega
        have hk1w : IntKind.i64.wrap (k1 : Int) = (k1 : Int) := IntWalk.i64_in _ (by omega)
        obtain ⟨p1, hp1⟩ : ∃ p1, p + 1 = p1 := ⟨_, rfl⟩
        have hp1i : (p : Int) + 1 = (p1 : Int) := by omega
        have hp1w : IntKind.i64.wrap (p1 : Int) = (p1 : Int) := IntWalk.i64_in _ (by omega)
        have HK1 := Lib.hid (And.intro hk1 hp1)
        clear hI hT hb hp hkj hk1 hp1
        go_wp2_with fail
        have I3 := IsIn.below HI.out (below_drewN wr 1)
        obtain ⟨W5, hW5⟩ : ∃ W5, (wr.drewN 1).setCell ⟨t, 1 + b, none⟩ (.int .i64 (p1 : Int)) = W5 := ⟨_, rfl⟩
        have o5 := I3.obj.setC hb2 p1
        rw [hW5] at o5
        obtain ⟨_, _, _, _, c55, _, _⟩ := o5.cells
        have e55 := o5.frozen 260 (by omega)
        obtain ⟨W6, hW6⟩ : ∃ W6, W5.setCell ⟨t, 260, none⟩ (.int .i64 (k1 : Int)) = W6 := ⟨_, rfl⟩
        have HF6 : Hid (CtSt B W6 t g s zs l pl (k + (j + 1)) nl nf tv) := Lib.hid (by
          have hf := HNX.out _ I3
          rw [HK1.out.1, HK1.out.2, hW5, hW6] at hf
          have ek : k + (j + 1) = k1 := by
            have h1 := HK1.out.1
            have h2 := HKJ.out
            omega
          rw [ek]
          exact hf)
        have HT6 : Hid (Touch (· = t) w W6) := Lib.hid (by
          rw [← hW6, ← hW5]
          exact touch_cell (touch_cell (HT.out.trans (touch_drewN _ wr 1) (fun _ h => Or.inl h))))
        have hix := fun W => at256 t hb2 W
        clear I3 o5
        go_still_tail 18, (by kernel_rfl)
        change wpList _ _ _ _ _ (wr.drewN 1)
        go_wp2_with fail
        go_roundw
        case rel => exact ⟨j + 1, 0, by go_num, by omega, HF6.out, HT6.out⟩
        case measure => simp [intOf]; omega
      · have hji : ¬ (j : Int) < (n : Int) := by omega
        have HE : Hid (kj = k + n) := Lib.hid (by omega)
        clear hI hT hkj
        by_cases hkn2 : k + n = s.size
        · have hE : ((kj : Int) == (s.size : Int)) = true := by have he := HE.out; rw [beq_iff_eq]; omega
          have HL : Hid (kj = s.data.toList.length) := Lib.hid (by have he := HE.out; rw [un_len]; omega)
          have HCS : Hid (cntS s.data.toList s.size (k + n) = UnM.nxt s.data.toList 0) := Lib.hid (by
            unfold cntS
            rw [if_pos hkn2])
          clear hkn2
          go_wp2_with fail
          go_quiet (fail)
          have HI2 : Hid (CtSt B (wr.drewN nq) t g s zs l pl kj nl nf tv) := Lib.hid (IsIn.below HI.out (below_drewN wr nq))
          have HT2 : Hid (Touch (· = t) w (wr.drewN nq)) := Lib.hid (HT.out.trans (touch_drewN _ wr nq) (fun _ h => Or.inl h))
          clear HI HT c0 c2 c5 e5
          generalize wr.drewN nq = wb at *
          have hld := InObj.counts HI2.out.obj
          rw [show (cellsF 256 fun b => Value.int .i64 (UnM.cnt s.data.toList kj b : Int)) = cellsF 256 (cntF s.data.toList 0) from cellsF_congr (fun b hb => by rw [cntF_zero, HL.out])] at hld
          have HFI := Lib.hid (unfirsts_any s.data.toList wb (by rw [un_len]; exact hs))
          have HX := Lib.hid (fun b hb => cntF_all s.data.toList b hb)
          obtain ⟨A, hA⟩ : ∃ A, cellsF 256 (cntF s.data.toList 0) = A := ⟨_, rfl⟩
          rw [hA] at hld HFI
          clear hA
          go_wp2_with (refine wpList_loadRun rfl 51 _ rfl ⟨t, 1, none⟩ rfl _ hld ?_)
          refine HFI.out.mono ?_
          rintro e w1 ⟨rfl, hb1⟩
          have HI3 := Lib.hid (IsIn.below HI2.out hb1)
          have HT3 : Hid (Touch (· = t) w w1) := Lib.hid (HT2.out.trans (Touch.ofBelow (S := fun _ => False) hb1) (fun _ h => absurd h (fun h => h)))
          obtain ⟨G, hst, hob⟩ := InObj.setAll (D := UnM.nxt s.data.toList 0) HI3.out.obj (cntF s.data.toList 256) HX.out
          obtain ⟨A2, hA2⟩ : ∃ A2, cellsF 256 (cntF s.data.toList 256) = A2 := ⟨_, rfl⟩
          rw [hA2] at hst ⊢
          have ht4 : Touch (· = t) w1 (w1.setRow t G) := ⟨rfl, rfl, rfl, by simp [World.setRow], fun j _ hj => setRow_other w1 t j _ hj⟩
          have HR := Lib.hid (IsIn.own HI3.out ht4 hob)
          have HT4 : Hid (Touch (· = t) w (w1.setRow t G)) := Lib.hid (HT3.out.trans ht4 (fun _ h => Or.inl h))
          clear hb1 hA2 ht4 hob hld
          go_wp2_with (refine wpList_storeRun rfl 51 _ _ rfl ⟨t, 1, none⟩ rfl _ rfl hst ?_)
          go_ret
          refine ⟨rfl, ?_, HT4.out⟩
          rw [HCS.out, ← HE.out]
          exact HR.out
        · have hE : ((kj : Int) == (s.size : Int)) = false := by have he := HE.out; rw [beq_eq_false_iff_ne]; omega
          have HC : Hid (cntS s.data.toList s.size (k + n) = UnM.cnt s.data.toList kj) := Lib.hid (by
            unfold cntS
            rw [if_neg hkn2, HE.out])
          go_wp2_with fail
          go_quiet (fail)
          go_wp2_with fail
          go_ret
          refine ⟨rfl, ?_, HT.out.trans (touch_drewN _ wr _) (fun _ h => Or.inl h)⟩
          rw [HC.out, ← HE.out]
          exact IsIn.below HI.out (below_drewN _ _)
end
end Go.Proofs.Ytglpbianmbjoeaa

/-
  MERGED by seg.py out of: LawKit Foot Row BitsMath Bits BitsR BitsRB BitsRC CrcMath.
-/
import Derived.Test.YtnffkbpgcidpkaaGreatDoorRows
import Derived.WalkKit
import Derived.WalkSpells
import Derived.WalkLawsBesides
import Derived.ProofKit
import Derived.OpenShut
import Derived.ShutString
import Derived.ChangeOld
import Derived.Below
import Derived.Lib.Hide
import Derived.BigQuiet
import Derived.SliceStrings
import Derived.Deep.RegionLaw
import Derived.Deep.AppendSrc
import Derived.Deep.Upon
import Derived.StillTailTactics
namespace Go.Proofs.YtnffkbpgcidpkaaGreatDoor
open Go.ChangeShapes Go.WideShapes Go.ChangeAt Go.RowKit
open Go.ChangeMaps (open_string shut_string)
namespace LawShell
theorem own : ownKnob Tryz.prog.godebug = none := by kernel_rfl
theorem laidOut : laidOutB Tryz.prog = true := by kernel_rfl
end LawShell

/-- WHAT A WALK IS TOLD OF A SLICE OF INTEGERS THAT CAME IN. -/
def IsRow (k : IntKind) (w : World) (a : Option Addr) (len cap : Nat) (zs : List Int) : Prop :=
  (a = none ∧ len = 0 ∧ cap = 0 ∧ zs = []) ∨
  ∃ x, a = some x ∧ len ≤ cap ∧ cap ≤ maxLen ∧ zs.length = cap ∧ (∀ i, i < zs.length → w.cell? (x.add i) = some (.int k (zs.getD i 0))) ∧ ∀ n ∈ zs, (Lit.int k n).wf = true

theorem open_row {H : Type} {enc : TypeId × Value → H} {P : Program} {W : World} {base : Nat} {t e : TypeId} {k : IntKind} {v : Value} {d : DataW H} {p : List MemPlace}
    (ht : P.underlying t = some (.slice e)) (he : P.underlying e = some (.int k)) (hc : P.cellsOf e = 1) (hv : Value.okWide P W .any base t v)
    (h : DataW.Trod enc P W 0 (fun _ => true) true t v d p) : ∃ a len cap zs, v = .slice a len cap ∧ IsRow k W a len cap zs := by
  obtain ⟨a0, len0, cap0, rfl⟩ := okWide_slice ht hv
  obtain ⟨fuel, hf⟩ := h
  rcases open_ints ht he hc hf with ⟨hcs, _⟩ | ⟨x, l, c, zs, hcs, _, hl, hm, hz, _, hcell, hwz⟩
  · simp [Value.cells] at hcs
    obtain ⟨rfl, rfl, rfl⟩ := hcs
    exact ⟨_, _, _, [], rfl, .inl ⟨rfl, rfl, rfl, rfl⟩⟩
  · simp [Value.cells] at hcs
    obtain ⟨rfl, rfl, rfl⟩ := hcs
    exact ⟨_, _, _, zs, rfl, .inr ⟨_, rfl, hl, hm, by simpa using hz, hcell, hwz⟩⟩

/-- WHAT A WALK IS TOLD OF A SLICE OF STRINGS THAT CAME IN. -/
def IsStrs (w : World) (a : Option Addr) (len _cap : Nat) (ss : List ByteArray) : Prop :=
  ss.length = len ∧ len ≤ maxLen ∧ (∀ i, i < len → ∃ b off, a = some ⟨b, off, none⟩ ∧ w.cell? ⟨b, off + i, none⟩ = some (.string (ss.getD i ByteArray.empty))) ∧ ∀ s ∈ ss, s.size ≤ maxLen
theorem open_strs {H : Type} {enc : TypeId × Value → H} {P : Program} {W : World} {base : Nat} {t e : TypeId} {v : Value} {d : DataW H} {p : List MemPlace}
    (ht : P.underlying t = some (.slice e)) (he : P.underlying e = some .string) (hc : P.cellsOf e = 1) (hv : Value.okWide P W .any base t v)
    (h : DataW.Trod enc P W 0 (fun _ => true) true t v d p) : ∃ a len cap ss, v = .slice a len cap ∧ IsStrs W a len cap ss := by
  obtain ⟨a0, len0, cap0, rfl⟩ := okWide_slice ht hv
  obtain ⟨fuel, hf⟩ := h
  rcases open_strings ht he hc hf with ⟨hcs, _⟩ | ⟨x, l, c, ss, hcs, _, hl, hm, hz, _, hcell, hws⟩
  · simp [Value.cells] at hcs
    obtain ⟨rfl, rfl, rfl⟩ := hcs
    exact ⟨_, _, _, [], rfl, rfl, by decide, fun i hi => by omega, fun s hs => by simp at hs⟩
  · simp [Value.cells] at hcs
    obtain ⟨rfl, rfl, rfl⟩ := hcs
    simp only [if_true] at hz
    refine ⟨_, _, _, ss.take len0, rfl, by simp; omega, by omega, fun i hi => ?_, fun s hs => hws s (List.mem_of_mem_take hs)⟩
    have hi' := hcell i (by omega)
    obtain ⟨b, off, spot⟩ := x
    have hspot : spot = none := by simpa [Addr.add] using World.cell?_spot (hcell 0 (by omega))
    subst hspot
    refine ⟨b, off, rfl, ?_⟩
    rw [← add_plain, hi']
    simp [List.getD, hi]

theorem below_setRow {B : Nat} {a w : World} (h : Below B a w) {g : Nat} (hg : B ≤ g) (cs : Array Value) : Below B a (w.setRow g cs) :=
  h.trans ⟨rfl, rfl, rfl, by simp [World.setRow], fun j hj => setRow_other _ _ j _ (by omega)⟩
theorem setRow_size (w : World) (g : Nat) (cs : Array Value) : (w.setRow g cs).heap.size = w.heap.size := by simp [World.setRow]

/-! ### A region that draws its order, whose callees may make memory of their own: the class of worlds in which every block that stood ahead of the region is as it was -/
/-- The worlds that are as w below block number B. -/
structure Beneath (B : Nat) (w : World) : Type where
  val : World
  is : Below B w val
instance (B : Nat) (w : World) : Nonempty (Beneath B w) := ⟨⟨w, Below.refl _ _⟩⟩
theorem Beneath.cell {B : Nat} {w : World} {p : Addr} {v : Value} (h : w.cell? p = some v) (hB : p.block < B) (s : Beneath B w) : s.val.cell? p = some v := (s.is.cell hB).trans h
theorem wp_region_beneath {P : Program} {id : Nat} {Q : Exit → Act → World → Prop} {a : Act} {w : World} {l : List Oper} (B : Nat) (w0 : World) (h0 : Below B w0 w) (hm : P.follows .mixedOrders = true) (hB : Region.lexB .any l.toArray = true)
    (h : wpQuiet P l.toArray (fun w' => ∃ s : Beneath B w0, w' = s.val) (fun a' => ∀ w', (∃ s : Beneath B w0, w' = s.val) → Q .normal a' w') l a) : (Code.region id l.toArray true).wp P Q a w :=
  wp_region_quiet (C := fun w' => ∃ s : Beneath B w0, w' = s.val) hm hB ⟨⟨w.drew, h0.drew⟩, rfl⟩ (by simpa using h)
/-- A callee that makes memory of its own alone. -/
theorem Calls.beneath {P : Program} {f : FuncId} {args : Array Value} {B : Nat} {w : World} {v : Value} (s : Beneath B w) (hB : B ≤ w.heap.size)
    (h : Calls P f args s.val fun e w' => e = .returned v ∧ Below s.val.heap.size s.val w') : Calls P f args s.val fun e w'' => e = .returned v ∧ ∃ s' : Beneath B w, w'' = s'.val :=
  h.mono fun _ w' ⟨he, hb⟩ => ⟨he, ⟨w', s.is.trans (hb.mono (Nat.le_trans hB s.is.size))⟩, rfl⟩
/-- A callee that leaves the world alone. -/
theorem Calls.beneath_same {P : Program} {f : FuncId} {args : Array Value} {B : Nat} {w : World} {v : Value} (s : Beneath B w)
    (h : Calls P f args s.val fun e w' => e = .returned v ∧ s.val = w') : Calls P f args s.val fun e w'' => e = .returned v ∧ ∃ s' : Beneath B w, w'' = s'.val :=
  h.mono fun _ _ ⟨he, hb⟩ => ⟨he, s, hb.symm⟩
end Go.Proofs.YtnffkbpgcidpkaaGreatDoor
namespace Go.Proofs.YtnffkbpgcidpkaaGreatDoor
open Go.RowKit

/-- Of what was there only blocks of S may have turned. -/
structure Touch (S : Nat → Prop) (w w' : World) : Prop where
  os : w'.os = w.os
  tape : w'.tape = w.tape
  output : w'.output = w.output
  size : w.heap.size ≤ w'.heap.size
  block : ∀ k, k < w.heap.size → ¬ S k → w'.heap[k]? = w.heap[k]?
namespace Touch
variable {S T : Nat → Prop} {a b c : World}
theorem refl (S : Nat → Prop) (w : World) : Touch S w w := ⟨rfl, rfl, rfl, Nat.le_refl _, fun _ _ _ => rfl⟩
theorem trans (h : Touch S a b) (k : Touch T b c) (hT : ∀ i, T i → S i ∨ a.heap.size ≤ i) : Touch S a c :=
  ⟨k.os.trans h.os, k.tape.trans h.tape, k.output.trans h.output, Nat.le_trans h.size k.size, fun i hi hS =>
    (k.block i (Nat.lt_of_lt_of_le hi h.size) (fun ht => by rcases hT i ht with g | g; exact hS g; omega)).trans (h.block i hi hS)⟩
theorem mono (h : Touch S a b) (hS : ∀ i, S i → T i) : Touch T a b := ⟨h.os, h.tape, h.output, h.size, fun i hi ht => h.block i hi (fun hs => ht (hS i hs))⟩
theorem drew (h : Touch S a b) : Touch S a b.drew := ⟨h.os, h.tape, h.output, h.size, h.block⟩
theorem alloc (h : Touch S a b) (o : Obj) : Touch S a (b.alloc o) :=
  ⟨h.os, h.tape, h.output, by have := h.size; simp; omega, fun i hi hs => (Below.heap_alloc b o i (Nat.lt_of_lt_of_le hi h.size)).trans (h.block i hi hs)⟩
theorem setCell (h : Touch S a b) {p : Addr} (hp : S p.block ∨ a.heap.size ≤ p.block) (v : Value) : Touch S a (b.setCell p v) :=
  ⟨h.os, h.tape, h.output, by simpa [World.setCell] using h.size, fun i hi hs => (heap_setCell_other b p i v (fun e => by rcases hp with g | g; exact hs (e ▸ g); omega)).trans (h.block i hi hs)⟩
theorem grown (h : Touch S a b) {r : Option Nat} (hg : b.grownBy c r) (hr : ∀ i, r = some i → S i ∨ a.heap.size ≤ i) : Touch S a c :=
  ⟨hg.os.trans h.os, hg.tape.trans h.tape, hg.output.trans h.output, Nat.le_trans h.size hg.size, fun i hi hs =>
    (hg.block i (Nat.lt_of_lt_of_le hi h.size) (fun e => by rcases hr i e.symm with g | g; exact hs g; omega)).trans (h.block i hi hs)⟩
theorem ofBelow (h : Below a.heap.size a b) : Touch S a b := ⟨h.os, h.tape, h.output, h.size, fun i hi _ => h.block i hi⟩
theorem below {B : Nat} (h : Touch S a b) (hB : B ≤ a.heap.size) (hS : ∀ i, S i → B ≤ i) : Below B a b :=
  ⟨h.os, h.tape, h.output, h.size, fun i hi => h.block i (by omega) (fun hs => by have := hS i hs; omega)⟩
end Touch
theorem touch_drewN (S : Nat → Prop) (w : World) (n : Nat) : Touch S w (w.drewN n) := ⟨rfl, rfl, rfl, Nat.le_refl _, fun _ _ _ => rfl⟩
theorem touch_cell {b i : Nat} {w0 w : World} {v : Value} (h : Touch (· = b) w0 w) : Touch (· = b) w0 (w.setCell ⟨b, i, none⟩ v) := Touch.setCell (S := (· = b)) (p := ⟨b, i, none⟩) h (Or.inl rfl) v
def u8v (x : UInt8) : Value := .int .u8 (x.toNat : Int)
theorem info5 : (Tryz.prog.info? 5).map (fun i => (i.zero, i.size, i.bytes)) = some (some (.int .u8 0), 1, 1) := by kernel_rfl
/-- What an object with one row of its own may write. -/
def foot (b : Nat) (v : Value) (k : Nat) : Prop := k = b ∨ v.ownBlock = some k
/-- 'append' to a row of the call's own: its block is the old one, or a new one. -/
theorem run_append_own2 {P : Program} (w : World) (base : Nat) (t ty e : TypeId) (i : TypeInfo) (z : Value) (size bytes : Nat) (ht : P.underlying t = some (.slice e)) (hi : P.info? e = some i) (hz : i.zero = some z)
    (hsize : i.size = size) (hby : i.bytes = bytes) (hzs : z.cells.size = size) (hsz : 0 < size)
    (v : Value) (n : Nat) (xs : List Value) (hown : w.ownsRow base e size v n xs)
    (a : Addr) (m c : Nat) (news : List Value) (hl : news.length = m * size) (hnews : ∀ j u, news[j]? = some u → w.cell? (a.add j) = some u) (h1 : ∀ u ∈ news, u.oneCell' = true)
    (h63 : n + m ≤ maxLen) (hbytes : (n + m) * bytes ≤ 140737488355328) (hbase : base ≤ w.heap.size) :
    ∃ v' w', (Builtin.append_ #[t, t] ty #[v, .slice (some a) m c]).run P w = .ok v' w' ∧ w'.ownsRow base e size v' (n + m) (xs ++ news) ∧ w.grownBy w' v.ownBlock ∧
      (∀ k, v'.ownBlock = some k → v.ownBlock = some k ∨ w.heap.size ≤ k) := by
  obtain ⟨v', w', hr, h2, h3, h4⟩ := run_append_own (P := P) w base t ty e i z size bytes ht hi hz hsize hby hzs hsz v n xs hown a m c news hl hnews h1 h63 hbytes hbase
  refine ⟨v', w', hr, h2, h3, fun k hk => ?_⟩
  have hsmall : n + m ≤ 9223372036854775807 := by simp only [maxLen] at h63; omega
  subst hsize
  subst hby
  rcases hown.2 with ⟨rfl, rfl⟩ | ⟨g, cap, cur, rfl, _, hg, hnc, hcm, hcs, htake⟩
  · by_cases hm : m = 0
    · rw [(h4.2 ⟨rfl, hm⟩)] at hk
      simp [Value.ownBlock] at hk
    · have hr2 := run_append_nil (P := P) w t ty e i z ht hi hz a m c news hl hnews (by omega) (by omega) (by have hb := hbytes; simp only [Nat.zero_add] at hb; omega)
      rw [hr] at hr2
      simp only [Result.ok.injEq] at hr2
      rw [hr2.1] at hk
      simp [Value.ownBlock] at hk
      exact Or.inr (by omega)
  · by_cases hroom : n + m ≤ cap
    · have hfit : n * i.size + news.length ≤ cur.size := by rw [hl, hcs, ← Nat.add_mul]; exact Nat.mul_le_mul_right _ hroom
      have hr2 := run_append_room (P := P) w t ty e i ht hi g n cap cur hg a m c news hl hnews h1 hroom hfit
      rw [hr] at hr2
      simp only [Result.ok.injEq] at hr2
      rw [hr2.1] at hk
      exact Or.inl hk
    · have holds : ∀ j u, xs[j]? = some u → w.cell? ((⟨g, 0, none⟩ : Addr).add j) = some u := hown.cells (g := g) rfl
      have hr2 := run_append_grow (P := P) w t ty e i z ht hi hz ⟨g, 0, none⟩ n cap xs hown.1 holds a m c news hl hnews (by omega) (by omega) (growslice_fits (by omega) hbytes)
      rw [hr] at hr2
      simp only [Result.ok.injEq] at hr2
      rw [hr2.1] at hk
      simp [Value.ownBlock] at hk
      exact Or.inr (by omega)
/-- 'append', where an operation of a region that draws its order stands. -/
theorem step_append_own' {P : Program} {ops : Array Oper} {o : Oper} {a : Act} {w : World} {K : Act → World → Prop} {Q : Exit → Act → World → Prop} {E : Prop} (hg : o.guard = none) (s x : Operand) (t : TypeId)
    (ho : o.op = .call { callee := .builtin .append, args := #[s, x], argTypes := #[t, t] })
    (base : Nat) (e : TypeId) (i : TypeInfo) (z : Value) (size bytes : Nat) (ht : P.underlying t = some (.slice e)) (hi : P.info? e = some i) (hz : i.zero = some z)
    (hsize : i.size = size) (hby : i.bytes = bytes) (hzs : z.cells.size = size) (hsz : 0 < size)
    (v : Value) (n : Nat) (xs : List Value) (hs : a.eval s = v) (hown : w.ownsRow base e size v n xs)
    (ad : Addr) (m c : Nat) (news : List Value) (hx : a.eval x = .slice (some ad) m c) (hl : news.length = m * size) (hnews : ∀ j u, news[j]? = some u → w.cell? (ad.add j) = some u) (h1 : ∀ u ∈ news, u.oneCell' = true)
    (h63 : n + m ≤ maxLen) (hbytes : (n + m) * bytes ≤ 140737488355328) (hbase : base ≤ w.heap.size)
    (h : ∀ v' w', w'.ownsRow base e size v' (n + m) (xs ++ news) → w.grownBy w' v.ownBlock → (∀ k, v'.ownBlock = some k → v.ownBlock = some k ∨ w.heap.size ≤ k) → K (a.put o.dst v') w') :
    if Region.wanted o (yielded ops a.tmps) = true then Oper.wp P o a w K Q else E := by
  have hw : Region.wanted o (yielded ops a.tmps) = true := by simp [Region.wanted, hg]
  rw [if_pos hw]
  obtain ⟨v', w', hr, h2, h3, h4⟩ := run_append_own2 (P := P) w base t o.type e i z size bytes ht hi hz hsize hby hzs hsz v n xs hown ad m c news hl hnews h1 h63 hbytes hbase
  unfold Oper.wp execOp
  simp only [ho, resolve, invoke, builtin, Sem.run_bind, Sem.run_pure, Result.andThen_ok, List.map_toArray, List.map_cons, List.map_nil, hs, hx, hr]
  exact h v' w' h2 h3 h4
end Go.Proofs.YtnffkbpgcidpkaaGreatDoor
namespace Go.Proofs.YtnffkbpgcidpkaaGreatDoor
open Go.RowKit
theorem iv {a b : Int} {k : IntKind} (h : a = b) : Value.int k a = Value.int k b := by rw [h]
theorem slice_of_own {w : World} {base e size : Nat} {v : Value} {n : Nat} {xs : List Value} (h : w.ownsRow base e size v n xs) : ∃ a cap, v = .slice a n cap := by
  rcases h.2 with ⟨rfl, rfl⟩ | ⟨g, cap, cur, rfl, _⟩
  · exact ⟨none, 0, rfl⟩
  · exact ⟨_, cap, rfl⟩
theorem ownsRow_other {w w' : World} {base e size : Nat} {v : Value} {n : Nat} {xs : List Value} (h : w.ownsRow base e size v n xs) (he : ∀ k, v.ownBlock = some k → w'.heap[k]? = w.heap[k]?) : w'.ownsRow base e size v n xs := by
  refine ⟨h.1, ?_⟩
  rcases h.2 with hn | ⟨g, cap, cur, rfl, hb, hg, r⟩
  · exact Or.inl hn
  · exact Or.inr ⟨g, cap, cur, rfl, hb, (he g rfl).trans hg, r⟩
theorem ownsRow_far {w : World} {e size : Nat} {v : Value} {n : Nat} {xs : List Value} {base : Nat} (h : w.ownsRow base e size v n xs) (b : Nat) (hb : b < base) (o : Nat) (x : Value) : (w.setCell ⟨b, o, none⟩ x).ownsRow base e size v n xs := by
  refine ⟨h.1, ?_⟩
  rcases h.2 with hn | ⟨g, cap, cur, rfl, hbg, hg, r⟩
  · exact Or.inl hn
  · exact Or.inr ⟨g, cap, cur, rfl, hbg, (heap_setCell_other w ⟨b, o, none⟩ g x (by show g ≠ b; omega)).trans hg, r⟩
/-- The cells of a block that was just made. -/
theorem news_new (w : World) (cs : Array Value) (t : TypeId) (n : Nat) (hn : n = w.heap.size) : ∀ (j : Nat) u, cs.toList[j]? = some u → (w.alloc (.cells cs t)).cell? ((⟨n, 0, none⟩ : Addr).add j) = some u := by
  subst hn
  intro j u hj
  rw [Addr.add_lit, cell_of_row _ _ _ _ _ _ (heap_alloc_new w (.cells cs t)), Nat.zero_add]
  simpa using hj
/-- 'string(x)', x a row of bytes of the call's own. -/
theorem conv_row {W : World} {base : Nat} {v : Value} {n : Nat} {l : List UInt8} (h : W.ownsRow base 5 1 v n (l.map u8v)) :
    (convert 50 9 v).run Tryz.prog W = .ok (.string ⟨l.toArray⟩) W := by
  have hl : l.length = n := by simpa using h.1
  rcases h.2 with ⟨rfl, rfl⟩ | ⟨g, cap, cur, rfl, _, hg, _⟩
  · obtain rfl : l = [] := List.eq_nil_of_length_eq_zero hl
    exact run_convert_bytes_nil W 50 5 Tryz.underlying50 Tryz.underlying5 0 0 9 Tryz.underlying9
  · subst hl
    refine run_convert_bytes_back W 50 9 5 ⟨g, 0, none⟩ cap l Tryz.underlying50 Tryz.underlying5 Tryz.underlying9 (fun j hj => ?_)
    rw [Addr.add_lit, Nat.zero_add, h.cellAt j (by omega)]
    simp [hj, u8v]
theorem bytes_conv (W : World) (b cap : Nat) (l : List UInt8) (m : Nat) (hm : m = l.length) (h : ∀ j x, l[j]? = some x → W.cell? ⟨b, j, none⟩ = some (u8v x)) :
    (convert 50 9 (.slice (some ⟨b, 0, none⟩) m cap)).run Tryz.prog W = .ok (.string ⟨l.toArray⟩) W := by
  subst hm
  refine run_convert_bytes_back W 50 9 5 ⟨b, 0, none⟩ cap l Tryz.underlying50 Tryz.underlying5 Tryz.underlying9 (fun j hj => ?_)
  rw [Addr.add_lit, Nat.zero_add, h j _ (List.getElem?_eq_getElem hj)]
  simp [u8v]
/-- 'string([]byte{x})'. -/
theorem one_conv (w : World) (x : UInt8) (X : Int) (hX : X = (x.toNat : Int)) : (convert 50 9 (.slice (some ⟨w.heap.size, 0, none⟩) 1 1)).run Tryz.prog (w.alloc (.cells #[.int .u8 X] 5)) = .ok (.string ⟨#[x]⟩) (w.alloc (.cells #[.int .u8 X] 5)) := by
  subst hX
  refine bytes_conv _ w.heap.size 1 [x] 1 rfl (fun j y hj => ?_)
  rw [cell_of_row _ _ _ _ _ _ (heap_alloc_new w _)]
  have : j < 1 := (List.getElem?_eq_some_iff.1 hj).1
  obtain rfl : j = 0 := by omega
  have e : x = y := by simpa using hj
  subst e
  rfl
theorem text_eq (s : ByteArray) : s = ⟨s.data.toList.toArray⟩ := by cases s; simp
theorem text_append (a b : List UInt8) : (⟨a.toArray⟩ : ByteArray) ++ ⟨b.toArray⟩ = ⟨(a ++ b).toArray⟩ := by
  apply ByteArray.ext; simp
theorem text_size (a : List UInt8) : (⟨a.toArray⟩ : ByteArray).size = a.length := by show a.toArray.size = _; simp
end Go.Proofs.YtnffkbpgcidpkaaGreatDoor
namespace Go.Proofs.YtnffkbpgcidpkaaGreatDoor
namespace BitM
open Go.RowKit

def bn (b : Bool) : Nat := if b then 1 else 0
/-- The number of a row of bits. -/
def num (l : List Bool) : Nat := l.foldl (fun a b => 2 * a + bn b) 0
theorem num_from (l : List Bool) : ∀ a, l.foldl (fun a b => 2 * a + bn b) a = a * 2 ^ l.length + num l := by
  induction l with
  | nil => intro a; simp [num]
  | cons b l ih =>
    intro a
    have h0 : num (b :: l) = bn b * 2 ^ l.length + num l := by
      show l.foldl _ (2 * 0 + bn b) = _
      rw [ih]; simp
    rw [List.foldl_cons, ih, h0, List.length_cons, Nat.pow_succ, Nat.add_mul, Nat.add_assoc]
    congr 1
    rw [Nat.mul_comm 2 a, Nat.mul_assoc, Nat.mul_comm 2]
theorem num_append (l m : List Bool) : num (l ++ m) = num l * 2 ^ m.length + num m := by
  show (l ++ m).foldl _ 0 = _
  rw [List.foldl_append]
  exact num_from m _
theorem num_nil : num [] = 0 := rfl
theorem num_snoc (l : List Bool) (b : Bool) : num (l ++ [b]) = 2 * num l + bn b := by
  rw [num_append]
  show num l * 2 ^ 1 + (2 * 0 + bn b) = _
  omega
theorem bn_lt (b : Bool) : bn b < 2 := by cases b <;> decide
theorem num_lt (l : List Bool) : num l < 2 ^ l.length := by
  induction l with
  | nil => decide
  | cons b l ih =>
    have e : num (b :: l) = bn b * 2 ^ l.length + num l := by
      show l.foldl _ (2 * 0 + bn b) = _
      rw [num_from]; simp
    have hb := bn_lt b
    rw [e, List.length_cons, Nat.pow_succ]
    have : bn b * 2 ^ l.length ≤ 1 * 2 ^ l.length := Nat.mul_le_mul_right _ (by omega)
    omega
theorem num_take (l : List Bool) (m : Nat) (_h : m ≤ l.length) : num (l.take m) = num l / 2 ^ (l.length - m) := by
  conv => rhs; rw [← List.take_append_drop m l, num_append]
  have hl : (l.drop m).length = l.length - m := by simp
  rw [hl]
  have h2 : (l.take m ++ l.drop m).length - m = l.length - m := by rw [List.take_append_drop]
  rw [h2, Nat.mul_comm, Nat.mul_add_div (Nat.two_pow_pos _), Nat.div_eq_of_lt (by have := num_lt (l.drop m); rwa [hl] at this)]
  rfl
theorem num_drop (l : List Bool) (m : Nat) (_h : m ≤ l.length) : num (l.drop m) = num l % 2 ^ (l.length - m) := by
  conv => rhs; rw [← List.take_append_drop m l, num_append]
  have hl : (l.drop m).length = l.length - m := by simp
  have h2 : (l.take m ++ l.drop m).length - m = l.length - m := by rw [List.take_append_drop]
  rw [hl, h2, Nat.mul_add_mod_self_right, Nat.mod_eq_of_lt (by have := num_lt (l.drop m); rwa [hl] at this)]
theorem num_mid (l : List Bool) (i n : Nat) (h : i + n ≤ l.length) : num ((l.drop i).take n) = num l / 2 ^ (l.length - i - n) % 2 ^ n := by
  rw [num_take _ _ (by simp; omega), num_drop _ _ (by omega), List.length_drop]
  have e : 2 ^ (l.length - i) = 2 ^ (l.length - i - n) * 2 ^ n := by rw [← Nat.pow_add]; congr 1; omega
  rw [e, Nat.mod_mul_right_div_self]

/-- A field: the lowest n bits of v, the highest one first. -/
def field (v : Nat) : Nat → List Bool
  | 0 => []
  | n + 1 => field (v / 2) n ++ [v % 2 == 1]
theorem field_length (v n : Nat) : (field v n).length = n := by
  induction n generalizing v with
  | zero => rfl
  | succ n ih => simp [field, ih]
theorem field_num (v n : Nat) : num (field v n) = v % 2 ^ n := by
  induction n generalizing v with
  | zero => simp [field, num, Nat.mod_one]
  | succ n ih =>
    rw [field, num_snoc, ih]
    have hb : bn (v % 2 == 1) = v % 2 := by
      have : v % 2 = 0 ∨ v % 2 = 1 := by omega
      rcases this with h | h <;> simp [h, bn]
    rw [hb, Nat.pow_succ, Nat.mul_comm (2 ^ n) 2, Nat.mod_mul]
    omega
theorem num_inj : ∀ (l m : List Bool), l.length = m.length → num l = num m → l = m
  | [], [], _, _ => rfl
  | a :: l, b :: m, hl, h => by
    have hl' : l.length = m.length := by simpa using hl
    have e1 : num (a :: l) = bn a * 2 ^ l.length + num l := by show l.foldl _ (2 * 0 + bn a) = _; rw [num_from]; simp
    have e2 : num (b :: m) = bn b * 2 ^ m.length + num m := by show m.foldl _ (2 * 0 + bn b) = _; rw [num_from]; simp
    have l1 := num_lt l
    have l2 := num_lt m
    rw [e1, e2, ← hl'] at h
    rw [← hl'] at l2
    have hab : a = b := by
      cases a <;> cases b <;> simp [bn] at h ⊢ <;> omega
    subst hab
    rw [num_inj l m hl' (by omega)]
theorem field_of (l : List Bool) : field (num l) l.length = l :=
  num_inj _ _ (by rw [field_length]) (by rw [field_num, Nat.mod_eq_of_lt (num_lt l)])

/-- The whole bytes of a row of bits. -/
def byts (q : List Bool) : List UInt8 := (List.range (q.length / 8)).map fun i => UInt8.ofNat (num ((q.drop (8 * i)).take 8))
theorem byts_length (q : List Bool) : (byts q).length = q.length / 8 := by simp [byts]
/-- The bits behind the whole bytes. -/
def tail (q : List Bool) : List Bool := q.drop (8 * (q.length / 8))
theorem tail_length (q : List Bool) : (tail q).length = q.length % 8 := by simp [tail]; omega
theorem byts_append (q f : List Bool) : byts (q ++ f) = byts q ++ byts (tail q ++ f) := by
  have h1 : (q ++ f).length / 8 = q.length / 8 + (tail q ++ f).length / 8 := by
    rw [List.length_append, List.length_append, tail_length]; omega
  unfold byts
  rw [h1, List.range_add, List.map_append, List.map_map]
  congr 1
  · apply List.map_congr_left
    intro i hi
    have hi' := List.mem_range.1 hi
    rw [List.drop_append_of_le_length (by omega), List.take_append_of_le_length (by simp; omega)]
  · apply List.map_congr_left
    intro i _
    show UInt8.ofNat _ = UInt8.ofNat _
    have : (q ++ f).drop (8 * (q.length / 8 + i)) = (tail q ++ f).drop (8 * i) := by
      unfold tail
      rw [Nat.mul_add, ← List.drop_drop, List.drop_append_of_le_length (by omega : 8 * (q.length / 8) ≤ q.length)]
    rw [this]
theorem tail_append (q f : List Bool) : tail (q ++ f) = (tail q ++ f).drop (8 * ((tail q ++ f).length / 8)) := by
  have h1 : (q ++ f).length / 8 = q.length / 8 + (tail q ++ f).length / 8 := by
    rw [List.length_append, List.length_append, tail_length]; omega
  show (q ++ f).drop (8 * ((q ++ f).length / 8)) = _
  rw [h1, Nat.mul_add, ← List.drop_drop, List.drop_append_of_le_length (by omega : 8 * (q.length / 8) ≤ q.length)]
  rfl
theorem byte_at (t : List Bool) (j : Nat) (h : 8 * j + 8 ≤ t.length) : num ((t.drop (8 * j)).take 8) = num t / 2 ^ (t.length - 8 * j - 8) % 256 := num_mid t (8 * j) 8 h
/-- The bits of bytes. -/
def bitsOf (l : List UInt8) : List Bool := l.flatMap fun c => field c.toNat 8
theorem bitsOf_length (l : List UInt8) : (bitsOf l).length = 8 * l.length := by
  induction l with
  | nil => rfl
  | cons c l ih =>
    show (field c.toNat 8 ++ bitsOf l).length = _
    rw [List.length_append, field_length, ih, List.length_cons]; omega
theorem bitsOf_append (a b : List UInt8) : bitsOf (a ++ b) = bitsOf a ++ bitsOf b := by simp [bitsOf]
theorem bitsOf_take (l : List UInt8) (n : Nat) : bitsOf (l.take n) = (bitsOf l).take (8 * n) := by
  by_cases h : n ≤ l.length
  · conv => rhs; rw [← List.take_append_drop n l, bitsOf_append]
    rw [List.take_left' (by rw [bitsOf_length]; simp; omega)]
  · rw [List.take_of_length_le (by omega), List.take_of_length_le (by rw [bitsOf_length]; omega)]
theorem bitsOf_drop (l : List UInt8) (n : Nat) : bitsOf (l.drop n) = (bitsOf l).drop (8 * n) := by
  by_cases h : n ≤ l.length
  · conv => rhs; rw [← List.take_append_drop n l, bitsOf_append]
    rw [List.drop_left' (by rw [bitsOf_length]; simp; omega)]
  · rw [List.drop_of_length_le (by omega), List.drop_of_length_le (by rw [bitsOf_length]; omega)]; rfl
theorem byts_eight (t : List Bool) (h : t.length = 8) : byts t = [UInt8.ofNat (num t)] ∧ tail t = [] := by
  constructor
  · unfold byts; rw [h]; simp [List.take_of_length_le (Nat.le_of_eq h)]
  · unfold tail; rw [h]; exact List.drop_of_length_le (by omega)
theorem bitsOf_byts : ∀ (n : Nat) (q : List Bool), q.length = 8 * n → bitsOf (byts q) = q
  | 0, q, h => by
    obtain rfl : q = [] := List.eq_nil_of_length_eq_zero (by omega)
    rfl
  | n + 1, q, h => by
    have h8 : (q.take 8).length = 8 := by simp; omega
    obtain ⟨e1, e2⟩ := byts_eight (q.take 8) h8
    have hq : byts q = UInt8.ofNat (num (q.take 8)) :: byts (q.drop 8) := by
      conv => lhs; rw [← List.take_append_drop 8 q, byts_append, e1, e2]
      rfl
    rw [hq]
    show field (UInt8.ofNat (num (q.take 8))).toNat 8 ++ bitsOf (byts (q.drop 8)) = q
    rw [bitsOf_byts n (q.drop 8) (by simp; omega)]
    have hlt := num_lt (q.take 8)
    rw [h8] at hlt
    have e3 : (UInt8.ofNat (num (q.take 8))).toNat = num (q.take 8) := by rw [UInt8.toNat_ofNat']; exact Nat.mod_eq_of_lt hlt
    have e4 : field (num (q.take 8)) 8 = q.take 8 := by
      have := field_of (q.take 8)
      rwa [h8] at this
    rw [e3, e4, List.take_append_drop]
/-- What a reader gets out of the bytes that hold the next n bits. -/
theorem get_math (l : List UInt8) (fr n : Nat) (h : fr + n ≤ 8 * l.length) :
    num (bitsOf ((l.drop (fr / 8)).take ((fr + n + 7) / 8 - fr / 8))) / 2 ^ ((8 - (fr + n) % 8) % 8) % 2 ^ n = num (((bitsOf l).drop fr).take n) := by
  have hc : (bitsOf ((l.drop (fr / 8)).take ((fr + n + 7) / 8 - fr / 8))).length = 8 * ((fr + n + 7) / 8 - fr / 8) := by
    rw [bitsOf_length, List.length_take, List.length_drop]; omega
  have h1 := num_mid (bitsOf ((l.drop (fr / 8)).take ((fr + n + 7) / 8 - fr / 8))) (fr % 8) n (by rw [hc]; omega)
  rw [hc, show 8 * ((fr + n + 7) / 8 - fr / 8) - fr % 8 - n = (8 - (fr + n) % 8) % 8 by omega] at h1
  rw [← h1, bitsOf_take, bitsOf_drop, List.drop_take, List.drop_drop, List.take_take]
  rw [show 8 * (fr / 8) + fr % 8 = fr by omega, show min n (8 * ((fr + n + 7) / 8 - fr / 8) - fr % 8) = n by omega]
theorem num_bitsOf_snoc (l : List UInt8) (c : UInt8) : num (bitsOf (l ++ [c])) = num (bitsOf l) * 256 + c.toNat := by
  rw [bitsOf_append, num_append]
  have : bitsOf [c] = field c.toNat 8 := by simp [bitsOf]
  rw [this, field_length, field_num, Nat.mod_eq_of_lt (by have := c.toNat_lt; omega)]
end BitM
end Go.Proofs.YtnffkbpgcidpkaaGreatDoor
namespace Go.Proofs.YtnffkbpgcidpkaaGreatDoor
open Go.RowKit BitM
set_option linter.unusedVariables false

set_option maxHeartbeats 400000 in
theorem isLength_yes (n : Int) (w : World) (h : 0 ≤ n) (h2 : n ≤ 32) : Calls Tryz.prog 135 #[.int .i64 n] w fun e w' => e = .returned (.bool true) ∧ w = w' := by
  go_enter Tryz.func135, Tryz.ntmps135
  go_wp2
  go_ret
  exact ⟨rfl, rfl⟩
set_option maxHeartbeats 400000 in
theorem isLength_no (n : Int) (w : World) (h : n < 0 ∨ 32 < n) : Calls Tryz.prog 135 #[.int .i64 n] w fun e w' => e = .returned (.bool false) ∧ w = w' := by
  rcases h with h | h
  · go_enter Tryz.func135, Tryz.ntmps135
    go_wp2
    go_ret
    exact ⟨rfl, rfl⟩
  · have h0 : 0 ≤ n := by omega
    have hd : decide (n ≤ 32) = false := by simp; omega
    go_enter Tryz.func135, Tryz.ntmps135
    go_wp2
    go_ret
    exact ⟨rfl, rfl⟩

set_option maxHeartbeats 400000 in
theorem upToByte_any (N : Int) (n : Nat) (hN : N = (n : Int)) (w : World) (hn : n ≤ 70368744177664) : Calls Tryz.prog 142 #[.int .i64 N] w fun e w' => e = .returned (.int .i64 (((8 - n % 8) % 8 : Nat) : Int)) ∧ w = w' := by
  subst hN
  have e : ((8 : Int) - (n : Int) % 8) % 8 = (((8 - n % 8) % 8 : Nat) : Int) := by omega
  have H := Lib.hid e
  clear e
  go_enter Tryz.func142, Tryz.ntmps142
  go_wp2
  go_ret
  rw [← H.out]
  exact ⟨rfl, rfl⟩

theorem part_code (q : List Bool) (X n : Nat) (hX : X < 2 ^ n) (hn : n ≤ 32) : bits BinOp.or IntKind.u64 (IntKind.u64.wrap ((num (tail q) : Int) * 2 ^ n)) (X : Int) = (num (tail q ++ field X n) : Int) := by
  have hr : num (tail q) < 2 ^ 8 := Nat.lt_of_lt_of_le (num_lt _) (Nat.pow_le_pow_right (by omega) (by rw [tail_length]; omega))
  have h32 : 2 ^ n ≤ 2 ^ 32 := Nat.pow_le_pow_right (by omega) hn
  have hm : num (tail q) * 2 ^ n < 2 ^ 40 := by
    have : num (tail q) * 2 ^ n ≤ 255 * 2 ^ 32 := Nat.mul_le_mul (by omega) h32
    omega
  have e1 : (num (tail q) : Int) * 2 ^ n = ((num (tail q) * 2 ^ n : Nat) : Int) := by simp
  have e2 : IntKind.u64.wrap ((num (tail q) * 2 ^ n : Nat) : Int) = ((num (tail q) * 2 ^ n : Nat) : Int) := by
    simp only [IntKind.wrap, IntKind.bits, IntKind.signed]
    simp
    omega
  rw [e1, e2, u64_or_nat _ _ (by omega) (by omega), nat_join n _ _ (by simp) hX, num_append, field_length, field_num, Nat.mod_eq_of_lt hX]
theorem shr_code (t : List Bool) (j m : Nat) (h : 8 * j + 8 ≤ t.length) (hm : m = t.length - 8 * j - 8) : ∃ (y : UInt8), (byts t)[j]? = some y ∧ (num t : Int) / 2 ^ m % 256 = (y.toNat : Int) := by
  have hj : j < (byts t).length := by rw [byts_length]; omega
  refine ⟨_, List.getElem?_eq_getElem hj, ?_⟩
  subst hm
  simp only [byts, List.getElem_map, List.getElem_range, byte_at t j h]
  rw [UInt8.toNat_ofNat']
  simp
theorem and_code (t : List Bool) (e : Nat) (he : e = t.length - 8 * (t.length / 8)) (h64 : t.length ≤ 40) :
    bits BinOp.and IntKind.u64 (num t : Int) (IntKind.u64.wrap (IntKind.u64.wrap (2 ^ e) - 1)) = (num (t.drop (8 * (t.length / 8))) : Int) := by
  have h1 := num_lt t
  have h2 : 2 ^ t.length ≤ 2 ^ 40 := Nat.pow_le_pow_right (by omega) h64
  have he8 : e < 8 := by omega
  have h3 : 2 ^ e ≤ 2 ^ 7 := Nat.pow_le_pow_right (by omega) (by omega)
  have h4 : 0 < 2 ^ e := Nat.two_pow_pos e
  have e1 : (2 : Int) ^ e = ((2 ^ e : Nat) : Int) := by simp
  have e2 : IntKind.u64.wrap (IntKind.u64.wrap ((2 ^ e : Nat) : Int) - 1) = ((2 ^ e - 1 : Nat) : Int) := by
    generalize 2 ^ e = z at *
    simp only [IntKind.wrap, IntKind.bits, IntKind.signed]
    simp
    omega
  rw [e1, e2, u64_and_nat _ _ (by omega) (by omega), Nat.and_two_pow_sub_one_eq_mod, num_drop _ _ (by omega), he]
end Go.Proofs.YtnffkbpgcidpkaaGreatDoor
namespace Go.Proofs.YtnffkbpgcidpkaaGreatDoor
open Go.RowKit BitM
set_option linter.unusedVariables false

/-! ### The writer: what is refused; Pad; nil -/
/-- Bits 0 up to a whole byte. -/
def padding (q : List Bool) : List Bool := field 0 ((8 - q.length % 8) % 8)
/-! ### The reader -/
/-- v is a row of bytes l, with room behind it that may be written. -/
def IsRowB (w : World) (v : Value) (l : List UInt8) : Prop :=
  (v = .slice none 0 0 ∧ l = []) ∨ ∃ g off cap, v = .slice (some ⟨g, off, none⟩) l.length cap ∧ g < w.heap.size ∧ l.length ≤ cap ∧ cap ≤ maxLen ∧
    (∀ (i : Nat) (x : UInt8), l[i]? = some x → w.cell? ⟨g, off + i, none⟩ = some (u8v x)) ∧ (∀ i, i < cap → ∃ n, w.cell? ⟨g, off + i, none⟩ = some (.int .u8 n)) ∧ (∀ i, i < cap → w.frozen? ⟨g, off + i, none⟩ = false)
/-- Block b is a reader: the bytes l are kept, dr ahead of them were forgotten, p is the place. -/
def IsReader (w : World) (b : Nat) (v : Value) (l : List UInt8) (dr sp p : Nat) : Prop :=
  w.heap[b]? = some (.cells #[v, .int .i64 (dr : Int), .int .i64 (sp : Int), .int .i64 (p : Int)] 58 (0, 0)) ∧ IsRowB w v l ∧ (∀ k, v.ownBlock = some k → b ≠ k) ∧ 8 * dr ≤ p ∧ p ≤ 8 * (dr + l.length)
theorem IsReader.cells {w : World} {b : Nat} {v : Value} {l : List UInt8} {dr sp p : Nat} (h : IsReader w b v l dr sp p) :
    w.cell? ⟨b, 0, none⟩ = some v ∧ w.cell? ⟨b, 1, none⟩ = some (.int .i64 (dr : Int)) ∧ w.cell? ⟨b, 2, none⟩ = some (.int .i64 (sp : Int)) ∧ w.cell? ⟨b, 3, none⟩ = some (.int .i64 (p : Int)) ∧
    w.frozen? ⟨b, 0, none⟩ = false ∧ w.frozen? ⟨b, 1, none⟩ = false ∧ w.frozen? ⟨b, 2, none⟩ = false ∧ w.frozen? ⟨b, 3, none⟩ = false := by
  have h := h.1
  refine ⟨?_, ?_, ?_, ?_, frozen_of_row _ _ _ _ _ h, frozen_of_row _ _ _ _ _ h, frozen_of_row _ _ _ _ _ h, frozen_of_row _ _ _ _ _ h⟩ <;> (rw [cell_of_row _ _ _ _ _ _ h]; rfl)
theorem IsRowB.slice {w : World} {v : Value} {l : List UInt8} (h : IsRowB w v l) : ∃ a cap, v = .slice a l.length cap ∧ l.length ≤ cap ∧ cap ≤ maxLen := by
  rcases h with ⟨rfl, rfl⟩ | ⟨g, off, cap, rfl, _, h1, h2, _⟩
  · exact ⟨none, 0, rfl, Nat.le_refl _, by decide⟩
  · exact ⟨_, cap, rfl, h1, h2⟩
theorem IsRowB.cell {w : World} {v : Value} {l : List UInt8} (h : IsRowB w v l) {i : Nat} {x : UInt8} (hx : l[i]? = some x) : ∃ g off cap, v = .slice (some ⟨g, off, none⟩) l.length cap ∧ w.cell? ⟨g, off + i, none⟩ = some (.int .u8 (x.toNat : Int)) := by
  rcases h with ⟨rfl, rfl⟩ | ⟨g, off, cap, rfl, hg, h1, h2, hc, _⟩
  · simp at hx
  · exact ⟨g, off, cap, rfl, hc i x hx⟩
theorem IsRowB.other {w w' : World} {v : Value} {l : List UInt8} (h : IsRowB w v l) (he : ∀ k, v.ownBlock = some k → w'.heap[k]? = w.heap[k]?) : IsRowB w' v l := by
  rcases h with h | ⟨g, off, cap, rfl, hg, h1, h2, hc, ha, hf⟩
  · exact Or.inl h
  · have e := he g rfl
    refine Or.inr ⟨g, off, cap, rfl, (Array.getElem?_eq_some_iff.1 (e.trans (Array.getElem?_eq_getElem hg))).1, h1, h2, fun i x hx => ?_, fun i hi => ?_, fun i hi => ?_⟩
    · rw [World.cell?_of_block (w := w) (a := ⟨g, off + i, none⟩) e]; exact hc i x hx
    · rw [World.cell?_of_block (w := w) (a := ⟨g, off + i, none⟩) e]; exact ha i hi
    · rw [World.frozen?_of_block (w := w) (a := ⟨g, off + i, none⟩) e]; exact hf i hi
theorem IsRowB.lt {w : World} {v : Value} {l : List UInt8} (h : IsRowB w v l) : ∀ k, v.ownBlock = some k → k < w.heap.size := by
  intro k hk
  rcases h with ⟨rfl, _⟩ | ⟨g, off, cap, rfl, hg, r⟩
  · simp [Value.ownBlock] at hk
  · simp [Value.ownBlock] at hk
    subst hk
    exact hg
theorem IsReader.lt {w : World} {b : Nat} {v : Value} {l : List UInt8} {dr sp p : Nat} (h : IsReader w b v l dr sp p) : ∀ k, foot b v k → k < w.heap.size := by
  intro k hk
  rcases hk with rfl | hk
  · exact (Array.getElem?_eq_some_iff.1 h.1).1
  · exact h.2.1.lt k hk
theorem IsReader.other {w w' : World} {b : Nat} {v : Value} {l : List UInt8} {dr sp p : Nat} (h : IsReader w b v l dr sp p) {S : Nat → Prop} (ht : Touch S w w') (hS : ∀ k, foot b v k → ¬ S k) : IsReader w' b v l dr sp p :=
  ⟨(ht.block b (h.lt b (Or.inl rfl)) (hS b (Or.inl rfl))).trans h.1, h.2.1.other (fun k hk => ht.block k (h.lt k (Or.inr hk)) (hS k (Or.inr hk))), h.2.2⟩
/-- The place goes on. -/
theorem IsReader.at_ {w : World} {b : Nat} {v : Value} {l : List UInt8} {dr sp p : Nat} (h : IsReader w b v l dr sp p) (q : Nat) (h1 : 8 * dr ≤ q) (h2 : q ≤ 8 * (dr + l.length)) (Q : Int) (hQ : Q = (q : Int)) :
    IsReader (w.setCell ⟨b, 3, none⟩ (.int .i64 Q)) b v l dr sp q ∧ Touch (· = b) w (w.setCell ⟨b, 3, none⟩ (.int .i64 Q)) := by
  subst hQ
  exact ⟨⟨heap_setCell_same _ _ 3 _ _ _ h.1, h.2.1.other (fun k hk => heap_setCell_other _ _ _ _ (fun e => h.2.2.1 k hk e.symm)), h.2.2.1, h1, h2⟩, Touch.setCell (S := (· = b)) (Touch.refl _ _) (Or.inl rfl) _⟩
set_option maxHeartbeats 400000 in
theorem rat_any (b : Nat) (v : Value) (l : List UInt8) (dr sp p : Nat) (w : World) (h : IsReader w b v l dr sp p) : Calls Tryz.prog 173 #[.pointer (some ⟨b, 0, none⟩)] w fun e w' => e = .returned (.int .i64 (p : Int)) ∧ w = w' := by
  obtain ⟨c0, c1, c2, c3, f0, f1, f2, f3⟩ := h.cells
  clear h
  go_enter Tryz.func173, Tryz.ntmps173
  go_wp2
  go_ret
  exact ⟨rfl, rfl⟩
set_option maxHeartbeats 400000 in
theorem rheld_any (b : Nat) (v : Value) (l : List UInt8) (dr sp p : Nat) (w : World) (h : IsReader w b v l dr sp p) : Calls Tryz.prog 28 #[.pointer (some ⟨b, 0, none⟩)] w fun e w' => e = .returned (.int .i64 (l.length : Int)) ∧ w = w' := by
  obtain ⟨c0, c1, c2, c3, f0, f1, f2, f3⟩ := h.cells
  obtain ⟨a, cap, rfl, _, _⟩ := h.2.1.slice
  clear h
  go_enter Tryz.func28, Tryz.ntmps28
  go_wp2
  go_ret
  exact ⟨rfl, rfl⟩
set_option maxHeartbeats 400000 in
theorem rend_any (b : Nat) (v : Value) (l : List UInt8) (dr sp p E : Nat) (w : World) (h : IsReader w b v l dr sp p) (hs : dr + l.length ≤ 1099511627776) (hE : 8 * (dr + l.length) = E) :
    Calls Tryz.prog 134 #[.pointer (some ⟨b, 0, none⟩)] w fun e w' => e = .returned (.int .i64 (E : Int)) ∧ ∃ n, w' = w.drewN n := by
  obtain ⟨c0, c1, c2, c3, f0, f1, f2, f3⟩ := h.cells
  obtain ⟨a, cap, rfl, _, _⟩ := h.2.1.slice
  clear h
  have hb1 : (dr : Int) ≤ 1099511627776 := by omega
  have hb2 : (l.length : Int) ≤ 1099511627776 := by omega
  have HE := Lib.hid (show (8 : Int) * ((dr : Int) + (l.length : Int)) = (E : Int) by omega)
  clear hE
  go_enter Tryz.func134, Tryz.ntmps134
  go_wp2_with fail
  go_quiet (fail)
  go_wp2_with fail
  go_ret
  rw [HE.out]
  exact ⟨rfl, _, rfl⟩
theorem IsReader.drewN {w : World} {b : Nat} {v : Value} {l : List UInt8} {dr sp p : Nat} (h : IsReader w b v l dr sp p) (n : Nat) : IsReader (w.drewN n) b v l dr sp p :=
  h.other (touch_drewN (fun _ => False) w n) (fun _ _ hf => hf)
set_option maxHeartbeats 400000 in
theorem rleft_any (b : Nat) (v : Value) (l : List UInt8) (dr sp p L : Nat) (w : World) (h : IsReader w b v l dr sp p) (hs : dr + l.length ≤ 1099511627776) (hL : 8 * (dr + l.length) - p = L) :
    Calls Tryz.prog 117 #[.pointer (some ⟨b, 0, none⟩)] w fun e w' => e = .returned (.int .i64 (L : Int)) ∧ ∃ n, w' = w.drewN n := by
  obtain ⟨c0, c1, c2, c3, f0, f1, f2, f3⟩ := h.cells
  have h1 := h.2.2.2.1
  have h2 := h.2.2.2.2
  have H := Lib.hid h
  obtain ⟨E, hE⟩ : ∃ E, 8 * (dr + l.length) = E := ⟨_, rfl⟩
  have hb1 : (E : Int) ≤ 8796093022208 := by omega
  have hb2 : (p : Int) ≤ (E : Int) := by omega
  have hb3 : (0 : Int) ≤ p := by omega
  have HE := Lib.hid (show (E : Int) - (p : Int) = (L : Int) by omega)
  have HEE := Lib.hid hE
  clear h hE hL h1 h2
  go_enter Tryz.func117, Tryz.ntmps117
  go_wp2_with fail
  go_quiet ((go_at_call 134; exact Calls.quiet_of (rend_any b v l dr sp p E _ (H.out.drewN _) hs HEE.out)))
  go_wp2_with fail
  go_ret
  rw [HE.out]
  exact ⟨rfl, _, rfl⟩
theorem or8_code (V x : Nat) (hV : V < 2 ^ 32) (hx : x < 256) : bits BinOp.or IntKind.u64 (IntKind.u64.wrap ((V : Int) * 256)) (x : Int) = ((V * 256 + x : Nat) : Int) := by
  have e : IntKind.u64.wrap ((V : Int) * 256) = ((V * 256 : Nat) : Int) := by
    simp only [IntKind.wrap, IntKind.bits, IntKind.signed]
    simp
    omega
  rw [e, u64_or_nat _ _ (by omega) (by omega), nat_join 8 _ _ (by omega) (by omega)]
theorem get_code (V u n : Nat) (hV : V < 2 ^ 40) (hn : n ≤ 32) : bits BinOp.and IntKind.u64 ((V : Int) / 2 ^ u) (IntKind.u64.wrap (IntKind.u64.wrap (2 ^ n) - 1)) % 4294967296 = ((V / 2 ^ u % 2 ^ n : Nat) : Int) := by
  have h32 : 2 ^ n ≤ 2 ^ 32 := Nat.pow_le_pow_right (by omega) hn
  have h1 : 1 ≤ 2 ^ n := Nat.two_pow_pos n
  have e0 : (V : Int) / 2 ^ u = ((V / 2 ^ u : Nat) : Int) := by simp
  have hVu : V / 2 ^ u ≤ V := Nat.div_le_self _ _
  have e1 : (2 : Int) ^ n = ((2 ^ n : Nat) : Int) := by simp
  have e2 : IntKind.u64.wrap (IntKind.u64.wrap ((2 ^ n : Nat) : Int) - 1) = ((2 ^ n - 1 : Nat) : Int) := by
    generalize 2 ^ n = z at *
    simp only [IntKind.wrap, IntKind.bits, IntKind.signed]
    simp
    omega
  rw [e0, e1, e2, u64_and_nat _ _ (by omega) (by omega), Nat.and_two_pow_sub_one_eq_mod]
  have hm : V / 2 ^ u % 2 ^ n < 2 ^ n := Nat.mod_lt _ (by omega)
  omega
theorem sub_lt5 (sub : List UInt8) (h : sub.length ≤ 5) : num (bitsOf sub) < 2 ^ 40 := by
  refine Nat.lt_of_lt_of_le (num_lt _) (Nat.pow_le_pow_right (by omega) ?_)
  rw [bitsOf_length]; omega
theorem sub_lt (sub : List UInt8) (k : Nat) (hk : k ≤ 4) : num (bitsOf (sub.take k)) < 2 ^ 32 := by
  refine Nat.lt_of_lt_of_le (num_lt _) (Nat.pow_le_pow_right (by omega) ?_)
  rw [bitsOf_length, List.length_take]; omega
set_option maxHeartbeats 400000 in
theorem field_any (b : Nat) (v : Value) (l : List UInt8) (dr sp p n : Nat) (w : World) (h : IsReader w b v l dr sp p) (hs : dr + l.length ≤ 1099511627776) (hn : n ≤ 32) (hp : p + n ≤ 8 * (dr + l.length)) :
    Calls Tryz.prog 136 #[.pointer (some ⟨b, 0, none⟩), .int .i64 (n : Int)] w fun e w' => e = .returned (.int .u32 (num (((bitsOf l).drop (p - 8 * dr)).take n) : Int)) ∧ ∃ n, w' = w.drewN n := by
  obtain ⟨c0, c1, c2, c3, f0, f1, f2, f3⟩ := h.cells
  have h1 := h.2.2.2.1
  have HR := Lib.hid h.2.1
  obtain ⟨a, cap, hv, hcap, hcm⟩ := h.2.1.slice
  unfold maxLen at hcm
  obtain ⟨fr, hfr⟩ : ∃ fr, p - 8 * dr = fr := ⟨_, rfl⟩
  rw [hfr]
  have hf0 : (p : Int) - 8 * (dr : Int) = (fr : Int) := by omega
  have hb1 : (dr : Int) ≤ 1099511627776 := by omega
  have hb2 : (p : Int) ≤ 17592186044416 := by omega
  have hft : fr + n ≤ 8 * l.length := by omega
  clear h h1 hp hfr
  subst hv
  have hsub : ((l.drop (fr / 8)).take ((fr + n + 7) / 8 - fr / 8)).length = (fr + n + 7) / 8 - fr / 8 := by simp; omega
  have HM := Lib.hid (get_math l fr n hft)
  generalize hs0 : (l.drop (fr / 8)).take ((fr + n + 7) / 8 - fr / 8) = sub at *
  have HS0 := Lib.hid hs0
  have hcnt : (fr + n + 7) / 8 - fr / 8 ≤ 5 := by omega
  have HSUB := Lib.hid hsub
  clear hs0 hsub
  by_cases hcf : cap = fr / 8
  · have hc0 : (fr + n + 7) / 8 - fr / 8 = 0 := by omega
    go_enter Tryz.func136, Tryz.ntmps136
    go_wp2_with fail
    go_quiet (fail)
    go_wp2_with fail
    go_loop [7, 9, 34] (fun v _ i => ∃ k : Nat, k ≤ (fr + n + 7) / 8 - fr / 8 ∧ i = .int .i64 k ∧ v = .int .u64 (num (bitsOf (sub.take k)) : Int)) (fun _ _ i => ((fr + n + 7) / 8 - fr / 8) - (intOf i).toNat)
    case atStart => exact ⟨0, by omega, rfl, rfl⟩
    case round =>
      obtain ⟨k, hk, rfl, rfl⟩ := hrel
      by_cases hlt : k < (fr + n + 7) / 8 - fr / 8
      · exfalso; omega
      · obtain rfl : k = (fr + n + 7) / 8 - fr / 8 := by omega
        go_wp2_with fail
        refine (upToByte_any _ (fr + n) (by omega) _ (by omega)).mono ?_
        rintro e w' ⟨rfl, rfl⟩
        go_wp2_with fail
        go_ret
        have hs0 : sub = [] := List.eq_nil_of_length_eq_zero (HSUB.out.trans hc0)
        have hm := HM.out
        rw [hs0] at hm
        rw [get_code _ _ _ (sub_lt5 [] (by decide)) hn, hm]
        exact ⟨rfl, _, rfl⟩
  · go_enter Tryz.func136, Tryz.ntmps136
    go_wp2_with fail
    go_quiet (fail)
    go_wp2_with fail
    go_loop [7, 9, 34] (fun v _ i => ∃ k : Nat, k ≤ (fr + n + 7) / 8 - fr / 8 ∧ i = .int .i64 k ∧ v = .int .u64 (num (bitsOf (sub.take k)) : Int)) (fun _ _ i => ((fr + n + 7) / 8 - fr / 8) - (intOf i).toNat)
    case atStart => exact ⟨0, by omega, rfl, rfl⟩
    case round =>
      obtain ⟨k, hk, rfl, rfl⟩ := hrel
      by_cases hlt : k < (fr + n + 7) / 8 - fr / 8
      · have hx : ∃ x, sub[k]? = some x := ⟨sub[k]'(by have := HSUB.out; omega), List.getElem?_eq_getElem _⟩
        obtain ⟨x, hx⟩ := hx
        have hx2 : l[fr / 8 + k]? = some x := by
          have := hx
          rw [← HS0.out, List.getElem?_take, if_pos hlt, List.getElem?_drop] at this
          exact this
        obtain ⟨g, off, cap2, hv2, hc2⟩ := HR.out.cell hx2
        simp only [Value.slice.injEq] at hv2
        obtain ⟨rfl, _, _⟩ := hv2
        rw [← Nat.add_assoc] at hc2
        have HT : Hid (num (bitsOf (sub.take (k + 1))) = num (bitsOf (sub.take k)) * 256 + x.toNat) := by
          obtain ⟨hk1, hk2⟩ := List.getElem?_eq_some_iff.1 hx
          rw [List.take_succ_eq_append_getElem hk1, num_bitsOf_snoc, hk2]
          rfl
        have hxl := x.toNat_lt
        clear hx hx2
        go_wp2_with fail
        go_round
        case rel =>
          refine ⟨k + 1, by omega, by go_num, ?_⟩
          rw [or8_code _ _ (sub_lt sub k (by omega)) hxl, HT.out]
        case measure => simp [intOf]; omega
      · obtain rfl : k = (fr + n + 7) / 8 - fr / 8 := by omega
        go_wp2_with fail
        refine (upToByte_any _ (fr + n) (by omega) _ (by omega)).mono ?_
        rintro e w' ⟨rfl, rfl⟩
        go_wp2_with fail
        go_ret
        have hl5 : sub.length ≤ 5 := by rw [HSUB.out]; exact hcnt
        rw [List.take_of_length_le (Nat.le_of_eq HSUB.out), get_code _ _ _ (sub_lt5 sub hl5) hn, HM.out]
        exact ⟨rfl, _, rfl⟩

set_option maxHeartbeats 400000 in
theorem get_any (b : Nat) (v : Value) (l : List UInt8) (dr sp p n : Nat) (w : World) (h : IsReader w b v l dr sp p) (hs : dr + l.length ≤ 1099511627776) (hn : n ≤ 32) (hp : p + n ≤ 8 * (dr + l.length)) :
    Calls Tryz.prog 118 #[.pointer (some ⟨b, 0, none⟩), .int .i64 (n : Int)] w fun e w' =>
      e = .returned (.tuple #[.int .u32 (num (((bitsOf l).drop (p - 8 * dr)).take n) : Int), .int .i64 0]) ∧ IsReader w' b v l dr sp (p + n) ∧ Touch (· = b) w w' := by
  obtain ⟨c0, c1, c2, c3, f0, f1, f2, f3⟩ := h.cells
  obtain ⟨L, hL⟩ : ∃ L, 8 * (dr + l.length) - p = L := ⟨_, rfl⟩
  have hn1 : (n : Int) ≤ L := by omega
  have hpp : (p : Int) ≤ 8796093022208 := by omega
  have h8 : 8 * dr ≤ p := h.2.2.2.1
  have H := Lib.hid h
  have HL := Lib.hid hL
  clear h hL
  go_enter Tryz.func118, Tryz.ntmps118
  go_wp2_with fail
  refine (isLength_yes _ _ (by omega) (by omega)).mono ?_
  rintro e w' ⟨rfl, rfl⟩
  go_wp2_with fail
  refine (rleft_any b v l dr sp p L w H.out hs HL.out).mono ?_
  rintro e w' ⟨rfl, m, rfl⟩
  go_wp2_with fail
  refine (field_any b v l dr sp p n _ (H.out.drewN m) hs hn hp).mono ?_
  rintro e w' ⟨rfl, m2, rfl⟩
  go_wp2_with fail
  go_ret2
  obtain ⟨d1, d2⟩ := (H.out.drewN (m + m2)).at_ (p + n) (by omega) hp ((p : Int) + (n : Int)) (by omega)
  exact ⟨rfl, d1, (touch_drewN (· = b) w (m + m2)).trans d2 (fun i hi => Or.inl hi)⟩
set_option maxHeartbeats 400000 in
theorem get_bad (b : Nat) (n : Int) (w : World) (h : n < 0 ∨ 32 < n) :
    Calls Tryz.prog 118 #[.pointer (some ⟨b, 0, none⟩), .int .i64 n] w fun e w' => e = .returned (.tuple #[.int .u32 0, .int .i64 1]) ∧ w = w' := by
  go_enter Tryz.func118, Tryz.ntmps118
  go_wp2_with fail
  refine (isLength_no _ _ h).mono ?_
  rintro e w' ⟨rfl, rfl⟩
  go_wp2_with fail
  go_ret2
  exact ⟨rfl, rfl⟩
set_option maxHeartbeats 400000 in
theorem get_short (b : Nat) (v : Value) (l : List UInt8) (dr sp p n : Nat) (w : World) (h : IsReader w b v l dr sp p) (hs : dr + l.length ≤ 1099511627776) (hn : n ≤ 32) (hp : 8 * (dr + l.length) < p + n) :
    Calls Tryz.prog 118 #[.pointer (some ⟨b, 0, none⟩), .int .i64 (n : Int)] w fun e w' => e = .returned (.tuple #[.int .u32 0, .int .i64 3]) ∧ ∃ m, w' = w.drewN m := by
  obtain ⟨L, hL⟩ : ∃ L, 8 * (dr + l.length) - p = L := ⟨_, rfl⟩
  have h2 := h.2.2.2.2
  have hn1 : (L : Int) < n := by omega
  have H := Lib.hid h
  have HL := Lib.hid hL
  clear h hL h2
  go_enter Tryz.func118, Tryz.ntmps118
  go_wp2_with fail
  refine (isLength_yes _ _ (by omega) (by omega)).mono ?_
  rintro e w' ⟨rfl, rfl⟩
  go_wp2_with fail
  refine (rleft_any b v l dr sp p L w H.out hs HL.out).mono ?_
  rintro e w' ⟨rfl, m, rfl⟩
  go_wp2_with fail
  go_ret2
  exact ⟨rfl, m, rfl⟩
set_option maxHeartbeats 400000 in
theorem newReader_any (s : ByteArray) (w : World) (hs : s.size ≤ maxLen) :
    Calls Tryz.prog 22 #[.string s] w fun e w' => ∃ b v, e = .returned (.pointer (some ⟨b, 0, none⟩)) ∧ IsReader w' b v s.data.toList 0 0 0 ∧ Below w.heap.size w w' ∧ (∀ k, foot b v k → w.heap.size ≤ k) := by
  have hcv := run_bytes_of_string (P := Tryz.prog) w 9 50 5 s Tryz.underlying9 Tryz.underlying50 Tryz.underlying5
  have hge := grownCap_ge w s.size 0 5
  have hle := grownCap_le_maxLen w s.size 0 5 hs
  have hsz : (bytesRow s (grownCap w s.size 0 5)).size = grownCap w s.size 0 5 := by
    have : s.data.size = s.size := rfl
    simp [bytesRow]; omega
  have HB : Hid (∀ i, i < grownCap w s.size 0 5 → ∃ n, (bytesRow s (grownCap w s.size 0 5))[i]? = some (.int .u8 n)) := Lib.hid fun i hi => by
    by_cases h : i < s.data.size
    · exact ⟨_, bytesRow_at s _ i h⟩
    · refine ⟨0, ?_⟩
      have e : s.data.size = s.size := rfl
      unfold bytesRow
      rw [Array.getElem?_append_right (by simp; omega), Array.getElem?_replicate, if_pos (by rw [Array.size_map, e]; omega)]
  generalize grownCap w s.size 0 5 = C at *
  have HBA : Hid (∀ (i : Nat) (x : UInt8), s.data.toList[i]? = some x → (bytesRow s C)[i]? = some (u8v x)) := Lib.hid fun i x hx => by
    obtain ⟨hi, rfl⟩ := List.getElem?_eq_some_iff.1 hx
    exact bytesRow_at s _ i (by simpa using hi)
  generalize bytesRow s C = R at *
  have HGE := Lib.hid hge
  have HLE := Lib.hid hle
  have HSZ := Lib.hid hsz
  clear hge hle hsz
  go_enter Tryz.func22, Tryz.ntmps22
  go_wp2_with fail
  go_ret
  have e : s.data.toList.length = s.size := rfl
  have ho := heap_alloc2_old w (.cells R 5 (R.size, R.size + 1)) (.cells #[.slice (some ⟨w.heap.size, 0, none⟩) s.size C, .int .i64 0, .int .i64 0, .int .i64 0] 58)
  refine ⟨w.heap.size + 1, .slice (some ⟨w.heap.size, 0, none⟩) s.size C, rfl, ⟨heap_alloc2_new _ _ _, Or.inr ⟨w.heap.size, 0, C, rfl, (Array.getElem?_eq_some_iff.1 ho).1, by rw [e]; exact HGE.out, HLE.out, fun i x hx => ?_, fun i hi => ?_, fun i hi => ?_⟩, ?_, by omega, by omega⟩, ?_, ?_⟩
  · exact (cell_of_row _ _ _ _ _ _ ho).trans (by rw [Nat.zero_add]; exact HBA.out i x hx)
  · exact (HB.out i hi).imp fun n hn => (cell_of_row _ _ _ _ _ _ ho).trans (by rw [Nat.zero_add]; exact hn)
  · have hi2 : i < R.size := by rw [HSZ.out]; exact hi
    refine Eq.trans (b := decide (R.size ≤ 0 + i) && decide (0 + i < R.size + 1)) ?_ (by simp; omega)
    have hx : ∀ (X : World), X.heap[w.heap.size]? = some (.cells R 5 (R.size, R.size + 1)) → X.frozen? ⟨w.heap.size, 0 + i, none⟩ = (decide (R.size ≤ 0 + i) && decide (0 + i < R.size + 1)) := fun X hX => by
      unfold World.frozen?
      rw [hX]
    exact hx _ ho
  · intro k hk
    simp [Value.ownBlock] at hk
    omega
  · exact (((Below.refl _ _).alloc (Nat.le_refl _) _).alloc (by simp) _).drew
  · intro k hk
    rcases hk with rfl | hk
    · omega
    · simp [Value.ownBlock] at hk; omega
end Go.Proofs.YtnffkbpgcidpkaaGreatDoor
namespace Go.Proofs.YtnffkbpgcidpkaaGreatDoor
open Go.RowKit BitM
set_option linter.unusedVariables false

/-! ### A string appended to a row of bytes, wherever it begins -/
theorem touch_setCells {S : Nat → Prop} {g : Nat} (hS : S g) : ∀ (vs : List Value) (o : Nat) (w : World), Touch S w (w.setCells g o vs)
  | [], _, w => Touch.refl S w
  | v :: r, o, w => by
    have h1 : Touch S w (w.setCell ⟨g, o, none⟩ v) := (Touch.refl S w).setCell (Or.inl hS) v
    exact h1.trans (touch_setCells hS r (o + 1) _) (fun i hi => Or.inl hi)
theorem zero_at (m k : Nat) (h : k < m) : (Builtin.zeroCells #[Value.int .u8 0] m)[k]? = some (.int .u8 0) := by
  unfold Builtin.zeroCells
  rw [Array.getElem?_map, Array.getElem?_range, if_pos (by simpa using h)]
  simp [Nat.mod_one]
theorem fresh_rowB {W : World} {g : Nat} {e : TypeId} (L : List UInt8) (C : Nat) (hC : L.length ≤ C) (hm : C ≤ maxLen)
    (hW : W.heap[g]? = some (.cells ((L.map u8v).toArray ++ Builtin.zeroCells #[Value.int .u8 0] (C - L.length)) e)) : IsRowB W (.slice (some ⟨g, 0, none⟩) L.length C) L := by
  refine Or.inr ⟨g, 0, C, rfl, (Array.getElem?_eq_some_iff.1 hW).1, hC, hm, fun i x hx => ?_, fun i hi => ?_, fun i hi => frozen_of_row _ _ _ _ _ hW⟩
  · have hi := (List.getElem?_eq_some_iff.1 hx).1
    rw [cell_of_row _ _ _ _ _ _ hW, Nat.zero_add, Array.getElem?_append_left (by simpa using hi)]
    simp [hx]
  · rw [cell_of_row _ _ _ _ _ _ hW, Nat.zero_add]
    by_cases hl : i < L.length
    · rw [Array.getElem?_append_left (by simpa using hl)]
      exact ⟨(L[i].toNat : Int), by simp [hl, u8v]⟩
    · rw [Array.getElem?_append_right (by simpa using Nat.le_of_not_lt hl)]
      exact ⟨0, zero_at _ _ (by simp; omega)⟩
theorem append_rowB (w : World) (v : Value) (l : List UInt8) (s : ByteArray) (h : IsRowB w v l) (hs : l.length + s.size ≤ 1099511627776) :
    ∃ v' w', (Builtin.append_ #[50, 9] 50 #[v, .string s]).run Tryz.prog w = .ok v' w' ∧ IsRowB w' v' (l ++ s.data.toList) ∧ Touch (fun k => v.ownBlock = some k) w w' ∧
      (∀ k, v'.ownBlock = some k → v.ownBlock = some k ∨ w.heap.size ≤ k) := by
  obtain ⟨i, hi, h5⟩ := Option.map_eq_some_iff.1 info5
  simp only [Prod.mk.injEq] at h5
  obtain ⟨hz, hsize, hby⟩ := h5
  have hS : Src Tryz.prog i.size 9 (.string s) s.size (byteCells s) w := by rw [hsize]; exact Src.ofString w Tryz.underlying9 s
  have hbl := byteCells_length s
  have hbc : byteCells s = s.data.toList.map u8v := rfl
  have hlen : (l ++ s.data.toList).length = l.length + s.size := by rw [List.length_append]; rfl
  by_cases h0 : s.size = 0
  · obtain rfl : s = ByteArray.empty := ByteArray.ext (Array.eq_empty_of_size_eq_zero h0)
    obtain ⟨a, cap, hv, hle, _⟩ := h.slice
    refine ⟨v, w, ?_, by simpa using h, Touch.refl _ _, fun k hk => Or.inl hk⟩
    subst hv
    exact run_append_nothing w 50 9 50 5 i Tryz.underlying50 hi a l.length cap hle (.string ByteArray.empty) hS
  · have grow : ∀ (base : Option Addr) (cap : Nat), (Builtin.firstCells i.size l.length (.slice base l.length cap)).run Tryz.prog w.drew = .ok (l.map u8v).toArray w.drew → v = .slice base l.length cap → cap < l.length + s.size →
        ∃ v' w', (Builtin.append_ #[50, 9] 50 #[v, .string s]).run Tryz.prog w = .ok v' w' ∧ IsRowB w' v' (l ++ s.data.toList) ∧ Touch (fun k => v.ownBlock = some k) w w' ∧
          (∀ k, v'.ownBlock = some k → v.ownBlock = some k ∨ w.heap.size ≤ k) := by
      intro base cap hold hv hg
      subst hv
      have hr := run_append_grow_src (P := Tryz.prog) w 50 9 50 5 i (.int .u8 0) Tryz.underlying50 hi hz base l.length cap (l.map u8v) hold (.string s) s.size (byteCells s) hS hg (by omega)
        (growslice_fits hg (by rw [hby]; omega))
      refine ⟨_, _, hr, ?_, (Touch.refl _ _).drew.alloc _, fun k hk => Or.inr (by simp [Value.ownBlock] at hk; omega)⟩
      have hge := grownCap_ge w (l.length + s.size) cap 5
      have hle := grownCap_le_maxLen w (l.length + s.size) cap 5 (by unfold maxLen; omega)
      have hfr := fresh_rowB (W := w.drew.alloc (.cells ((l.map u8v ++ byteCells s).toArray ++ Builtin.zeroCells (Value.int .u8 0).cells (grownCap w (l.length + s.size) cap 5 - (l.length + s.size))) 5)) (g := w.heap.size) (e := 5) (l ++ s.data.toList) (grownCap w (l.length + s.size) cap 5) (by rw [hlen]; exact hge) hle (by
        rw [hlen, List.map_append, hbc]
        show (w.heap.push _)[_]? = _
        simp [Value.cells])
      rw [hlen] at hfr
      exact hfr
    rcases h with ⟨rfl, rfl⟩ | ⟨g, off, cap, rfl, hg, hlc, hcm, hc, ha, hf⟩
    · exact grow none 0 (run_firstCells_none w.drew i.size 0 0 0) rfl (by simp; omega)
    · by_cases hroom : l.length + s.size ≤ cap
      · have e1 : off + l.length * i.size = off + l.length := by rw [hsize, Nat.mul_one]
        have hr := run_append_room_src (P := Tryz.prog) w 50 9 50 5 i Tryz.underlying50 hi g off l.length cap (.string s) s.size (byteCells s) hS hroom
          (fun j hj => by
            rw [e1, Nat.add_assoc]
            obtain ⟨n, hn⟩ := ha (l.length + j) (by omega)
            rw [hn]; rfl)
          (fun j hj => by rw [e1, Nat.add_assoc]; exact hf (l.length + j) (by omega))
        rw [e1] at hr
        have ht : Touch (fun k => (Value.slice (some ⟨g, off, none⟩) l.length cap).ownBlock = some k) w (w.setCells g (off + l.length) (byteCells s)) := touch_setCells (S := fun k => (Value.slice (some ⟨g, off, none⟩) l.length cap).ownBlock = some k) (show (Value.slice (some ⟨g, off, none⟩) l.length cap).ownBlock = some g from rfl) _ _ _
        have hin : ∀ j, (hj : j < (byteCells s).length) → (w.setCells g (off + l.length) (byteCells s)).cell? ⟨g, off + l.length + j, none⟩ = some (byteCells s)[j] := fun j hj =>
          World.cell?_setCells_in g (byteCells s) (off + l.length) w (fun j hj => by
            rw [Nat.add_assoc]
            obtain ⟨n, hn⟩ := ha (l.length + j) (by omega)
            rw [hn]; rfl) j hj
        have hout : ∀ j, j < l.length ∨ l.length + s.size ≤ j → (w.setCells g (off + l.length) (byteCells s)).cell? ⟨g, off + j, none⟩ = w.cell? ⟨g, off + j, none⟩ := fun j hj =>
          World.cell?_setCells_out g (byteCells s) (off + l.length) w ⟨g, off + j, none⟩ (fun _ _ => by show off + j < off + l.length ∨ off + l.length + (byteCells s).length ≤ off + j; omega)
        refine ⟨_, _, hr, Or.inr ⟨g, off, cap, by rw [hlen], Nat.lt_of_lt_of_le hg ht.size, by rw [hlen]; exact hroom, hcm, fun j x hx => ?_, fun j hj => ?_, fun j hj => ?_⟩, ht, fun k hk => Or.inl hk⟩
        · by_cases hj : j < l.length
          · rw [List.getElem?_append_left hj] at hx
            rw [hout j (Or.inl hj)]; exact hc j x hx
          · rw [List.getElem?_append_right (by omega)] at hx
            have hj2 := (List.getElem?_eq_some_iff.1 hx).1
            have hj3 : j - l.length < (byteCells s).length := by rw [hbl]; exact hj2
            have := hin (j - l.length) hj3
            rw [show off + l.length + (j - l.length) = off + j by omega] at this
            rw [this]
            have hx2 := (List.getElem?_eq_some_iff.1 hx).2
            rw [← hx2]
            simp [byteCells, u8v]
        · by_cases hj2 : j < l.length ∨ l.length + s.size ≤ j
          · rw [hout j hj2]; exact ha j hj
          · have hj3 : j - l.length < (byteCells s).length := by omega
            have := hin (j - l.length) hj3
            rw [show off + l.length + (j - l.length) = off + j by omega] at this
            rw [this]
            exact ⟨(s.data.toList[j - l.length]'(by simpa [hbl] using hj3)).toNat, by simp [byteCells]⟩
        · rw [World.frozen?_setCells]; exact hf j hj
      · refine grow (some ⟨g, off, none⟩) cap ?_ rfl (by omega)
        refine run_firstCells_some w.drew i.size l.length ⟨g, off, none⟩ l.length cap (l.map u8v) (by rw [hsize]; simp) (fun j u hu => ?_)
        rw [List.getElem?_map] at hu
        obtain ⟨x, hx, rfl⟩ := Option.map_eq_some_iff.1 hu
        rw [show (⟨g, off, none⟩ : Addr).add j = ⟨g, off + j, none⟩ from Addr.add_lit _ _ _]
        exact hc j x hx
/-- 'append', where its run is known. -/
theorem wpList_append_run {P : Program} {ops : Array Oper} {rest : List Oper} {o : Oper} {a : Act} {w : World} {Q : Exit → Act → World → Prop} (hgd : o.guard = none) (sl x : Operand) (t u : TypeId)
    (ho : o.op = .call { callee := .builtin .append, args := #[sl, x], argTypes := #[t, u] }) (v y : Value) (hs : a.eval sl = v) (hx : a.eval x = y) (v' : Value) (w' : World)
    (hr : (Builtin.append_ #[t, u] o.type #[v, y]).run P w = .ok v' w') (h : wpList P ops Q rest (a.put o.dst v') w') : wpList P ops Q (o :: rest) a w := by
  refine wpList_plain hgd fun K hK => ?_
  unfold Oper.wp execOp
  simp only [ho, resolve, invoke, builtin, Sem.run_bind, Sem.run_pure, Result.andThen_ok, List.map_toArray, List.map_cons, List.map_nil, hs, hx, hr]
  exact hK _ _ h

/-! ### More -/
set_option maxRecDepth 100000 in
set_option maxRecDepth 100000 in
set_option maxHeartbeats 400000 in
theorem more_any (b : Nat) (v : Value) (l : List UInt8) (dr sp p : Nat) (s : ByteArray) (w : World) (h : IsReader w b v l dr sp p) (hs : l.length + s.size ≤ 1099511627776) :
    Calls Tryz.prog 33 #[.pointer (some ⟨b, 0, none⟩), .string s] w fun e w' => e = .returned (.int .i64 0) ∧ ∃ v1, IsReader w' b v1 (l ++ s.data.toList) dr sp p ∧ Touch (foot b v) w w' ∧ (∀ k, v1.ownBlock = some k → v.ownBlock = some k ∨ w.heap.size ≤ k) := by
  obtain ⟨c0, c1, c2, c3, f0, f1, f2, f3⟩ := h.cells
  obtain ⟨v1, w1, hap, hrow, ht, hown⟩ := append_rowB w v l s h.2.1 hs
  have hbl := h.lt b (Or.inl rfl)
  have hnb : ¬ v.ownBlock = some b := fun e => h.2.2.1 b e rfl
  have hblk := (ht.block b hbl hnb).trans h.1
  have d0 : w1.cell? ⟨b, 0, none⟩ = some v := by rw [cell_of_row _ _ _ _ _ _ hblk]; rfl
  have g0 : w1.frozen? ⟨b, 0, none⟩ = false := frozen_of_row _ _ _ _ _ hblk
  have hone : v1.oneCell' = true := by
    obtain ⟨a, cap, rfl, _⟩ := hrow.slice
    rfl
  have HFIN : Hid (IsReader (w1.setCell ⟨b, 0, none⟩ v1) b v1 (l ++ s.data.toList) dr sp p ∧ Touch (foot b v) w (w1.setCell ⟨b, 0, none⟩ v1)) := Lib.hid (by
    have hne : ∀ k, v1.ownBlock = some k → b ≠ k := fun k hk e => by
      rcases hown k hk with h1 | h1
      · exact h.2.2.1 k h1 e
      · omega
    refine ⟨⟨heap_setCell_same _ _ 0 _ _ _ hblk, hrow.other (fun k hk => heap_setCell_other _ _ _ _ (fun e => hne k hk e.symm)), hne, h.2.2.2.1, ?_⟩, Touch.setCell (S := foot b v) (ht.mono (fun k hk => Or.inr hk)) (Or.inl (Or.inl rfl)) _⟩
    have := h.2.2.2.2
    rw [List.length_append]; omega)
  have HOWN := Lib.hid hown
  obtain ⟨a, cap, rfl, _⟩ := h.2.1.slice
  obtain ⟨a1, cap1, rfl, _⟩ := hrow.slice
  clear h hown hrow ht hblk hnb hbl
  go_enter Tryz.func33, Tryz.ntmps33
  go_wp2_with (refine wpList_append_run rfl (.tmp 11) (.tmp 12) _ _ rfl _ _ rfl rfl _ _ hap ?_)
  go_ret
  have hl : (l ++ s.data.toList).length = l.length + s.size := by rw [List.length_append]; rfl
  rw [hl] at HFIN HOWN
  exact ⟨rfl, _, HFIN.out.1, HFIN.out.2, HOWN.out⟩

/-! ### Drop -/
theorem append_copy (w : World) (v : Value) (l : List UInt8) (h : IsRowB w v l) (hs : l.length ≤ 1099511627776) :
    ∃ v' w', (Builtin.append_ #[50, 50] 50 #[.slice none 0 0, v]).run Tryz.prog w = .ok v' w' ∧ IsRowB w' v' l ∧ Below w.heap.size w w' ∧ (∀ k, v'.ownBlock = some k → w.heap.size ≤ k) := by
  obtain ⟨i, hi, h5⟩ := Option.map_eq_some_iff.1 info5
  simp only [Prod.mk.injEq] at h5
  obtain ⟨hz, hsize, hby⟩ := h5
  rcases h with ⟨rfl, rfl⟩ | ⟨g, off, cap, rfl, hg, hlc, hcm, hc, ha, hf⟩
  · refine ⟨.slice none 0 0, w, ?_, Or.inl ⟨rfl, rfl⟩, Below.refl _ _, fun k hk => by simp [Value.ownBlock] at hk⟩
    exact run_append_nothing w 50 50 50 5 i Tryz.underlying50 hi none 0 0 (Nat.le_refl _) _ (Src.ofNil w Tryz.underlying50 0)
  · have hcell : ∀ j u, (l.map u8v)[j]? = some u → w.cell? ((⟨g, off, none⟩ : Addr).add j) = some u := fun j u hu => by
      rw [List.getElem?_map] at hu
      obtain ⟨x, hx, rfl⟩ := Option.map_eq_some_iff.1 hu
      rw [show (⟨g, off, none⟩ : Addr).add j = ⟨g, off + j, none⟩ from Addr.add_lit _ _ _]
      exact hc j x hx
    by_cases h0 : l.length = 0
    · obtain rfl : l = [] := List.eq_nil_of_length_eq_zero h0
      refine ⟨.slice none 0 0, w, ?_, Or.inl ⟨rfl, rfl⟩, Below.refl _ _, fun k hk => by simp [Value.ownBlock] at hk⟩
      exact run_append_nothing w 50 50 50 5 i Tryz.underlying50 hi none 0 0 (Nat.le_refl _) _ (Src.ofSlice w Tryz.underlying50 _ 0 cap [] (by simp) (fun j u hu => by simp at hu) (fun u hu => by cases hu))
    · have hr := run_append_nil (P := Tryz.prog) w 50 50 5 i (.int .u8 0) Tryz.underlying50 hi hz ⟨g, off, none⟩ l.length cap (l.map u8v) (by rw [hsize]; simp) hcell (by omega) (by omega) (by rw [hby]; omega)
      refine ⟨_, _, hr, ?_, ((Below.refl _ _).drew).alloc (Nat.le_refl _) _, fun k hk => by simp [Value.ownBlock] at hk; omega⟩
      have hge := grownCap_ge w l.length 0 5
      have hle := grownCap_le_maxLen w l.length 0 5 (by unfold maxLen; omega)
      exact fresh_rowB (g := w.heap.size) (e := 5) l (grownCap w l.length 0 5) hge hle (by
        show (w.heap.push _)[_]? = _
        simp [Value.cells])
theorem touch_b {w w' : World} {b : Nat} {v : Value} (h : Touch (· = b) w w') : Touch (foot b v) w w' := h.mono (fun _ hk => Or.inl hk)
theorem touch_drop {w w3 w5 w6 : World} {b : Nat} {v : Value} (h : Touch (· = b) w w3) (h5 : Below w3.heap.size w3 w5) (h6 : Touch (· = b) w5 w6) : Touch (foot b v) w w6 :=
  (touch_b h).trans ((Touch.ofBelow (S := foot b v) h5).trans (touch_b (v := v) h6) (fun i hi => Or.inl hi)) (fun i hi => Or.inl hi)
theorem touch_same {w w3 : World} {b : Nat} {v : Value} (h : Touch (· = b) w w3) (n : Nat) : Touch (foot b v) w (w3.drewN n) := (touch_b h).trans (touch_drewN (foot b v) w3 n) (fun i hi => Or.inl hi)
/-- A row of bytes, behind its first n. -/
theorem IsRowB.drop {w : World} {a : Option Addr} {cap n : Nat} {l : List UInt8} (h : IsRowB w (.slice a l.length cap) l) (hn : n ≤ l.length) (hc : cap ≠ n) :
    IsRowB w (.slice (Option.map (fun x => x.add n) a) (l.length - n) (cap - n)) (l.drop n) ∧ (Value.slice (Option.map (fun x => x.add n) a) (l.length - n) (cap - n)).ownBlock = (Value.slice a l.length cap).ownBlock := by
  rcases h with ⟨hv, rfl⟩ | ⟨g, off, cap', hv, hg, hlc, hcm, hcc, ha, hf⟩
  · cases hv
    exfalso
    have : n = 0 := by simpa using hn
    omega
  · simp only [Value.slice.injEq, true_and] at hv
    obtain ⟨rfl, rfl⟩ := hv
    have e : Option.map (fun x : Addr => x.add n) (some ⟨g, off, none⟩) = some ⟨g, off + n, none⟩ := by rw [Option.map_some, Addr.add_lit]
    rw [e]
    refine ⟨Or.inr ⟨g, off + n, cap - n, by rw [List.length_drop], hg, by rw [List.length_drop]; omega, by omega, fun i x hx => ?_, fun i hi => ?_, fun i hi => ?_⟩, rfl⟩
    · rw [List.getElem?_drop] at hx
      rw [Nat.add_assoc]; exact hcc (n + i) x hx
    · rw [Nat.add_assoc]; exact ha (n + i) (by omega)
    · rw [Nat.add_assoc]; exact hf (n + i) (by omega)
theorem IsRowB.drop_all {w : World} {a : Option Addr} {cap : Nat} {l : List UInt8} (h : IsRowB w (.slice a l.length cap) l) (hl : l.length = cap) :
    IsRowB w (.slice a 0 0) (l.drop cap) ∧ (Value.slice a 0 0).ownBlock = (Value.slice a l.length cap).ownBlock := by
  rw [List.drop_of_length_le (by omega)]
  rcases h with ⟨hv, rfl⟩ | ⟨g, off, cap', hv, hg, hlc, hcm, hcc, ha, hf⟩
  · cases hv
    exact ⟨Or.inl ⟨rfl, rfl⟩, rfl⟩
  · simp only [Value.slice.injEq, true_and] at hv
    obtain ⟨rfl, rfl⟩ := hv
    exact ⟨Or.inr ⟨g, off, 0, rfl, hg, Nat.le_refl _, by decide, fun i x hx => by simp at hx, fun i hi => by omega, fun i hi => by omega⟩, rfl⟩
/-- A reader whose first fields were written. -/
theorem IsReader.dropped {w : World} {b : Nat} {v : Value} {l : List UInt8} {dr sp p : Nat} (h : IsReader w b v l dr sp p) (n m : Nat) (v1 : Value) (hr : IsRowB w v1 (l.drop n)) (ho : v1.ownBlock = v.ownBlock) (hn : n ≤ l.length) (hp : 8 * (dr + n) ≤ p) :
    IsReader ((((w.drewN m).setCell ⟨b, 0, none⟩ v1).setCell ⟨b, 1, none⟩ (.int .i64 ((dr : Int) + (n : Int)))).setCell ⟨b, 2, none⟩ (.int .i64 ((sp : Int) + (n : Int)))) b v1 (l.drop n) (dr + n) (sp + n) p ∧
    Touch (· = b) w ((((w.drewN m).setCell ⟨b, 0, none⟩ v1).setCell ⟨b, 1, none⟩ (.int .i64 ((dr : Int) + (n : Int)))).setCell ⟨b, 2, none⟩ (.int .i64 ((sp : Int) + (n : Int)))) := by
  have h0 : (w.drewN m).heap[b]? = some (.cells #[v, .int .i64 (dr : Int), .int .i64 (sp : Int), .int .i64 (p : Int)] 58 (0, 0)) := h.1
  have h1 := heap_setCell_same _ _ 0 _ _ v1 h0
  have h2 := heap_setCell_same _ _ 1 _ _ (.int .i64 ((dr : Int) + (n : Int))) h1
  have h3 := heap_setCell_same _ _ 2 _ _ (.int .i64 ((sp : Int) + (n : Int))) h2
  have ht : Touch (· = b) w ((((w.drewN m).setCell ⟨b, 0, none⟩ v1).setCell ⟨b, 1, none⟩ (.int .i64 ((dr : Int) + (n : Int)))).setCell ⟨b, 2, none⟩ (.int .i64 ((sp : Int) + (n : Int)))) :=
    Touch.setCell (S := (· = b)) (Touch.setCell (S := (· = b)) (Touch.setCell (S := (· = b)) (touch_drewN _ w m) (Or.inl rfl) _) (Or.inl rfl) _) (Or.inl rfl) _
  have hne : ∀ k, v1.ownBlock = some k → b ≠ k := fun k hk => h.2.2.1 k (ho ▸ hk)
  refine ⟨⟨h3, hr.other (fun k hk => ht.block k (hr.lt k hk) (fun e => hne k hk e.symm)), hne, hp, ?_⟩, ht⟩
  have := h.2.2.2.2
  rw [List.length_drop]; omega
theorem IsReader.copied {w w5 : World} {b : Nat} {v v2 : Value} {l : List UInt8} {dr sp p : Nat} (h : IsReader w b v l dr sp p) (h5 : w5.heap[b]? = w.heap[b]?) (hr : IsRowB w5 v2 l) (hne : ∀ k, v2.ownBlock = some k → b ≠ k) :
    IsReader ((w5.setCell ⟨b, 0, none⟩ v2).setCell ⟨b, 2, none⟩ (.int .i64 0)) b v2 l dr 0 p ∧ Touch (· = b) w5 ((w5.setCell ⟨b, 0, none⟩ v2).setCell ⟨b, 2, none⟩ (.int .i64 0)) := by
  have h1 := heap_setCell_same _ _ 0 _ _ v2 (h5.trans h.1)
  have h2 := heap_setCell_same _ _ 2 _ _ (.int .i64 0) h1
  have ht : Touch (· = b) w5 ((w5.setCell ⟨b, 0, none⟩ v2).setCell ⟨b, 2, none⟩ (.int .i64 0)) :=
    Touch.setCell (S := (· = b)) (Touch.setCell (S := (· = b)) (Touch.refl _ w5) (Or.inl rfl) _) (Or.inl rfl) _
  exact ⟨⟨h2, hr.other (fun k hk => ht.block k (hr.lt k hk) (fun e => hne k hk e.symm)), hne, h.2.2.2.1, h.2.2.2.2⟩, ht⟩
set_option maxRecDepth 100000 in
set_option maxHeartbeats 2000000 in
theorem drop_any (b : Nat) (v : Value) (l : List UInt8) (dr sp p n : Nat) (w : World) (h : IsReader w b v l dr sp p) (hs : dr + l.length ≤ 1099511627776) (hsp : sp ≤ dr) (hn : n = p / 8 - dr) :
    Calls Tryz.prog 57 #[.pointer (some ⟨b, 0, none⟩)] w fun e w' => e = .returned (.int .i64 (n : Int)) ∧ ∃ v1 sp1, IsReader w' b v1 (l.drop n) (dr + n) sp1 p ∧ sp1 ≤ dr + n ∧ Touch (foot b v) w w' ∧ (∀ k, v1.ownBlock = some k → v.ownBlock = some k ∨ w.heap.size ≤ k) := by
  obtain ⟨c0, c1, c2, c3, f0, f1, f2, f3⟩ := h.cells
  have h1 := h.2.2.2.1
  have h2 := h.2.2.2.2
  have hnl : n ≤ l.length := by omega
  have hsub : (p : Int) / 8 - (dr : Int) = (n : Int) := by omega
  have hpb : (p : Int) ≤ 8796093022208 := by omega
  have hp8 : (p : Int) / 8 ≤ 1099511627776 := by omega
  have hp80 : (0 : Int) ≤ (p : Int) / 8 := by omega
  have hdb : (dr : Int) ≤ 1099511627776 := by omega
  have hspb : (sp : Int) ≤ 1099511627776 := by omega
  have hpn : 8 * (dr + n) ≤ p := by omega
  have HBL := Lib.hid (h.lt b (Or.inl rfl))
  have H := Lib.hid h
  have HRO := Lib.hid h.2.1
  obtain ⟨a, cap, rfl, hlc, hcm⟩ := h.2.1.slice
  unfold maxLen at hcm
  have hnc : n ≤ cap := by omega
  clear h h1 h2 hn
  by_cases hcap : cap = n
  · subst hcap
    obtain ⟨hrow, hown⟩ := HRO.out.drop_all (by omega)
    have HR3 := Lib.hid (fun m => H.out.dropped cap m _ hrow hown hnl hpn)
    have HOW := Lib.hid hown
    clear hrow hown
    go_enter Tryz.func57, Tryz.ntmps57
    go_wp2_with fail
    go_quiet (fail)
    go_wp2_with fail
    obtain ⟨hr3, ht3⟩ := HR3.out nq
    generalize hv1 : (Value.slice a 0 0) = v1 at *
    generalize (((w.drewN nq).setCell ⟨b, 0, none⟩ v1).setCell ⟨b, 1, none⟩ (.int .i64 ((dr : Int) + (cap : Int)))).setCell ⟨b, 2, none⟩ (.int .i64 ((sp : Int) + (cap : Int))) = W3 at hr3 ht3 ⊢
    obtain ⟨a1, cap1, hv2, hl2, hm2⟩ := hr3.2.1.slice
    unfold maxLen at hm2
    subst hv2
    obtain ⟨d0, d1, d2, d3, g0, g1, g2, g3⟩ := hr3.cells
    have R3 := Lib.hid hr3
    have T3 := Lib.hid ht3
    have hsz3 := ht3.size
    have hdl : (l.drop cap).length = l.length - cap := List.length_drop
    generalize hLD : l.drop cap = LD at *
    have hsz : (LD.length : Int) ≤ 1099511627776 := by omega
    have HLD := Lib.hid hLD
    clear hr3 ht3 hdl hLD
    by_cases hgt : (LD.length : Int) < (sp : Int) + (cap : Int)
    · go_quiet (fail)
      obtain ⟨v5, w5, hap, hrow5, hb5, how5⟩ := append_copy (W3.drewN nq) _ LD (R3.out.drewN nq).2.1 (by omega)
      have hblk : w5.heap[b]? = W3.heap[b]? := hb5.block b (R3.out.lt b (Or.inl rfl))
      have hne5 : ∀ k, v5.ownBlock = some k → b ≠ k := fun k hk e => by
        have h1 : W3.heap.size ≤ k := how5 k hk
        have h2 := R3.out.lt b (Or.inl rfl)
        omega
      obtain ⟨hr6, ht6⟩ := R3.out.copied hblk hrow5 hne5
      have e0 : w5.cell? ⟨b, 0, none⟩ = some (.slice a1 LD.length cap1) := (World.cell?_of_block (w := W3) (a := ⟨b, 0, none⟩) hblk).trans d0
      have e2 : w5.cell? ⟨b, 2, none⟩ = some (.int .i64 ((sp + cap : Nat) : Int)) := (World.cell?_of_block (w := W3) (a := ⟨b, 2, none⟩) hblk).trans d2
      have k0 : w5.frozen? ⟨b, 0, none⟩ = false := (World.frozen?_of_block (w := W3) (a := ⟨b, 0, none⟩) hblk).trans g0
      have k2 : w5.frozen? ⟨b, 2, none⟩ = false := (World.frozen?_of_block (w := W3) (a := ⟨b, 2, none⟩) hblk).trans g2
      have R6 := Lib.hid hr6
      have T6 := Lib.hid (touch_drop (v := .slice a l.length cap) T3.out (show Below W3.heap.size W3 w5 from ⟨hb5.os, hb5.tape, hb5.output, hb5.size, hb5.block⟩) ht6)
      have HO5 := Lib.hid how5
      obtain ⟨a5, cap5, rfl, _⟩ := hrow5.slice
      clear hrow5 hb5 how5 hblk hne5 hr6 ht6
      go_wp2_with (refine wpList_append_run (by rfl) (.const (.slice none 0 0)) (.tmp 55) 50 50 (by rfl) (.slice none 0 0) (.slice a1 LD.length cap1) (by simp [Act.eval]) (by simp [Act.eval]) _ _ hap ?_)
      go_ret
      have hfin : ∀ k, (Value.slice a5 LD.length cap5).ownBlock = some k → (Value.slice a l.length cap).ownBlock = some k ∨ w.heap.size ≤ k := fun k hk => Or.inr (Nat.le_trans hsz3 (HO5.out k hk))
      rw [HLD.out]
      exact ⟨rfl, _, _, R6.out, Nat.zero_le _, T6.out, hfin⟩
    · go_quiet (fail)
      go_wp2_with fail
      go_ret
      have T7 : Touch (foot b (.slice a l.length cap)) w (W3.drewN nq) := touch_same T3.out nq
      have R7 := R3.out.drewN nq
      have hfin : ∀ k, (Value.slice a1 LD.length cap1).ownBlock = some k → (Value.slice a l.length cap).ownBlock = some k ∨ w.heap.size ≤ k := fun k hk => Or.inl (by rw [← HOW.out]; exact hk)
      rw [HLD.out]
      exact ⟨rfl, _, _, R7, by omega, T7, hfin⟩
  · obtain ⟨hrow, hown⟩ := HRO.out.drop hnl hcap
    have HR3 := Lib.hid (fun m => H.out.dropped n m _ hrow hown hnl hpn)
    have HOW := Lib.hid hown
    clear hrow hown
    go_enter Tryz.func57, Tryz.ntmps57
    go_wp2_with fail
    go_quiet (fail)
    go_wp2_with fail
    obtain ⟨hr3, ht3⟩ := HR3.out nq
    generalize hv1 : (Value.slice (Option.map (fun x => x.add n) a) (l.length - n) (cap - n)) = v1 at *
    generalize (((w.drewN nq).setCell ⟨b, 0, none⟩ v1).setCell ⟨b, 1, none⟩ (.int .i64 ((dr : Int) + (n : Int)))).setCell ⟨b, 2, none⟩ (.int .i64 ((sp : Int) + (n : Int))) = W3 at hr3 ht3 ⊢
    obtain ⟨a1, cap1, hv2, hl2, hm2⟩ := hr3.2.1.slice
    unfold maxLen at hm2
    subst hv2
    obtain ⟨d0, d1, d2, d3, g0, g1, g2, g3⟩ := hr3.cells
    have R3 := Lib.hid hr3
    have T3 := Lib.hid ht3
    have hsz3 := ht3.size
    have hdl : (l.drop n).length = l.length - n := List.length_drop
    generalize hLD : l.drop n = LD at *
    have hsz : (LD.length : Int) ≤ 1099511627776 := by omega
    have HLD := Lib.hid hLD
    clear hr3 ht3 hdl hLD
    by_cases hgt : (LD.length : Int) < (sp : Int) + (n : Int)
    · go_quiet (fail)
      obtain ⟨v5, w5, hap, hrow5, hb5, how5⟩ := append_copy (W3.drewN nq) _ LD (R3.out.drewN nq).2.1 (by omega)
      have hblk : w5.heap[b]? = W3.heap[b]? := hb5.block b (R3.out.lt b (Or.inl rfl))
      have hne5 : ∀ k, v5.ownBlock = some k → b ≠ k := fun k hk e => by
        have h1 : W3.heap.size ≤ k := how5 k hk
        have h2 := R3.out.lt b (Or.inl rfl)
        omega
      obtain ⟨hr6, ht6⟩ := R3.out.copied hblk hrow5 hne5
      have e0 : w5.cell? ⟨b, 0, none⟩ = some (.slice a1 LD.length cap1) := (World.cell?_of_block (w := W3) (a := ⟨b, 0, none⟩) hblk).trans d0
      have e2 : w5.cell? ⟨b, 2, none⟩ = some (.int .i64 ((sp + n : Nat) : Int)) := (World.cell?_of_block (w := W3) (a := ⟨b, 2, none⟩) hblk).trans d2
      have k0 : w5.frozen? ⟨b, 0, none⟩ = false := (World.frozen?_of_block (w := W3) (a := ⟨b, 0, none⟩) hblk).trans g0
      have k2 : w5.frozen? ⟨b, 2, none⟩ = false := (World.frozen?_of_block (w := W3) (a := ⟨b, 2, none⟩) hblk).trans g2
      have R6 := Lib.hid hr6
      have T6 := Lib.hid (touch_drop (v := .slice a l.length cap) T3.out (show Below W3.heap.size W3 w5 from ⟨hb5.os, hb5.tape, hb5.output, hb5.size, hb5.block⟩) ht6)
      have HO5 := Lib.hid how5
      obtain ⟨a5, cap5, rfl, _⟩ := hrow5.slice
      clear hrow5 hb5 how5 hblk hne5 hr6 ht6
      go_wp2_with (refine wpList_append_run (by rfl) (.const (.slice none 0 0)) (.tmp 55) 50 50 (by rfl) (.slice none 0 0) (.slice a1 LD.length cap1) (by simp [Act.eval]) (by simp [Act.eval]) _ _ hap ?_)
      go_ret
      have hfin : ∀ k, (Value.slice a5 LD.length cap5).ownBlock = some k → (Value.slice a l.length cap).ownBlock = some k ∨ w.heap.size ≤ k := fun k hk => Or.inr (Nat.le_trans hsz3 (HO5.out k hk))
      rw [HLD.out]
      exact ⟨rfl, _, _, R6.out, Nat.zero_le _, T6.out, hfin⟩
    · go_quiet (fail)
      go_wp2_with fail
      go_ret
      have T7 : Touch (foot b (.slice a l.length cap)) w (W3.drewN nq) := touch_same T3.out nq
      have R7 := R3.out.drewN nq
      have hfin : ∀ k, (Value.slice a1 LD.length cap1).ownBlock = some k → (Value.slice a l.length cap).ownBlock = some k ∨ w.heap.size ≤ k := fun k hk => Or.inl (by rw [← HOW.out]; exact hk)
      rw [HLD.out]
      exact ⟨rfl, _, _, R7, by omega, T7, hfin⟩
end Go.Proofs.YtnffkbpgcidpkaaGreatDoor
namespace Go.Proofs.YtnffkbpgcidpkaaGreatDoor
open Go.RowKit BitM
set_option linter.unusedVariables false
set_option maxHeartbeats 400000 in
theorem seek_yes (b : Nat) (v : Value) (l : List UInt8) (dr sp p q : Nat) (w : World) (h : IsReader w b v l dr sp p) (hs : dr + l.length ≤ 1099511627776) (h1 : 8 * dr ≤ q) (h2 : q ≤ 8 * (dr + l.length)) :
    Calls Tryz.prog 175 #[.pointer (some ⟨b, 0, none⟩), .int .i64 (q : Int)] w fun e w' => e = .returned (.int .i64 0) ∧ IsReader w' b v l dr sp q ∧ Touch (· = b) w w' := by
  obtain ⟨c0, c1, c2, c3, f0, f1, f2, f3⟩ := h.cells
  obtain ⟨E, hE⟩ : ∃ E, 8 * (dr + l.length) = E := ⟨_, rfl⟩
  have hqE : (q : Int) ≤ E := by omega
  have hdq : (8 : Int) * dr ≤ q := by omega
  have hdb : (dr : Int) ≤ 1099511627776 := by omega
  have H := Lib.hid h
  have HE := Lib.hid hE
  clear h hE
  go_enter Tryz.func175, Tryz.ntmps175
  go_wp2_with fail
  refine (rend_any b v l dr sp p E w H.out hs HE.out).mono ?_
  rintro e w' ⟨rfl, m, rfl⟩
  go_wp2_with fail
  go_ret
  obtain ⟨d1, d2⟩ := (H.out.drewN m).at_ q h1 h2 (q : Int) rfl
  exact ⟨rfl, d1, (touch_drewN (· = b) w m).trans d2 (fun i hi => Or.inl hi)⟩
set_option maxHeartbeats 400000 in
theorem seek_no (b : Nat) (v : Value) (l : List UInt8) (dr sp p : Nat) (q : Int) (w : World) (h : IsReader w b v l dr sp p) (hs : dr + l.length ≤ 1099511627776) (h1 : q < 8 * (dr : Int) ∨ 8 * ((dr : Int) + (l.length : Int)) < q) :
    Calls Tryz.prog 175 #[.pointer (some ⟨b, 0, none⟩), .int .i64 q] w fun e w' => e = .returned (.int .i64 1) ∧ ∃ m, w' = w.drewN m := by
  obtain ⟨c0, c1, c2, c3, f0, f1, f2, f3⟩ := h.cells
  obtain ⟨E, hE⟩ : ∃ E, 8 * (dr + l.length) = E := ⟨_, rfl⟩
  have hdb : (dr : Int) ≤ 1099511627776 := by omega
  by_cases hlo : q < 8 * (dr : Int)
  · clear h hE h1
    go_enter Tryz.func175, Tryz.ntmps175
    go_wp2_with fail
    go_ret
    exact ⟨rfl, 0, rfl⟩
  · have hqE : (E : Int) < q := by omega
    have H := Lib.hid h
    have HE := Lib.hid hE
    clear h hE h1
    go_enter Tryz.func175, Tryz.ntmps175
    go_wp2_with fail
    refine (rend_any b v l dr sp p E w H.out hs HE.out).mono ?_
    rintro e w' ⟨rfl, m, rfl⟩
    go_wp2_with fail
    go_ret
    exact ⟨rfl, m, rfl⟩
set_option maxHeartbeats 1000000 in
theorem align_any (b : Nat) (v : Value) (l : List UInt8) (dr sp p q : Nat) (w : World) (h : IsReader w b v l dr sp p) (hs : dr + l.length ≤ 1099511627776) (hq : q = (p + 7) / 8 * 8) :
    Calls Tryz.prog 124 #[.pointer (some ⟨b, 0, none⟩)] w fun e w' => e = .returned (.tuple #[]) ∧ IsReader w' b v l dr sp q ∧ Touch (· = b) w w' := by
  obtain ⟨c0, c1, c2, c3, f0, f1, f2, f3⟩ := h.cells
  have h1 := h.2.2.2.1
  have h2 := h.2.2.2.2
  have hpb : (p : Int) ≤ 8796093022208 := by omega
  have hqp : q = p + (8 - p % 8) % 8 := by omega
  have hqd : 8 * dr ≤ q := by omega
  have hqe : q ≤ 8 * (dr + l.length) := by omega
  have H := Lib.hid h
  have HW : Hid (IntKind.i64.wrap ((p : Int) + ((8 - p % 8 : Nat) : Int) % 8) = (q : Int)) := Lib.hid (by
    have e : (p : Int) + ((8 - p % 8 : Nat) : Int) % 8 = (q : Int) := by omega
    have hqb : (q : Int) ≤ 8796093022208 := by omega
    rw [e, IntKind.wrap_i64]; omega)
  clear h hq hqp
  go_enter Tryz.func124, Tryz.ntmps124
  go_wp2_with fail
  go_region_with (first | (go_at_call 142; refine (upToByte_any _ p rfl _ (by omega)).mono ?_; rintro e w' ⟨rfl, rfl⟩))
  all_goals
    go_end0
    obtain ⟨d1, d2⟩ := H.out.at_ q hqd hqe (IntKind.i64.wrap ((p : Int) + ((8 - p % 8 : Nat) : Int) % 8)) HW.out
    exact ⟨rfl, d1.drewN 1, d2.trans (touch_drewN (· = b) _ 1) (fun i hi => Or.inl hi)⟩
end Go.Proofs.YtnffkbpgcidpkaaGreatDoor
namespace Go.Proofs.YtnffkbpgcidpkaaGreatDoor
namespace CrcM
open Go.RowKit

def poly : BitVec 32 := 79764919#32
/-- One step: shifted up by one, and the polynomial where a one went out. -/
def b1 (x : BitVec 32) : BitVec 32 := (x <<< 1) ^^^ (if x.msb then poly else 0#32)
/-- k steps. -/
def it : Nat → BitVec 32 → BitVec 32
  | 0, x => x
  | k + 1, x => b1 (it k x)
/-- A byte above 24 bits. -/
def up (b : Nat) : BitVec 32 := BitVec.ofNat 32 b <<< 24
def nx (s : BitVec 32) (b : UInt8) : BitVec 32 := it 8 (s ^^^ up b.toNat)
def run (s : BitVec 32) (l : List UInt8) : BitVec 32 := l.foldl nx s
/-- All bits turned. -/
def ng (x : BitVec 32) : BitVec 32 := ~~~ x
def crc (l : List UInt8) : BitVec 32 := ng (run (ng 0#32) l)
def rot (t : BitVec 32) : BitVec 32 := t.rotateLeft 1
def cmb (t b : BitVec 32) : BitVec 32 := rot t ^^^ b

theorem b1_xor (x y : BitVec 32) : b1 (x ^^^ y) = b1 x ^^^ b1 y := by
  unfold b1
  rw [BitVec.shiftLeft_xor_distrib, BitVec.msb_xor]
  cases hx : x.msb <;> cases hy : y.msb <;> simp
  · ac_rfl
  · ac_rfl
  · rw [show x <<< 1 ^^^ poly ^^^ (y <<< 1 ^^^ poly) = x <<< 1 ^^^ y <<< 1 ^^^ (poly ^^^ poly) by ac_rfl]; simp
theorem b1_zero : b1 0#32 = 0#32 := by decide
theorem it_xor (k : Nat) (x y : BitVec 32) : it k (x ^^^ y) = it k x ^^^ it k y := by
  induction k with
  | zero => rfl
  | succ k ih => simp only [it, ih, b1_xor]
theorem it_zero (k : Nat) : it k 0#32 = 0#32 := by
  induction k with
  | zero => rfl
  | succ k ih => simp only [it, ih, b1_zero]
theorem b1_eq_zero {x : BitVec 32} (h : b1 x = 0#32) : x = 0#32 := by
  unfold b1 at h
  by_cases hx : x.msb = true
  · rw [if_pos hx] at h
    have : (x <<< 1 ^^^ poly).getLsbD 0 = true := by simp [poly]
    rw [h] at this; simp at this
  · rw [if_neg hx] at h
    simp at hx
    simp only [BitVec.xor_zero] at h
    apply BitVec.eq_of_getLsbD_eq
    intro i hi
    by_cases h31 : i = 31
    · subst h31; simpa [BitVec.msb_eq_getLsbD_last] using hx
    · have := congrArg (fun v => v.getLsbD (i + 1)) h
      rw [BitVec.getLsbD_eq_getElem hi]
      simpa [show i + 1 < 32 by omega] using this
theorem it_eq_zero {k : Nat} {x : BitVec 32} (h : it k x = 0#32) : x = 0#32 := by
  induction k with
  | zero => exact h
  | succ k ih => exact ih (b1_eq_zero h)
theorem nx_zero (x : BitVec 32) : nx x 0 = it 8 x := by simp [nx, up]

/-- What a table makes of a step. -/
theorem low_it (s : BitVec 32) (k : Nat) (hk : k ≤ 8) : it k ((s <<< 8) >>> 8) = ((s <<< 8) >>> 8) <<< k := by
  induction k with
  | zero => simp [it]
  | succ k ih =>
    simp only [it, ih (by omega), b1]
    have : (((s <<< 8) >>> 8) <<< k).msb = false := by
      rw [BitVec.msb_eq_getLsbD_last]
      simp
      intro h
      omega
    rw [this]
    simp [← BitVec.shiftLeft_add]
theorem split (s : BitVec 32) : s = ((s >>> 24) <<< 24) ^^^ ((s <<< 8) >>> 8) := by
  apply BitVec.eq_of_getLsbD_eq
  intro i hi
  by_cases h : i < 24
  · simp [h, show 8 + i < 32 by omega, show i < 32 from hi]
  · have : ¬ (8 + i < 32) := by omega
    simp [h, this, hi, show 24 + (i - 24) = i by omega]
theorem back8 (s : BitVec 32) : ((s <<< 8) >>> 8) <<< 8 = s <<< 8 := by
  apply BitVec.eq_of_getLsbD_eq
  intro i hi
  by_cases h : i < 8
  · simp [h]
  · simp [h, hi, show 8 + (i - 8) = i by omega]
theorem table_step (s : BitVec 32) (b : UInt8) (i : Nat) (hi : BitVec.ofNat 32 i = (s >>> 24) ^^^ BitVec.ofNat 32 b.toNat) :
    (s <<< 8) ^^^ it 8 (up i) = nx s b := by
  unfold nx up
  rw [hi, BitVec.shiftLeft_xor_distrib, it_xor, it_xor]
  conv => rhs; rw [split s]
  rw [it_xor, low_it s 8 (by omega), back8]
  ac_rfl

theorem run_append (s : BitVec 32) (a b : List UInt8) : run s (a ++ b) = run (run s a) b := by simp [run, List.foldl_append]
theorem run_snoc (s : BitVec 32) (a : List UInt8) (c : UInt8) : run s (a ++ [c]) = nx (run s a) c := by simp [run, List.foldl_append]

/-! ### The walk's spellings -/
theorem bits_xor (a b : BitVec 32) : bits BinOp.xor IntKind.u32 (a.toNat : Int) (b.toNat : Int) = ((a ^^^ b).toNat : Int) := by
  rw [u32_xor_nat _ _ a.isLt b.isLt, BitVec.toNat_xor]
theorem toNat_dbl (x : BitVec 32) : (x.toNat : Int) * (2 : Int) % (4294967296 : Int) = ((x <<< 1).toNat : Int) := by
  simp [BitVec.toNat_shiftLeft, Nat.shiftLeft_eq]
theorem msb_hi (x : BitVec 32) : x.msb = true ↔ 2147483648 ≤ x.toNat := by
  rw [BitVec.msb_eq_decide]; simp
theorem b1_code (x : BitVec 32) : bits BinOp.xor IntKind.u32 ((x.toNat : Int) * 2 % 4294967296) ((x.toNat : Int) / 2147483648 * 79764919) = ((b1 x).toNat : Int) := by
  have hx := x.isLt
  have : (x.toNat : Int) / (2147483648 : Int) * (79764919 : Int) = (((if x.msb then poly else 0#32) : BitVec 32).toNat : Int) := by
    by_cases h : x.msb = true
    · have := (msb_hi x).1 h
      rw [if_pos h]
      have e : (x.toNat : Int) / 2147483648 = 1 := by omega
      rw [e]; rfl
    · have h' : ¬ 2147483648 ≤ x.toNat := fun g => h ((msb_hi x).2 g)
      rw [if_neg h]
      have e : (x.toNat : Int) / 2147483648 = 0 := by omega
      rw [e]; rfl
  rw [toNat_dbl, this, bits_xor]; rfl
theorem b1_ref_hi (x : BitVec 32) (h : 2147483648 ≤ (x.toNat : Int)) : bits BinOp.xor IntKind.u32 (((x.toNat : Int) - 2147483648) * 2) 79764919 = ((b1 x).toNat : Int) := by
  have hx := x.isLt
  have e : ((x.toNat : Int) - (2147483648 : Int)) * (2 : Int) = ((x <<< 1).toNat : Int) := by rw [← toNat_dbl]; omega
  have e2 : (79764919 : Int) = (poly.toNat : Int) := rfl
  rw [e, e2, bits_xor]
  unfold b1
  rw [if_pos ((msb_hi x).2 (by omega))]
theorem b1_ref_lo (x : BitVec 32) (h : (x.toNat : Int) < 2147483648) : (x.toNat : Int) * (2 : Int) = ((b1 x).toNat : Int) := by
  unfold b1
  rw [if_neg (fun g => by have := (msb_hi x).1 g; omega)]
  simp only [BitVec.xor_zero]
  rw [← toNat_dbl]; omega
theorem up_code (b : Nat) (h : b < 256) : (b : Int) * (16777216 : Int) = ((up b).toNat : Int) := by
  unfold up
  simp [BitVec.toNat_shiftLeft, Nat.shiftLeft_eq]
  omega
theorem idx_of (X : BitVec 32) (b : UInt8) : ∃ i : Nat, i < 256 ∧ bits BinOp.xor IntKind.u8 ((X.toNat : Int) / (16777216 : Int)) (b.toNat : Int) = (i : Int) ∧ BitVec.ofNat 32 i = (X >>> 24) ^^^ BitVec.ofNat 32 b.toNat := by
  have hX := X.isLt
  have hb := b.toNat_lt
  refine ⟨(X.toNat / 16777216) ^^^ b.toNat, Nat.xor_lt_two_pow (n := 8) (by omega) (by omega), ?_, ?_⟩
  · rw [show (X.toNat : Int) / (16777216 : Int) = ((X.toNat / 16777216 : Nat) : Int) by omega, u8_xor_nat _ _ (by omega) (by omega)]
  · apply BitVec.eq_of_toNat_eq
    rw [BitVec.toNat_xor, BitVec.toNat_ushiftRight, BitVec.toNat_ofNat, BitVec.toNat_ofNat, Nat.shiftRight_eq_div_pow]
    have h8 : (X.toNat / 16777216) ^^^ b.toNat < 256 := Nat.xor_lt_two_pow (n := 8) (by omega) (by omega)
    rw [Nat.mod_eq_of_lt (by omega), Nat.mod_eq_of_lt (by omega : b.toNat < 2 ^ 32)]
theorem toNat_sh8 (x : BitVec 32) : (x.toNat : Int) * (256 : Int) % (4294967296 : Int) = ((x <<< 8).toNat : Int) := by
  simp [BitVec.toNat_shiftLeft, Nat.shiftLeft_eq]
theorem nx_code (X : BitVec 32) (b : UInt8) (i : Nat) (hi : BitVec.ofNat 32 i = (X >>> 24) ^^^ BitVec.ofNat 32 b.toNat) :
    bits BinOp.xor IntKind.u32 ((X.toNat : Int) * 256 % 4294967296) ((it 8 (up i)).toNat : Int) = ((nx X b).toNat : Int) := by
  rw [toNat_sh8, bits_xor, table_step X b i hi]
theorem xor_up (X : BitVec 32) (b : UInt8) : bits BinOp.xor IntKind.u32 (X.toNat : Int) ((b.toNat : Int) * 16777216) = ((X ^^^ up b.toNat).toNat : Int) := by
  rw [up_code _ b.toNat_lt, bits_xor]
theorem ng_max (x : BitVec 32) : bits BinOp.xor IntKind.u32 IntKind.u32.max (x.toNat : Int) = ((ng x).toNat : Int) := by
  have e : IntKind.u32.max = (((4294967295#32 : BitVec 32).toNat : Nat) : Int) := by decide
  rw [e, bits_xor]
  congr 2
theorem ng_sub (x : BitVec 32) : (4294967295 : Int) - (x.toNat : Int) = ((ng x).toNat : Int) := by
  have := x.isLt
  unfold ng
  rw [BitVec.toNat_not]; omega
theorem ng_ng (x : BitVec 32) : ng (ng x) = x := by simp [ng]
theorem crc_nil : crc [] = 0#32 := by decide
end CrcM
end Go.Proofs.YtnffkbpgcidpkaaGreatDoor

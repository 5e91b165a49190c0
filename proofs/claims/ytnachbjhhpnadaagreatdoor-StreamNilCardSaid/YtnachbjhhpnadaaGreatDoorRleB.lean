/-
  THE WALKS OF LAYER 3's CODE (package rle): how many bytes a piece has; the pieces of a text.
-/
import Derived.Test.YtnachbjhhpnadaaGreatDoorRle
import Derived.IntWalk
import Derived.Shelf.Abstract
namespace Go.Proofs.YtnachbjhhpnadaaGreatDoor
open Go.RowKit RleM
set_option linter.unusedVariables false

/-- WHAT THE TABLE OF SIZES READS AS. -/
structure Sizes (w : World) : Prop where
  c0 : w.cell? ⟨2, 0, none⟩ = some (.int .i64 0)
  c1 : w.cell? ⟨2, 1, none⟩ = some (.int .i64 1)
  c2 : w.cell? ⟨2, 2, none⟩ = some (.int .i64 2)
  c3 : w.cell? ⟨2, 3, none⟩ = some (.int .i64 3)
  c4 : w.cell? ⟨2, 4, none⟩ = some (.int .i64 5)
theorem Sizes.lt {w : World} (h : Sizes w) : 2 < w.heap.size := World.block_lt_of_cell? w ⟨2, 0, none⟩ h.c0
theorem Sizes.touch {w w' : World} {S : Nat → Prop} (h : Sizes w) (ht : Touch S w w') (hS : ¬ S 2) : Sizes w' := by
  have e : ∀ o, w'.cell? ⟨2, o, none⟩ = w.cell? ⟨2, o, none⟩ := fun o => by
    have := ht.block _ h.lt hS
    simp only [World.cell?, this]
  exact ⟨(e 0).trans h.c0, (e 1).trans h.c1, (e 2).trans h.c2, (e 3).trans h.c3, (e 4).trans h.c4⟩
theorem Sizes.below {w w' : World} {B : Nat} (h : Sizes w) (hb : Below B w w') (hB : 2 < B) : Sizes w' := by
  have e : ∀ o, w'.cell? ⟨2, o, none⟩ = w.cell? ⟨2, o, none⟩ := fun o => hb.cell (p := ⟨2, o, none⟩) hB
  exact ⟨(e 0).trans h.c0, (e 1).trans h.c1, (e 2).trans h.c2, (e 3).trans h.c3, (e 4).trans h.c4⟩
theorem Sizes.same {w w' : World} (h : Sizes w) (e : w'.heap = w.heap) : Sizes w' := by
  have e : ∀ o, w'.cell? ⟨2, o, none⟩ = w.cell? ⟨2, o, none⟩ := fun o => by simp only [World.cell?, e]
  exact ⟨(e 0).trans h.c0, (e 1).trans h.c1, (e 2).trans h.c2, (e 3).trans h.c3, (e 4).trans h.c4⟩
/-- How many bytes a piece of so many has. -/
def sz (n : Nat) : Nat := if n < 4 then n else 5
theorem packP_sz (p : Pc) : (packP p).length = sz p.2 := packP_length p
set_option maxHeartbeats 400000 in
theorem size_any (n : Nat) (w : World) (hT : Sizes w) (hn : n ≤ 9223372036854775807) : Calls Tryz.prog 308 #[.int .i64 (n : Int)] w fun e w' => e = .returned (.int .i64 (sz n : Int)) ∧ w = w' := by
  obtain ⟨X, hX⟩ : ∃ X : Int, (n : Int) = X := ⟨_, rfl⟩
  have HX := Lib.hid hX
  rw [hX]
  obtain ⟨c0, c1, c2, c3, c4⟩ := hT
  rcases (by omega : X = 0 ∨ X = 1 ∨ X = 2 ∨ X = 3 ∨ X = 4 ∨ 4 < X) with rfl | rfl | rfl | rfl | rfl | h
  · clear hX
    go_enter Tryz.func308, Tryz.ntmps308
    go_wp2
    go_ret
    exact ⟨rlints_inj (by have := HX.out; unfold sz; rw [if_pos (by omega)]; omega), rfl⟩
  · clear hX
    go_enter Tryz.func308, Tryz.ntmps308
    go_wp2
    go_ret
    exact ⟨rlints_inj (by have := HX.out; unfold sz; rw [if_pos (by omega)]; omega), rfl⟩
  · clear hX
    go_enter Tryz.func308, Tryz.ntmps308
    go_wp2
    go_ret
    exact ⟨rlints_inj (by have := HX.out; unfold sz; rw [if_pos (by omega)]; omega), rfl⟩
  · clear hX
    go_enter Tryz.func308, Tryz.ntmps308
    go_wp2
    go_ret
    exact ⟨rlints_inj (by have := HX.out; unfold sz; rw [if_pos (by omega)]; omega), rfl⟩
  · clear hX
    go_enter Tryz.func308, Tryz.ntmps308
    go_wp2
    go_ret
    exact ⟨rlints_inj (by have := HX.out; unfold sz; rw [if_neg (by omega)]; rfl), rfl⟩
  · clear hX
    go_enter Tryz.func308, Tryz.ntmps308
    go_wp2
    go_ret
    exact ⟨rlints_inj (by have := HX.out; unfold sz; rw [if_neg (by omega)]; rfl), rfl⟩

/-- WHAT THE CLOSURE OF Size KEEPS: one number in a block of its own. -/
structure Counts (w0 : World) (b : Nat) (n : Nat) (w : World) : Prop where
  block : w.heap[b]? = some (.cells #[.int .i64 (n : Int)] 3 (0, 0))
  below : Below w0.heap.size w0 w
theorem Counts.drewN {w0 w : World} {b n : Nat} (h : Counts w0 b n w) (m : Nat) : Counts w0 b n (w.drewN m) :=
  ⟨h.block, h.below.trans ⟨rfl, rfl, rfl, Nat.le_refl _, fun _ _ => rfl⟩⟩
theorem Counts.set {w0 w : World} {b n : Nat} (h : Counts w0 b n w) (hb : w0.heap.size ≤ b) (m : Nat) : Counts w0 b m (w.setCell ⟨b, 0, none⟩ (.int .i64 (m : Int))) :=
  ⟨heap_setCell_same _ _ 0 _ _ _ h.block, h.below.trans ((Below.refl _ _).setCell hb _)⟩
theorem Counts.put {w0 w : World} {b n : Nat} (h : Counts w0 b n w) (hb : w0.heap.size ≤ b) (m : Nat) (X : Int) (hX : X = (m : Int)) : Counts w0 b m (w.setCell ⟨b, 0, none⟩ (.int .i64 X)) := hX ▸ h.set hb m
theorem Counts.drew {w0 w : World} {b n : Nat} (h : Counts w0 b n w) : Counts w0 b n w.drew := ⟨h.block, h.below.drew⟩
theorem Counts.alloc {w0 w : World} {b n : Nat} (h : Counts w0 b n w) (o : Obj) : Counts w0 b n (w.alloc o) :=
  ⟨(Below.heap_alloc w o b (Array.getElem?_eq_some_iff.1 h.block).1).trans h.block, h.below.alloc h.below.size _⟩
theorem pack_parts {l : List UInt8} {ps qs : List Pc} {p : Pc} (h : pieces l = ps ++ p :: qs) : 1 ≤ p.2 ∧ p.2 ≤ 255 ∧ 4 * (pack (ps ++ [p])).length ≤ 5 * l.length := by
  have hg := good l
  have hf := flat_pieces l
  rw [h, show ps ++ p :: qs = (ps ++ [p]) ++ qs from by simp] at hg hf
  have h1 := good_left hg
  have h2 := pack_small _ h1
  obtain ⟨a, b, _⟩ := good_last h1
  rw [flat_append] at hf
  have : (flat (ps ++ [p])).length ≤ l.length := by rw [← hf, List.length_append]; omega
  exact ⟨a, b, by omega⟩
end Go.Proofs.YtnachbjhhpnadaaGreatDoor

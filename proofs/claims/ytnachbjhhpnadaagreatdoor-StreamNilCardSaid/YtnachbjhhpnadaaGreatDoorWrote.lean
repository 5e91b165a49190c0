/-
  WHAT A WRITER HAS, FROM A WORLD ON; rows that stay; what fits into bits.
-/
import Derived.Test.YtnachbjhhpnadaaGreatDoorInts
import Derived.Test.YtnachbjhhpnadaaGreatDoorBitsR
import Derived.Test.YtnachbjhhpnadaaGreatDoorBitsL
import Derived.Test.YtnachbjhhpnadaaGreatDoorBitsRef
import Derived.Test.YtnachbjhhpnadaaGreatDoorBitsRefB
namespace Go.Proofs.YtnachbjhhpnadaaGreatDoor
open Go.RowKit BitM
set_option linter.unusedVariables false
/-! ### What is written -/
/-- From the world w the writer g, whose row was v, went on: it has the bits q. -/
def Wrote (w : World) (g : Nat) (v : Value) (tk : Nat) (q : List Bool) (w' : World) : Prop :=
  ∃ v1, IsWriter w' g v1 q tk ∧ Touch (foot g v) w w' ∧ (∀ k, v1.ownBlock = some k → v.ownBlock = some k ∨ w.heap.size ≤ k)
theorem Wrote.start {w : World} {g : Nat} {v : Value} {tk : Nat} {q : List Bool} (h : IsWriter w g v q tk) : Wrote w g v tk q w := ⟨v, h, Touch.refl _ _, fun k hk => Or.inl hk⟩
theorem Wrote.put {w w' : World} {g : Nat} {v : Value} {tk : Nat} {q : List Bool} (h : Wrote w g v tk q w') (X n : Nat) (hn : n ≤ 32) (hX : X < 2 ^ n) (hq : q.length ≤ 1099511627776) :
    Calls Tryz.prog 47 #[.pointer (some ⟨g, 0, none⟩), .int .u32 (X : Int), .int .i64 (n : Int)] w' fun e w2 => e = .returned (.int .i64 0) ∧ Wrote w g v tk (q ++ field X n) w2 := by
  obtain ⟨v1, h1, h2, h3⟩ := h
  refine (put_any g v1 q tk X n w' h1 hn hX hq).mono ?_
  rintro e w2 ⟨rfl, v2, k1, k2, k3⟩
  refine ⟨rfl, v2, k1, h2.trans k2 (fun j hj => ?_), fun k hk => ?_⟩
  · rcases hj with hj | hj
    · exact Or.inl (Or.inl hj)
    · rcases h3 j hj with h | h
      · exact Or.inl (Or.inr h)
      · exact Or.inr h
  · rcases k3 k hk with h | h
    · exact h3 k h
    · exact Or.inr (Nat.le_trans h2.size h)
theorem Wrote.touch {w w' : World} {g : Nat} {v : Value} {tk : Nat} {q : List Bool} (h : Wrote w g v tk q w') : Touch (foot g v) w w' := by
  obtain ⟨v1, h1, h2, h3⟩ := h
  exact h2
theorem IsInts.other {w w' : World} {v : Value} {zs : List Int} (h : IsInts w v zs) {S : Nat → Prop} (ht : Touch S w w') (hS : ∀ k, v.ownBlock = some k → ¬ S k) : IsInts w' v zs := by
  obtain ⟨a, cap, rfl, hc⟩ := h
  refine ⟨a, cap, rfl, fun i x hx => ?_⟩
  obtain ⟨b, off, ha, hb⟩ := hc i x hx
  refine ⟨b, off, ha, ?_⟩
  rw [World.cell?_of_block (w := w) (a := ⟨b, off + i, none⟩) (ht.block b (cell_lt hb) (hS b (by rw [ha]; rfl)))]
  exact hb
def Fits (X : Nat) (n : Int) : Prop := ∃ m : Nat, n = (m : Int) ∧ m ≤ 32 ∧ X < 2 ^ m
theorem txt_testD (q : List Bool) (k : Nat) (hk : k < q.length) (h : k < (txt q).size) : ((txt q)[k].toNat : Int) = 48 + (bn (q.getD k false) : Int) := by
  rw [txt_get q k hk h]
  congr 3
  rw [List.getD_eq_getElem?_getD, List.getElem?_eq_getElem hk]
  rfl
theorem drop_consB (q : List Bool) (k : Nat) (h : k < q.length) : q.drop k = q.getD k false :: q.drop (k + 1) := by
  rw [List.getD_eq_getElem?_getD, List.getElem?_eq_getElem h]
  exact List.drop_eq_getElem_cons h
end Go.Proofs.YtnachbjhhpnadaaGreatDoor

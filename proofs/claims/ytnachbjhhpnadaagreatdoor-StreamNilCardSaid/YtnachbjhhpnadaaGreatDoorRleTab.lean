/-
  WHAT THE TABLE OF SIZES READS AS, OUT OF THE ROW's CONDITION.
-/
import Derived.Test.YtnachbjhhpnadaaGreatDoorRleB
import Derived.Test.YtnachbjhhpnadaaGreatDoorCards
import Derived.Test.YtnachbjhhpnadaaGreatDoorTie
import Derived.LaidMore
import Derived.Stop.Joined
namespace Go.Proofs.YtnachbjhhpnadaaGreatDoor
open Go.ChangeShapes Go.WideShapes Go.RowKit
theorem int_cell {H : Type} {enc : TypeId × Value → H} {P : Program} {w : World} {base : Nat} {sp : Nat → Bool} {held : Bool} {fuel : Nat} {t : TypeId} {k : IntKind} {cs : List Value} {y : DataW H × List MemPlace} {n : Int}
    (ht : P.underlying t = some (.int k)) (h : DataW.trod enc P w base sp held fuel t cs = some y) (hy : y.1 = .lit (.int k n)) : cs = [.int k n] := by
  obtain ⟨m, rfl, e, _⟩ := DataW.trod_int ht h
  rw [e] at hy
  simp at hy
  rw [hy]
/-- A table of whole numbers: its cells. -/
theorem table_cells {H : Type} {enc : TypeId × Value → H} {P : Program} {w : World} {base : Nat} {sp : Nat → Bool} {held : Bool} {fuel n : Nat} {t e : TypeId} {k : IntKind} {cs : List Value} {ps : List MemPlace} {ns : List Int}
    (ht : P.underlying t = some (.array n e)) (he : P.underlying e = some (.int k)) (hc : P.cellsOf e = 1)
    (h : DataW.trod enc P w base sp held fuel t cs = some (.agg (ns.map fun x => .lit (.int k x)), ps)) : ∀ (j : Nat) (x : Int), ns[j]? = some x → cs[j]? = some (.int k x) := by
  intro j x hj
  obtain ⟨xs, m, hx0, hx, hl, hn, hel⟩ := DataW.trod_array ht h
  have hjl := (List.getElem?_eq_some_iff.1 hj).1
  simp only [Prod.mk.injEq, DataW.agg.injEq] at hx
  have hlen : xs.length = ns.length := by
    have := congrArg List.length hx.1
    simpa using this.symm
  have h1 := hel j (by omega)
  have hxj : xs[j]? = some (xs[j]'(by omega)) := List.getElem?_eq_getElem _
  rw [hxj, hc] at h1
  have h2 := int_cell (n := x) he h1 (by
    have := congrArg (fun l => l[j]?) hx.1
    simp only [List.getElem?_map, hj, hxj, Option.map_some, Option.some.injEq] at this
    exact this.symm)
  have h3 := congrArg (fun l => l[0]?) h2
  simpa using h3
theorem sizes_of_laid {W : World} (h : laidMetH Tryz.prog [("baler/rle.sizes", Rows.laid_baler_rle_sizes)] W) : Sizes W := by
  rw [MakeChecks.laidMetH_plain _ _ _ (by kernel_rfl)] at h
  obtain ⟨ps, ⟨g0, t0, cs0, f0, p0, q0, hg0, ht0, hv0, hd0, _, _⟩, _, _⟩ := h
  have e0 : some g0 = some 2 := hg0.symm.trans (by kernel_rfl)
  obtain rfl : g0 = 2 := Option.some.inj e0
  have e1 : some t0 = some 352 := ht0.symm.trans (by kernel_rfl)
  obtain rfl : t0 = 352 := Option.some.inj e1
  have hc := table_cells (ns := [0, 1, 2, 3, 5]) Tryz.underlying352 Tryz.underlying3 (by kernel_rfl) hd0
  have at_ : ∀ (j : Nat) (x : Int), ([0, 1, 2, 3, 5] : List Int)[j]? = some x → W.cell? ⟨2, j, none⟩ = some (.int .i64 x) := fun j x hj => by
    rw [World.var?_cell hg0 hv0 j, ← hc j x hj]
    simp
  exact ⟨at_ 0 0 rfl, at_ 1 1 rfl, at_ 2 2 rfl, at_ 3 3 rfl, at_ 4 5 rfl⟩
end Go.Proofs.YtnachbjhhpnadaaGreatDoor

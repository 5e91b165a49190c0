/-
  WHAT THE TABLE OF BOUNDS READS AS, OUT OF THE ROW's CONDITION.
-/
import Derived.Test.YtmlcdfimcabgkaaDoorTabA
import Derived.Test.YtmlcdfimcabgkaaDoorCards
import Derived.Test.YtmlcdfimcabgkaaDoorTie
import Derived.LaidMore
import Derived.Stop.Joined
namespace Go.Proofs.YtmlcdfimcabgkaaDoor
open Go.ChangeShapes Go.WideShapes Go.RowKit
theorem int_cell {H : Type} {enc : TypeId × Value → H} {P : Program} {w : World} {base : Nat} {sp : Nat → Bool} {held : Bool} {fuel : Nat} {t : TypeId} {k : IntKind} {cs : List Value} {y : DataW H × List MemPlace} {n : Int}
    (ht : P.underlying t = some (.int k)) (h : DataW.trod enc P w base sp held fuel t cs = some y) (hy : y.1 = .lit (.int k n)) : cs = [.int k n] := by
  obtain ⟨m, rfl, e, _⟩ := DataW.trod_int ht h
  rw [e] at hy
  simp at hy
  rw [hy]
/-- A table of whole numbers: its cells, all of them. -/
theorem table_all {H : Type} {enc : TypeId × Value → H} {P : Program} {w : World} {base : Nat} {sp : Nat → Bool} {held : Bool} {fuel n : Nat} {t e : TypeId} {k : IntKind} {cs : List Value} {ps : List MemPlace} {ns : List Int}
    (ht : P.underlying t = some (.array n e)) (he : P.underlying e = some (.int k)) (hc : P.cellsOf e = 1) (hct : P.cellsOf t = ns.length)
    (h : DataW.trod enc P w base sp held fuel t cs = some (.agg (ns.map fun x => .lit (.int k x)), ps)) : cs = ns.map fun x => .int k x := by
  obtain ⟨xs, m, hx0, hx, hl, hn, hel⟩ := DataW.trod_array ht h
  simp only [Prod.mk.injEq, DataW.agg.injEq] at hx
  have hlen : xs.length = ns.length := by
    have := congrArg List.length hx.1
    simpa using this.symm
  apply List.ext_getElem?
  intro j
  by_cases hj : j < ns.length
  · have h1 := hel j (by omega)
    have hxj : xs[j]? = some (xs[j]'(by omega)) := List.getElem?_eq_getElem _
    rw [hxj, hc] at h1
    have hnj : ns[j]? = some ns[j] := List.getElem?_eq_getElem hj
    have h2 := int_cell (n := ns[j]) he h1 (by
      have := congrArg (fun l => l[j]?) hx.1
      simp only [List.getElem?_map, hnj, hxj, Option.map_some, Option.some.injEq] at this
      exact this.symm)
    have h3 := congrArg (fun l => l[0]?) h2
    rw [List.getElem?_map, hnj]
    simpa using h3
  · rw [List.getElem?_eq_none (by omega), List.getElem?_eq_none (by simp; omega)]
theorem bounds_of_laid {W : World} (h : laidMetH Tryd.prog [("baler/tables.bounds", Rows.laid_baler_tables_bounds)] W) : Bnds W := by
  rw [MakeChecks.laidMetH_plain _ _ _ (by kernel_rfl)] at h
  obtain ⟨ps, ⟨g0, t0, cs0, f0, p0, q0, hg0, ht0, hv0, hd0, _, _⟩, _, _⟩ := h
  have e0 : some g0 = some 0 := hg0.symm.trans (by kernel_rfl)
  obtain rfl : g0 = 0 := Option.some.inj e0
  have e1 : some t0 = some 51 := ht0.symm.trans (by kernel_rfl)
  obtain rfl : t0 = 51 := Option.some.inj e1
  have hc := table_all (ns := [200, 600, 1200, 2400]) Tryd.underlying51 Tryd.underlying3 (by kernel_rfl) (by kernel_rfl) hd0
  simp only [World.var?, hg0, Option.bind_some] at hv0
  split at hv0
  · rename_i cs t fr hh
    have hcs : cs = bndCells := by
      have : cs = cs0 := by simpa using hv0
      rw [this]
      apply Array.toList_inj.1
      exact hc
    exact ⟨t, fr, by rw [← hcs]; exact hh⟩
  · cases hv0
end Go.Proofs.YtmlcdfimcabgkaaDoor

/-
  OPENING A CHOICE: two rows by value, of rows and of numbers.
-/
import Derived.Test.YtmlcdfimcabgkaaDoorOpen
import Derived.Test.YtmlcdfimcabgkaaDoorTabJ
namespace Go.Proofs.YtmlcdfimcabgkaaDoor
namespace Opn
open Go.ChangeShapes Go.WideShapes Go.ChangeAt Go.RowKit Go.Deep
section
variable {H : Type} {enc : TypeId × Value → H}
theorem cells_spot {P : Program} {W : World} {a : Addr} {t : TypeId} {cs : List Value} {y : Value} (h : W.cells? 0 a (P.cellsOf t) = some cs) (h1 : P.cellsOf t = 1) (hcs : cs = [y]) : W.cell? a = some y := by
  obtain ⟨_, hlen, hcell⟩ := World.cells?_some h
  have := hcell 0 (by omega)
  rw [hcs] at this
  simpa [Addr.add] using this
/-- A CELL THAT HOLDS A ROW OF NUMBERS. -/
theorem cell_ints {W : World} {v : Value} (h : CellOk enc Tryd.prog W (fun _ => true) (.sl 3) v) : ∃ zs, IsInts W v zs ∧ zs.length ≤ maxLen ∧ ∀ x ∈ zs, (Lit.int .i64 x).wf = true := by
  rcases h with rfl | ⟨a, len, cap, q, rfl, hl, hm, hel⟩
  · exact ⟨[], IsInts.nil W, by simp, fun x hx => by simp at hx⟩
  · have key : ∀ i, i < len → ∃ x : Int, W.cell? (a.add i) = some (.int .i64 x) ∧ (Lit.int .i64 x).wf = true := fun i hi => by
      obtain ⟨cs, y, hcs, htr⟩ := hel i hi
      have hok := ok_of_trod 1 3 [.int .i64] cs y (by kernel_rfl) ⟨q, htr⟩
      have c1 : Tryd.prog.cellsOf 3 = 1 := by kernel_rfl
      rw [c1, Nat.mul_one] at hcs
      have hl1 := hok.length
      obtain ⟨z, rfl⟩ : ∃ z, cs = [z] := List.length_eq_one_iff.1 hl1
      obtain ⟨⟨x, e, hw⟩, _⟩ := hok
      exact ⟨x, cells_spot (P := Tryd.prog) (t := 3) (by rw [c1]; exact hcs) c1 (by rw [e]), hw⟩
    obtain ⟨zs, hlen, hp⟩ := choose_list len key
    refine ⟨zs, ⟨some a, cap, by rw [hlen], fun i x hx => ?_⟩, by omega, fun x hx => ?_⟩
    · obtain ⟨hc, _⟩ := hp i x hx
      have hi0 := (List.getElem?_eq_some_iff.1 hx).1
      obtain ⟨x0, hc0, _⟩ := key 0 (by omega)
      obtain ⟨b, off, spot⟩ := a
      have hs : spot = none := by simpa [Addr.add] using World.cell?_spot hc0
      subst hs
      exact ⟨b, off, rfl, by rw [← add_plain]; exact hc⟩
    · obtain ⟨i, hi, rfl⟩ := List.getElem_of_mem hx
      exact (hp i _ (List.getElem?_eq_getElem hi)).2
/-- A CELL THAT HOLDS A ROW OF ROWS. -/
theorem cell_rr {W : World} {v : Value} (h : CellOk enc Tryd.prog W (fun _ => true) (.sl 22) v) : ∃ gs, IsRR W v gs ∧ gs.length ≤ maxLen ∧ ∀ g ∈ gs, g.length ≤ maxLen ∧ ∀ x ∈ g, (Lit.int .i64 x).wf = true := by
  rcases h with rfl | ⟨a, len, cap, q, rfl, hl, hm, hel⟩
  · exact ⟨[], ⟨none, 0, rfl, fun i g hg => by simp at hg⟩, by simp, fun x hx => by simp at hx⟩
  · have key : ∀ i, i < len → ∃ g : List Int, ∃ u, W.cell? (a.add i) = some u ∧ IsInts W u g ∧ g.length ≤ maxLen ∧ ∀ x ∈ g, (Lit.int .i64 x).wf = true := fun i hi => by
      obtain ⟨cs, y, hcs, htr⟩ := hel i hi
      have hok := ok_of_trod 1 22 [.sl 3] cs y (by kernel_rfl) ⟨q, htr⟩
      have c1 : Tryd.prog.cellsOf 22 = 1 := by kernel_rfl
      rw [c1, Nat.mul_one] at hcs
      have hl1 := hok.length
      obtain ⟨z, rfl⟩ : ∃ z, cs = [z] := List.length_eq_one_iff.1 hl1
      obtain ⟨hz, _⟩ := hok
      obtain ⟨g, h1, h2, h3⟩ := cell_ints hz
      exact ⟨g, z, cells_spot (P := Tryd.prog) (t := 22) (by rw [c1]; exact hcs) c1 rfl, h1, h2, h3⟩
    obtain ⟨gs, hlen, hp⟩ := choose_list len key
    refine ⟨gs, ⟨some a, cap, by rw [hlen], fun i g hg => ?_⟩, by omega, fun g hg => ?_⟩
    · obtain ⟨u, hc, hi, _⟩ := hp i g hg
      have hi0 := (List.getElem?_eq_some_iff.1 hg).1
      obtain ⟨g0, u0, hc0, _⟩ := key 0 (by omega)
      obtain ⟨b, off, spot⟩ := a
      have hs : spot = none := by simpa [Addr.add] using World.cell?_spot hc0
      subst hs
      exact ⟨b, off, u, rfl, by rw [← add_plain]; exact hc, hi⟩
    · obtain ⟨i, hi, rfl⟩ := List.getElem_of_mem hg
      obtain ⟨u, _, _, h⟩ := hp i _ (List.getElem?_eq_getElem hi)
      exact h
/-- What is known of a choice that came in. -/
def ChIn (w : World) (vL vP : Value) (gs : List (List Int)) (ps : List Int) : Prop := IsRR w vL gs ∧ IsInts w vP ps ∧ gs.length ≤ maxLen ∧ (∀ g ∈ gs, g.length ≤ maxLen ∧ ∀ x ∈ g, (Lit.int .i64 x).wf = true) ∧ ps.length ≤ maxLen ∧ ∀ x ∈ ps, (Lit.int .i64 x).wf = true
/-- A CHOICE BY VALUE, OPENED. -/
theorem open_choice {W : World} {base : Nat} {t : TypeId} {v : Value} {d : DataW H} {p : List MemPlace} (hk : kinds Tryd.prog 2 t = some [.sl 22, .sl 3]) (hu : (match Tryd.prog.underlying t with | some (.struct _) | some (.array _ _) => true | _ => false) = true)
    (hv : Value.okWide Tryd.prog W .any base t v) (h : DataW.Trod enc Tryd.prog W 0 (fun _ => true) true t v d p) : ∃ vL vP gs ps, v = .agg #[vL, vP] ∧ ChIn W vL vP gs ps := by
  obtain ⟨cs, rfl, hall⟩ := open_flat 2 _ hk hu hv h
  clear h hv
  have e : cs = cs.toList.toArray := by simp
  rw [e]
  clear e
  revert hall
  generalize cs.toList = l
  intro hall
  have hl := hall.length
  obtain ⟨x, y, rfl⟩ : ∃ x y, l = [x, y] := by
    rcases l with _ | ⟨x, _ | ⟨y, _ | ⟨z, r⟩⟩⟩
    · cases hl
    · cases hl
    · exact ⟨_, _, rfl⟩
    · simp at hl
  obtain ⟨hx, hy, _⟩ := hall
  obtain ⟨gs, h1, h2, h3⟩ := cell_rr hx
  obtain ⟨ps, h4, h5, h6⟩ := cell_ints hy
  exact ⟨x, y, gs, ps, rfl, h1, h4, h2, h3, h5, h6⟩
end
end Opn
end Go.Proofs.YtmlcdfimcabgkaaDoor

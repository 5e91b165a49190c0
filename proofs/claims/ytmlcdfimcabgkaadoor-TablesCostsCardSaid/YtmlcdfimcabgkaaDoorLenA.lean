/-
  THE WALKS OF LAYER 9's CODE (package lens): numbers compared.
-/
import Derived.Test.YtmlcdfimcabgkaaDoorSortB
import Derived.Test.YtmlcdfimcabgkaaDoorLenMath
namespace Go.Proofs.YtmlcdfimcabgkaaDoor
open Go.RowKit SymM HufM
set_option linter.unusedVariables false
theorem isNaN_any (x : Int) (w : World) : Calls Tryd.prog 72 #[.int .i64 x] w fun e w' => e = .returned (.bool false) ∧ w' = w := by
  have h : (x != x) = false := by simp
  go_enter Tryd.func72, Tryd.ntmps72
  go_wp2_with fail
  go_ret
  exact ⟨rfl, rfl⟩
set_option maxHeartbeats 1000000 in
theorem compare_any (x y : Int) (w : World) : Calls Tryd.prog 70 #[.int .i64 x, .int .i64 y] w fun e w' => e = .returned (.int .i64 (sgn x y)) ∧ w' = w := by
  unfold sgn
  by_cases h1 : x < y
  · rw [if_pos h1]
    go_enter Tryd.func70, Tryd.ntmps70
    go_wp2_with fail
    refine (isNaN_any x w).mono ?_
    rintro e w' ⟨rfl, rfl⟩
    go_wp2_with fail
    refine (isNaN_any y _).mono ?_
    rintro e w' ⟨rfl, rfl⟩
    go_wp2_with fail
    go_ret
    exact ⟨rfl, rfl⟩
  · rw [if_neg h1]
    by_cases h2 : y < x
    · rw [if_pos h2]
      go_enter Tryd.func70, Tryd.ntmps70
      go_wp2_with fail
      refine (isNaN_any x w).mono ?_
      rintro e w' ⟨rfl, rfl⟩
      go_wp2_with fail
      refine (isNaN_any y _).mono ?_
      rintro e w' ⟨rfl, rfl⟩
      go_wp2_with fail
      go_ret
      exact ⟨rfl, rfl⟩
    · rw [if_neg h2]
      go_enter Tryd.func70, Tryd.ntmps70
      go_wp2_with fail
      refine (isNaN_any x w).mono ?_
      rintro e w' ⟨rfl, rfl⟩
      go_wp2_with fail
      refine (isNaN_any y _).mono ?_
      rintro e w' ⟨rfl, rfl⟩
      go_wp2_with fail
      go_ret
      exact ⟨rfl, rfl⟩
/-- A symbol's weight. -/
def wtOf (zs : List Int) (x : Int) : Int := zs.getD x.toNat 0
set_option maxRecDepth 100000 in
set_option maxHeartbeats 1000000 in
theorem less_any (bx : Nat) (v : Value) (zs : List Int) (w : World) (x y : Int) (hc : w.cell? ⟨bx, 0, none⟩ = some v) (hv : IsInts w v zs) (hz : zs.length ≤ 100000) (hx0 : 0 ≤ x) (hx : x < zs.length) (hy0 : 0 ≤ y) (hy : y < zs.length) :
    Calls Tryd.prog 69 #[.int .i64 x, .int .i64 y, .pointer (some ⟨bx, 0, none⟩)] w fun e w' => e = .returned (.int .i64 (sgn (wtOf zs x) (wtOf zs y))) ∧ ∃ q, w' = w.drewN q := by
  obtain ⟨i, rfl⟩ := Int.eq_ofNat_of_zero_le hx0
  obtain ⟨j, rfl⟩ := Int.eq_ofNat_of_zero_le hy0
  have HV := Lib.hid hv
  obtain ⟨b1, o1, k1, he1, c1⟩ := HV.out.cell (show i < zs.length by omega)
  obtain ⟨b2, o2, k2, he2, c2⟩ := HV.out.cell (show j < zs.length by omega)
  subst he1
  simp only [Value.slice.injEq, Option.some.injEq, Addr.mk.injEq] at he2
  obtain ⟨⟨rfl, rfl, _⟩, _, rfl⟩ := he2
  obtain ⟨X, hX⟩ : ∃ X, zs.getD i 0 = X := ⟨_, rfl⟩
  obtain ⟨Y, hY⟩ : ∃ Y, zs.getD j 0 = Y := ⟨_, rfl⟩
  have e1 : wtOf zs (i : Int) = X := by unfold wtOf; rw [Int.toNat_natCast]; exact hX
  have e2 : wtOf zs (j : Int) = Y := by unfold wtOf; rw [Int.toNat_natCast]; exact hY
  rw [e1, e2]
  rw [hX] at c1
  rw [hY] at c2
  clear hX hY e1 e2 hx0 hy0
  go_enter Tryd.func69, Tryd.ntmps69
  go_wp2_with fail
  go_quiet ((go_at_call 70; exact Calls.quiet_of_same (compare_any X Y _)))
  go_wp2_with fail
  go_ret
  exact ⟨rfl, _, rfl⟩
theorem RowD.congr {w : World} {g n : Nat} {d e : Row} (h : RowD w g n d) (he : ∀ i, i < n → d i = e i) : RowD w g n e := by
  unfold RowD at *
  have : (List.range n).map d = (List.range n).map e := List.map_congr_left (fun i hi => he i (List.mem_range.1 hi))
  rw [← this]
  exact h
theorem RowD.made (w : World) (n : Nat) : RowD (w.alloc (.cells (madeCells #[Value.int .i64 0] n) 3)) w.heap.size n (fun _ => 0) := by
  have := RowI.made w n
  unfold RowD
  have e : List.replicate n (0 : Int) = (List.range n).map (fun _ => 0) := by
    apply List.ext_getElem
    · simp
    · intro j h1 h2; simp
  rw [← e]
  exact this
end Go.Proofs.YtmlcdfimcabgkaaDoor

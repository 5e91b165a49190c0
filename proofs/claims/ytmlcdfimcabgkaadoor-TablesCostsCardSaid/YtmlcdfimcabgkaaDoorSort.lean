/-
  THE WALKS OF THE LIBRARY's STABLE SORT (package slices), AT ROWS OF int: parts of a row change places, a row turns.
-/
import Derived.Test.YtmlcdfimcabgkaaDoorInts
import Derived.Test.YtmlcdfimcabgkaaDoorSymMath
import Derived.BigRegion
import Derived.BigQuiet
namespace Go.Proofs.YtmlcdfimcabgkaaDoor
open Go.RowKit SymM
set_option linter.unusedVariables false
/-- Block g is the row d of n numbers. -/
def RowD (w : World) (g n : Nat) (d : Row) : Prop := RowI w g ((List.range n).map d)
theorem getD_row (d : Row) {n i : Nat} (h : i < n) : ((List.range n).map d).getD i 0 = d i := by
  rw [List.getD_eq_getElem?_getD, List.getElem?_map, List.getElem?_range h]
  rfl
theorem RowD.cell {w : World} {g n : Nat} {d : Row} (h : RowD w g n d) {i : Nat} (hi : i < n) : w.cell? ⟨g, i, none⟩ = some (.int .i64 (d i)) ∧ w.frozen? ⟨g, i, none⟩ = false := by
  obtain ⟨h1, h2, _⟩ := RowI.cell h (i := i) (by simpa using hi)
  rw [getD_row d hi] at h1
  exact ⟨h1, h2⟩
theorem RowD.set {w : World} {g n : Nat} {d : Row} (h : RowD w g n d) {i : Nat} (hi : i < n) (x : Int) : RowD (w.setCell ⟨g, i, none⟩ (.int .i64 x)) g n (fun k => if k = i then x else d k) := by
  have h3 := (RowI.cell h (i := i) (by simpa using hi)).2.2 x
  unfold RowD
  have e : ((List.range n).map d).set i x = (List.range n).map (fun k => if k = i then x else d k) := by
    apply List.ext_getElem
    · simp
    · intro j h1 h2
      rw [List.getElem_set]
      by_cases e : i = j
      · subst e; simp
      · rw [if_neg e]
        have : ¬ j = i := fun h => e h.symm
        simp [this]
  rw [← e]
  exact h3
theorem RowD.swap {w : World} {g n : Nat} {d : Row} (h : RowD w g n d) {i j : Nat} (hi : i < n) (hj : j < n) (x y : Int) (hx : x = d j) (hy : y = d i) : RowD ((w.setCell ⟨g, i, none⟩ (.int .i64 x)).setCell ⟨g, j, none⟩ (.int .i64 y)) g n (sw d i j) := by
  subst hx hy
  have h2 := (h.set hi (d j)).set hj (d i)
  have e : (fun k => if k = j then d i else (fun k => if k = i then d j else d k) k) = sw d i j := by
    funext k
    simp only [sw]
    repeat' split
    all_goals first
      | rfl
      | (subst_vars; rfl)
  rw [e] at h2
  exact h2
theorem RowD.other {w w' : World} {g n : Nat} {d : Row} (h : RowD w g n d) {S : Nat → Prop} (ht : Touch S w w') (hS : ¬ S g) : RowD w' g n d := RowI.other h ht hS
theorem RowD.drewN {w : World} {g n : Nat} {d : Row} (h : RowD w g n d) (k : Nat) : RowD (w.drewN k) g n d := h
theorem touch_swap {g i j : Nat} {w W : World} (h : Touch (· = g) w W) (x y : Value) : Touch (· = g) w ((W.setCell ⟨g, i, none⟩ x).setCell ⟨g, j, none⟩ y) := touch_cell (touch_cell h)
theorem touch_drew {S : Nat → Prop} {w W : World} (h : Touch S w W) (k : Nat) : Touch S w (W.drewN k) := h.trans (touch_drewN S W k) (fun i hi => Or.inl hi)
set_option maxRecDepth 100000 in
set_option maxHeartbeats 2000000 in
theorem swr_any (g n a b N : Nat) (d : Row) (w : World) (fv : Value) (hR : RowD w g n d) (hab : a + N ≤ b) (hb : b + N ≤ n) (hn : n ≤ 1000000) :
    Calls Tryd.prog 76 #[.slice (some ⟨g, 0, none⟩) n n, .int .i64 (a : Int), .int .i64 (b : Int), .int .i64 (N : Int), fv] w fun e w' =>
      e = .returned (.tuple #[]) ∧ RowD w' g n (swr d a b N) ∧ Touch (· = g) w w' := by
  have HR0 := Lib.hid hR
  clear hR
  go_enter Tryd.func76, Tryd.ntmps76
  go_wp2_with fail
  go_loopw [10] (fun i wr => ∃ k : Nat, k ≤ N ∧ i = .int .i64 k ∧ RowD wr g n (swr d a b k) ∧ Touch (· = g) w wr) (fun i _ => N - (intOf i).toNat)
  case atStart => exact ⟨0, Nat.zero_le _, rfl, by rw [swr_zero]; exact HR0.out, Touch.refl _ w⟩
  case round =>
    obtain ⟨k, hk, rfl, hR, hT⟩ := hrel
    have HR := Lib.hid hR
    have HT := Lib.hid hT
    clear hR hT
    by_cases hlk : k < N
    · obtain ⟨i, hi⟩ : ∃ i, a + k = i := ⟨_, rfl⟩
      obtain ⟨j, hj⟩ : ∃ j, b + k = j := ⟨_, rfl⟩
      have hi2 : (a : Int) + (k : Int) = (i : Int) := by omega
      have hj2 : (b : Int) + (k : Int) = (j : Int) := by omega
      have hki : (k : Int) < (N : Int) := by omega
      have hin : i < n := by omega
      have hjn : j < n := by omega
      have hin2 : (i : Int) < (n : Int) := by omega
      have hjn2 : (j : Int) < (n : Int) := by omega
      obtain ⟨c1, f1⟩ := HR.out.cell hin
      obtain ⟨c2, f2⟩ := HR.out.cell hjn
      obtain ⟨x, hx⟩ : ∃ x, swr d a b k i = x := ⟨_, rfl⟩
      obtain ⟨y, hy⟩ : ∃ y, swr d a b k j = y := ⟨_, rfl⟩
      rw [hx] at c1
      rw [hy] at c2
      have HX := Lib.hid hx
      have HY := Lib.hid hy
      have HI := Lib.hid hi
      have HJ := Lib.hid hj
      clear hx hy hi hj
      go_wp2_with fail
      go_region
      go_wp2_with fail
      go_roundw
      case rel => exact ⟨k + 1, by omega, by go_num, by
        rw [← swr_succ d (by omega), HI.out, HJ.out]
        exact (HR.out.drewN _).swap hin hjn _ _ HY.out.symm HX.out.symm, touch_swap (touch_drew HT.out _) _ _⟩
      case measure => simp [intOf]; omega
    · have hki : ¬ (k : Int) < (N : Int) := by omega
      have hd : decide ((k : Int) < (N : Int)) = false := by simp only [decide_eq_false_iff_not]; exact hki
      obtain rfl : N = k := by omega
      go_wp2_with fail
      go_end0
      exact ⟨rfl, HR.out, HT.out⟩
/-- A row turns. -/
theorem rot_any (g n a m b : Nat) (d : Row) (w : World) (fv : Value) (hR : RowD w g n d) (ham : a < m) (hmb : m < b) (hb : b ≤ n) (hn : n ≤ 1000000) :
    Calls Tryd.prog 75 #[.slice (some ⟨g, 0, none⟩) n n, .int .i64 (a : Int), .int .i64 (m : Int), .int .i64 (b : Int), fv] w fun e w' =>
      e = .returned (.tuple #[]) ∧ RowD w' g n (rot d a m b) ∧ Touch (· = g) w w' := by
  have HR0 := Lib.hid hR
  clear hR
  obtain ⟨I0, hI0⟩ : ∃ I0, m - a = I0 := ⟨_, rfl⟩
  obtain ⟨J0, hJ0⟩ : ∃ J0, b - m = J0 := ⟨_, rfl⟩
  have i1 : (m : Int) - (a : Int) = (I0 : Int) := by omega
  have i2 : (b : Int) - (m : Int) = (J0 : Int) := by omega
  have HI0 := Lib.hid hI0
  have HJ0 := Lib.hid hJ0
  clear hI0 hJ0
  go_enter Tryd.func75, Tryd.ntmps75
  go_wp2_with fail
  go_loopw [10, 11] (fun i j wr => ∃ (I J : Nat) (D : Row), i = .int .i64 I ∧ j = .int .i64 J ∧ 0 < I ∧ 0 < J ∧ I ≤ m ∧ m + J ≤ n ∧ RowD wr g n D ∧ rot D (m - I) m (m + J) = rot d a m b ∧ Touch (· = g) w wr) (fun i j _ => (intOf i).toNat + (intOf j).toNat)
  case atStart => exact ⟨I0, J0, d, rfl, rfl, by omega, by omega, by omega, by omega, HR0.out, by
    have := HI0.out
    have := HJ0.out
    rw [show m - I0 = a by omega, show m + J0 = b by omega], Touch.refl _ w⟩
  case round =>
    obtain ⟨I, J, D, rfl, rfl, hI, hJ, hIm, hJn, hR, hE, hT⟩ := hrel
    have HR := Lib.hid hR
    have HT := Lib.hid hT
    have HE := Lib.hid hE
    clear hR hT hE
    obtain ⟨A, hA⟩ : ∃ A, m - I = A := ⟨_, rfl⟩
    have hA2 : (m : Int) - (I : Int) = (A : Int) := by omega
    have HA := Lib.hid hA
    have hA3 : A + I ≤ m := by omega
    have hA4 : m ≤ A + I := by omega
    clear hA
    by_cases hIJ : I = J
    · subst hIJ
      have hne : ((I : Int) != (I : Int)) = false := by simp
      go_wp2_with fail
      refine (swr_any g n A m I D wr fv HR.out hA3 hJn hn).mono ?_
      rintro e w' ⟨rfl, hR1, hT1⟩
      have HR1 := Lib.hid hR1
      have HT1 := Lib.hid hT1
      clear hR1 hT1
      go_wp2_with fail
      go_end0
      refine ⟨rfl, ?_, HT.out.trans HT1.out (fun i hi => Or.inl hi)⟩
      rw [← HE.out, ← rot_even D hIm, HA.out]
      exact HR1.out
    · have hne : ((I : Int) != (J : Int)) = true := by rw [bne_iff_ne]; omega
      by_cases hlt : J < I
      · have hlt2 : (J : Int) < (I : Int) := by omega
        go_wp2_with fail
        refine (swr_any g n A m J D wr fv HR.out (by omega) hJn hn).mono ?_
        rintro e w' ⟨rfl, hR1, hT1⟩
        have HR1 := Lib.hid hR1
        have HT1 := Lib.hid hT1
        clear hR1 hT1
        go_wp2_with fail
        go_roundw
        case rel => exact ⟨I - J, J, _, by go_num, rfl, by omega, hJ, by omega, hJn, HR1.out, by rw [← HE.out, ← rot_left D hlt hIm, HA.out], HT.out.trans HT1.out (fun i hi => Or.inl hi)⟩
        case measure => simp [intOf]; omega
      · have hlt2 : ¬ (J : Int) < (I : Int) := by omega
        have hIltJ : I < J := by omega
        obtain ⟨B, hB⟩ : ∃ B, m + J - I = B := ⟨_, rfl⟩
        have hB2 : (m : Int) + (J : Int) - (I : Int) = (B : Int) := by omega
        have HB := Lib.hid hB
        have hB3 : A + I ≤ B := by omega
        have hB4 : B + I ≤ n := by omega
        clear hB
        go_wp2_with fail
        refine (swr_any g n A B I D wr fv HR.out hB3 hB4 hn).mono ?_
        rintro e w' ⟨rfl, hR1, hT1⟩
        have HR1 := Lib.hid hR1
        have HT1 := Lib.hid hT1
        clear hR1 hT1
        go_wp2_with fail
        go_roundw
        case rel => exact ⟨I, J - I, _, rfl, by go_num, hI, by omega, hIm, by omega, HR1.out, by rw [← HE.out, ← rot_right D hIltJ hIm, HA.out, HB.out], HT.out.trans HT1.out (fun i hi => Or.inl hi)⟩
        case measure => simp [intOf]; omega
end Go.Proofs.YtmlcdfimcabgkaaDoor

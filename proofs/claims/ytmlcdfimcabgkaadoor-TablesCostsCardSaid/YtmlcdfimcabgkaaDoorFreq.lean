/-
  THE WALKS OF LAYER 8's CODE (package freq) and of its document's answers (balerref08): what may be, counts.
-/
import Derived.Test.YtmlcdfimcabgkaaDoorInts
import Derived.Test.YtmlcdfimcabgkaaDoorFreqMath
namespace Go.Proofs.YtmlcdfimcabgkaaDoor
open Go.RowKit FreqM
set_option linter.unusedVariables false
set_option maxRecDepth 100000 in
set_option maxHeartbeats 1000000 in
theorem areSymbols_any (v : Value) (zs : List Int) (n : Int) (r : Bool) (w : World) (hv : IsInts w v zs) (hz : zs.length ≤ 9223372036854775807) (hr : r = true ↔ Syms zs n) :
    Calls Tryd.prog 47 #[v, .int .i64 n] w fun e w' => e = .returned (.bool r) ∧ w = w' := by
  have HV := Lib.hid hv
  have HR := Lib.hid hr
  obtain ⟨a, cap, rfl, _⟩ := hv
  clear hr
  go_enter Tryd.func47, Tryd.ntmps47
  go_wp2_with fail
  go_loop [9] (fun i => ∃ k : Nat, k ≤ zs.length ∧ i = .int .i64 k ∧ ∀ j, j < k → 0 ≤ zs.getD j 0 ∧ zs.getD j 0 < n) (fun i => zs.length - (intOf i).toNat)
  case atStart => exact ⟨0, by omega, rfl, fun j hj => by omega⟩
  case round =>
    obtain ⟨k, hk, rfl, hA⟩ := hrel
    have HA := Lib.hid hA
    clear hA
    by_cases hlk : k < zs.length
    · have hki : (k : Int) < (zs.length : Int) := by omega
      obtain ⟨b1, o1, k1, he1, c1⟩ := HV.out.cell hlk
      simp only [Value.slice.injEq] at he1
      obtain ⟨rfl, _, rfl⟩ := he1
      obtain ⟨x, hx⟩ : ∃ x, zs.getD k 0 = x := ⟨_, rfl⟩
      have HM : Hid (x ∈ zs) := Lib.hid (by rw [← hx]; exact getD_mem zs k hlk)
      rw [hx] at c1
      have HX := Lib.hid hx
      clear hx
      by_cases h0 : x < 0
      · obtain rfl : r = false := by
          rw [Bool.eq_false_iff]; intro h
          have := (HR.out.1 h x HM.out).1
          omega
        go_wp2_with fail
        go_ret
        exact ⟨rfl, rfl⟩
      · by_cases h1 : n ≤ x
        · obtain rfl : r = false := by
            rw [Bool.eq_false_iff]; intro h
            have := (HR.out.1 h x HM.out).2
            omega
          go_wp2_with fail
          go_ret
          exact ⟨rfl, rfl⟩
        · go_wp2_with fail
          go_round
          case rel => exact ⟨k + 1, by omega, by go_num, fun j hj => by
            by_cases e : j = k
            · subst e; rw [HX.out]; omega
            · exact HA.out j (by omega)⟩
          case measure => simp [intOf]; omega
    · obtain rfl : k = zs.length := by omega
      have hrt : r = true := by
        rw [HR.out]
        intro p hp
        obtain ⟨i, hi, rfl⟩ := List.getElem_of_mem hp
        have := HA.out i hi
        rw [List.getD_eq_getElem?_getD, List.getElem?_eq_getElem hi] at this
        exact this
      subst hrt
      go_wp2_with fail
      go_ret
      exact ⟨rfl, rfl⟩
set_option maxRecDepth 100000 in
set_option maxHeartbeats 1000000 in
theorem rOf_any (v : Value) (zs : List Int) (n : Int) (r : Bool) (w : World) (hv : IsInts w v zs) (hz : zs.length ≤ 9223372036854775807) (hr : r = true ↔ Syms zs n) :
    Calls Tryd.prog 18 #[v, .int .i64 n] w fun e w' => e = .returned (.bool r) ∧ w = w' := by
  have HV := Lib.hid hv
  have HR := Lib.hid hr
  obtain ⟨a, cap, rfl, _⟩ := hv
  clear hr
  go_enter Tryd.func18, Tryd.ntmps18
  go_wp2_with fail
  go_loop [9] (fun i => ∃ k : Nat, k ≤ zs.length ∧ i = .int .i64 k ∧ ∀ j, j < k → 0 ≤ zs.getD j 0 ∧ zs.getD j 0 < n) (fun i => zs.length - (intOf i).toNat)
  case atStart => exact ⟨0, by omega, rfl, fun j hj => by omega⟩
  case round =>
    obtain ⟨k, hk, rfl, hA⟩ := hrel
    have HA := Lib.hid hA
    clear hA
    by_cases hlk : k < zs.length
    · have hki : (k : Int) < (zs.length : Int) := by omega
      obtain ⟨b1, o1, k1, he1, c1⟩ := HV.out.cell hlk
      simp only [Value.slice.injEq] at he1
      obtain ⟨rfl, _, rfl⟩ := he1
      obtain ⟨x, hx⟩ : ∃ x, zs.getD k 0 = x := ⟨_, rfl⟩
      have HM : Hid (x ∈ zs) := Lib.hid (by rw [← hx]; exact getD_mem zs k hlk)
      rw [hx] at c1
      have HX := Lib.hid hx
      clear hx
      by_cases h0 : x < 0
      · obtain rfl : r = false := by
          rw [Bool.eq_false_iff]; intro h
          have := (HR.out.1 h x HM.out).1
          omega
        go_wp2_with fail
        go_ret
        exact ⟨rfl, rfl⟩
      · by_cases h1 : n ≤ x
        · obtain rfl : r = false := by
            rw [Bool.eq_false_iff]; intro h
            have := (HR.out.1 h x HM.out).2
            omega
          go_wp2_with fail
          go_ret
          exact ⟨rfl, rfl⟩
        · go_wp2_with fail
          go_round
          case rel => exact ⟨k + 1, by omega, by go_num, fun j hj => by
            by_cases e : j = k
            · subst e; rw [HX.out]; omega
            · exact HA.out j (by omega)⟩
          case measure => simp [intOf]; omega
    · obtain rfl : k = zs.length := by omega
      have hrt : r = true := by
        rw [HR.out]
        intro p hp
        obtain ⟨i, hi, rfl⟩ := List.getElem_of_mem hp
        have := HA.out i hi
        rw [List.getD_eq_getElem?_getD, List.getElem?_eq_getElem hi] at this
        exact this
      subst hrt
      go_wp2_with fail
      go_ret
      exact ⟨rfl, rfl⟩
set_option maxRecDepth 100000 in
set_option maxHeartbeats 1000000 in
theorem areNumbers_any (v : Value) (zs : List Int) (r : Bool) (w : World) (hv : IsInts w v zs) (hz : zs.length ≤ 9223372036854775807) (hr : r = true ↔ Nums zs) :
    Calls Tryd.prog 53 #[v] w fun e w' => e = .returned (.bool r) ∧ w = w' := by
  have HV := Lib.hid hv
  have HR := Lib.hid hr
  obtain ⟨a, cap, rfl, _⟩ := hv
  clear hr
  go_enter Tryd.func53, Tryd.ntmps53
  go_wp2_with fail
  go_loop [7] (fun i => ∃ k : Nat, k ≤ zs.length ∧ i = .int .i64 k ∧ ∀ j, j < k → 0 ≤ zs.getD j 0 ∧ zs.getD j 0 ≤ 1099511627776) (fun i => zs.length - (intOf i).toNat)
  case atStart => exact ⟨0, by omega, rfl, fun j hj => by omega⟩
  case round =>
    obtain ⟨k, hk, rfl, hA⟩ := hrel
    have HA := Lib.hid hA
    clear hA
    by_cases hlk : k < zs.length
    · have hki : (k : Int) < (zs.length : Int) := by omega
      obtain ⟨b1, o1, k1, he1, c1⟩ := HV.out.cell hlk
      simp only [Value.slice.injEq] at he1
      obtain ⟨rfl, _, rfl⟩ := he1
      obtain ⟨x, hx⟩ : ∃ x, zs.getD k 0 = x := ⟨_, rfl⟩
      have HM : Hid (x ∈ zs) := Lib.hid (by rw [← hx]; exact getD_mem zs k hlk)
      rw [hx] at c1
      have HX := Lib.hid hx
      clear hx
      by_cases h0 : x < 0
      · obtain rfl : r = false := by
          rw [Bool.eq_false_iff]; intro h
          have := (HR.out.1 h x HM.out).1
          omega
        go_wp2_with fail
        go_ret
        exact ⟨rfl, rfl⟩
      · by_cases h1 : 1099511627776 < x
        · obtain rfl : r = false := by
            rw [Bool.eq_false_iff]; intro h
            have := (HR.out.1 h x HM.out).2
            omega
          go_wp2_with fail
          go_ret
          exact ⟨rfl, rfl⟩
        · go_wp2_with fail
          go_round
          case rel => exact ⟨k + 1, by omega, by go_num, fun j hj => by
            by_cases e : j = k
            · subst e; rw [HX.out]; omega
            · exact HA.out j (by omega)⟩
          case measure => simp [intOf]; omega
    · obtain rfl : k = zs.length := by omega
      have hrt : r = true := by
        rw [HR.out]
        intro p hp
        obtain ⟨i, hi, rfl⟩ := List.getElem_of_mem hp
        have := HA.out i hi
        rw [List.getD_eq_getElem?_getD, List.getElem?_eq_getElem hi] at this
        exact this
      subst hrt
      go_wp2_with fail
      go_ret
      exact ⟨rfl, rfl⟩
set_option maxRecDepth 100000 in
set_option maxHeartbeats 1000000 in
theorem rMay_any (v : Value) (zs : List Int) (r : Bool) (w : World) (hv : IsInts w v zs) (hz : zs.length ≤ 9223372036854775807) (hr : r = true ↔ Nums zs) :
    Calls Tryd.prog 25 #[v] w fun e w' => e = .returned (.bool r) ∧ w = w' := by
  have HV := Lib.hid hv
  have HR := Lib.hid hr
  obtain ⟨a, cap, rfl, _⟩ := hv
  clear hr
  go_enter Tryd.func25, Tryd.ntmps25
  go_wp2_with fail
  go_loop [7] (fun i => ∃ k : Nat, k ≤ zs.length ∧ i = .int .i64 k ∧ ∀ j, j < k → 0 ≤ zs.getD j 0 ∧ zs.getD j 0 ≤ 1099511627776) (fun i => zs.length - (intOf i).toNat)
  case atStart => exact ⟨0, by omega, rfl, fun j hj => by omega⟩
  case round =>
    obtain ⟨k, hk, rfl, hA⟩ := hrel
    have HA := Lib.hid hA
    clear hA
    by_cases hlk : k < zs.length
    · have hki : (k : Int) < (zs.length : Int) := by omega
      obtain ⟨b1, o1, k1, he1, c1⟩ := HV.out.cell hlk
      simp only [Value.slice.injEq] at he1
      obtain ⟨rfl, _, rfl⟩ := he1
      obtain ⟨x, hx⟩ : ∃ x, zs.getD k 0 = x := ⟨_, rfl⟩
      have HM : Hid (x ∈ zs) := Lib.hid (by rw [← hx]; exact getD_mem zs k hlk)
      rw [hx] at c1
      have HX := Lib.hid hx
      clear hx
      by_cases h0 : x < 0
      · obtain rfl : r = false := by
          rw [Bool.eq_false_iff]; intro h
          have := (HR.out.1 h x HM.out).1
          omega
        go_wp2_with fail
        go_ret
        exact ⟨rfl, rfl⟩
      · by_cases h1 : 1099511627776 < x
        · obtain rfl : r = false := by
            rw [Bool.eq_false_iff]; intro h
            have := (HR.out.1 h x HM.out).2
            omega
          go_wp2_with fail
          go_ret
          exact ⟨rfl, rfl⟩
        · go_wp2_with fail
          go_round
          case rel => exact ⟨k + 1, by omega, by go_num, fun j hj => by
            by_cases e : j = k
            · subst e; rw [HX.out]; omega
            · exact HA.out j (by omega)⟩
          case measure => simp [intOf]; omega
    · obtain rfl : k = zs.length := by omega
      have hrt : r = true := by
        rw [HR.out]
        intro p hp
        obtain ⟨i, hi, rfl⟩ := List.getElem_of_mem hp
        have := HA.out i hi
        rw [List.getD_eq_getElem?_getD, List.getElem?_eq_getElem hi] at this
        exact this
      subst hrt
      go_wp2_with fail
      go_ret
      exact ⟨rfl, rfl⟩
theorem rSize_any (n : Int) (r : Bool) (w : World) (hr : r = true ↔ 3 ≤ n ∧ n ≤ 258) : Calls Tryd.prog 17 #[.int .i64 n] w fun e w' => e = .returned (.bool r) ∧ w = w' := by
  by_cases h1 : 3 ≤ n
  · by_cases h2 : n ≤ 258
    · obtain rfl : r = true := hr.2 ⟨h1, h2⟩
      clear hr
      go_enter Tryd.func17, Tryd.ntmps17
      go_wp2_with fail
      go_ret
      exact ⟨rfl, rfl⟩
    · obtain rfl : r = false := by rw [Bool.eq_false_iff]; intro h; exact h2 (hr.1 h).2
      clear hr
      go_enter Tryd.func17, Tryd.ntmps17
      go_wp2_with fail
      go_ret
      exact ⟨rfl, rfl⟩
  · obtain rfl : r = false := by rw [Bool.eq_false_iff]; intro h; exact h1 (hr.1 h).1
    clear hr
    go_enter Tryd.func17, Tryd.ntmps17
    go_wp2_with fail
    go_ret
    exact ⟨rfl, rfl⟩
/-- What Counts tells. -/
def CntOk (l : List Int) (n : Int) : Prop := 3 ≤ n ∧ n ≤ 258 ∧ Syms l n
def CntP (l : List Int) (n : Int) (zs : List Int) (err : Nat) : Prop := (¬ CntOk l n ∧ zs = [] ∧ err = 1) ∨ (CntOk l n ∧ zs = counts l n.toNat ∧ err = 0)
set_option maxRecDepth 100000 in
set_option maxHeartbeats 2000000 in
theorem counts_any (v : Value) (zs : List Int) (n : Int) (w : World) (hv : IsInts w v zs) (hz : zs.length ≤ 1000000) :
    Calls Tryd.prog 33 #[v, .int .i64 n] w fun e w' => ∃ (u : Value) (ys : List Int) (err : Nat), e = .returned (.tuple #[u, .int .i64 (err : Int)]) ∧ IsInts w' u ys ∧ Below w.heap.size w w' ∧ CntP zs n ys err := by
  have HV := Lib.hid hv
  obtain ⟨a, cap, rfl, _⟩ := hv
  by_cases h1 : n < 3
  · go_enter Tryd.func33, Tryd.ntmps33
    go_wp2_with fail
    go_ret2
    exact ⟨_, [], 1, rfl, IsInts.nil _, Below.refl _ _, Or.inl ⟨fun h => by have := h.1; omega, rfl, rfl⟩⟩
  by_cases h2 : 258 < n
  · go_enter Tryd.func33, Tryd.ntmps33
    go_wp2_with fail
    go_ret2
    exact ⟨_, [], 1, rfl, IsInts.nil _, Below.refl _ _, Or.inl ⟨fun h => by have := h.2.1; omega, rfl, rfl⟩⟩
  by_cases hs : Syms zs n
  · have HA := Lib.hid (areSymbols_any _ zs n true w HV.out (by omega) ⟨fun _ => hs, fun _ => rfl⟩)
    have HS := Lib.hid hs
    obtain ⟨N, rfl⟩ : ∃ N : Nat, n = (N : Int) := ⟨n.toNat, by omega⟩
    have HOK : Hid (CntOk zs (N : Int)) := Lib.hid ⟨by omega, by omega, hs⟩
    have hNI : (N : Int) ≤ 258 := by omega
    have hmk := make_ints N (by omega) w
    have HR0 := Lib.hid (RowI.made w N)
    have HB0 := Lib.hid ((Below.refl w.heap.size w).alloc (Nat.le_refl _) (.cells (madeCells #[Value.int .i64 0] N) 3))
    clear hs
    generalize hw1 : w.alloc (.cells (madeCells #[Value.int .i64 0] N) 3) = w1 at *
    clear hw1
    go_enter Tryd.func33, Tryd.ntmps33
    go_wp2_with fail
    refine HA.out.mono ?_
    rintro e w' ⟨rfl, rfl⟩
    clear HA
    go_wp2_with fail
    generalize hg : w.heap.size = g at *
    go_loopw [25] (fun i wr => ∃ k : Nat, k ≤ zs.length ∧ i = .int .i64 k ∧ RowI wr g (counts (zs.take k) N) ∧ Below g w wr) (fun i _ => zs.length - (intOf i).toNat)
    case atStart => exact ⟨0, by omega, rfl, by rw [List.take_zero, counts_nil]; exact HR0.out, HB0.out⟩
    case round =>
      clear HR0 HB0
      obtain ⟨k, hk, rfl, hR, hB⟩ := hrel
      have HR := Lib.hid hR
      have HB := Lib.hid hB
      clear hR hB
      by_cases hlk : k < zs.length
      · have hki : (k : Int) < (zs.length : Int) := by omega
        have HV2 := Lib.hid (HV.out.below (hg ▸ HB.out))
        obtain ⟨b1, o1, k1, he1, c1⟩ := HV2.out.cell hlk
        simp only [Value.slice.injEq] at he1
        obtain ⟨rfl, _, rfl⟩ := he1
        obtain ⟨x, hx⟩ : ∃ x, zs.getD k 0 = x := ⟨_, rfl⟩
        have hxr := HS.out x (by rw [← hx]; exact getD_mem zs k hlk)
        obtain ⟨y, rfl⟩ : ∃ y : Nat, x = (y : Int) := ⟨x.toNat, by omega⟩
        have HCT := Lib.hid (counts_take zs N k hlk y hx (by omega))
        obtain ⟨d0, d1, d2⟩ := HR.out.cell (i := y) (by rw [counts_len]; omega)
        have hnn := counts_nn (zs.take k) N ((counts (zs.take k) N).getD y 0) (getD_mem _ _ (by rw [counts_len]; omega))
        obtain ⟨hn1, hn2⟩ := hnn
        rw [List.length_take] at hn2
        generalize (counts (zs.take k) N).getD y 0 = c at *
        have hd2 := d2 (c + 1)
        rw [← HCT.out] at hd2
        have HD2 := Lib.hid hd2
        have HB2 := Lib.hid (HB.out.setCell (p := ⟨g, y, none⟩) (Nat.le_refl _) (.int .i64 (c + 1)))
        rw [hx] at c1
        clear hx d2 hd2 HCT
        have hy0 : (0 : Int) ≤ (y : Int) := by omega
        have hyN : (y : Int) < (N : Int) := hxr.2
        have hcw : IntKind.i64.wrap (c + 1) = c + 1 := IntWalk.i64_in _ (by omega)
        clear hxr
        go_wp2_with fail
        go_roundw
        case rel => exact ⟨k + 1, by omega, by go_num, HD2.out, HB2.out⟩
        case measure => simp [intOf]; omega
      · obtain rfl : k = zs.length := by omega
        rw [List.take_of_length_le (Nat.le_refl _)] at HR
        go_wp2_with fail
        go_ret2
        exact ⟨_, counts zs N, 0, rfl, HR.out.ints N N (counts_len zs N).symm, hg ▸ HB.out, Or.inr ⟨HOK.out, by simp, rfl⟩⟩
  · have HA := Lib.hid (areSymbols_any _ zs n false w HV.out (by omega) ⟨fun e => (by cases e), fun e => absurd e hs⟩)
    have HNO : Hid (¬ CntOk zs n) := Lib.hid (fun h => hs h.2.2)
    clear hs
    go_enter Tryd.func33, Tryd.ntmps33
    go_wp2_with fail
    refine HA.out.mono ?_
    rintro e w' ⟨rfl, rfl⟩
    go_wp2_with fail
    go_ret2
    exact ⟨_, [], 1, rfl, IsInts.nil _, Below.refl _ _, Or.inl ⟨HNO.out, rfl, rfl⟩⟩
end Go.Proofs.YtmlcdfimcabgkaaDoor

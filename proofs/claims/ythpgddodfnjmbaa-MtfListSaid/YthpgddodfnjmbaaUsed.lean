/-
  THE WALKS OF LAYER 5's CODE (package used): which bytes a text has.
-/
import Derived.Test.YthpgddodfnjmbaaRow
import Derived.Test.YthpgddodfnjmbaaUsedMath
import Derived.Deep.RegionHeld3
import Derived.StillTailTactics
namespace Go.Proofs.Ythpgddodfnjmbaa
open Go.RowKit BitM UsedM
set_option linter.unusedVariables false

/-- The fields of a set of bytes, as an array. -/
def arr (S : Nat → Bool) : Array Value := ((List.range 16).map fun i => Value.int .u32 (fld S i : Int)).toArray
theorem arr_size (S : Nat → Bool) : (arr S).size = 16 := by simp [arr]
theorem arr_get (S : Nat → Bool) (i : Nat) (h : i < 16) : (arr S)[i]? = some (.int .u32 (fld S i : Int)) := by
  simp [arr, h]
theorem arr_cells (S : Nat → Bool) : (arr S).all (·.oneCell') = true := by
  rw [Array.all_eq_true]
  intro i h
  simp [arr, Value.oneCell']
theorem arr_ext (cs : Array Value) (S : Nat → Bool) (hs : cs.size = 16) (h : ∀ i, i < 16 → cs[i]? = some (.int .u32 (fld S i : Int))) : cs = arr S := by
  apply Array.ext_getElem?
  intro i
  by_cases hi : i < 16
  · rw [h i hi, arr_get S i hi]
  · rw [Array.getElem?_eq_none (by omega), Array.getElem?_eq_none (by rw [arr_size]; omega)]
theorem zero16 : (#[.int .u32 0, .int .u32 0, .int .u32 0, .int .u32 0, .int .u32 0, .int .u32 0, .int .u32 0, .int .u32 0, .int .u32 0, .int .u32 0, .int .u32 0, .int .u32 0, .int .u32 0, .int .u32 0, .int .u32 0, .int .u32 0] : Array Value) = arr (fun _ => false) := arr_ext _ _ rfl (fun i hi => by
  rw [fld_empty]
  have : ∀ i : Fin 16, (#[.int .u32 0, .int .u32 0, .int .u32 0, .int .u32 0, .int .u32 0, .int .u32 0, .int .u32 0, .int .u32 0, .int .u32 0, .int .u32 0, .int .u32 0, .int .u32 0, .int .u32 0, .int .u32 0, .int .u32 0, .int .u32 0] : Array Value)[i.val]? = some (.int .u32 ((0 : Nat) : Int)) := by
    intro i
    rcases i with ⟨i, h⟩
    iterate 16 (rcases i with _ | i; · rfl)
    omega
  exact this ⟨i, hi⟩)
theorem info73 (S : Nat → Bool) : (Try.prog.info? 73).map (·.size) = some (arr S).size := by rw [arr_size]; kernel_rfl
theorem arr_set (S : Nat → Bool) (b : Nat) (hb : b < 256) (X : Int) (hX : X = ((fld S (b / 16) ||| 2 ^ (15 - b % 16) : Nat) : Int)) : (arr S).setIfInBounds (b / 16) (.int .u32 X) = arr (put S b) := by
  subst hX
  apply arr_ext
  · simp [arr_size]
  · intro i hi
    rw [Array.getElem?_setIfInBounds]
    by_cases e : b / 16 = i
    · subst e
      rw [if_pos rfl, if_pos (by rw [arr_size]; omega), fld_put_same S (b / 16) (b % 16) (by omega), show 16 * (b / 16) + b % 16 = b by omega]
    · rw [if_neg e, arr_get S i hi, fld_put_other S i b e]
set_option maxHeartbeats 400000 in
theorem bit_any (J : Int) (j Z : Nat) (w : World) (hJ : J = (j : Int)) (hj : j ≤ 15) (hZ : 2 ^ (15 - j) = Z) : Calls Try.prog 66 #[.int .i64 J] w fun e w' => e = .returned (.int .u32 (Z : Int)) ∧ w = w' := by
  subst hJ
  subst hZ
  have e : (15 : Int) - (j : Int) = ((15 - j : Nat) : Int) := by omega
  go_enter Try.func66, Try.ntmps66
  go_wp2_with fail
  go_ret
  have h15 : 2 ^ (15 - j) ≤ 2 ^ 15 := Nat.pow_le_pow_right (by omega) (by omega)
  have e2 : (2 : Int) ^ (15 - j) = ((2 ^ (15 - j) : Nat) : Int) := by simp
  refine ⟨?_, rfl⟩
  show Ending.returned (Value.int IntKind.u32 (2 ^ (15 - j) % 4294967296)) = _
  rw [e2]
  generalize 2 ^ (15 - j) = Z at *
  rw [Int.emod_eq_of_lt (by omega) (by omega)]
/-- What the loop of 'of' knows of the memory. -/
def Made (N : Nat) (S : Nat → Bool) (w wr : World) : Prop :=
  Below N w wr ∧ wr.heap.size = N + 2 ∧ wr.heap[N]? = some (.cells (arr (fun _ => false)) 73 (0, 0)) ∧ wr.heap[N + 1]? = some (.cells (arr S) 73 (0, 0))
theorem Made.start (w : World) : Made w.heap.size (fun _ => false) w ((w.alloc (.cells #[.int .u32 0, .int .u32 0, .int .u32 0, .int .u32 0, .int .u32 0, .int .u32 0, .int .u32 0, .int .u32 0, .int .u32 0, .int .u32 0, .int .u32 0, .int .u32 0, .int .u32 0, .int .u32 0, .int .u32 0, .int .u32 0] 73)).alloc (.cells #[.int .u32 0, .int .u32 0, .int .u32 0, .int .u32 0, .int .u32 0, .int .u32 0, .int .u32 0, .int .u32 0, .int .u32 0, .int .u32 0, .int .u32 0, .int .u32 0, .int .u32 0, .int .u32 0, .int .u32 0, .int .u32 0] 73)) := by
  rw [zero16]
  exact ⟨((Below.refl _ _).alloc (Nat.le_refl _) _).alloc (by simp) _, by simp, heap_alloc2_old _ _ _, heap_alloc2_new _ _ _⟩
theorem Made.drew {N : Nat} {S : Nat → Bool} {w wr : World} (h : Made N S w wr) : Made N S w wr.drew := ⟨h.1.drew, h.2⟩
theorem Made.cell {N : Nat} {S : Nat → Bool} {w wr : World} (h : Made N S w wr) (i : Nat) (hi : i < 16) : wr.cell? ⟨N + 1, i, none⟩ = some (.int .u32 (fld S i : Int)) ∧ wr.frozen? ⟨N + 1, i, none⟩ = false := by
  obtain ⟨_, _, _, h⟩ := h
  refine ⟨?_, frozen_of_row wr _ i _ _ h⟩
  rw [cell_of_row wr _ i _ _ _ h, arr_get S i hi]
theorem Made.step {N : Nat} {S : Nat → Bool} {w wr : World} (h : Made N S w wr) (b : Nat) (hb : b < 256) (X : Int) (hX : X = ((fld S (b / 16) ||| 2 ^ (15 - b % 16) : Nat) : Int)) : Made N (put S b) w (wr.setCell ⟨N + 1, b / 16, none⟩ (.int .u32 X)) := by
  obtain ⟨h1, h2, h3, h4⟩ := h
  refine ⟨h1.setCell (by simp) _, by simpa [World.setCell] using h2, ?_, ?_⟩
  · rw [heap_setCell_other wr _ N _ (by simp)]; exact h3
  · rw [← arr_set S b hb X hX]
    exact heap_setCell_same wr _ (b / 16) _ _ _ h4
set_option maxRecDepth 100000 in
set_option maxHeartbeats 1000000 in
theorem of_any (s : ByteArray) (w : World) (hs : s.size ≤ maxLen) :
    Calls Try.prog 51 #[.string s] w fun e w' => e = .returned (.agg (arr (has s.data.toList))) ∧ Below w.heap.size w w' := by
  have H0 := Lib.hid (Made.start w)
  have hs2 : s.size ≤ 9223372036854775807 := by unfold maxLen at hs; omega
  go_enter Try.func51, Try.ntmps51
  go_wp2_with fail
  go_loopw [4, 7] (fun _ i wr => ∃ k : Nat, k ≤ s.size ∧ i = .int .i64 k ∧ Made w.heap.size (has (s.data.toList.take k)) w wr) (fun _ i _ => s.size - (intOf i).toNat)
  case atStart => exact ⟨0, by omega, rfl, H0.out⟩
  case round =>
    obtain ⟨k, hk, rfl, hM⟩ := hrel
    by_cases hlt : k < s.size
    · have hc := s[k].toNat_lt
      have hq : ((s[k].toNat : Int)) / 16 = ((s[k].toNat / 16 : Nat) : Int) := by omega
      have hr : ((s[k].toNat : Int)) % 16 = ((s[k].toNat % 16 : Nat) : Int) := by omega
      have hql : s[k].toNat / 16 < 16 := by omega
      obtain ⟨c0, f0⟩ := hM.cell (s[k].toNat / 16) hql
      have hZ : ∃ Z, 2 ^ (15 - s[k].toNat % 16) = Z := ⟨_, rfl⟩
      obtain ⟨Z, hZ⟩ := hZ
      have hZl : Z ≤ 32768 := by
        have : 2 ^ (15 - s[k].toNat % 16) ≤ 2 ^ 15 := Nat.pow_le_pow_right (by omega) (by omega)
        omega
      have hor : bits BinOp.or IntKind.u32 (fld (has (s.data.toList.take k)) (s[k].toNat / 16) : Int) (Z : Int) = ((fld (has (s.data.toList.take k)) (s[k].toNat / 16) ||| 2 ^ (15 - s[k].toNat % 16) : Nat) : Int) := by
        rw [hZ]
        exact u32_or_nat _ _ (by have := fld_lt (has (s.data.toList.take k)) (s[k].toNat / 16); omega) (by omega)
      have HST := Lib.hid (hM.step s[k].toNat (by omega) _ hor)
      have HH : Hid (has (s.data.toList.take (k + 1)) = put (has (s.data.toList.take k)) s[k].toNat) := Lib.hid (by
        rw [List.take_succ_eq_append_getElem (by simpa using hlt), has_snoc]
        rfl)
      have HR := Lib.hid (show s[k].toNat % 16 ≤ 15 by omega)
      have hrt : IntKind.i64.wrap ((s[k].toNat : Int).tmod 16) = ((s[k].toNat % 16 : Nat) : Int) := by
        rw [Int.tmod_eq_emod_of_nonneg (by omega), hr]; exact IntWalk.i64_in _ (by omega)
      have HZ := Lib.hid hZ
      clear hM hor H0 hZ
      generalize fld (has (s.data.toList.take k)) (s[k].toNat / 16) = F at *
      generalize has (s.data.toList.take k) = S at *
      go_wp2_with fail
      generalize s[k].toNat / 16 = q at *
      generalize s[k].toNat % 16 = r at *
      obtain ⟨N, hN⟩ : ∃ N, w.heap.size = N := ⟨_, rfl⟩
      rw [hN] at c0 f0 HST
      simp only [hN]
      have hq0 : (0 : Int) ≤ (q : Int) := by omega
      have hq1 : (q : Int) < 16 := by omega
      have hq2 : IntKind.u8.wrap (q : Int) = (q : Int) := IntWalk.u8_in _ (by omega)
      have hr2 : IntKind.u8.wrap (r : Int) = (r : Int) := IntWalk.u8_in _ (by have := HR.out; omega)
      go_region_with (first | (go_at_call 66; refine (bit_any _ r Z _ (by omega) HR.out HZ.out).mono ?_; rintro e w' ⟨rfl, rfl⟩))
      all_goals
        subst hN
        go_wp2_with fail
        go_roundw
        case rel => exact ⟨k + 1, by omega, by go_num, by rw [HH.out]; exact HST.out.drew⟩
        case measure => simp [intOf]; omega
    · obtain rfl : k = s.size := by omega
      rw [List.take_of_length_le (by simp)] at hM
      obtain ⟨hb, hz, h0, hc⟩ := hM
      generalize hA : arr (has s.data.toList) = A at *
      have hi : (Try.prog.info? 73).map (·.size) = some A.size := hA ▸ info73 _
      have ha : A.all (·.oneCell') = true := hA ▸ arr_cells _
      have h16 : (arr (fun _ => false)).size = A.size := by rw [← hA, arr_size, arr_size]
      generalize arr (fun _ => false) = Z0 at *
      go_wp2_with (first | (refine wpList_load_row rfl 73 _ rfl (w.heap.size + 1) rfl 73 A (0, 0) _ hc Try.underlying73 rfl hi ?_) | (refine wpList_store_row rfl 73 _ _ rfl w.heap.size A rfl rfl 73 Z0 h0 hi h16 ha ?_))
      refine bodyPost_ret (v := .agg A) (results_cell_row rfl _ _ w.heap.size 73 A (0, 0) _ rfl (setRow_heap wr _ Z0 A 73 _ h0) Try.underlying73 rfl hi) rfl ⟨by rw [hA], ?_⟩
      exact hb.trans ⟨rfl, rfl, rfl, by simp [World.setRow], fun j hj => setRow_other wr _ j _ (by omega)⟩
end Go.Proofs.Ythpgddodfnjmbaa

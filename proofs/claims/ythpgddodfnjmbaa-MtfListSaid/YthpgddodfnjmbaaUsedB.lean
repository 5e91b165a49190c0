/-
  THE WALKS OF LAYER 5's CODE (package used): the fields, and whether a text is a row of symbols.
-/
import Derived.Test.YthpgddodfnjmbaaUsed
namespace Go.Proofs.Ythpgddodfnjmbaa
open Go.RowKit BitM UsedM
set_option linter.unusedVariables false

theorem arr_index (S : Nat → Bool) (k F : Nat) (hk : k < 16) (hF : fld S k = F) (W : World) : (Instr.index 73 (.agg (arr S)) (.int .i64 (k : Int))).run Try.prog W = .ok (.int .u32 (F : Int)) W := by
  subst hF
  have hu := Try.underlying73
  have hg := arr_get S k hk
  simp [Instr.index, run_underlying hu, asIntOf, go_sem, hg]
  intro h
  omega
set_option maxHeartbeats 1000000 in
theorem which_any (S : Nat → Bool) (w : World) :
    Calls Try.prog 54 #[.agg (arr S)] w fun e w' => e = .returned (.int .u32 (num (which S) : Int)) ∧ Below w.heap.size w w' := by
  have hix := fun k (hk : k < 16) F (hF : fld S k = F) => arr_index S k F hk hF
  have hi := info73 S
  have hg : (w.alloc (.cells (arr S) 73)).heap[w.heap.size]? = some (.cells (arr S) 73 (0, 0)) := heap_alloc_new _ _
  have HX := Lib.hid hix
  generalize arr S = A at *
  have h0 : (0 : Int) = (fld (upto S 0) 0 : Int) := by rw [upto_zero, fld_empty]; rfl
  have H0 := Lib.hid h0
  clear h0 hix
  go_enter Try.func54, Try.ntmps54
  go_wp2_with (refine wpList_load_row rfl 73 _ rfl w.heap.size rfl 73 A (0, 0) _ hg Try.underlying73 rfl hi ?_)
  clear hg hi
  go_loopw [3, 7] (fun v i wr => ∃ k : Nat, k ≤ 16 ∧ i = .int .i64 k ∧ v = .int .u32 (fld (upto S k) 0 : Int) ∧ wr = w.alloc (.cells A 73)) (fun _ i _ => 16 - (intOf i).toNat)
  case atStart => exact ⟨0, by omega, rfl, iv H0.out, rfl⟩
  case round =>
    obtain ⟨k, hk, rfl, rfl, rfl⟩ := hrel
    by_cases hlt : k < 16
    · have hk2 : (k : Int) < 16 := by omega
      have hxk := HX.out k hlt _ rfl
      have HU := Lib.hid (upto_succ S k)
      by_cases hsome : some_ S k = true
      · have hne : ((fld S k : Int) != 0) = true := by
          rw [bne_iff_ne]
          intro e
          rw [(fld_zero S k).1 (by omega)] at hsome
          cases hsome
        have hor : bits BinOp.or IntKind.u32 (fld (upto S k) 0 : Int) ((2 ^ (15 - k) : Nat) : Int) = (fld (upto S (k + 1)) 0 : Int) := by
          rw [u32_or_nat _ _ (by have := fld_lt (upto S k) 0; omega) (by have : 2 ^ (15 - k) ≤ 2 ^ 15 := Nat.pow_le_pow_right (by omega) (by omega); omega), fld_put_same _ 0 k hlt, HU.out, if_pos hsome]
          simp
        have HOR := Lib.hid hor
        obtain ⟨Z, hZ⟩ : ∃ Z, 2 ^ (15 - k) = Z := ⟨_, rfl⟩
        rw [hZ] at HOR
        have HZ := Lib.hid hZ
        clear hor hZ hsome
        generalize fld S k = F at *
        generalize fld (upto S k) 0 = V at *
        go_wp2_with fail
        refine (bit_any _ k Z _ rfl (by omega) HZ.out).mono ?_
        rintro e w' ⟨rfl, rfl⟩
        go_wp2_with fail
        go_roundw
        case rel => exact ⟨k + 1, by omega, by go_num, iv HOR.out, by first | rfl | trivial⟩
        case measure => simp [intOf]; omega
      · have hsf : some_ S k = false := by simpa using hsome
        have hz : (fld S k : Int) = 0 := by rw [(fld_zero S k).2 hsf]; rfl
        have HV : Hid ((fld (upto S (k + 1)) 0 : Int) = (fld (upto S k) 0 : Int)) := Lib.hid (by rw [HU.out, hsf]; rfl)
        rw [hz] at hxk
        clear hz hsome hsf
        generalize fld (upto S k) 0 = V at *
        go_wp2_with fail
        go_roundw
        case rel => exact ⟨k + 1, by omega, by go_num, iv HV.out.symm, by first | rfl | trivial⟩
        case measure => simp [intOf]; omega
    · obtain rfl : k = 16 := by omega
      have HF := Lib.hid (upto_all S)
      generalize fld (upto S 16) 0 = V at *
      go_wp2_with fail
      go_ret
      rw [HF.out]
      exact ⟨rfl, (Below.refl _ _).alloc (Nat.le_refl _) _⟩
theorem and_code' (F Z : Nat) (b : Bool) (hF : F < 65536) (hZ : Z ≤ 32768) (h0 : 0 < Z) (h : F &&& Z = if b then Z else 0) : (bits BinOp.and IntKind.u32 (F : Int) (Z : Int) != 0) = b := by
  rw [u32_and_nat _ _ (by omega) (by omega), h]
  cases b
  · rfl
  · rw [bne_iff_ne]
    simp only [if_true]
    omega
theorem drewN_add (w : World) (m n : Nat) : (w.drewN m).drewN n = w.drewN (m + n) := by simp [World.drewN, Nat.add_assoc]
theorem below_drewN (w : World) (n : Nat) : Below w.heap.size w (w.drewN n) := ⟨rfl, rfl, rfl, Nat.le_refl _, fun _ _ => rfl⟩
theorem empty_test (s : ByteArray) : (!s.toList.isEmpty) = decide (s.size ≠ 0) := by
  rw [← decide_eq_emptyBytes s, ← decide_not]
  congr 1
  rw [eq_iff_iff]
  constructor
  · intro h e
    exact h (ByteArray.ext (Array.eq_empty_of_size_eq_zero e))
  · rintro h rfl
    exact h rfl
set_option maxHeartbeats 1000000 in
theorem is_any (s : ByteArray) (r : Bool) (w : World) (hs : s.size ≤ 9223372036854775807) (hr : r = true ↔ IsSyms s.data.toList) :
    Calls Try.prog 19 #[.string s] w fun e w' => e = .returned (.bool r) ∧ ∃ n, w' = w.drewN n := by
  have hsz : s.data.toList.length = s.size := rfl
  have H := Lib.hid hr
  clear hr
  go_enter Try.func19, Try.ntmps19
  go_wp2_with fail
  go_loopw [3] (fun i wr => ∃ k : Nat, 1 ≤ k ∧ k ≤ max 1 s.size ∧ i = .int .i64 k ∧ (∃ n, wr = w.drewN n) ∧ ∀ (j : Nat) (x y : UInt8), j + 1 < k → s.data.toList[j]? = some x → s.data.toList[j + 1]? = some y → x.toNat < y.toNat) (fun i _ => s.size - (intOf i).toNat)
  case atStart => exact ⟨1, by omega, by omega, rfl, ⟨0, rfl⟩, fun j x y h => by omega⟩
  case round =>
    obtain ⟨k, hk1, hk2, rfl, ⟨n, rfl⟩, hR⟩ := hrel
    have HR := Lib.hid hR
    clear hR
    obtain ⟨j, hj⟩ : ∃ j, j + 1 = k := ⟨k - 1, by omega⟩
    by_cases hlt : k < s.size
    · have hk3 : (1 : Int) ≤ (k : Int) := by omega
      have h1 : (k : Int) - 1 = (j : Int) := by omega
      have h2 : IntKind.i64.wrap (j : Int) = (j : Int) := IntWalk.i64_in _ (by omega)
      have hjl : j < s.size := by omega
      have hx1 : s.data.toList[j]? = some s[j] := List.getElem?_eq_getElem (l := s.data.toList) (by simpa using hjl)
      have hx2 : s.data.toList[j + 1]? = some s[k] := by rw [hj]; exact List.getElem?_eq_getElem (l := s.data.toList) (by simpa using hlt)
      have HX1 := Lib.hid hx1
      have HX2 := Lib.hid hx2
      clear hx1 hx2
      by_cases hge : s[k].toNat ≤ s[j].toNat
      · have hr : r = false := by
          rw [Bool.eq_false_iff]
          intro hr
          have := (H.out.1 hr).1 j _ _ HX1.out HX2.out
          omega
        have hd : ((s[k].toNat : Int) ≤ (s[j].toNat : Int)) := by omega
        subst hr
        go_wp2_with fail
        go_quiet (fail)
        go_wp2_with fail
        go_ret
        exact ⟨rfl, _, drewN_add _ _ _⟩
      · have hd : decide ((s[k].toNat : Int) ≤ (s[j].toNat : Int)) = false := by simp only [decide_eq_false_iff_not]; omega
        go_wp2_with fail
        go_quiet (fail)
        go_wp2_with fail
        go_roundw
        case rel =>
          refine ⟨k + 1, by omega, by omega, by go_num, ⟨_, rfl⟩, fun i x y hi hx hy => ?_⟩
          by_cases e : i = j
          · subst e
            rw [HX1.out] at hx
            rw [HX2.out] at hy
            cases hx
            cases hy
            omega
          · exact HR.out i x y (by omega) hx hy
        case measure => simp [intOf]; omega
    · have hr : r = decide (s.size ≠ 0) := by
        rw [Bool.eq_iff_iff, H.out]
        simp only [decide_eq_true_eq]
        constructor
        · intro h e
          exact h.2 (List.eq_nil_of_length_eq_zero (hsz.trans e))
        · intro h
          refine ⟨fun i x y hx hy => HR.out i x y ?_ hx hy, fun e => h (by rw [← hsz, e]; rfl)⟩
          have := (List.getElem?_eq_some_iff.1 hy).1
          omega
      have he := empty_test s
      rw [← hr] at he
      have HE := Lib.hid he
      clear hr he
      go_wp2_with fail
      go_ret
      exact ⟨congrArg (fun b => Ending.returned (Value.bool b)) HE.out, _, rfl⟩
set_option maxHeartbeats 1000000 in
theorem is_yes (s : ByteArray) (w : World) (hs : s.size ≤ 9223372036854775807) (h : IsSyms s.data.toList) :
    Calls Try.prog 19 #[.string s] w fun e w' => e = .returned (.bool true) ∧ ∃ n, w' = w.drewN n := is_any s true w hs ⟨fun _ => h, fun _ => rfl⟩
theorem is_no (s : ByteArray) (w : World) (hs : s.size ≤ 9223372036854775807) (h : ¬ IsSyms s.data.toList) :
    Calls Try.prog 19 #[.string s] w fun e w' => e = .returned (.bool false) ∧ ∃ n, w' = w.drewN n := is_any s false w hs ⟨fun e => (by cases e), fun e => absurd e h⟩
set_option maxHeartbeats 1000000 in
theorem bits_no (s : ByteArray) (w : World) (hs : s.size ≤ 9223372036854775807) (h : ¬ IsSyms s.data.toList) :
    Calls Try.prog 16 #[.string s] w fun e w' => e = .returned (.tuple #[.int .i64 0, .int .i64 1]) ∧ ∃ n, w' = w.drewN n := by
  go_enter Try.func16, Try.ntmps16
  go_wp2_with fail
  refine (is_no s w hs h).mono ?_
  rintro e w' ⟨rfl, n, rfl⟩
  go_wp2_with fail
  go_ret2
  exact ⟨rfl, n, rfl⟩
set_option maxHeartbeats 1000000 in
theorem bits_yes (s : ByteArray) (w : World) (hs : s.size ≤ maxLen) (h : IsSyms s.data.toList) :
    Calls Try.prog 16 #[.string s] w fun e w' => e = .returned (.tuple #[.int .i64 ((ubits (has s.data.toList)).length : Int), .int .i64 0]) ∧ Below w.heap.size w w' := by
  have hs2 : s.size ≤ 9223372036854775807 := by unfold maxLen at hs; omega
  have hix := fun k (hk : k < 16) F (hF : fld (has s.data.toList) k = F) => arr_index (has s.data.toList) k F hk hF
  have HX := Lib.hid hix
  clear hix
  go_enter Try.func16, Try.ntmps16
  go_wp2_with fail
  refine (is_yes s w hs2 h).mono ?_
  rintro e w' ⟨rfl, n, rfl⟩
  go_wp2_with fail
  refine (of_any s _ hs).mono ?_
  rintro e w1 ⟨rfl, hb⟩
  have HB := Lib.hid ((below_drewN w n).trans hb)
  clear hb
  generalize hS : has s.data.toList = S at *
  have HL := Lib.hid (ubits_length S)
  generalize arr S = A at *
  go_wp2_with fail
  go_loopw [4, 12] (fun v i wr => ∃ k : Nat, k ≤ 16 ∧ i = .int .i64 k ∧ v = .int .i64 ((16 + 16 * cnt S k : Nat) : Int) ∧ wr = w1) (fun _ i _ => 16 - (intOf i).toNat)
  case atStart => exact ⟨0, by omega, rfl, rfl, rfl⟩
  case round =>
    obtain ⟨k, hk, rfl, rfl, rfl⟩ := hrel
    by_cases hlt : k < 16
    · have hk2 : (k : Int) < 16 := by omega
      have hxk := HX.out k hlt _ rfl
      have HC := Lib.hid (cnt_succ S k)
      have hcl := cnt_le S k
      by_cases hsome : some_ S k = true
      · have hne : ((fld S k : Int) != 0) = true := by
          rw [bne_iff_ne]
          intro e
          rw [(fld_zero S k).1 (by omega)] at hsome
          cases hsome
        have HC2 : Hid (cnt S (k + 1) = cnt S k + 1) := Lib.hid (by rw [HC.out, if_pos hsome])
        obtain ⟨c, hc⟩ : ∃ c, 16 + 16 * cnt S k = c := ⟨_, rfl⟩
        have HCC := Lib.hid hc
        have hcb : (c : Int) ≤ 1000 := by omega
        clear hsome
        simp only [hc]
        clear hc
        generalize fld S k = F at *
        go_wp2_with fail
        go_roundw
        case rel => exact ⟨k + 1, by omega, by go_num, iv (by rw [HC2.out, ← HCC.out]; omega), by first | rfl | trivial⟩
        case measure => simp [intOf]; omega
      · have hsf : some_ S k = false := by simpa using hsome
        have hz : (fld S k : Int) = 0 := by rw [(fld_zero S k).2 hsf]; rfl
        have HC2 : Hid (cnt S (k + 1) = cnt S k) := Lib.hid (by rw [HC.out, hsf]; rfl)
        rw [hz] at hxk
        clear hz hsome hsf
        go_wp2_with fail
        go_roundw
        case rel => exact ⟨k + 1, by omega, by go_num, iv (by rw [HC2.out]), by first | rfl | trivial⟩
        case measure => simp [intOf]; omega
    · obtain rfl : k = 16 := by omega
      go_wp2_with fail
      go_ret2
      exact ⟨by rw [hS, HL.out]; rfl, HB.out⟩
end Go.Proofs.Ythpgddodfnjmbaa

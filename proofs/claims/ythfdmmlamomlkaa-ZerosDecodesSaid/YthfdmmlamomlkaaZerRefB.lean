/-
  THE WALKS OF THE DOCUMENT's ANSWERS OF LAYER 7 (balerref07): Encode.
-/
import Derived.Test.YthfdmmlamomlkaaZerRef
namespace Go.Proofs.Ythfdmmlamomlkaa
open Go.RowKit ZerM
set_option linter.unusedVariables false
set_option maxRecDepth 100000 in
set_option maxHeartbeats 2000000 in
theorem rEncode_any (v : Value) (zs : List Int) (n : Int) (w : World) (hv : IsInts w v zs) (hz : zs.length ≤ 1000000) :
    Calls Try.prog 22 #[v, .int .i64 n] w fun e w' => ∃ (u : Value) (ys : List Int) (err : Nat), e = .returned (.tuple #[u, .int .i64 (err : Int)]) ∧ IsInts w' u ys ∧ Below w.heap.size w w' ∧ EncP zs n ys err := by
  have HV := Lib.hid hv
  obtain ⟨a, cap, rfl, _⟩ := hv
  by_cases hn1 : 1 ≤ n
  · by_cases hn2 : n ≤ 256
    · have hn1' : ¬ n < 1 := by omega
      have hn2' : ¬ 256 < n := by omega
      have HRO := Lib.hid (fun m (hm : m ≤ 17592186044416) w => rrow_any m hm w)
      go_enter Try.func22, Try.ntmps22
      go_wp2_with fail
      go_loopw [6, 7, 18] (fun c z i wr => ∃ (k : Nat) (u : Value), k ≤ zs.length ∧ i = .int .i64 k ∧ c = u ∧ z = .int .i64 ((encF (zs.take k)).2 : Int) ∧ OwnI wr w.heap.size u (encF (zs.take k)).1 ∧ Below w.heap.size w wr ∧ ∀ j, j < k → 0 ≤ zs.getD j 0 ∧ zs.getD j 0 < n) (fun _ _ i _ => zs.length - (intOf i).toNat)
      case atStart => exact ⟨0, _, by omega, rfl, rfl, rfl, OwnI.nil _ _, Below.refl _ _, fun j hj => by omega⟩
      case round =>
        obtain ⟨k, u, hk, rfl, rfl, rfl, hO, hB, hA⟩ := hrel
        have hle := encF_le (zs.take k)
        have htk : (zs.take k).length = k := by rw [List.length_take]; omega
        have HT := Lib.hid (encF_take zs k)
        have hbw : w.heap.size ≤ wr.heap.size := hB.size
        have HB := Lib.hid hB
        have HA := Lib.hid hA
        clear hA
        by_cases hlk : k < zs.length
        · have hki : (k : Int) < (zs.length : Int) := by omega
          have HV2 := Lib.hid (HV.out.below HB.out)
          obtain ⟨b1, o1, k1, he1, c1⟩ := HV2.out.cell hlk
          simp only [Value.slice.injEq] at he1
          obtain ⟨rfl, _, rfl⟩ := he1
          obtain ⟨x, hx⟩ : ∃ x, zs.getD k 0 = x := ⟨_, rfl⟩
          have HM : Hid (x ∈ zs) := Lib.hid (by
            rw [← hx, List.getD_eq_getElem?_getD, List.getElem?_eq_getElem hlk]
            exact List.getElem_mem hlk)
          rw [hx] at c1
          have HT2 := Lib.hid (HT.out hlk)
          rw [hx] at HT2
          have HX := Lib.hid hx
          clear hx HT hB
          obtain ⟨A, hA⟩ : ∃ A, (encF (zs.take k)).1 = A := ⟨_, rfl⟩
          obtain ⟨Z, hZ⟩ : ∃ Z, (encF (zs.take k)).2 = Z := ⟨_, rfl⟩
          have hpair : encF (zs.take k) = (A, Z) := by rw [← hA, ← hZ]
          rw [hpair] at HT2 hle hO
          rw [hZ]
          simp only at hO hle
          have HO := Lib.hid hO
          clear hO hpair hA hZ
          by_cases hxn : x < 0
          · go_wp2_with fail
            go_ret2
            exact ⟨_, [], 1, rfl, IsInts.nil _, HB.out, Or.inl ⟨fun h => by have := (h.2.2 x HM.out).1; omega, rfl, rfl⟩⟩
          · by_cases hxm : n ≤ x
            · go_wp2_with fail
              go_ret2
              exact ⟨_, [], 1, rfl, IsInts.nil _, HB.out, Or.inl ⟨fun h => by have := (h.2.2 x HM.out).2; omega, rfl, rfl⟩⟩
            · have HA2 : Hid (∀ j, j < k + 1 → 0 ≤ zs.getD j 0 ∧ zs.getD j 0 < n) := Lib.hid (fun j hj => by
                by_cases e : j = k
                · subst e; rw [HX.out]; omega
                · exact HA.out j (by omega))
              by_cases h0 : x = 0
              · subst h0
                have HT3 : Hid (encF (zs.take (k + 1)) = (A, Z + 1)) := Lib.hid (by rw [HT2.out]; rfl)
                clear HT2
                have hz1 : IntKind.i64.wrap ((Z : Int) + 1) = (Z : Int) + 1 := IntWalk.i64_in _ (by omega)
                go_wp2_with fail
                go_roundw
                case rel => exact ⟨k + 1, _, by omega, by go_num, rfl, by rw [HT3.out]; rfl, by rw [HT3.out]; exact HO.out, HB.out, HA2.out⟩
                case measure => simp [intOf]; omega
              · have HT3 : Hid (encF (zs.take (k + 1)) = (A ++ rowC Z ++ [x + 1], 0)) := Lib.hid (by rw [HT2.out]; unfold encS; rw [if_neg h0])
                clear HT2
                have h0b : (x == 0) = false := by rw [beq_eq_false_iff_ne]; exact h0
                have hrl := rowC_len Z
                have HC := Lib.hid (HRO.out Z (by omega) wr)
                have hx1 : IntKind.i64.wrap (x + 1) = x + 1 := IntWalk.i64_in _ (by omega)
                have hal : A.length + (rowC Z).length ≤ 17592186044416 := by omega
                have hal2 : (A ++ rowC Z).length + 1 ≤ 17592186044416 := by rw [List.length_append]; omega
                go_wp2_with fail
                refine HC.out.mono ?_
                rintro e w2 ⟨u2, rfl, hO2, hB2⟩
                have HO2 := Lib.hid hO2
                have HO1 := Lib.hid (HO.out.below hB2)
                have HB2 := Lib.hid (HB.out.trans (hB2.mono HB.out.size))
                have hbw2 : w.heap.size ≤ w2.heap.size := HB2.out.size
                clear hO2 hB2 HC
                go_wp2_with (at_builtin; refine push_own w2 rfl _ _ rfl w.heap.size _ A wr.heap.size _ (rowC Z) HO1.out HO2.out rfl rfl hal hbw2 ?_)
                intro v3 w3 hO3 hB3
                have HO3 := Lib.hid hO3
                have HB3 := Lib.hid (HB2.out.trans hB3)
                have hbw3 : w.heap.size ≤ w3.heap.size := HB3.out.size
                clear hO3 hB3
                go_wp2_with (at_builtin; refine push_int w3 rfl _ _ rfl w.heap.size _ (A ++ rowC Z) (x + 1) HO3.out rfl rfl hal2 hbw3 ?_)
                intro v4 w4 hO4 hB4
                have HO4 := Lib.hid hO4
                have HB4 := Lib.hid (HB3.out.trans hB4)
                clear hO4 hB4
                go_wp2_with fail
                go_roundw
                case rel => exact ⟨k + 1, _, by omega, by go_num, rfl, by rw [HT3.out]; rfl, by rw [HT3.out]; simpa only [List.append_assoc] using HO4.out, HB4.out, HA2.out⟩
                case measure => simp [intOf]; omega
        · obtain rfl : k = zs.length := by omega
          clear HT hB htk
          rw [List.take_of_length_le (Nat.le_refl _)] at hO hle
          rw [List.take_of_length_le (Nat.le_refl _)]
          have hen : enc zs n = (encF zs).1 ++ rowC (encF zs).2 ++ [n + 1] := rfl
          have hok : EncOk zs n := ⟨hn1, hn2, fun p hp => by
            obtain ⟨i, hi, rfl⟩ := List.getElem_of_mem hp
            have := HA.out i hi
            rw [List.getD_eq_getElem?_getD, List.getElem?_eq_getElem hi] at this
            exact this⟩
          have HOK := Lib.hid hok
          have HO := Lib.hid hO
          have HEN := Lib.hid hen
          clear hO hen hok HA
          generalize (encF zs).1 = A at *
          generalize (encF zs).2 = Z at *
          have hrl := rowC_len Z
          have HC := Lib.hid (HRO.out Z (by omega) wr)
          have hx1 : IntKind.i64.wrap (n + 1) = n + 1 := IntWalk.i64_in _ (by omega)
          have hal : A.length + (rowC Z).length ≤ 17592186044416 := by omega
          have hal2 : (A ++ rowC Z).length + 1 ≤ 17592186044416 := by rw [List.length_append]; omega
          go_wp2_with fail
          refine HC.out.mono ?_
          rintro e w2 ⟨u2, rfl, hO2, hB2⟩
          have HO2 := Lib.hid hO2
          have HO1 := Lib.hid (HO.out.below hB2)
          have HB2 := Lib.hid (HB.out.trans (hB2.mono HB.out.size))
          have hbw2 : w.heap.size ≤ w2.heap.size := HB2.out.size
          clear hO2 hB2 HC
          go_wp2_with (at_builtin; refine push_own w2 rfl _ _ rfl w.heap.size _ A wr.heap.size _ (rowC Z) HO1.out HO2.out rfl rfl hal hbw2 ?_)
          intro v3 w3 hO3 hB3
          have HO3 := Lib.hid hO3
          have HB3 := Lib.hid (HB2.out.trans hB3)
          have hbw3 : w.heap.size ≤ w3.heap.size := HB3.out.size
          clear hO3 hB3
          go_wp2_with (at_builtin; refine push_int w3 rfl _ _ rfl w.heap.size _ (A ++ rowC Z) (n + 1) HO3.out rfl rfl hal2 hbw3 ?_)
          intro v4 w4 hO4 hB4
          have HO4 := Lib.hid hO4
          have HB4 := Lib.hid (HB3.out.trans hB4)
          clear hO4 hB4
          go_wp2_with fail
          go_ret2
          exact ⟨_, _, 0, rfl, HO4.out.ints, HB4.out, Or.inr ⟨HOK.out, by rw [HEN.out, List.append_assoc], rfl⟩⟩
    · have hn2' : 256 < n := by omega
      have hn1' : ¬ n < 1 := by omega
      go_enter Try.func22, Try.ntmps22
      go_wp2_with fail
      go_ret2
      exact ⟨_, [], 1, rfl, IsInts.nil _, Below.refl _ _, Or.inl ⟨fun h => by have := h.2.1; omega, rfl, rfl⟩⟩
  · have hn1' : n < 1 := by omega
    go_enter Try.func22, Try.ntmps22
    go_wp2_with fail
    go_ret2
    exact ⟨_, [], 1, rfl, IsInts.nil _, Below.refl _ _, Or.inl ⟨fun h => by have := h.1; omega, rfl, rfl⟩⟩
end Go.Proofs.Ythfdmmlamomlkaa

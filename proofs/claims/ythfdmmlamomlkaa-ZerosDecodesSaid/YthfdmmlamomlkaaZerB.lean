/-
  THE WALKS OF LAYER 7's CODE (package zeros): Row, Encode.
-/
import Derived.Test.YthfdmmlamomlkaaZer
namespace Go.Proofs.Ythfdmmlamomlkaa
open Go.RowKit ZerM
set_option linter.unusedVariables false
def RowP (m : Int) (zs : List Int) (err : Nat) : Prop := ((m < 1 ∨ 1099511627776 < m) ∧ zs = [] ∧ err = 1) ∨ (1 ≤ m ∧ m ≤ 1099511627776 ∧ zs = rowC m.toNat ∧ err = 0)
set_option maxRecDepth 100000 in
set_option maxHeartbeats 1000000 in
theorem zRow_any (m : Int) (w : World) : Calls Try.prog 16 #[.int .i64 m] w fun e w' => ∃ (v : Value) (zs : List Int) (err : Nat), e = .returned (.tuple #[v, .int .i64 (err : Int)]) ∧ OwnI w' w.heap.size v zs ∧ Below w.heap.size w w' ∧ RowP m zs err := by
  by_cases h1 : m < 1
  · go_enter Try.func16, Try.ntmps16
    go_wp2_with fail
    go_ret2
    exact ⟨_, [], 1, rfl, OwnI.nil _ _, Below.refl _ _, Or.inl ⟨Or.inl h1, rfl, rfl⟩⟩
  · by_cases h2 : 1099511627776 < m
    · go_enter Try.func16, Try.ntmps16
      go_wp2_with fail
      go_ret2
      exact ⟨_, [], 1, rfl, OwnI.nil _ _, Below.refl _ _, Or.inl ⟨Or.inr h2, rfl, rfl⟩⟩
    · obtain ⟨k, rfl⟩ : ∃ k : Nat, m = (k : Int) := ⟨m.toNat, by omega⟩
      have HC := Lib.hid (zrow_any w.heap.size _ [] k w (OwnI.nil w w.heap.size) (Nat.le_refl _) (by simp; omega) (by omega))
      go_enter Try.func16, Try.ntmps16
      go_wp2_with fail
      refine HC.out.mono ?_
      rintro e w1 ⟨v, rfl, hO, hB⟩
      have HO := Lib.hid hO
      have HB := Lib.hid hB
      clear hO hB HC
      go_wp2_with fail
      go_ret2
      exact ⟨_, _, 0, rfl, HO.out, HB.out, Or.inr ⟨by omega, by omega, by simp, rfl⟩⟩
theorem isSize_any (n : Int) (r : Bool) (w : World) (hr : r = true ↔ 1 ≤ n ∧ n ≤ 256) : Calls Try.prog 47 #[.int .i64 n] w fun e w' => e = .returned (.bool r) ∧ w = w' := by
  by_cases h1 : 1 ≤ n
  · by_cases h2 : n ≤ 256
    · obtain rfl : r = true := hr.2 ⟨h1, h2⟩
      clear hr
      go_enter Try.func47, Try.ntmps47
      go_wp2_with fail
      go_ret
      exact ⟨rfl, rfl⟩
    · obtain rfl : r = false := by rw [Bool.eq_false_iff]; intro h; exact h2 (hr.1 h).2
      clear hr
      go_enter Try.func47, Try.ntmps47
      go_wp2_with fail
      go_ret
      exact ⟨rfl, rfl⟩
  · obtain rfl : r = false := by rw [Bool.eq_false_iff]; intro h; exact h1 (hr.1 h).1
    clear hr
    go_enter Try.func47, Try.ntmps47
    go_wp2_with fail
    go_ret
    exact ⟨rfl, rfl⟩
set_option maxRecDepth 100000 in
set_option maxHeartbeats 1000000 in
theorem arePlaces_any (v : Value) (zs : List Int) (n : Int) (r : Bool) (w : World) (hv : IsInts w v zs) (hz : zs.length ≤ 9223372036854775807) (hr : r = true ↔ ∀ p ∈ zs, 0 ≤ p ∧ p < n) :
    Calls Try.prog 48 #[v, .int .i64 n] w fun e w' => e = .returned (.bool r) ∧ w = w' := by
  have HV := Lib.hid hv
  have HR := Lib.hid hr
  obtain ⟨a, cap, rfl, _⟩ := hv
  clear hr
  go_enter Try.func48, Try.ntmps48
  go_wp2_with fail
  go_loop [9] (fun i => ∃ k : Nat, k ≤ zs.length ∧ i = .int .i64 k ∧ ∀ j, j < k → 0 ≤ zs.getD j 0 ∧ zs.getD j 0 < n) (fun i => zs.length - (intOf i).toNat)
  case atStart => exact ⟨0, by omega, rfl, fun j hj => by omega⟩
  case round =>
    obtain ⟨k, hk, rfl, hA⟩ := hrel
    have HA := Lib.hid hA
    clear hA
    by_cases hlk : k < zs.length
    · have hki : (k : Int) < (zs.length : Int) := by omega
      obtain ⟨b1, o1, k1, he1, c1⟩ := HV.out.cell hlk
      simp only [Value.slice.injEq] at he1
      obtain ⟨rfl, _, rfl⟩ := he1
      obtain ⟨x, hx⟩ : ∃ x, zs.getD k 0 = x := ⟨_, rfl⟩
      have HM : Hid (x ∈ zs) := Lib.hid (by
        rw [← hx, List.getD_eq_getElem?_getD, List.getElem?_eq_getElem hlk]
        exact List.getElem_mem hlk)
      rw [hx] at c1
      have HX := Lib.hid hx
      clear hx
      by_cases h0 : x < 0
      · obtain rfl : r = false := by
          rw [Bool.eq_false_iff]; intro h
          have := (HR.out.1 h x HM.out).1
          omega
        go_wp2_with fail
        go_ret
        exact ⟨rfl, rfl⟩
      · by_cases h1 : n ≤ x
        · obtain rfl : r = false := by
            rw [Bool.eq_false_iff]; intro h
            have := (HR.out.1 h x HM.out).2
            omega
          go_wp2_with fail
          go_ret
          exact ⟨rfl, rfl⟩
        · go_wp2_with fail
          go_round
          case rel => exact ⟨k + 1, by omega, by go_num, fun j hj => by
            by_cases e : j = k
            · subst e; rw [HX.out]; omega
            · exact HA.out j (by omega)⟩
          case measure => simp [intOf]; omega
    · obtain rfl : k = zs.length := by omega
      have hrt : r = true := by
        rw [HR.out]
        intro p hp
        obtain ⟨i, hi, rfl⟩ := List.getElem_of_mem hp
        have := HA.out i hi
        rw [List.getD_eq_getElem?_getD, List.getElem?_eq_getElem hi] at this
        exact this
      subst hrt
      go_wp2_with fail
      go_ret
      exact ⟨rfl, rfl⟩
set_option maxRecDepth 100000 in
set_option maxHeartbeats 2000000 in
theorem zEncode_any (v : Value) (zs : List Int) (n : Int) (w : World) (hv : IsInts w v zs) (hz : zs.length ≤ 1000000) :
    Calls Try.prog 21 #[v, .int .i64 n] w fun e w' => ∃ (u : Value) (ys : List Int) (err : Nat), e = .returned (.tuple #[u, .int .i64 (err : Int)]) ∧ IsInts w' u ys ∧ Below w.heap.size w w' ∧ EncP zs n ys err := by
  have HV := Lib.hid hv
  obtain ⟨a, cap, rfl, _⟩ := hv
  by_cases hn : 1 ≤ n ∧ n ≤ 256
  · have HS := Lib.hid (isSize_any n true w ⟨fun _ => hn, fun _ => rfl⟩)
    have hn1 := hn.1
    have hn2 := hn.2
    by_cases hp : ∀ p ∈ zs, 0 ≤ p ∧ p < n
    · have HP := Lib.hid (arePlaces_any _ zs n true w HV.out (by omega) ⟨fun _ => hp, fun _ => rfl⟩)
      have HOK := Lib.hid (show EncOk zs n from ⟨hn1, hn2, hp⟩)
      clear hp hn
      go_enter Try.func21, Try.ntmps21
      go_wp2_with fail
      refine HS.out.mono ?_
      rintro e w1 ⟨rfl, rfl⟩
      go_wp2_with fail
      refine HP.out.mono ?_
      rintro e w1 ⟨rfl, rfl⟩
      clear HS HP
      go_wp2_with fail
      go_loopw [6, 7, 21] (fun c z i wr => ∃ (k : Nat) (u : Value), k ≤ zs.length ∧ i = .int .i64 k ∧ c = u ∧ z = .int .i64 ((encF (zs.take k)).2 : Int) ∧ OwnI wr w.heap.size u (encF (zs.take k)).1 ∧ Below w.heap.size w wr) (fun _ _ i _ => zs.length - (intOf i).toNat)
      case atStart => exact ⟨0, _, by omega, rfl, rfl, rfl, OwnI.nil _ _, Below.refl _ _⟩
      case round =>
        obtain ⟨k, u, hk, rfl, rfl, rfl, hO, hB⟩ := hrel
        have hle := encF_le (zs.take k)
        have htk : (zs.take k).length = k := by rw [List.length_take]; omega
        have HT := Lib.hid (encF_take zs k)
        have hbw : w.heap.size ≤ wr.heap.size := hB.size
        have HB := Lib.hid hB
        by_cases hlk : k < zs.length
        · have hki : (k : Int) < (zs.length : Int) := by omega
          have HV2 := Lib.hid (HV.out.below HB.out)
          obtain ⟨b1, o1, k1, he1, c1⟩ := HV2.out.cell hlk
          simp only [Value.slice.injEq] at he1
          obtain ⟨rfl, _, rfl⟩ := he1
          obtain ⟨x, hx⟩ : ∃ x, zs.getD k 0 = x := ⟨_, rfl⟩
          have hxr : 0 ≤ x ∧ x < n := HOK.out.2.2 x (by
            rw [← hx, List.getD_eq_getElem?_getD, List.getElem?_eq_getElem hlk]
            exact List.getElem_mem hlk)
          obtain ⟨hx0, hxn⟩ := hxr
          rw [hx] at c1
          have HT2 := Lib.hid (HT.out hlk)
          rw [hx] at HT2
          clear hx HT hB
          obtain ⟨A, hA⟩ : ∃ A, (encF (zs.take k)).1 = A := ⟨_, rfl⟩
          obtain ⟨Z, hZ⟩ : ∃ Z, (encF (zs.take k)).2 = Z := ⟨_, rfl⟩
          have hpair : encF (zs.take k) = (A, Z) := by rw [← hA, ← hZ]
          rw [hpair] at HT2 hle hO
          rw [hZ]
          simp only at hO hle
          have HO := Lib.hid hO
          clear hO hpair hA hZ
          by_cases h0 : x = 0
          · subst h0
            have HT3 : Hid (encF (zs.take (k + 1)) = (A, Z + 1)) := Lib.hid (by rw [HT2.out]; rfl)
            clear HT2
            have hz1 : IntKind.i64.wrap ((Z : Int) + 1) = (Z : Int) + 1 := IntWalk.i64_in _ (by omega)
            go_wp2_with fail
            go_roundw
            case rel => exact ⟨k + 1, _, by omega, by go_num, rfl, by rw [HT3.out]; rfl, by rw [HT3.out]; exact HO.out, HB.out⟩
            case measure => simp [intOf]; omega
          · have HT3 : Hid (encF (zs.take (k + 1)) = (A ++ rowC Z ++ [x + 1], 0)) := Lib.hid (by rw [HT2.out]; unfold encS; rw [if_neg h0])
            clear HT2
            have h0b : (x == 0) = false := by rw [beq_eq_false_iff_ne]; exact h0
            have hrl := rowC_len Z
            have HC := Lib.hid (zrow_any w.heap.size _ A Z wr HO.out hbw (by omega) (by omega))
            have hx1 : IntKind.i64.wrap (x + 1) = x + 1 := IntWalk.i64_in _ (by omega)
            go_wp2_with fail
            refine HC.out.mono ?_
            rintro e w2 ⟨u2, rfl, hO2, hB2⟩
            have HO2 := Lib.hid hO2
            have hbw2 : w.heap.size ≤ w2.heap.size := Nat.le_trans hbw hB2.size
            have HB2 := Lib.hid (HB.out.trans hB2)
            clear hO2 hB2 HC
            have hal : (A ++ rowC Z).length + 1 ≤ 17592186044416 := by rw [List.length_append]; omega
            go_wp2_with (at_builtin; refine push_int w2 rfl _ _ rfl w.heap.size _ (A ++ rowC Z) (x + 1) HO2.out rfl rfl hal hbw2 ?_)
            intro v' w3 hO3 hB3
            have HO3 := Lib.hid hO3
            have HB3 := Lib.hid (HB2.out.trans hB3)
            clear hO3 hB3
            go_wp2_with fail
            go_roundw
            case rel => exact ⟨k + 1, _, by omega, by go_num, rfl, by rw [HT3.out]; rfl, by rw [HT3.out]; simpa only [List.append_assoc] using HO3.out, HB3.out⟩
            case measure => simp [intOf]; omega
        · obtain rfl : k = zs.length := by omega
          clear HT hB htk
          rw [List.take_of_length_le (Nat.le_refl _)] at hO hle
          rw [List.take_of_length_le (Nat.le_refl _)]
          have hen : enc zs n = (encF zs).1 ++ rowC (encF zs).2 ++ [n + 1] := rfl
          have HO := Lib.hid hO
          have HEN := Lib.hid hen
          clear hO hen
          generalize (encF zs).1 = A at *
          generalize (encF zs).2 = Z at *
          have hrl := rowC_len Z
          have HC := Lib.hid (zrow_any w.heap.size _ A Z wr HO.out hbw (by omega) (by omega))
          have hx1 : IntKind.i64.wrap (n + 1) = n + 1 := IntWalk.i64_in _ (by omega)
          go_wp2_with fail
          refine HC.out.mono ?_
          rintro e w2 ⟨u2, rfl, hO2, hB2⟩
          have HO2 := Lib.hid hO2
          have hbw2 : w.heap.size ≤ w2.heap.size := Nat.le_trans hbw hB2.size
          have HB2 := Lib.hid (HB.out.trans hB2)
          clear hO2 hB2 HC
          have hal : (A ++ rowC Z).length + 1 ≤ 17592186044416 := by rw [List.length_append]; omega
          go_wp2_with (at_builtin; refine push_int w2 rfl _ _ rfl w.heap.size _ (A ++ rowC Z) (n + 1) HO2.out rfl rfl hal hbw2 ?_)
          intro v' w3 hO3 hB3
          have HO3 := Lib.hid hO3
          have HB3 := Lib.hid (HB2.out.trans hB3)
          clear hO3 hB3
          go_wp2_with fail
          go_ret2
          exact ⟨_, _, 0, rfl, HO3.out.ints, HB3.out, Or.inr ⟨HOK.out, by rw [HEN.out, List.append_assoc], rfl⟩⟩
    · have HP := Lib.hid (arePlaces_any _ zs n false w HV.out (by omega) ⟨fun e => (by cases e), fun e => absurd e hp⟩)
      have HNO := Lib.hid (show ¬ EncOk zs n from fun h => hp h.2.2)
      clear hp hn
      go_enter Try.func21, Try.ntmps21
      go_wp2_with fail
      refine HS.out.mono ?_
      rintro e w1 ⟨rfl, rfl⟩
      go_wp2_with fail
      refine HP.out.mono ?_
      rintro e w1 ⟨rfl, rfl⟩
      clear HS HP
      go_wp2_with fail
      go_ret2
      exact ⟨_, [], 1, rfl, IsInts.nil _, Below.refl _ _, Or.inl ⟨HNO.out, rfl, rfl⟩⟩
  · have HS := Lib.hid (isSize_any n false w ⟨fun e => (by cases e), fun e => absurd e hn⟩)
    have HNO := Lib.hid (show ¬ EncOk zs n from fun h => hn ⟨h.1, h.2.1⟩)
    clear hn
    go_enter Try.func21, Try.ntmps21
    go_wp2_with fail
    refine HS.out.mono ?_
    rintro e w1 ⟨rfl, rfl⟩
    clear HS
    go_wp2_with fail
    go_ret2
    exact ⟨_, [], 1, rfl, IsInts.nil _, Below.refl _ _, Or.inl ⟨HNO.out, rfl, rfl⟩⟩
end Go.Proofs.Ythfdmmlamomlkaa

/-
  THE WALKS OF THE DOCUMENT's ANSWERS OF LAYER 11 (balerref11): May, Bits.
-/
import Derived.Test.YtpjjchmbolopnaaDel
import Derived.Test.YtpjjchmbolopnaaBitsRef
import Derived.Test.YtpjjchmbolopnaaBitsRefB
namespace Go.Proofs.Ytpjjchmbolopnaa
open Go.RowKit DelM BitM
set_option linter.unusedVariables false
set_option maxHeartbeats 1000000 in
theorem rmay11_any (v : Value) (zs : List Int) (r : Bool) (w : World) (hv : IsInts w v zs) (hr : r = true ↔ May zs) (hz : zs.length ≤ 9223372036854775807) :
    Calls Try.prog 14 #[v] w fun e w' => e = .returned (.bool r) ∧ w' = w := by
  have HV := Lib.hid hv
  obtain ⟨a, cap, rfl, _⟩ := hv
  by_cases h1 : 3 ≤ zs.length
  · have h1i : (3 : Int) ≤ (zs.length : Int) := by omega
    by_cases h2 : zs.length ≤ 258
    · have h2i : (zs.length : Int) ≤ 258 := by omega
      have HM := Lib.hid (may_any _ zs 1 20 r w HV.out (hr.trans ⟨fun h => h.2.2, fun h => ⟨h1, h2, h⟩⟩) hz)
      clear hr
      go_enter Try.func14, Try.ntmps14
      go_wp2_with fail
      refine HM.out.mono ?_
      rintro e w' ⟨rfl, rfl⟩
      go_wp2_with fail
      go_ret
      exact ⟨rfl, rfl⟩
    · obtain rfl : r = false := by rw [Bool.eq_false_iff, Ne, hr]; exact fun h => h2 h.2.1
      have h2i : ¬ (zs.length : Int) ≤ 258 := by omega
      clear hr
      go_enter Try.func14, Try.ntmps14
      go_wp2_with fail
      go_ret
      exact ⟨rfl, rfl⟩
  · obtain rfl : r = false := by rw [Bool.eq_false_iff, Ne, hr]; exact fun h => h1 h.1
    have h1i : ¬ (3 : Int) ≤ (zs.length : Int) := by omega
    clear hr
    go_enter Try.func14, Try.ntmps14
    go_wp2_with fail
    go_ret
    exact ⟨rfl, rfl⟩
/-- The first i rounds of the document's loop over a difference. -/
def mvI (a b i : Nat) : List Bool := two false (min i a) ++ two true (min i b)
theorem mvI_zero (a b : Nat) : mvI a b 0 = [] := by unfold mvI; rw [Nat.zero_min, Nat.zero_min]; rfl
theorem mvI_up {a b i : Nat} (hi : i < a) (hb : b = 0) : mvI a b (i + 1) = mvI a b i ++ [true, false] := by
  subst hb
  unfold mvI
  rw [Nat.min_zero, Nat.min_zero, Nat.min_eq_left (by omega), Nat.min_eq_left (by omega)]
  simp [two]
theorem mvI_down {a b i : Nat} (hi : i < b) (ha : a = 0) : mvI a b (i + 1) = mvI a b i ++ [true, true] := by
  subst ha
  unfold mvI
  rw [Nat.min_zero, Nat.min_zero, Nat.min_eq_left (by omega), Nat.min_eq_left (by omega)]
  simp [two]
theorem mvI_not {a b i : Nat} (ha : ¬ i < a) (hb : ¬ i < b) : mvI a b (i + 1) = mvI a b i := by
  unfold mvI
  rw [Nat.min_eq_right (by omega), Nat.min_eq_right (by omega), Nat.min_eq_right (by omega), Nat.min_eq_right (by omega)]
theorem mvI_all {p x : Int} (hp : 1 ≤ p ∧ p ≤ 20) (hx : 1 ≤ x ∧ x ≤ 20) : mvI (x - p).toNat (p - x).toNat 40 = mv p x := by
  unfold mvI mv
  rw [Nat.min_eq_right (by omega), Nat.min_eq_right (by omega)]
theorem mvI_len (a b i : Nat) (ha : a ≤ 20) (hb : b ≤ 20) : (mvI a b i).length ≤ 80 := by
  unfold mvI
  rw [List.length_append, two_length, two_length]
  omega
set_option maxRecDepth 100000 in
set_option maxHeartbeats 4000000 in
theorem rbits11_any (l : Value) (zs : List Int) (w : World) (hv : IsInts w l zs) (hm : May zs) :
    Calls Try.prog 16 #[l] w fun e w' => e = .returned (.string (txt (allB zs))) ∧ w' = w := by
  have HV := Lib.hid hv
  have HM := Lib.hid hm
  have h3 := hm.1
  have h258 := hm.2.1
  obtain ⟨ad, cap, rfl, _⟩ := hv
  have HL : Hid (∀ k, k ≤ zs.length → (encK zs k).length ≤ 11000) := Lib.hid (fun k hk => by have := (encK_le HM.out hk).1; omega)
  obtain ⟨N, hN⟩ : ∃ N, zs.length = N := ⟨_, rfl⟩
  have HN := Lib.hid hN
  rw [hN] at h3 h258 HV ⊢
  clear hm hN
  obtain ⟨b1, o1, k1, he1, c1⟩ := HV.out.cell (k := 0) (by rw [HN.out]; omega)
  rw [HN.out] at he1
  simp only [Value.slice.injEq] at he1
  obtain ⟨rfl, _, rfl⟩ := he1
  have hz0 := HM.out.at_ (k := 0) (by rw [HN.out]; omega)
  obtain ⟨x0, hx0⟩ : ∃ x0, zs.getD 0 0 = x0 := ⟨_, rfl⟩
  rw [hx0] at c1 hz0
  rw [Nat.add_zero] at c1
  obtain ⟨X0, rfl⟩ : ∃ X0 : Nat, x0 = (X0 : Int) := ⟨x0.toNat, by omega⟩
  have hX20 : X0 ≤ 20 := by omega
  have HALL : Hid (allB zs = field X0 5 ++ encK zs N) := Lib.hid (by unfold allB; rw [hx0, HN.out]; rfl)
  have HPRV : Hid (prv zs 0 = (X0 : Int)) := Lib.hid hx0
  have hc32 : IntKind.u32.wrap (X0 : Int) = (X0 : Int) := by simp [IntKind.wrap, IntKind.bits, IntKind.signed]; omega
  clear hx0 hz0
  have hN0 : (0 : Int) < (N : Int) := by omega
  go_enter Try.func16, Try.ntmps16
  go_wp2_with fail
  refine (fieldTxt_any X0 5 _ (by omega) (by omega)).mono ?_
  rintro e w' ⟨rfl, rfl⟩
  go_wp2_with fail
  go_loopw [3, 4, 18] (fun vo vl vk wr => ∃ k : Nat, vk = .int .i64 (k : Int) ∧ k ≤ N ∧ vl = .int .i64 (prv zs k) ∧ vo = .string (txt (field X0 5 ++ encK zs k)) ∧ wr = w) (fun _ _ vk _ => N - (intOf vk).toNat)
  case atStart => exact ⟨0, rfl, by omega, by rw [HPRV.out], by rw [show encK zs 0 = [] from rfl, List.append_nil], rfl⟩
  case round =>
    obtain ⟨k, rfl, hk, rfl, rfl, rfl⟩ := hrel
    by_cases hlk : k < N
    · have hki : (k : Int) < (N : Int) := by omega
      have hkz : k < zs.length := by rw [HN.out]; exact hlk
      obtain ⟨b1, o1, k1, he1, c1⟩ := HV.out.cell hkz
      rw [HN.out] at he1
      simp only [Value.slice.injEq] at he1
      obtain ⟨he1, _, rfl⟩ := he1
      simp only [Option.some.injEq, Addr.mk.injEq, and_true] at he1
      obtain ⟨rfl, rfl⟩ := he1
      have hzk := HM.out.at_ hkz
      have hpk := HM.out.prv (k := k) (by omega)
      have HLk := Lib.hid (HL.out k (by rw [HN.out]; omega))
      have HEN : Hid (encK zs (k + 1) = encK zs k ++ (mv (prv zs k) (zs.getD k 0) ++ [false])) := Lib.hid rfl
      have HPS : Hid (prv zs (k + 1) = zs.getD k 0) := Lib.hid rfl
      obtain ⟨x, hx⟩ : ∃ x, zs.getD k 0 = x := ⟨_, rfl⟩
      obtain ⟨p, hp⟩ : ∃ p, prv zs k = p := ⟨_, rfl⟩
      rw [hx] at c1 hzk HEN HPS
      rw [hp] at hpk HEN ⊢
      obtain ⟨Q, hQ⟩ : ∃ Q, field X0 5 ++ encK zs k = Q := ⟨_, rfl⟩
      have HQ := Lib.hid hQ
      have hQl : Q.length ≤ 20000 := by
        have := HLk.out
        rw [← hQ, List.length_append, field_length]
        omega
      rw [hQ]
      obtain ⟨A, hA⟩ : ∃ A, (x - p).toNat = A := ⟨_, rfl⟩
      obtain ⟨B, hB⟩ : ∃ B, (p - x).toNat = B := ⟨_, rfl⟩
      have hA20 : A ≤ 20 := by omega
      have hB20 : B ≤ 20 := by omega
      have HMA : Hid (mvI A B 40 = mv p x) := Lib.hid (by rw [← hA, ← hB]; exact mvI_all hpk hzk)
      have HAB : Hid ((∀ i : Nat, i < A ↔ (i : Int) < x - p) ∧ (∀ i : Nat, i < B ↔ (i : Int) < p - x) ∧ (A = 0 ∨ B = 0)) := Lib.hid ⟨fun i => by omega, fun i => by omega, by omega⟩
      clear hx hp hQ hA hB
      go_wp2_with fail
      go_loopw [3, 22] (fun vo vi wr2 => ∃ i : Nat, vi = .int .i64 (i : Int) ∧ i ≤ 40 ∧ vo = .string (txt (Q ++ mvI A B i)) ∧ wr2 = wr) (fun _ vi _ => 40 - (intOf vi).toNat)
      case atStart => exact ⟨0, rfl, by omega, by rw [mvI_zero, List.append_nil], rfl⟩
      case round =>
        obtain ⟨i, rfl, hi, rfl, rfl⟩ := hrel
        have hml := mvI_len A B i hA20 hB20
        by_cases hi40 : i < 40
        · have hi40i : (i : Int) < 40 := by omega
          have hS : (txt (Q ++ mvI A B i)).size ≤ 20080 := by rw [txt_size, List.length_append]; omega
          by_cases hu : i < A
          · have hui := (HAB.out.1 i).1 hu
            have hdi : ¬ (i : Int) < p - x := by omega
            have HT : Hid (txt (Q ++ mvI A B i) ++ ⟨#[49, 48]⟩ = txt (Q ++ mvI A B (i + 1))) := Lib.hid (by
              rw [mvI_up hu (by have := HAB.out.2.2; omega), ← List.append_assoc]
              exact txt_append _ [true, false])
            clear hu hml
            generalize txt (Q ++ mvI A B i) = S at *
            go_wp2_with fail
            go_roundw
            case rel => exact ⟨i + 1, by go_num, by omega, by rw [← HT.out], by first | rfl | trivial⟩
            case measure => simp [intOf]; omega
          · have hui : ¬ (i : Int) < x - p := fun h => hu ((HAB.out.1 i).2 h)
            by_cases hd : i < B
            · have hdi := (HAB.out.2.1 i).1 hd
              have HT : Hid (txt (Q ++ mvI A B i) ++ ⟨#[49, 49]⟩ = txt (Q ++ mvI A B (i + 1))) := Lib.hid (by
                rw [mvI_down hd (by have := HAB.out.2.2; omega), ← List.append_assoc]
                exact txt_append _ [true, true])
              clear hu hd hml
              generalize txt (Q ++ mvI A B i) = S at *
              go_wp2_with fail
              go_roundw
              case rel => exact ⟨i + 1, by go_num, by omega, by rw [← HT.out], by first | rfl | trivial⟩
              case measure => simp [intOf]; omega
            · have hdi : ¬ (i : Int) < p - x := fun h => hd ((HAB.out.2.1 i).2 h)
              have HT : Hid (txt (Q ++ mvI A B i) = txt (Q ++ mvI A B (i + 1))) := Lib.hid (by rw [mvI_not hu hd])
              clear hu hd hml
              generalize txt (Q ++ mvI A B i) = S at *
              go_wp2_with fail
              go_roundw
              case rel => exact ⟨i + 1, by go_num, by omega, by rw [← HT.out], by first | rfl | trivial⟩
              case measure => simp [intOf]; omega
        · obtain rfl : i = 40 := by omega
          have hS : (txt (Q ++ mvI A B 40)).size ≤ 20080 := by rw [txt_size, List.length_append]; omega
          have HT : Hid (txt (Q ++ mvI A B 40) ++ ⟨#[48]⟩ = txt (field X0 5 ++ encK zs (k + 1))) := Lib.hid (by
            rw [HMA.out, HEN.out, ← List.append_assoc, HQ.out, ← List.append_assoc]
            exact txt_append _ [false])
          clear hml
          generalize txt (Q ++ mvI A B 40) = S at *
          go_wp2_with fail
          go_roundw
          case rel => exact ⟨k + 1, by go_num, by omega, by rw [HPS.out], by rw [← HT.out], by first | rfl | trivial⟩
          case measure => simp [intOf]; omega
    · have hki : ¬ (k : Int) < (N : Int) := by omega
      obtain rfl : k = N := by omega
      go_wp2_with fail
      go_ret
      exact ⟨by rw [HALL.out]; rfl, rfl⟩
end Go.Proofs.Ytpjjchmbolopnaa

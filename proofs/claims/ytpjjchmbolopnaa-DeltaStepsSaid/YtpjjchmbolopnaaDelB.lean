/-
  THE WALKS OF LAYER 11's CODE (package delta): Bits.
-/
import Derived.Test.YtpjjchmbolopnaaDel
namespace Go.Proofs.Ytpjjchmbolopnaa
open Go.RowKit DelM BitM
set_option linter.unusedVariables false
set_option maxHeartbeats 1000000 in
theorem dbits_no (l : Value) (zs : List Int) (w : World) (hv : IsInts w l zs) (hm : ¬ May zs) (hz : zs.length ≤ 9223372036854775807) :
    Calls Try.prog 13 #[l] w fun e w' => e = .returned (.tuple #[.int .i64 0, .int .i64 1]) ∧ w' = w := by
  have HMAY := Lib.hid (dmay_any l zs false w hv ⟨fun e => (by cases e), fun e => absurd e hm⟩ hz)
  clear hm
  go_enter Try.func13, Try.ntmps13
  go_wp2_with fail
  refine HMAY.out.mono ?_
  rintro e w' ⟨rfl, rfl⟩
  go_wp2_with fail
  go_ret2
  exact ⟨rfl, rfl⟩
set_option maxHeartbeats 1000000 in
theorem dwrite_no (g : Nat) (l : Value) (zs : List Int) (w : World) (hv : IsInts w l zs) (hm : ¬ May zs) (hz : zs.length ≤ 9223372036854775807) :
    Calls Try.prog 12 #[.pointer (some ⟨g, 0, none⟩), l] w fun e w' => e = .returned (.int .i64 1) ∧ w' = w := by
  have HMAY := Lib.hid (dmay_any l zs false w hv ⟨fun e => (by cases e), fun e => absurd e hm⟩ hz)
  clear hm
  go_enter Try.func12, Try.ntmps12
  go_wp2_with fail
  refine HMAY.out.mono ?_
  rintro e w' ⟨rfl, rfl⟩
  go_wp2_with fail
  go_ret
  exact ⟨rfl, rfl⟩
set_option maxHeartbeats 1000000 in
theorem dwrite_nil (l : Value) (w : World) :
    Calls Try.prog 12 #[.pointer none, l] w fun e w' => e = .returned (.int .i64 7) ∧ w' = w := by
  go_enter Try.func12, Try.ntmps12
  go_wp2_with fail
  go_ret
  exact ⟨rfl, rfl⟩
set_option maxRecDepth 100000 in
set_option maxHeartbeats 4000000 in
theorem dbits_any (l : Value) (zs : List Int) (w : World) (hv : IsInts w l zs) (hm : May zs) :
    Calls Try.prog 13 #[l] w fun e w' => e = .returned (.tuple #[.int .i64 ((allB zs).length : Int), .int .i64 0]) ∧ ∃ n, w' = w.drewN n := by
  have HV := Lib.hid hv
  have HM := Lib.hid hm
  have HMAY := Lib.hid (dmay_any l zs true w hv ⟨fun _ => hm, fun _ => rfl⟩ (by have := hm.2.1; omega))
  have h3 := hm.1
  have h258 := hm.2.1
  obtain ⟨ad, cap, rfl, _⟩ := hv
  have HL : Hid (∀ k, k ≤ zs.length → (encK zs k).length ≤ 11000) := Lib.hid (fun k hk => by have := (encK_le HM.out hk).1; omega)
  obtain ⟨N, hN⟩ : ∃ N, zs.length = N := ⟨_, rfl⟩
  have HN := Lib.hid hN
  rw [hN] at h3 h258 HV HMAY ⊢
  clear hm hN
  obtain ⟨b1, o1, k1, he1, c1⟩ := HV.out.cell (k := 0) (by rw [HN.out]; omega)
  rw [HN.out] at he1
  simp only [Value.slice.injEq] at he1
  obtain ⟨rfl, _, rfl⟩ := he1
  rw [Nat.add_zero] at c1
  have hz0 := HM.out.at_ (k := 0) (by rw [HN.out]; omega)
  obtain ⟨x0, hx0⟩ : ∃ x0, zs.getD 0 0 = x0 := ⟨_, rfl⟩
  rw [hx0] at c1 hz0
  have HALL : Hid ((allB zs).length = 5 + (encK zs N).length) := Lib.hid (by rw [allB_length, HN.out])
  have HPRV : Hid (prv zs 0 = x0) := Lib.hid hx0
  clear hx0
  have hN0 : (0 : Int) < (N : Int) := by omega
  go_enter Try.func13, Try.ntmps13
  go_wp2_with fail
  refine HMAY.out.mono ?_
  rintro e w' ⟨rfl, rfl⟩
  go_wp2_with fail
  go_quiet (fail)
  go_wp2_with fail
  go_loopw [4, 5, 16] (fun vn vl vk wr => ∃ k m : Nat, vk = .int .i64 (k : Int) ∧ k ≤ N ∧ vl = .int .i64 (prv zs k) ∧ vn = .int .i64 ((5 + (encK zs k).length : Nat) : Int) ∧ wr = w'.drewN m) (fun _ _ vk _ => N - (intOf vk).toNat)
  case atStart => exact ⟨0, _, rfl, by omega, by rw [HPRV.out], rfl, rfl⟩
  case round =>
    obtain ⟨k, m, rfl, hk, rfl, rfl, rfl⟩ := hrel
    by_cases hlk : k < N
    · have hki : (k : Int) < (N : Int) := by omega
      have hkz : k < zs.length := by rw [HN.out]; exact hlk
      obtain ⟨b1, o1, k1, he1, c1⟩ := HV.out.cell hkz
      rw [HN.out] at he1
      simp only [Value.slice.injEq] at he1
      obtain ⟨he1, _, rfl⟩ := he1
      simp only [Option.some.injEq, Addr.mk.injEq, and_true] at he1
      obtain ⟨rfl, rfl⟩ := he1
      have hzk := HM.out.at_ hkz
      have hpk := HM.out.prv (k := k) (by omega)
      have hLk := HL.out k (by rw [HN.out]; omega)
      have hEN := encK_len zs k
      have HPS : Hid (prv zs (k + 1) = zs.getD k 0) := Lib.hid rfl
      obtain ⟨x, hx⟩ : ∃ x, zs.getD k 0 = x := ⟨_, rfl⟩
      obtain ⟨p, hp⟩ : ∃ p, prv zs k = p := ⟨_, rfl⟩
      rw [hx] at c1 hzk hEN HPS
      rw [hp] at hpk hEN ⊢
      obtain ⟨E, hE⟩ : ∃ E, (encK zs k).length = E := ⟨_, rfl⟩
      rw [hE] at hLk hEN ⊢
      have HEN := Lib.hid hEN
      clear hx hp hE hEN
      have c2 : (w'.drewN m).cell? ⟨b1, o1 + k, none⟩ = some (.int .i64 x) := c1
      clear c1
      go_wp2_with fail
      all_goals
        go_roundw
        case rel => exact ⟨k + 1, m, by go_num, by omega, by rw [HPS.out], iv (by have := HEN.out; omega), rfl⟩
        case measure => simp [intOf]; omega
    · have hki : ¬ (k : Int) < (N : Int) := by omega
      obtain rfl : k = N := by omega
      go_wp2_with fail
      go_ret2
      refine ⟨?_, m, rfl⟩
      show Ending.returned (.tuple #[.int .i64 (5 + ((encK zs k).length : Int)), .int .i64 0]) = _
      rw [HALL.out]
      simp
end Go.Proofs.Ytpjjchmbolopnaa

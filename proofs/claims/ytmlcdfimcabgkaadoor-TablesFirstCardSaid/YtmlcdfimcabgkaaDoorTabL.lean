/-
  LAYER 12: counts that may be (tables.areCounts); tables.First; the statement TablesFirst.
-/
import Derived.Test.YtmlcdfimcabgkaaDoorTabK
import Derived.Test.YtmlcdfimcabgkaaDoorTabJ
namespace Go.Proofs.YtmlcdfimcabgkaaDoor
open Go.RowKit TabM FreqM HufM
set_option linter.unusedVariables false
def Cnts (cs : List Int) : Prop := 3 ≤ cs.length ∧ cs.length ≤ 258 ∧ Nums cs
set_option maxRecDepth 100000 in
set_option maxHeartbeats 1000000 in
theorem areCounts12_any (v : Value) (zs : List Int) (r : Bool) (w : World) (hv : IsInts w v zs) (hz : zs.length ≤ 9223372036854775807) (hr : r = true ↔ Cnts zs) :
    Calls Tryd.prog 29 #[v] w fun e w' => e = .returned (.bool r) ∧ w' = w := by
  have HV := Lib.hid hv
  have HR := Lib.hid hr
  obtain ⟨a, cap, rfl, _⟩ := hv
  clear hr
  obtain ⟨N, hN⟩ : ∃ N, zs.length = N := ⟨_, rfl⟩
  have HN := Lib.hid hN
  rw [hN] at hz ⊢
  clear hN
  go_enter Tryd.func29, Tryd.ntmps29
  go_wp2_with fail
  go_loopw [7] (fun i wr => ∃ k : Nat, k ≤ N ∧ i = .int .i64 k ∧ wr = w ∧ ∀ j, j < k → 0 ≤ zs.getD j 0 ∧ zs.getD j 0 ≤ 1099511627776) (fun i _ => N - (intOf i).toNat)
  case atStart => exact ⟨0, by omega, rfl, rfl, fun j hj => by omega⟩
  case round =>
    obtain ⟨k, hk, rfl, rfl, hA⟩ := hrel
    have HA := Lib.hid hA
    clear hA
    by_cases hlk : k < N
    · have hki : (k : Int) < (N : Int) := by omega
      obtain ⟨b1, o1, k1, he1, c1⟩ := HV.out.cell (show k < zs.length by rw [HN.out]; exact hlk)
      rw [HN.out] at he1
      simp only [Value.slice.injEq] at he1
      obtain ⟨rfl, _, rfl⟩ := he1
      have HM : Hid (zs.getD k 0 ∈ zs) := Lib.hid (FreqM.getD_mem zs k (by rw [HN.out]; exact hlk))
      obtain ⟨x, hx⟩ : ∃ x, zs.getD k 0 = x := ⟨_, rfl⟩
      rw [hx] at c1 HM
      have HX := Lib.hid hx
      clear hx
      by_cases h0 : x < 0
      · obtain rfl : r = false := by
          rw [Bool.eq_false_iff]; intro h
          have := ((HR.out.1 h).2.2 x HM.out).1
          omega
        go_wp2_with fail
        go_ret
        exact ⟨rfl, rfl⟩
      · by_cases h1 : 1099511627776 < x
        · obtain rfl : r = false := by
            rw [Bool.eq_false_iff]; intro h
            have := ((HR.out.1 h).2.2 x HM.out).2
            omega
          go_wp2_with fail
          go_ret
          exact ⟨rfl, rfl⟩
        · go_wp2_with fail
          go_roundw
          case rel => exact ⟨k + 1, by omega, by go_num, by first | rfl | trivial, fun j hj => by
            by_cases e : j = k
            · subst e; rw [HX.out]; omega
            · exact HA.out j (by omega)⟩
          case measure => simp [intOf]; omega
    · obtain rfl : k = N := by omega
      have hki : ¬ (k : Int) < (k : Int) := by omega
      have HNM : Hid (Nums zs) := Lib.hid (by
        intro p hp
        obtain ⟨i, hi, rfl⟩ := List.getElem_of_mem hp
        have := HA.out i (by rw [← HN.out]; exact hi)
        rw [List.getD_eq_getElem?_getD, List.getElem?_eq_getElem hi] at this
        exact this)
      by_cases h3 : 3 ≤ k
      · have h3i : (3 : Int) ≤ (k : Int) := by omega
        by_cases h258 : k ≤ 258
        · have h4i : (k : Int) ≤ 258 := by omega
          obtain rfl : r = true := HR.out.2 ⟨by rw [HN.out]; exact h3, by rw [HN.out]; exact h258, HNM.out⟩
          go_wp2_with fail
          go_ret
          exact ⟨rfl, rfl⟩
        · have h4i : ¬ (k : Int) ≤ 258 := by omega
          obtain rfl : r = false := by
            rw [Bool.eq_false_iff]; intro h
            have := (HR.out.1 h).2.1
            rw [HN.out] at this
            omega
          go_wp2_with fail
          go_ret
          exact ⟨rfl, rfl⟩
      · have h3i : ¬ (3 : Int) ≤ (k : Int) := by omega
        obtain rfl : r = false := by
          rw [Bool.eq_false_iff]; intro h
          have := (HR.out.1 h).1
          rw [HN.out] at this
          omega
        go_wp2_with fail
        go_ret
        exact ⟨rfl, rfl⟩
set_option maxRecDepth 100000 in
set_option maxHeartbeats 1000000 in
theorem tFirst_bad (v : Value) (cs : List Int) (n : Int) (w : World) (hv : IsInts w v cs) (hz : cs.length ≤ 9223372036854775807) (hbad : ¬ (Cnts cs ∧ tot cs = n ∧ 1 ≤ n)) :
    Calls Tryd.prog 9 #[v, .int .i64 n] w fun e w' => e = .returned (.tuple #[.slice none 0 0, .int .i64 1]) ∧ w' = w := by
  obtain ⟨a, cap, hve, _⟩ := id hv
  by_cases hc : Cnts cs
  · have HA := Lib.hid (areCounts12_any v cs true w hv hz ⟨fun _ => hc, fun _ => rfl⟩)
    have HT := Lib.hid (total_any v cs w hv (by have := hc.2.1; omega))
    obtain ⟨S, hS⟩ : ∃ S, tot cs = S := ⟨_, rfl⟩
    rw [hS] at HT hbad
    subst hve
    clear hS hv hz
    by_cases ht : S = n
    · subst ht
      have hn1 : S < 1 := Int.not_le.1 (fun h => hbad ⟨hc, rfl, h⟩)
      have z1 : (S != S) = false := by simp
      clear hbad hc
      go_enter Tryd.func9, Tryd.ntmps9
      go_wp2_with fail
      refine HA.out.mono ?_
      rintro e w1 ⟨rfl, rfl⟩
      go_wp2_with fail
      refine HT.out.mono ?_
      rintro e w1 ⟨rfl, rfl⟩
      go_wp2_with fail
      go_ret2
      exact ⟨rfl, rfl⟩
    · have z1 : (S != n) = true := by simpa using ht
      clear hbad hc ht
      go_enter Tryd.func9, Tryd.ntmps9
      go_wp2_with fail
      refine HA.out.mono ?_
      rintro e w1 ⟨rfl, rfl⟩
      go_wp2_with fail
      refine HT.out.mono ?_
      rintro e w1 ⟨rfl, rfl⟩
      go_wp2_with fail
      go_ret2
      exact ⟨rfl, rfl⟩
  · have HA := Lib.hid (areCounts12_any v cs false w hv hz ⟨fun e => (by cases e), fun e => absurd e hc⟩)
    subst hve
    clear hbad hc hv hz
    go_enter Tryd.func9, Tryd.ntmps9
    go_wp2_with fail
    refine HA.out.mono ?_
    rintro e w1 ⟨rfl, rfl⟩
    go_wp2_with fail
    go_ret2
    exact ⟨rfl, rfl⟩
set_option maxRecDepth 100000 in
set_option maxHeartbeats 1000000 in
theorem tFirst_any (v : Value) (cs : List Int) (n : Int) (w : World) (hv : IsInts w v cs) (hB : Bnds w) (hc : Cnts cs) (hn : tot cs = n) (h1 : 1 ≤ n) :
    Calls Tryd.prog 9 #[v, .int .i64 n] w fun e w' => ∃ u, e = .returned (.tuple #[u, .int .i64 0]) ∧ IsRR w' u (firstM cs n) ∧ Below w.heap.size w w' := by
  obtain ⟨a, cap, hve, _⟩ := id hv
  have hti := tot_in cs
  have HA := Lib.hid (areCounts12_any v cs true w hv (by have := hc.2.1; omega) ⟨fun _ => hc, fun _ => rfl⟩)
  have HT := Lib.hid (total_any v cs w hv (by have := hc.2.1; omega))
  rw [hn] at HT hti
  have HF := Lib.hid (first12_any v cs n w hv hB hc.2.2 hc.1 hc.2.1 h1 hti.2)
  have z1 : (n != n) = false := by simp
  have h1' : ¬ n < 1 := by omega
  subst hve
  clear hv hc hn hti hB
  go_enter Tryd.func9, Tryd.ntmps9
  go_wp2_with fail
  refine HA.out.mono ?_
  rintro e w1 ⟨rfl, rfl⟩
  go_wp2_with fail
  refine HT.out.mono ?_
  rintro e w1 ⟨rfl, rfl⟩
  go_wp2_with fail
  refine HF.out.mono ?_
  rintro e w1 ⟨u, rfl, hr, hb⟩
  have HR := Lib.hid hr
  have HB := Lib.hid hb
  obtain ⟨au, cu, rfl, _⟩ := hr
  clear hb
  go_wp2_with fail
  go_ret2
  exact ⟨_, rfl, HR.out, HB.out⟩
end Go.Proofs.YtmlcdfimcabgkaaDoor

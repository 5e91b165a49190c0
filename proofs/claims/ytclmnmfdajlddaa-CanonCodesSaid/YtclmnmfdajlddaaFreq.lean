/-
  THE WALKS OF LAYER 8's CODE (package freq) and of its document's answers (balerref08): what may be, counts.
-/
import Derived.Test.YtclmnmfdajlddaaInts
import Derived.Test.YtclmnmfdajlddaaFreqMath
namespace Go.Proofs.Ytclmnmfdajlddaa
open Go.RowKit FreqM
set_option linter.unusedVariables false
set_option maxRecDepth 100000 in
set_option maxHeartbeats 1000000 in
theorem rOf_any (v : Value) (zs : List Int) (n : Int) (r : Bool) (w : World) (hv : IsInts w v zs) (hz : zs.length ≤ 9223372036854775807) (hr : r = true ↔ Syms zs n) :
    Calls Try.prog 47 #[v, .int .i64 n] w fun e w' => e = .returned (.bool r) ∧ w = w' := by
  have HV := Lib.hid hv
  have HR := Lib.hid hr
  obtain ⟨a, cap, rfl, _⟩ := hv
  clear hr
  go_enter Try.func47, Try.ntmps47
  go_wp2_with fail
  go_loop [9] (fun i => ∃ k : Nat, k ≤ zs.length ∧ i = .int .i64 k ∧ ∀ j, j < k → 0 ≤ zs.getD j 0 ∧ zs.getD j 0 < n) (fun i => zs.length - (intOf i).toNat)
  case atStart => exact ⟨0, by omega, rfl, fun j hj => by omega⟩
  case round =>
    obtain ⟨k, hk, rfl, hA⟩ := hrel
    have HA := Lib.hid hA
    clear hA
    by_cases hlk : k < zs.length
    · have hki : (k : Int) < (zs.length : Int) := by omega
      obtain ⟨b1, o1, k1, he1, c1⟩ := HV.out.cell hlk
      simp only [Value.slice.injEq] at he1
      obtain ⟨rfl, _, rfl⟩ := he1
      obtain ⟨x, hx⟩ : ∃ x, zs.getD k 0 = x := ⟨_, rfl⟩
      have HM : Hid (x ∈ zs) := Lib.hid (by rw [← hx]; exact getD_mem zs k hlk)
      rw [hx] at c1
      have HX := Lib.hid hx
      clear hx
      by_cases h0 : x < 0
      · obtain rfl : r = false := by
          rw [Bool.eq_false_iff]; intro h
          have := (HR.out.1 h x HM.out).1
          omega
        go_wp2_with fail
        go_ret
        exact ⟨rfl, rfl⟩
      · by_cases h1 : n ≤ x
        · obtain rfl : r = false := by
            rw [Bool.eq_false_iff]; intro h
            have := (HR.out.1 h x HM.out).2
            omega
          go_wp2_with fail
          go_ret
          exact ⟨rfl, rfl⟩
        · go_wp2_with fail
          go_round
          case rel => exact ⟨k + 1, by omega, by go_num, fun j hj => by
            by_cases e : j = k
            · subst e; rw [HX.out]; omega
            · exact HA.out j (by omega)⟩
          case measure => simp [intOf]; omega
    · obtain rfl : k = zs.length := by omega
      have hrt : r = true := by
        rw [HR.out]
        intro p hp
        obtain ⟨i, hi, rfl⟩ := List.getElem_of_mem hp
        have := HA.out i hi
        rw [List.getD_eq_getElem?_getD, List.getElem?_eq_getElem hi] at this
        exact this
      subst hrt
      go_wp2_with fail
      go_ret
      exact ⟨rfl, rfl⟩
/-- What Counts tells. -/
def CntOk (l : List Int) (n : Int) : Prop := 3 ≤ n ∧ n ≤ 258 ∧ Syms l n
def CntP (l : List Int) (n : Int) (zs : List Int) (err : Nat) : Prop := (¬ CntOk l n ∧ zs = [] ∧ err = 1) ∨ (CntOk l n ∧ zs = counts l n.toNat ∧ err = 0)
end Go.Proofs.Ytclmnmfdajlddaa

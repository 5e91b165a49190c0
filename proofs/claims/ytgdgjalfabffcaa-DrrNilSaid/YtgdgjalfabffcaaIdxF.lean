/-
  slices.IndexFunc AND slices.ContainsFunc OF ROWS OF NUMBERS, of a function that only answers.
-/
import Derived.Test.YtgdgjalfabffcaaInts
import Derived.Laws.EntriesVeiled
namespace Go.Proofs.Ytgdgjalfabffcaa
open Go.RowKit
set_option linter.unusedVariables false
set_option maxRecDepth 100000 in
set_option maxHeartbeats 2000000 in
theorem indexFunc_any (F : FuncId) (caps : Array Value) (p : Int → Bool) (v : Value) (zs : List Int) (w : World) (hI : IsInts w v zs) (hn : zs.length ≤ 9223372036854775807)
    (he : ∀ args w, (callFunc F args).run Try.prog w = .ok (.enter F args) w)
    (hp : ∀ x W, Calls Try.prog F (#[.int .i64 x] ++ caps) W fun e w' => e = .returned (.bool (p x)) ∧ w' = W) :
    Calls Try.prog 60 #[v, .func (.func F) #[] caps] w fun e w' => (∃ r : Int, e = .returned (.int .i64 r) ∧ -1 ≤ r ∧ ((0 ≤ r ∧ zs.any p = true) ∨ (r < 0 ∧ zs.any p = false))) ∧ w' = w := by
  have HI := Lib.hid hI
  have HP := Lib.hid hp
  obtain ⟨a, cap, rfl, _⟩ := hI
  clear hp
  go_enter Try.func60, Try.ntmps60
  go_wp2_with fail
  go_loopw [5, 8] (fun o i wr => ∃ k : Nat, i = .int .i64 k ∧ k ≤ zs.length ∧ wr = w ∧ Hid ((zs.take k).any p = false)) (fun _ i _ => zs.length - (intOf i).toNat)
  case atStart => exact ⟨0, rfl, by omega, rfl, Lib.hid (by simp)⟩
  case round =>
    obtain ⟨k, rfl, hk, rfl, hA⟩ := hrel
    by_cases hlt : k < zs.length
    · have hki : (k : Int) < (zs.length : Int) := by omega
      obtain ⟨b, off, cp, he1, c1⟩ := HI.out.cell hlt
      simp only [Value.slice.injEq] at he1
      obtain ⟨rfl, _, rfl⟩ := he1
      have HX : Hid (zs[k]? = some (zs.getD k 0)) := Lib.hid (by rw [List.getD_eq_getElem?_getD, List.getElem?_eq_getElem hlt]; rfl)
      generalize zs.getD k 0 = x at *
      cases hpx : p x with
      | true =>
        have HPX : Hid (Calls Try.prog F (#[.int .i64 x] ++ caps) wr fun e w' => e = .returned (.bool true) ∧ w' = wr) := Lib.hid (by have := HP.out x wr; rw [hpx] at this; exact this)
        have HR : Hid (zs.any p = true) := Lib.hid (List.any_eq_true.2 ⟨x, List.mem_of_getElem? HX.out, hpx⟩)
        clear hpx
        go_wp2_with fail
        refine HPX.out.mono ?_
        rintro e w1 ⟨rfl, rfl⟩
        go_wp2_with fail
        go_ret
        exact ⟨⟨_, rfl, by omega, Or.inl ⟨by omega, HR.out⟩⟩, rfl⟩
      | false =>
        have HPX : Hid (Calls Try.prog F (#[.int .i64 x] ++ caps) wr fun e w' => e = .returned (.bool false) ∧ w' = wr) := Lib.hid (by have := HP.out x wr; rw [hpx] at this; exact this)
        have HR : Hid ((zs.take (k + 1)).any p = false) := Lib.hid (by rw [List.take_add_one, HX.out, List.any_append, hA.out]; simp [hpx])
        clear hpx
        go_wp2_with fail
        refine HPX.out.mono ?_
        rintro e w1 ⟨rfl, rfl⟩
        go_wp2_with fail
        go_roundw
        case rel => exact ⟨k + 1, by go_num, by omega, by trivial, HR⟩
        case measure => simp [intOf]; omega
    · obtain rfl : k = zs.length := by omega
      have HR : Hid (zs.any p = false) := Lib.hid (by have := hA.out; rw [List.take_length] at this; exact this)
      go_wp2_with fail
      go_ret
      exact ⟨⟨_, rfl, by omega, Or.inr ⟨by omega, HR.out⟩⟩, rfl⟩
set_option maxHeartbeats 1000000 in
theorem containsFunc_any (F : FuncId) (caps : Array Value) (p : Int → Bool) (v : Value) (zs : List Int) (w : World) (hI : IsInts w v zs) (hn : zs.length ≤ 9223372036854775807)
    (he : ∀ args w, (callFunc F args).run Try.prog w = .ok (.enter F args) w)
    (hp : ∀ x W, Calls Try.prog F (#[.int .i64 x] ++ caps) W fun e w' => e = .returned (.bool (p x)) ∧ w' = W) :
    Calls Try.prog 47 #[v, .func (.func F) #[] caps] w fun e w' => e = .returned (.bool (zs.any p)) ∧ w' = w := by
  have H := Lib.hid (indexFunc_any F caps p v zs w hI hn he hp)
  clear hp he hI
  obtain ⟨B, hB⟩ : ∃ B, zs.any p = B := ⟨_, rfl⟩
  rw [hB] at H ⊢
  clear hB
  go_enter Try.func47, Try.ntmps47
  go_wp2_with fail
  refine H.out.mono ?_
  rintro e w1 ⟨⟨r, rfl, h1, h2⟩, rfl⟩
  rcases h2 with ⟨h2, h3⟩ | ⟨h2, h3⟩
  · subst h3
    have g : r ≥ 0 := h2
    go_wp2_with fail
    go_ret
    exact ⟨rfl, rfl⟩
  · subst h3
    have g : ¬ r ≥ 0 := by omega
    go_wp2_with fail
    go_ret
    refine ⟨?_, rfl⟩
    show Ending.returned (Value.bool (decide (0 ≤ r))) = _
    rw [decide_eq_false (by omega)]
end Go.Proofs.Ytgdgjalfabffcaa

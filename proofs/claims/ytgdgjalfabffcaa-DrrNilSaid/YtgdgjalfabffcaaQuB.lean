/-
  slices.Index, slices.Contains, slices.Delete OF ROWS OF NUMBERS; package queue's cut.
-/
import Derived.Test.YtgdgjalfabffcaaQuA
import Derived.Test.YtgdgjalfabffcaaDrrMath
namespace Go.Proofs.Ytgdgjalfabffcaa
open Go.RowKit
set_option linter.unusedVariables false
set_option linter.unusedSimpArgs false
namespace DrrM
theorem place_at : ∀ {zs : List Int} {k : Nat} {n : Int}, zs[k]? = some n → n ∉ zs.take k → place zs n = (k : Int)
  | [], k, n, h, _ => by simp at h
  | x :: zs, 0, n, h, _ => by
    simp at h
    unfold place
    rw [if_pos h]
    rfl
  | x :: zs, k + 1, n, h, hn => by
    simp at h hn
    unfold place
    rw [if_neg (fun e => hn.1 e.symm), place_at h hn.2, if_neg (by omega)]
    push_cast
    rfl
theorem place_none {zs : List Int} {n : Int} (h : n ∉ zs) : place zs n = -1 := by
  have h1 := place_ge zs n
  have h2 := mt (place_mem zs n).1 h
  omega
theorem place_lt (zs : List Int) (n : Int) : place zs n < zs.length := by
  induction zs with
  | nil => simp [place]
  | cons x l ih =>
    unfold place
    simp only [List.length_cons]
    push_cast
    split
    · omega
    · split <;> omega
theorem not_take_succ {zs : List Int} {k : Nat} {x n : Int} (hx : zs[k]? = some x) (h : n ∉ zs.take k) (hne : ¬ n = x) : n ∉ zs.take (k + 1) := by
  rw [List.take_add_one, hx]
  simp only [List.mem_append, not_or]
  exact ⟨h, by simpa using hne⟩
/-- The place cut out is the list without the number. -/
theorem erase_at {zs : List Int} (hnd : zs.Nodup) {k : Nat} {n : Int} (hk : zs[k]? = some n) : zs.take k ++ zs.drop (k + 1) = without zs n := by
  have hlt := (List.getElem?_eq_some_iff.1 hk).1
  have e : zs = zs.take k ++ n :: zs.drop (k + 1) := by
    have h2 := (List.getElem?_eq_some_iff.1 hk).2
    rw [← h2, ← List.drop_eq_getElem_cons hlt, List.take_append_drop]
  have hnd2 := hnd
  rw [e, List.nodup_append] at hnd2
  obtain ⟨_, h2, h3⟩ := hnd2
  rw [List.nodup_cons] at h2
  unfold without
  rw [show zs.filter (fun x => x != n) = _ from congrArg (List.filter (fun x => x != n)) e, List.filter_append, List.filter_cons]
  simp only [bne_self_eq_false, Bool.false_eq_true, if_false]
  congr 1
  · refine (List.filter_eq_self.2 fun a ha => ?_).symm
    rw [bne_iff_ne]
    exact h3 a ha n (by simp)
  · refine (List.filter_eq_self.2 fun a ha => ?_).symm
    rw [bne_iff_ne]
    intro hx
    subst hx
    exact h2.1 ha
end DrrM
set_option maxRecDepth 100000 in
set_option maxHeartbeats 2000000 in
theorem index_any (v : Value) (zs : List Int) (n : Int) (w : World) (hI : IsInts w v zs) (hn : zs.length ≤ 9223372036854775807) :
    Calls Try.prog 46 #[v, .int .i64 n] w fun e w' => e = .returned (.int .i64 (DrrM.place zs n)) ∧ w' = w := by
  have HI := Lib.hid hI
  obtain ⟨a, cap, rfl, _⟩ := hI
  obtain ⟨R, hR⟩ : ∃ R, DrrM.place zs n = R := ⟨_, rfl⟩
  have HR := Lib.hid hR
  rw [hR]
  clear hR
  go_enter Try.func46, Try.ntmps46
  go_wp2_with fail
  go_loopw [5, 8] (fun o i wr => ∃ k : Nat, i = .int .i64 k ∧ k ≤ zs.length ∧ wr = w ∧ Hid (n ∉ zs.take k)) (fun _ i _ => zs.length - (intOf i).toNat)
  case atStart => exact ⟨0, rfl, by omega, rfl, Lib.hid (by simp)⟩
  case round =>
    obtain ⟨k, rfl, hk, rfl, hA⟩ := hrel
    by_cases hlt : k < zs.length
    · have hki : (k : Int) < (zs.length : Int) := by omega
      obtain ⟨b, off, cp, he1, c1⟩ := HI.out.cell hlt
      simp only [Value.slice.injEq] at he1
      obtain ⟨rfl, _, rfl⟩ := he1
      have HX : Hid (zs[k]? = some (zs.getD k 0)) := Lib.hid (by rw [List.getD_eq_getElem?_getD, List.getElem?_eq_getElem hlt]; rfl)
      generalize zs.getD k 0 = x at *
      by_cases hpx : n = x
      · have HE : Hid (R = (k : Int)) := Lib.hid (by rw [← HR.out]; exact DrrM.place_at (by rw [hpx]; exact HX.out) hA.out)
        have hb : (n == x) = true := by rw [beq_iff_eq]; exact hpx
        clear hpx
        go_wp2_with fail
        go_ret
        exact ⟨by rw [HE.out]; first | done | rfl, rfl⟩
      · have HA2 : Hid (n ∉ zs.take (k + 1)) := Lib.hid (DrrM.not_take_succ HX.out hA.out hpx)
        have hb : (n == x) = false := by rw [beq_eq_false_iff_ne]; exact hpx
        clear hpx
        go_wp2_with fail
        go_roundw
        case rel => exact ⟨k + 1, by go_num, by omega, by trivial, HA2⟩
        case measure => simp [intOf]; omega
    · obtain rfl : k = zs.length := by omega
      have HE : Hid (R = -1) := Lib.hid (by rw [← HR.out]; exact DrrM.place_none (by have := hA.out; rw [List.take_length] at this; exact this))
      go_wp2_with fail
      go_ret
      exact ⟨by rw [HE.out]; first | done | rfl, rfl⟩
set_option maxHeartbeats 1000000 in
theorem contains_any (v : Value) (zs : List Int) (n : Int) (w : World) (hI : IsInts w v zs) (hn : zs.length ≤ 9223372036854775807) :
    Calls Try.prog 43 #[v, .int .i64 n] w fun e w' => e = .returned (.bool (decide (n ∈ zs))) ∧ w' = w := by
  have H := Lib.hid (index_any v zs n w hI hn)
  have hm := DrrM.place_mem zs n
  clear hI
  obtain ⟨R, hR⟩ : ∃ R, DrrM.place zs n = R := ⟨_, rfl⟩
  rw [hR] at H hm
  clear hR
  by_cases h : n ∈ zs
  · rw [decide_eq_true h]
    have g : R ≥ 0 := hm.2 h
    clear hm h
    go_enter Try.func43, Try.ntmps43
    go_wp2_with fail
    refine H.out.mono ?_
    rintro e w1 ⟨rfl, rfl⟩
    go_wp2_with fail
    go_ret
    exact ⟨rfl, rfl⟩
  · rw [decide_eq_false h]
    have g : ¬ R ≥ 0 := fun x => h (hm.1 x)
    clear hm h
    go_enter Try.func43, Try.ntmps43
    go_wp2_with fail
    refine H.out.mono ?_
    rintro e w1 ⟨rfl, rfl⟩
    go_wp2_with fail
    go_ret
    refine ⟨?_, rfl⟩
    first | rfl | (show Ending.returned (Value.bool (decide (0 ≤ R))) = _; rw [decide_eq_false (by omega)])
end Go.Proofs.Ytgdgjalfabffcaa

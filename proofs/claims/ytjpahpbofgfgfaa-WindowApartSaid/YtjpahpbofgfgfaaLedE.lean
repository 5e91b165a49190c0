/-
  LAYER 27 (package ledger): Reserve, Release.
-/
import Derived.Test.YtjpahpbofgfgfaaLedD
namespace Go.Proofs.Ytjpahpbofgfgfaa
open Go.RowKit
set_option linter.unusedVariables false
set_option linter.unusedSimpArgs false
/-- What Reserve answers, and Release. -/
def rsvA (n : Nat) (L U : Nat → Int) (T x : Int) : Int := if ¬ (0 ≤ T ∧ T < n) then (if n = 0 then 7 else 6) else rsvE (lk L n T) (lk U n T) x
def relA (n : Nat) (U : Nat → Int) (T x : Int) : Int := if ¬ (0 ≤ T ∧ T < n) then (if n = 0 then 7 else 6) else relE (lk U n T) x
/-- An act that makes d more reserved, if it is not refused. -/
def LgStep (n : Nat) (U P U' P' : Nat → Int) (T d E : Int) : Prop :=
  (E ≠ 0 ∧ U' = U ∧ P' = P) ∨ (E = 0 ∧ ∃ t : Nat, T = (t : Int) ∧ t < n ∧ U' = updI U t (U t + d) ∧ P' = updI P t (max (P t) (U t + d)))
theorem lk_at (F : Nat → Int) {n t : Nat} (h : t < n) : lk F n (t : Int) = F t := by
  unfold lk
  rw [if_pos (by omega), Int.toNat_natCast]
theorem LgStep.inv_rsv {n : Nat} {L U P U' P' : Nat → Int} {T x : Int} (h : LgStep n U P U' P' T x (rsvA n L U T x)) (hV : LgInv n L U P) : LgInv n L U' P' := by
  rcases h with ⟨_, rfl, rfl⟩ | ⟨h0, t, rfl, ht, rfl, rfl⟩
  · exact hV
  · unfold rsvA at h0
    rw [if_neg (by omega), lk_at L ht, lk_at U ht] at h0
    unfold rsvE at h0
    split at h0
    · omega
    · rename_i k1
      split at h0
      · omega
      · split at h0
        · omega
        · intro i hi
          obtain ⟨a, b, c, d⟩ := hV i hi
          by_cases e : i = t
          · subst e
            rw [updI_same, updI_same]
            have : lgIs x := Classical.not_not.1 k1
            have := this.1
            omega
          · rw [updI_ne _ _ e, updI_ne _ _ e]
            exact ⟨a, b, c, d⟩
theorem LgStep.inv_rel {n : Nat} {L U P U' P' : Nat → Int} {T x : Int} (h : LgStep n U P U' P' T (-x) (relA n U T x)) (hV : LgInv n L U P) : LgInv n L U' P' := by
  rcases h with ⟨_, rfl, rfl⟩ | ⟨h0, t, rfl, ht, rfl, rfl⟩
  · exact hV
  · unfold relA at h0
    rw [if_neg (by omega), lk_at U ht] at h0
    unfold relE at h0
    split at h0
    · omega
    · intro i hi
      obtain ⟨a, b, c, d⟩ := hV i hi
      by_cases e : i = t
      · subst e
        rw [updI_same, updI_same]
        omega
      · rw [updI_ne _ _ e, updI_ne _ _ e]
        exact ⟨a, b, c, d⟩
/-- What an act leaves: the ledger, and all else that stood below. -/
def LgDone (w w' : World) (b g n : Nat) (L U P : Nat → Int) (T d E : Int) : Prop := ∃ U' P', LgStep n U P U' P' T d E ∧ IsLg w' b g n L U' P' ∧ Touch (· = g) w w'
theorem ActP.done {w w1 w' : World} {b g n i : Nat} {L U P : Nat → Int} {d E : Int} (h : ActP w1 w' g n i L U P d E) (hi : i < n) (hL : IsLg w1 b g n L U P) (hT : Touch (· = g) w w1) : LgDone w w' b g n L U P (i : Int) d E := by
  rcases h with ⟨h0, hA, hT2⟩ | ⟨h0, hA, hT2⟩
  · exact ⟨U, P, Or.inl ⟨h0, rfl, rfl⟩, ⟨(hT2.block b hL.lt.1 hL.ne).trans hL.obj, hA, hL.ne⟩, hT.trans hT2 (fun i h => Or.inl h)⟩
  · exact ⟨_, _, Or.inr ⟨h0, i, rfl, hi, rfl, rfl⟩, ⟨(hT2.block b hL.lt.1 hL.ne).trans hL.obj, hA, hL.ne⟩, hT.trans hT2 (fun i h => Or.inl h)⟩
section
variable {w w' : World} {b g n : Nat} {L U P : Nat → Int} {v : Value}
set_option maxHeartbeats 1000000 in
theorem lgrsv_no (T x : Int) (w : World) (h : LgV w v n L U P) (hT : ¬ (0 ≤ T ∧ T < n)) :
    Calls Try.prog 17 #[v, .int .i64 T, .int .i64 x] w fun e w' => e = .returned (.int .i64 (if n = 0 then 7 else 6)) ∧ Below w.heap.size w w' := by
  obtain ⟨w1, hw1⟩ : ∃ w1, w.alloc (.cells #[.int .i64 x] 3) = w1 := ⟨_, rfl⟩
  have HB : Hid (Below w.heap.size w w1) := Lib.hid (by subst hw1; exact (Below.refl _ _).alloc (Nat.le_refl _) _)
  have hV : LgV w1 v n L U P := by
    rcases h with h | ⟨b, g, rfl, h⟩
    · exact Or.inl h
    · exact Or.inr ⟨b, g, rfl, h.far HB.out⟩
  have HC := Lib.hid (fun caps => lgchange_no 45 caps T w1 hV hT)
  generalize (if n = 0 then (7 : Int) else 6) = E at *
  clear h hV hT
  go_enter Try.func17, Try.ntmps17
  go_wp2_with fail
  refine (HC.out _).mono ?_
  rintro e w2 ⟨rfl, rfl⟩
  go_wp2_with fail
  go_ret
  exact ⟨rfl, HB.out⟩
set_option maxHeartbeats 1000000 in
theorem lgrsv_yes (t : Nat) (x : Int) (w : World) (h : IsLg w b g n L U P) (ht : t < n) (hV : LgInv n L U P) (hx : -9223372036854775808 ≤ x ∧ x ≤ 9223372036854775807) :
    Calls Try.prog 17 #[.pointer (some ⟨b, 0, none⟩), .int .i64 (t : Int), .int .i64 x] w fun e w' => e = .returned (.int .i64 (rsvE (L t) (U t) x)) ∧ LgDone w w' b g n L U P (t : Int) x (rsvE (L t) (U t) x) := by
  obtain ⟨w1, hw1⟩ : ∃ w1, w.alloc (.cells #[.int .i64 x] 3) = w1 := ⟨_, rfl⟩
  have HB : Hid (Below w.heap.size w w1) := Lib.hid (by subst hw1; exact (Below.refl _ _).alloc (Nat.le_refl _) _)
  have hc : w1.cell? ⟨w.heap.size, 0, none⟩ = some (.int .i64 x) := by subst hw1; rw [cell_of_row _ _ 0 _ _ _ (heap_alloc_new _ _)]; rfl
  have h1 := h.far HB.out
  have H1 := Lib.hid h1
  have HC := Lib.hid (lgchange_yes 45 #[.pointer (some ⟨w.heap.size, 0, none⟩)] t _ (fun w' => ActP w1 w' g n t L U P x (rsvE (L t) (U t) x)) w1 h1 ht lgrsv_enters (lgrsv1_any t w.heap.size x w1 h1.acc ht hV hx hc))
  generalize rsvE (L t) (U t) x = E at *
  clear h h1 hV hc
  go_enter Try.func17, Try.ntmps17
  go_wp2_with fail
  refine HC.out.mono ?_
  rintro e w2 ⟨rfl, h2⟩
  have H2 := Lib.hid (h2.done ht H1.out (Touch.ofBelow HB.out))
  clear h2
  go_wp2_with fail
  go_ret
  exact ⟨rfl, H2.out⟩
/-- Reserve, whatever the tenant. -/
theorem lgrsv_any (T x : Int) (w : World) (h : IsLg w b g n L U P) (hV : LgInv n L U P) (hx : -9223372036854775808 ≤ x ∧ x ≤ 9223372036854775807) :
    Calls Try.prog 17 #[.pointer (some ⟨b, 0, none⟩), .int .i64 T, .int .i64 x] w fun e w' => e = .returned (.int .i64 (rsvA n L U T x)) ∧ LgDone w w' b g n L U P T x (rsvA n L U T x) := by
  by_cases hT : 0 ≤ T ∧ T < n
  · obtain ⟨t, rfl⟩ : ∃ t : Nat, T = (t : Int) := ⟨T.toNat, by omega⟩
    have ht : t < n := by omega
    have e : rsvA n L U (t : Int) x = rsvE (L t) (U t) x := by unfold rsvA; rw [if_neg (by omega), lk_at L ht, lk_at U ht]
    rw [e]
    exact lgrsv_yes t x w h ht hV hx
  · refine (lgrsv_no T x w (Or.inr ⟨b, g, rfl, h⟩) hT).mono ?_
    rintro e w' ⟨rfl, hb⟩
    have e : rsvA n L U T x = (if n = 0 then 7 else 6) := by unfold rsvA; rw [if_pos hT]
    rw [e]
    refine ⟨rfl, U, P, Or.inl ⟨by split <;> omega, rfl, rfl⟩, h.far hb, Touch.ofBelow hb⟩
set_option maxHeartbeats 1000000 in
theorem lgrel_no (T x : Int) (w : World) (h : LgV w v n L U P) (hT : ¬ (0 ≤ T ∧ T < n)) :
    Calls Try.prog 15 #[v, .int .i64 T, .int .i64 x] w fun e w' => e = .returned (.int .i64 (if n = 0 then 7 else 6)) ∧ Below w.heap.size w w' := by
  obtain ⟨w1, hw1⟩ : ∃ w1, w.alloc (.cells #[.int .i64 x] 3) = w1 := ⟨_, rfl⟩
  have HB : Hid (Below w.heap.size w w1) := Lib.hid (by subst hw1; exact (Below.refl _ _).alloc (Nat.le_refl _) _)
  have hV : LgV w1 v n L U P := by
    rcases h with h | ⟨b, g, rfl, h⟩
    · exact Or.inl h
    · exact Or.inr ⟨b, g, rfl, h.far HB.out⟩
  have HC := Lib.hid (fun caps => lgchange_no 43 caps T w1 hV hT)
  generalize (if n = 0 then (7 : Int) else 6) = E at *
  clear h hV hT
  go_enter Try.func15, Try.ntmps15
  go_wp2_with fail
  refine (HC.out _).mono ?_
  rintro e w2 ⟨rfl, rfl⟩
  go_wp2_with fail
  go_ret
  exact ⟨rfl, HB.out⟩
set_option maxHeartbeats 1000000 in
theorem lgrel_yes (t : Nat) (x : Int) (w : World) (h : IsLg w b g n L U P) (ht : t < n) (hV : LgInv n L U P) (hx : -9223372036854775808 ≤ x ∧ x ≤ 9223372036854775807) :
    Calls Try.prog 15 #[.pointer (some ⟨b, 0, none⟩), .int .i64 (t : Int), .int .i64 x] w fun e w' => e = .returned (.int .i64 (relE (U t) x)) ∧ LgDone w w' b g n L U P (t : Int) (-x) (relE (U t) x) := by
  obtain ⟨w1, hw1⟩ : ∃ w1, w.alloc (.cells #[.int .i64 x] 3) = w1 := ⟨_, rfl⟩
  have HB : Hid (Below w.heap.size w w1) := Lib.hid (by subst hw1; exact (Below.refl _ _).alloc (Nat.le_refl _) _)
  have hc : w1.cell? ⟨w.heap.size, 0, none⟩ = some (.int .i64 x) := by subst hw1; rw [cell_of_row _ _ 0 _ _ _ (heap_alloc_new _ _)]; rfl
  have h1 := h.far HB.out
  have H1 := Lib.hid h1
  have HC := Lib.hid (lgchange_yes 43 #[.pointer (some ⟨w.heap.size, 0, none⟩)] t _ (fun w' => ActP w1 w' g n t L U P (-x) (relE (U t) x)) w1 h1 ht lgrel_enters (lgrel1_any t w.heap.size x w1 h1.acc ht hV hx hc))
  generalize relE (U t) x = E at *
  clear h h1 hV hc
  go_enter Try.func15, Try.ntmps15
  go_wp2_with fail
  refine HC.out.mono ?_
  rintro e w2 ⟨rfl, h2⟩
  have H2 := Lib.hid (h2.done ht H1.out (Touch.ofBelow HB.out))
  clear h2
  go_wp2_with fail
  go_ret
  exact ⟨rfl, H2.out⟩
/-- Release, whatever the tenant. -/
theorem lgrel_any (T x : Int) (w : World) (h : IsLg w b g n L U P) (hV : LgInv n L U P) (hx : -9223372036854775808 ≤ x ∧ x ≤ 9223372036854775807) :
    Calls Try.prog 15 #[.pointer (some ⟨b, 0, none⟩), .int .i64 T, .int .i64 x] w fun e w' => e = .returned (.int .i64 (relA n U T x)) ∧ LgDone w w' b g n L U P T (-x) (relA n U T x) := by
  by_cases hT : 0 ≤ T ∧ T < n
  · obtain ⟨t, rfl⟩ : ∃ t : Nat, T = (t : Int) := ⟨T.toNat, by omega⟩
    have ht : t < n := by omega
    have e : relA n U (t : Int) x = relE (U t) x := by unfold relA; rw [if_neg (by omega), lk_at U ht]
    rw [e]
    exact lgrel_yes t x w h ht hV hx
  · refine (lgrel_no T x w (Or.inr ⟨b, g, rfl, h⟩) hT).mono ?_
    rintro e w' ⟨rfl, hb⟩
    have e : relA n U T x = (if n = 0 then 7 else 6) := by unfold relA; rw [if_pos hT]
    rw [e]
    refine ⟨rfl, U, P, Or.inl ⟨by split <;> omega, rfl, rfl⟩, h.far hb, Touch.ofBelow hb⟩
end
end Go.Proofs.Ytjpahpbofgfgfaa

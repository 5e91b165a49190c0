/-
  LAYER 27's STATEMENTS: their example; rows of deeds of the call's own; rows of acts.
-/
import Derived.Test.YtjpahpbofgfgfaaLedG
import Derived.Test.YtjpahpbofgfgfaaOpen
namespace Go.Proofs.Ytjpahpbofgfgfaa
open Go.RowKit Go.ChangeShapes Go.WideShapes Go.ChangeAt Go.Deep
set_option linter.unusedVariables false
set_option linter.unusedSimpArgs false
/-! ### The example -/
/-- A ledger of the one limit 10. -/
structure Ten (w0 w : World) (b g : Nat) (u p : Int) : Prop where
  lg : ∃ L U P : Nat → Int, IsLg w b g 1 L U P ∧ L 0 = 10 ∧ U 0 = u ∧ P 0 = p ∧ 0 ≤ u ∧ u ≤ p ∧ p ≤ 10
  below : Below w0.heap.size w0 w
  own : w0.heap.size ≤ b ∧ w0.heap.size ≤ g
section
variable {w0 w w' : World} {b g : Nat} {u p : Int}
theorem Ten.next (h : Ten w0 w b g u p) (hb : Below w.heap.size w w') : Ten w0 w' b g u p := by
  obtain ⟨⟨L, U, P, h1, h2⟩, h3, h4⟩ := h
  exact ⟨⟨L, U, P, h1.far hb, h2⟩, h3.trans (hb.mono h3.size), h4⟩
theorem Ten.inv {L U P : Nat → Int} {u p : Int} (k1 : L 0 = 10) (k2 : U 0 = u) (k3 : P 0 = p) (k4 : 0 ≤ u ∧ u ≤ p ∧ p ≤ 10) : LgInv 1 L U P := fun i hi => by
  have : i = 0 := by omega
  subst this
  omega
theorem ten_rsv (x : Int) (h : Ten w0 w b g u p) (hx : -9223372036854775808 ≤ x ∧ x ≤ 9223372036854775807) (E u2 p2 : Int) (hE : rsvE 10 u x = E) (hr : (E ≠ 0 ∧ u2 = u ∧ p2 = p) ∨ (E = 0 ∧ u2 = u + x ∧ p2 = max p (u + x))) (hn : 0 ≤ u2 ∧ u2 ≤ p2 ∧ p2 ≤ 10) :
    Calls Try.prog 17 #[.pointer (some ⟨b, 0, none⟩), .int .i64 0, .int .i64 x] w fun e w' => e = .returned (.int .i64 E) ∧ Ten w0 w' b g u2 p2 := by
  have h0 := h
  obtain ⟨⟨L, U, P, h1, k1, k2, k3, k4⟩, h3, h4⟩ := h
  have := lgrsv_yes 0 x w h1 (by omega) (Ten.inv k1 k2 k3 k4) hx
  rw [k1, k2, hE] at this
  refine this.mono ?_
  rintro e w' ⟨rfl, hd⟩
  obtain ⟨U', P', hs, hl, ht⟩ := hd
  refine ⟨rfl, ⟨L, U', P', hl, k1, ?_, ?_, hn⟩, h3.trans (ht.below h3.size (fun i hi => by have : i = g := hi; omega)), h4⟩
  · rcases hs with ⟨h0, rfl, rfl⟩ | ⟨h0, t, e, _, rfl, rfl⟩
    · rcases hr with ⟨_, e1, e2⟩ | ⟨e0, _⟩
      · rw [e1]; exact k2
      · exact absurd e0 h0
    · rcases hr with ⟨e0, _⟩ | ⟨_, e1, e2⟩
      · exact absurd h0 e0
      · have : t = 0 := by omega
        subst this
        rw [updI_same, e1, k2]
  · rcases hs with ⟨h0, rfl, rfl⟩ | ⟨h0, t, e, _, rfl, rfl⟩
    · rcases hr with ⟨_, e1, e2⟩ | ⟨e0, _⟩
      · rw [e2]; exact k3
      · exact absurd e0 h0
    · rcases hr with ⟨e0, _⟩ | ⟨_, e1, e2⟩
      · exact absurd h0 e0
      · have : t = 0 := by omega
        subst this
        rw [updI_same, e2, k2, k3]
theorem ten_rel (x : Int) (h : Ten w0 w b g u p) (hx : -9223372036854775808 ≤ x ∧ x ≤ 9223372036854775807) (E u2 p2 : Int) (hE : relE u x = E) (hr : (E ≠ 0 ∧ u2 = u ∧ p2 = p) ∨ (E = 0 ∧ u2 = u + -x ∧ p2 = max p (u + -x))) (hn : 0 ≤ u2 ∧ u2 ≤ p2 ∧ p2 ≤ 10) :
    Calls Try.prog 15 #[.pointer (some ⟨b, 0, none⟩), .int .i64 0, .int .i64 x] w fun e w' => e = .returned (.int .i64 E) ∧ Ten w0 w' b g u2 p2 := by
  obtain ⟨⟨L, U, P, h1, k1, k2, k3, k4⟩, h3, h4⟩ := h
  have := lgrel_yes 0 x w h1 (by omega) (Ten.inv k1 k2 k3 k4) hx
  rw [k2, hE] at this
  refine this.mono ?_
  rintro e w' ⟨rfl, hd⟩
  obtain ⟨U', P', hs, hl, ht⟩ := hd
  refine ⟨rfl, ⟨L, U', P', hl, k1, ?_, ?_, hn⟩, h3.trans (ht.below h3.size (fun i hi => by have : i = g := hi; omega)), h4⟩
  · rcases hs with ⟨h0, rfl, rfl⟩ | ⟨h0, t, e, _, rfl, rfl⟩
    · rcases hr with ⟨_, e1, e2⟩ | ⟨e0, _⟩
      · rw [e1]; exact k2
      · exact absurd e0 h0
    · rcases hr with ⟨e0, _⟩ | ⟨_, e1, e2⟩
      · exact absurd h0 e0
      · have : t = 0 := by omega
        subst this
        rw [updI_same, e1, k2]
  · rcases hs with ⟨h0, rfl, rfl⟩ | ⟨h0, t, e, _, rfl, rfl⟩
    · rcases hr with ⟨_, e1, e2⟩ | ⟨e0, _⟩
      · rw [e2]; exact k3
      · exact absurd e0 h0
    · rcases hr with ⟨e0, _⟩ | ⟨_, e1, e2⟩
      · exact absurd h0 e0
      · have : t = 0 := by omega
        subst this
        rw [updI_same, e2, k2, k3]
theorem ten_used (h : Ten w0 w b g u p) : Calls Try.prog 19 #[.pointer (some ⟨b, 0, none⟩), .int .i64 0] w fun e w' => e = .returned (.int .i64 u) ∧ Ten w0 w' b g u p := by
  have h0 := h
  obtain ⟨⟨L, U, P, h1, k1, k2, k3, k4⟩, h3, h4⟩ := h
  have := lgused_v 0 w (Or.inr ⟨b, g, rfl, h1⟩)
  rw [show lk U 1 0 = u from k2] at this
  exact this.mono fun e w' ⟨he, hb⟩ => ⟨he, h0.next hb⟩
theorem ten_peak (h : Ten w0 w b g u p) : Calls Try.prog 21 #[.pointer (some ⟨b, 0, none⟩), .int .i64 0] w fun e w' => e = .returned (.int .i64 p) ∧ Ten w0 w' b g u p := by
  have h0 := h
  obtain ⟨⟨L, U, P, h1, k1, k2, k3, k4⟩, h3, h4⟩ := h
  have := lgpeak_v 0 w (Or.inr ⟨b, g, rfl, h1⟩)
  rw [show lk P 1 0 = p from k3] at this
  exact this.mono fun e w' ⟨he, hb⟩ => ⟨he, h0.next hb⟩
theorem ten_left (h : Ten w0 w b g u p) : Calls Try.prog 20 #[.pointer (some ⟨b, 0, none⟩), .int .i64 0] w fun e w' => e = .returned (.int .i64 (10 - u)) ∧ Ten w0 w' b g u p := by
  have h0 := h
  obtain ⟨⟨L, U, P, h1, k1, k2, k3, k4⟩, h3, h4⟩ := h
  have e1 : lk U 1 0 = u := k2
  have e2 : lk L 1 0 = 10 := k1
  have := lgleft_v 0 w (Or.inr ⟨b, g, rfl, h1⟩) (by rw [e1, e2]; omega)
  rw [e1, e2] at this
  exact this.mono fun e w' ⟨he, hb⟩ => ⟨he, h0.next hb⟩
end
theorem one_lit (w : World) (x : Int) : IsInts (w.alloc (.cells #[.int .i64 x] 3)) (.slice (some ⟨w.heap.size, 0, none⟩) 1 1) [x] :=
  ints_of_row (zs := [x]) (rest := []) (heap_alloc_new w _) rfl
set_option maxRecDepth 100000 in
set_option maxHeartbeats 4000000 in
theorem ten27_any (w : World) : Calls Try.prog 11 #[] w fun e w' => e = .returned (.bool true) ∧ Below w.heap.size w w' := by
  obtain ⟨w5, hw5⟩ : ∃ w5, w.alloc (.cells #[.int .i64 10] 3) = w5 := ⟨_, rfl⟩
  have HB : Hid (Below w.heap.size w w5) := Lib.hid (by subst hw5; exact (Below.refl _ _).alloc (Nat.le_refl _) _)
  have HN : Hid (Calls Try.prog 12 #[.slice (some ⟨w.heap.size, 0, none⟩) 1 1] w5 fun e w' => LgNewP w5 w' [10] e) := Lib.hid (by
    subst hw5
    exact lgnew_any _ [10] _ (one_lit w 10) ⟨by simp, by simp, fun x hx => by simp at hx; subst hx; exact ⟨by omega, by omega⟩⟩)
  go_enter Try.func11, Try.ntmps11
  go_wp2_with fail
  refine HN.out.mono ?_
  rintro e w6 ⟨b, g, rfl, hl, hb, hb1, hb2⟩
  have H0 : Hid (Ten w w6 b g 0 0) := Lib.hid ⟨⟨_, _, _, hl, rfl, rfl, rfl, by omega⟩, HB.out.trans (hb.mono HB.out.size), by have := HB.out.size; omega⟩
  clear hl hb hb1 hb2
  go_wp2_with fail
  refine (ten_rsv 6 H0.out (by omega) 0 6 6 (by decide) (by omega) (by omega)).mono ?_
  rintro e w7 ⟨rfl, h⟩
  have H1 := Lib.hid h
  clear h
  go_wp2_with fail
  refine (ten_rsv 5 H1.out (by omega) 34 6 6 (by decide) (by omega) (by omega)).mono ?_
  rintro e w8 ⟨rfl, h⟩
  have H2 := Lib.hid h
  clear h
  go_wp2_with fail
  refine (ten_rsv 11 H2.out (by omega) 33 6 6 (by decide) (by omega) (by omega)).mono ?_
  rintro e w9 ⟨rfl, h⟩
  have H3 := Lib.hid h
  clear h
  go_wp2_with fail
  refine (ten_used H3.out).mono ?_
  rintro e wa ⟨rfl, h⟩
  have H4 := Lib.hid h
  clear h
  go_wp2_with fail
  refine (ten_left H4.out).mono ?_
  rintro e wb ⟨rfl, h⟩
  have H5 := Lib.hid h
  clear h
  go_wp2_with fail
  refine (ten_rel 6 H5.out (by omega) 0 0 6 (by decide) (by omega) (by omega)).mono ?_
  rintro e wc ⟨rfl, h⟩
  have H6 := Lib.hid h
  clear h
  go_wp2_with fail
  refine (ten_rel 1 H6.out (by omega) 1 0 6 (by decide) (by omega) (by omega)).mono ?_
  rintro e wd ⟨rfl, h⟩
  have H7 := Lib.hid h
  clear h
  go_wp2_with fail
  refine (ten_peak H7.out).mono ?_
  rintro e we ⟨rfl, h⟩
  have H8 := Lib.hid h
  clear h
  go_wp2_with fail
  go_ret
  exact ⟨rfl, H8.out.below⟩
end Go.Proofs.Ytjpahpbofgfgfaa

/-
  LAYER 28's STATEMENTS: their example; WindowNil.
-/
import Derived.Test.YtjpahpbofgfgfaaWinI
import Derived.Test.YtjpahpbofgfgfaaLedI
namespace Go.Proofs.Ytjpahpbofgfgfaa
open Go.RowKit Go.ChangeShapes Go.WideShapes Go.ChangeAt Go.Deep
set_option linter.unusedVariables false
set_option linter.unusedSimpArgs false
/-- A meter of the one quota 5. -/
structure Fv (w0 w : World) (b : Nat) (v : Value) (S A c d : Int) : Prop where
  mt : ∃ C D : Nat → Int, IsMt w0.heap.size w b v [5] S A C D ∧ C 0 = c ∧ D 0 = d
  below : Below w0.heap.size w0 w
  num : (1 ≤ S ∧ S ≤ 1048576) ∧ (0 ≤ A ∧ A ≤ 1000) ∧ (0 ≤ c ∧ c ≤ 5) ∧ 0 ≤ d ∧ d ≤ 1000
section
variable {w0 w w' : World} {b : Nat} {v : Value} {S A c d : Int}
theorem Fv.inv {C D : Nat → Int} (h : Fv w0 w b v S A c d) (k1 : C 0 = c) (k2 : D 0 = d) : MtInv [5] S A C D := by
  obtain ⟨n1, n2, n3, n4⟩ := h.num
  refine ⟨n1, by omega, by simp, fun i hi => ?_⟩
  have : i = 0 := by simp at hi; omega
  subst this
  rw [k1, k2]
  exact ⟨n3.1, n3.2, by decide, n4.1, by omega⟩
theorem Fv.next (h : Fv w0 w b v S A c d) (hb : Below w.heap.size w w') : Fv w0 w' b v S A c d := by
  obtain ⟨⟨C, D, h1, h2⟩, h3, h4⟩ := h
  exact ⟨⟨C, D, h1.far hb, h2⟩, h3.trans (hb.mono h3.size), h4⟩
theorem fv_charge (x : Int) (h : Fv w0 w b v S A c d) (E c2 d2 : Int) (hx : 0 ≤ x ∧ x ≤ 100) (hE : (x > 5 - c ∧ E = 33 ∧ c2 = c ∧ d2 = d) ∨ (x ≤ 5 - c ∧ E = 0 ∧ c2 = c + x ∧ d2 = d + x)) (hd : d + x ≤ 1000) :
    Calls Try.prog 30 #[.pointer (some ⟨b, 0, none⟩), .int .i64 0, .int .i64 x] w fun e w' => e = .returned (.int .i64 E) ∧ Fv w0 w' b v S A c2 d2 := by
  have h0 := h
  obtain ⟨⟨C, D, h1, k1, k2⟩, h3, n1, n2, n3, n4⟩ := h
  have hcall := wdcharge_yes 0 x w h1 (h0.inv k1 k2) (by decide)
  have hEE : chgA [5] C ((0 : Nat) : Int) x = E := by
    unfold chgA leftF
    have hl : lgIs x := ⟨hx.1, by omega⟩
    rw [if_neg (by simp), if_neg (show ¬ ¬ lgIs x from fun h => h hl)]
    show (if x > 5 - C 0 then (33 : Int) else 0) = E
    rw [k1]
    rcases hE with ⟨e1, e2, _⟩ | ⟨e1, e2, _⟩
    · rw [if_pos e1, e2]
    · rw [if_neg (by omega), e2]
  rw [hEE] at hcall
  refine hcall.mono ?_
  rintro e w' ⟨rfl, C', D', hs, hl, ht⟩
  refine ⟨rfl, ⟨C', D', hl, ?_, ?_⟩, h3.trans (ht.below h3.size (fun i hi => by have : i = b := hi; have := h1.own; omega)), n1, n2, by omega, by omega⟩
  · rcases hs with ⟨g0, rfl, rfl⟩ | ⟨g0, t, e, _, rfl, rfl⟩
    · rcases hE with ⟨_, e1, e2, e3⟩ | ⟨_, e1, _⟩
      · rw [e2]; exact k1
      · exact absurd e1 g0
    · have : t = 0 := by omega
      subst this
      rcases hE with ⟨_, e1, e2, e3⟩ | ⟨_, e1, e2, e3⟩
      · omega
      · rw [updI_same, k1, e2]
  · rcases hs with ⟨g0, rfl, rfl⟩ | ⟨g0, t, e, _, rfl, rfl⟩
    · rcases hE with ⟨_, e1, e2, e3⟩ | ⟨_, e1, _⟩
      · rw [e3]; exact k2
      · exact absurd e1 g0
    · have : t = 0 := by omega
      subst this
      rcases hE with ⟨_, e1, e2, e3⟩ | ⟨_, e1, e2, e3⟩
      · omega
      · rw [updI_same, k2, e3]
        omega
theorem fv_tick (h : Fv w0 w b v S A c d) (hA : A + 1 ≤ 1000) (c2 : Int) (hc : ((A + 1) % S = 0 ∧ c2 = 0) ∨ (¬ (A + 1) % S = 0 ∧ c2 = c)) :
    Calls Try.prog 28 #[.pointer (some ⟨b, 0, none⟩)] w fun e w' => e = .returned (.tuple #[]) ∧ Fv w0 w' b v S (A + 1) c2 d := by
  have h0 := h
  obtain ⟨⟨C, D, h1, k1, k2⟩, h3, n1, n2, n3, n4⟩ := h
  refine (wdtick_any w h1 (h0.inv k1 k2)).mono ?_
  rintro e w' ⟨rfl, hl, ht⟩
  have hA1 : ¬ A = 1099511627776 := by omega
  have e1 : tkA A = A + 1 := by unfold tkA; rw [if_neg hA1]
  rw [e1] at hl
  refine ⟨rfl, ⟨_, D, hl, ?_, k2⟩, h3.trans (ht.below h3.size (fun i hi => by have : i = b := hi; have := h1.own; omega)), n1, by omega, by omega, n4⟩
  unfold tkC
  rw [if_neg hA1]
  rcases hc with ⟨g1, rfl⟩ | ⟨g1, rfl⟩
  · rw [if_pos g1]; rfl
  · rw [if_neg g1]; exact k1
theorem fv_at (h : Fv w0 w b v S A c d) : Calls Try.prog 35 #[.pointer (some ⟨b, 0, none⟩)] w fun e w' => e = .returned (.int .i64 A) ∧ w' = w := by
  obtain ⟨⟨C, D, h1, k1, k2⟩, h3, _⟩ := h
  exact wdat_any w h1
theorem fv_begins (h : Fv w0 w b v S A c d) : Calls Try.prog 36 #[.pointer (some ⟨b, 0, none⟩)] w fun e w' => e = .returned (.bool (A % S == 0)) ∧ Fv w0 w' b v S A c d := by
  have h0 := h
  obtain ⟨⟨C, D, h1, k1, k2⟩, h3, _⟩ := h
  refine (wdbegins_any w h1 (h0.inv k1 k2)).mono ?_
  rintro e w' ⟨rfl, m, rfl⟩
  exact ⟨rfl, h0.next (below_drewN _ _)⟩
theorem fv_left (h : Fv w0 w b v S A c d) : Calls Try.prog 32 #[.pointer (some ⟨b, 0, none⟩), .int .i64 0] w fun e w' => e = .returned (.int .i64 (5 - c)) ∧ Fv w0 w' b v S A c d := by
  have h0 := h
  obtain ⟨⟨C, D, h1, k1, k2⟩, h3, _⟩ := h
  have hcall := wdleft_any 0 w h1 (h0.inv k1 k2) (by decide)
  have e1 : leftF [5] C 0 = 5 - c := by
    show 5 - C 0 = _
    rw [k1]
  rw [e1] at hcall
  refine hcall.mono ?_
  rintro e w' ⟨rfl, m, rfl⟩
  exact ⟨rfl, h0.next (below_drewN _ _)⟩
theorem fv_total (h : Fv w0 w b v S A c d) : Calls Try.prog 33 #[.pointer (some ⟨b, 0, none⟩), .int .i64 0] w fun e w' => e = .returned (.int .i64 d) ∧ w' = w := by
  have h0 := h
  obtain ⟨⟨C, D, h1, k1, k2⟩, h3, _⟩ := h
  have hcall := wdtotal_any 0 w h1 (h0.inv k1 k2) (by decide)
  rw [k2] at hcall
  exact hcall
theorem Fv.mtV (h : Fv w0 w b v S A c d) : MtV w0.heap.size w (.pointer (some ⟨b, 0, none⟩)) 1 := by
  obtain ⟨⟨C, D, h1, k1, k2⟩, h3, _⟩ := h
  exact h1.mtV
end
theorem fv_new (S : Int) (hS : 1 ≤ S ∧ S ≤ 1048576) (w : World) :
    Calls Try.prog 26 #[.int .i64 S, .slice (some ⟨w.heap.size, 0, none⟩) 1 1] (w.alloc (.cells #[.int .i64 5] 3)) fun e w' => ∃ b v, e = .returned (.tuple #[.pointer (some ⟨b, 0, none⟩), .int .i64 0]) ∧ Fv w w' b v S 0 0 0 := by
  have hb : Below w.heap.size w (w.alloc (.cells #[.int .i64 5] 3)) := (Below.refl _ _).alloc (Nat.le_refl _) _
  refine (wdnew_any S _ [5] _ (one_lit w 5) ⟨hS, by simp, by simp, fun x hx => by simp at hx; subst hx; exact ⟨by omega, by omega⟩⟩).mono ?_
  rintro e w' ⟨b, v, rfl, hl, hb2⟩
  refine ⟨b, v, rfl, ⟨_, _, ⟨hl.obj, hl.row.lower hb.size, hl.ne, Nat.le_trans hb.size hl.own⟩, rfl, rfl⟩, hb.trans (hb2.mono hb.size), hS, by omega, by omega, by omega⟩
set_option maxRecDepth 100000 in
set_option maxHeartbeats 4000000 in
theorem five28_any (w : World) : Calls Try.prog 25 #[] w fun e w' => e = .returned (.bool true) ∧ Below w.heap.size w w' := by
  have HN := Lib.hid (fv_new 2 (by omega) w)
  go_enter Try.func25, Try.ntmps25
  go_wp2_with fail
  refine HN.out.mono ?_
  rintro e w6 ⟨b, v, rfl, h⟩
  have H0 := Lib.hid h
  clear h
  go_wp2_with fail
  refine (fv_charge 3 H0.out 0 3 3 (by omega) (by omega) (by omega)).mono ?_
  rintro e w7 ⟨rfl, h⟩
  have H1 := Lib.hid h
  clear h
  go_wp2_with fail
  refine (fv_tick H1.out (by omega) 3 (Or.inr ⟨by decide, rfl⟩)).mono ?_
  rintro e w8 ⟨rfl, h⟩
  have H2 : Hid (Fv w w8 b v 2 1 3 3) := Lib.hid h
  clear h
  go_wp2_with fail
  refine (fv_charge 2 H2.out 0 5 5 (by omega) (by omega) (by omega)).mono ?_
  rintro e w9 ⟨rfl, h⟩
  have H3 := Lib.hid h
  clear h
  go_wp2_with fail
  refine (fv_charge 1 H3.out 33 5 5 (by omega) (by omega) (by omega)).mono ?_
  rintro e wa ⟨rfl, h⟩
  have H4 := Lib.hid h
  clear h
  go_wp2_with fail
  refine (fv_tick H4.out (by omega) 0 (Or.inl ⟨by decide, rfl⟩)).mono ?_
  rintro e wb ⟨rfl, h⟩
  have H5 : Hid (Fv w wb b v 2 2 0 5) := Lib.hid h
  clear h
  go_wp2_with fail
  refine (fv_at H5.out).mono ?_
  rintro e wc ⟨rfl, h⟩
  obtain rfl := h.symm
  go_wp2_with fail
  refine (fv_begins H5.out).mono ?_
  rintro e wd ⟨rfl, h⟩
  have H6 := Lib.hid h
  clear h
  go_wp2_with fail
  refine (fv_left H6.out).mono ?_
  rintro e we ⟨rfl, h⟩
  have H7 := Lib.hid h
  clear h
  go_wp2_with fail
  refine (fv_total H7.out).mono ?_
  rintro e wf ⟨rfl, h⟩
  obtain rfl := h.symm
  go_wp2_with fail
  go_ret
  exact ⟨rfl, H7.out.below⟩
end Go.Proofs.Ytjpahpbofgfgfaa

/-
  LAYER 27's STATEMENTS: LedgerNil.
-/
import Derived.Test.YtjpahpbofgfgfaaLedH
import Derived.Test.YtjpahpbofgfgfaaActs3
namespace Go.Proofs.Ytjpahpbofgfgfaa
open Go.RowKit Go.ChangeShapes Go.WideShapes Go.ChangeAt Go.Deep
set_option linter.unusedVariables false
set_option linter.unusedSimpArgs false
theorem LgV.nil (w : World) : LgV w (.pointer none) 0 zeroF zeroF zeroF := Or.inl ⟨rfl, rfl⟩
/-- A ledger of the one limit 5, all else as it was. -/
structure Five1 (w0 w : World) (b g : Nat) : Prop where
  lg : ∃ L : Nat → Int, IsLg w b g 1 L zeroF zeroF ∧ L 0 = 5
  below : Below w0.heap.size w0 w
theorem Five1.next {w0 w w' : World} {b g : Nat} (h : Five1 w0 w b g) (hb : Below w.heap.size w w') : Five1 w0 w' b g := by
  obtain ⟨⟨L, h1, h2⟩, h3⟩ := h
  exact ⟨⟨L, h1.far hb, h2⟩, h3.trans (hb.mono h3.size)⟩
section
variable {w0 w w' : World} {b g : Nat} {T x : Int}
theorem five1_limit (h : Five1 w0 w b g) : Calls Try.prog 23 #[.pointer (some ⟨b, 0, none⟩), .int .i64 0] w fun e w' => e = .returned (.int .i64 5) ∧ Five1 w0 w' b g := by
  have h0 := h
  obtain ⟨⟨L, h1, h2⟩, h3⟩ := h
  have := lglimit_v 0 w (Or.inr ⟨b, g, rfl, h1⟩)
  rw [show lk L 1 0 = 5 from h2] at this
  exact this.mono fun e w' ⟨he, hb⟩ => ⟨he, h0.next hb⟩
theorem lk_none (F : Nat → Int) {T : Int} (hT : T ≠ 0) : lk F 1 T = 0 := by
  unfold lk
  rw [if_neg (by omega)]
theorem lk_zero (n : Nat) (T : Int) : lk zeroF n T = 0 := by
  unfold lk
  split <;> rfl
theorem five1_rsv (h : Five1 w0 w b g) (hT : T ≠ 0) : Calls Try.prog 17 #[.pointer (some ⟨b, 0, none⟩), .int .i64 T, .int .i64 x] w fun e w' => e = .returned (.int .i64 6) ∧ Five1 w0 w' b g := by
  have h0 := h
  obtain ⟨⟨L, h1, h2⟩, h3⟩ := h
  exact (lgrsv_no T x w (Or.inr ⟨b, g, rfl, h1⟩) (by omega)).mono fun e w' ⟨he, hb⟩ => ⟨he, h0.next hb⟩
theorem five1_rel (h : Five1 w0 w b g) (hT : T ≠ 0) : Calls Try.prog 15 #[.pointer (some ⟨b, 0, none⟩), .int .i64 T, .int .i64 x] w fun e w' => e = .returned (.int .i64 6) ∧ Five1 w0 w' b g := by
  have h0 := h
  obtain ⟨⟨L, h1, h2⟩, h3⟩ := h
  exact (lgrel_no T x w (Or.inr ⟨b, g, rfl, h1⟩) (by omega)).mono fun e w' ⟨he, hb⟩ => ⟨he, h0.next hb⟩
theorem five1_used (h : Five1 w0 w b g) : Calls Try.prog 19 #[.pointer (some ⟨b, 0, none⟩), .int .i64 T] w fun e w' => e = .returned (.int .i64 0) ∧ Five1 w0 w' b g := by
  have h0 := h
  obtain ⟨⟨L, h1, h2⟩, h3⟩ := h
  have := lgused_v T w (Or.inr ⟨b, g, rfl, h1⟩)
  rw [lk_zero] at this
  exact this.mono fun e w' ⟨he, hb⟩ => ⟨he, h0.next hb⟩
theorem five1_peak (h : Five1 w0 w b g) : Calls Try.prog 21 #[.pointer (some ⟨b, 0, none⟩), .int .i64 T] w fun e w' => e = .returned (.int .i64 0) ∧ Five1 w0 w' b g := by
  have h0 := h
  obtain ⟨⟨L, h1, h2⟩, h3⟩ := h
  have := lgpeak_v T w (Or.inr ⟨b, g, rfl, h1⟩)
  rw [lk_zero] at this
  exact this.mono fun e w' ⟨he, hb⟩ => ⟨he, h0.next hb⟩
theorem five1_none (h : Five1 w0 w b g) (hT : T ≠ 0) : Calls Try.prog 23 #[.pointer (some ⟨b, 0, none⟩), .int .i64 T] w fun e w' => e = .returned (.int .i64 0) ∧ Five1 w0 w' b g := by
  have h0 := h
  obtain ⟨⟨L, h1, h2⟩, h3⟩ := h
  have := lglimit_v T w (Or.inr ⟨b, g, rfl, h1⟩)
  rw [lk_none L hT] at this
  exact this.mono fun e w' ⟨he, hb⟩ => ⟨he, h0.next hb⟩
theorem five1_left (h : Five1 w0 w b g) (hT : T ≠ 0) : Calls Try.prog 20 #[.pointer (some ⟨b, 0, none⟩), .int .i64 T] w fun e w' => e = .returned (.int .i64 0) ∧ Five1 w0 w' b g := by
  have h0 := h
  obtain ⟨⟨L, h1, h2⟩, h3⟩ := h
  have := lgleft_v T w (Or.inr ⟨b, g, rfl, h1⟩) (by rw [lk_none L hT, lk_zero]; omega)
  rw [lk_none L hT, lk_zero] at this
  exact this.mono fun e w' ⟨he, hb⟩ => ⟨he, h0.next hb⟩
theorem nil_left (w : World) : Calls Try.prog 20 #[.pointer none, .int .i64 T] w fun e w' => e = .returned (.int .i64 0) ∧ Below w.heap.size w w' := by
  have := lgleft_v T w (LgV.nil w) (by rw [lk_zero]; omega)
  rw [lk_zero] at this
  exact this
end
set_option maxRecDepth 100000 in
set_option maxHeartbeats 8000000 in
theorem ledgerNil.main (T x : Int) (w : World) : Calls Try.prog 6 #[.int .i64 T, .int .i64 x] w fun e w' => e = .returned (.bool true) ∧ Below w.heap.size w w' := by
  obtain ⟨w5, hw5⟩ : ∃ w5, w.alloc (.cells #[.int .i64 5] 3) = w5 := ⟨_, rfl⟩
  have HB : Hid (Below w.heap.size w w5) := Lib.hid (by subst hw5; exact (Below.refl _ _).alloc (Nat.le_refl _) _)
  have HN : Hid (Calls Try.prog 12 #[.slice (some ⟨w.heap.size, 0, none⟩) 1 1] w5 fun e w' => LgNewP w5 w' [5] e) := Lib.hid (by
    subst hw5
    exact lgnew_any _ [5] _ (one_lit w 5) ⟨by simp, by simp, fun x hx => by simp at hx; subst hx; exact ⟨by omega, by omega⟩⟩)
  have HT : Hid (∀ W (v : Value), (v = .pointer none) → Calls Try.prog 17 #[v, .int .i64 T, .int .i64 x] W fun e w' => e = .returned (.int .i64 7) ∧ Below W.heap.size W w') := Lib.hid (fun W v hv => by
    subst hv
    exact lgrsv_no T x W (LgV.nil W) (by omega))
  have HT2 : Hid (∀ W, Calls Try.prog 15 #[.pointer none, .int .i64 T, .int .i64 x] W fun e w' => e = .returned (.int .i64 7) ∧ Below W.heap.size W w') := Lib.hid (fun W => lgrel_no T x W (LgV.nil W) (by omega))
  have HU : Hid (∀ W, Calls Try.prog 19 #[.pointer none, .int .i64 T] W fun e w' => e = .returned (.int .i64 0) ∧ Below W.heap.size W w') := Lib.hid (fun W => by have := lgused_v T W (LgV.nil W); rw [lk_zero] at this; exact this)
  have HP : Hid (∀ W, Calls Try.prog 21 #[.pointer none, .int .i64 T] W fun e w' => e = .returned (.int .i64 0) ∧ Below W.heap.size W w') := Lib.hid (fun W => by have := lgpeak_v T W (LgV.nil W); rw [lk_zero] at this; exact this)
  have HL : Hid (∀ W, Calls Try.prog 23 #[.pointer none, .int .i64 T] W fun e w' => e = .returned (.int .i64 0) ∧ Below W.heap.size W w') := Lib.hid (fun W => by have := lglimit_v T W (LgV.nil W); rw [lk_zero] at this; exact this)
  have HTN : Hid (∀ W, Calls Try.prog 24 #[.pointer none] W fun e w' => e = .returned (.int .i64 0) ∧ w' = W) := Lib.hid (fun W => lgtenants_v W (LgV.nil W))
  go_enter Try.func6, Try.ntmps6
  go_wp2_with fail
  refine HN.out.mono ?_
  rintro e w6 ⟨b, g, rfl, hl, hb, hb1, hb2⟩
  have H0 : Hid (Five1 w w6 b g) := Lib.hid ⟨⟨_, hl, rfl⟩, HB.out.trans (hb.mono HB.out.size)⟩
  clear hl hb hb1 hb2
  go_wp2_with fail
  refine (HT.out _ _ rfl).mono ?_
  rintro e w7 ⟨rfl, h⟩
  have H1 := Lib.hid (H0.out.next h)
  clear h
  go_wp2_with fail
  refine (HT2.out _).mono ?_
  rintro e w8 ⟨rfl, h⟩
  have H2 := Lib.hid (H1.out.next h)
  clear h
  go_wp2_with fail
  refine (HU.out _).mono ?_
  rintro e w9 ⟨rfl, h⟩
  have H3 := Lib.hid (H2.out.next h)
  clear h
  go_wp2_with fail
  refine (nil_left _).mono ?_
  rintro e wa ⟨rfl, h⟩
  have H4 := Lib.hid (H3.out.next h)
  clear h
  go_wp2_with fail
  refine (HP.out _).mono ?_
  rintro e wb ⟨rfl, h⟩
  have H5 := Lib.hid (H4.out.next h)
  clear h
  go_wp2_with fail
  refine (HL.out _).mono ?_
  rintro e wc ⟨rfl, h⟩
  have H6 := Lib.hid (H5.out.next h)
  clear h
  by_cases hT : T = 0
  · have kT : (T == 0) = true := by rw [beq_iff_eq]; exact hT
    clear hT
    go_wp2_with fail
    refine (HTN.out _).mono ?_
    rintro e wd ⟨rfl, rfl⟩
    go_wp2_with fail
    refine (five1_limit H6.out).mono ?_
    rintro e we ⟨rfl, h⟩
    have H7 := Lib.hid h
    clear h
    go_wp2_with fail
    refine (ten27_any _).mono ?_
    rintro e wf ⟨rfl, h⟩
    have H8 := Lib.hid (H7.out.next h).below
    clear h
    go_wp2_with fail
    go_ret
    exact ⟨rfl, H8.out⟩
  · have kT : (T == 0) = false := by rw [beq_eq_false_iff_ne]; exact hT
    have HNE := Lib.hid hT
    clear hT
    go_wp2_with fail
    refine (HTN.out _).mono ?_
    rintro e wd ⟨rfl, rfl⟩
    go_wp2_with fail
    refine (five1_rsv H6.out HNE.out).mono ?_
    rintro e we ⟨rfl, h⟩
    have H7 := Lib.hid h
    clear h
    go_wp2_with fail
    refine (five1_rel H7.out HNE.out).mono ?_
    rintro e we ⟨rfl, h⟩
    have H8 := Lib.hid h
    clear h
    go_wp2_with fail
    refine (five1_used H8.out).mono ?_
    rintro e we ⟨rfl, h⟩
    have H9 := Lib.hid h
    clear h
    go_wp2_with fail
    refine (five1_left H9.out HNE.out).mono ?_
    rintro e we ⟨rfl, h⟩
    have Ha := Lib.hid h
    clear h
    go_wp2_with fail
    refine (five1_peak Ha.out).mono ?_
    rintro e we ⟨rfl, h⟩
    have Hb := Lib.hid h
    clear h
    go_wp2_with fail
    refine (five1_none Hb.out HNE.out).mono ?_
    rintro e we ⟨rfl, h⟩
    have Hc := Lib.hid h
    clear h
    go_wp2_with fail
    refine (ten27_any _).mono ?_
    rintro e wf ⟨rfl, h⟩
    have Hd := Lib.hid (Hc.out.next h).below
    clear h
    go_wp2_with fail
    go_ret
    exact ⟨rfl, Hd.out⟩
end Go.Proofs.Ytjpahpbofgfgfaa

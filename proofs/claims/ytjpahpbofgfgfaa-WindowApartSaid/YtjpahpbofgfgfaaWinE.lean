/-
  LAYER 28 (package window): Charge.
-/
import Derived.Test.YtjpahpbofgfgfaaWinD
import Derived.Test.YtjpahpbofgfgfaaLedD
namespace Go.Proofs.Ytjpahpbofgfgfaa
open Go.RowKit
set_option linter.unusedVariables false
set_option linter.unusedSimpArgs false
/-- What Charge answers. -/
def chgA (zs : List Int) (C : Nat → Int) (T x : Int) : Int :=
  if ¬ (0 ≤ T ∧ T < (zs.length : Int)) then 6 else if ¬ lgIs x then 1 else if x > leftF zs C T.toNat then 33 else 0
def MtStep (n : Nat) (C D C' D' : Nat → Int) (T x E : Int) : Prop :=
  (E ≠ 0 ∧ C' = C ∧ D' = D) ∨ (E = 0 ∧ ∃ t : Nat, T = (t : Int) ∧ t < n ∧ C' = updI C t (C t + x) ∧ D' = updI D t (min (D t + x) 1099511627776))
theorem MtStep.inv {zs : List Int} {S A : Int} {C D C' D' : Nat → Int} {T x : Int} (h : MtStep zs.length C D C' D' T x (chgA zs C T x)) (hV : MtInv zs S A C D) : MtInv zs S A C' D' := by
  rcases h with ⟨_, rfl, rfl⟩ | ⟨h0, t, rfl, ht, rfl, rfl⟩
  · exact hV
  · unfold chgA at h0
    rw [if_neg (by omega)] at h0
    split at h0
    · omega
    · rename_i k1
      split at h0
      · omega
      · rename_i k2
        rw [Int.toNat_natCast] at k2
        have hx : lgIs x := Classical.not_not.1 k1
        have hx0 := hx.1
        obtain ⟨a, b, c, d⟩ := hV
        refine ⟨a, b, c, fun i hi => ?_⟩
        obtain ⟨d1, d2, d3, d4, d5⟩ := d i hi
        by_cases e : i = t
        · subst e
          unfold leftF at k2
          rw [updI_same, updI_same]
          omega
        · rw [updI_ne _ _ e, updI_ne _ _ e]
          exact ⟨d1, d2, d3, d4, d5⟩
/-- What Charge leaves. -/
def MtDone (B : Nat) (w w' : World) (b : Nat) (v : Value) (zs : List Int) (S A : Int) (C D : Nat → Int) (T x E : Int) : Prop :=
  ∃ C' D', MtStep zs.length C D C' D' T x E ∧ IsMt B w' b v zs S A C' D' ∧ Touch (· = b) w w'
section
variable {B n : Nat} {w w' : World} {b : Nat} {p v : Value} {zs : List Int} {S A : Int} {C D : Nat → Int}
set_option maxHeartbeats 1000000 in
theorem wdcharge_no (T x : Int) (w : World) (h : MtV B w p n) (hT : ¬ (0 ≤ T ∧ T < (n : Int))) : Calls Try.prog 30 #[p, .int .i64 T, .int .i64 x] w fun e w' => e = .returned (.int .i64 (if n = 0 then 7 else 6)) ∧ w' = w := by
  have HT := Lib.hid (wdtenants_v w h)
  have HH := Lib.hid (wdhas_v T w h)
  rw [decide_eq_false hT] at HH
  clear h hT
  by_cases h0 : n = 0
  · subst h0
    rw [if_pos rfl]
    go_enter Try.func30, Try.ntmps30
    go_wp2_with fail
    refine HT.out.mono ?_
    rintro e w1 ⟨rfl, rfl⟩
    go_wp2_with fail
    go_ret
    exact ⟨rfl, rfl⟩
  · rw [if_neg h0]
    have k0 : ((n : Int) == 0) = false := by rw [beq_eq_false_iff_ne]; omega
    clear h0
    go_enter Try.func30, Try.ntmps30
    go_wp2_with fail
    refine HT.out.mono ?_
    rintro e w1 ⟨rfl, rfl⟩
    go_wp2_with fail
    refine HH.out.mono ?_
    rintro e w1 ⟨rfl, rfl⟩
    go_wp2_with fail
    go_ret
    exact ⟨rfl, rfl⟩
set_option maxHeartbeats 4000000 in
theorem wdcharge_yes (t : Nat) (x : Int) (w : World) (h : IsMt B w b v zs S A C D) (hV : MtInv zs S A C D) (ht : t < zs.length) :
    Calls Try.prog 30 #[.pointer (some ⟨b, 0, none⟩), .int .i64 (t : Int), .int .i64 x] w fun e w' => e = .returned (.int .i64 (chgA zs C (t : Int) x)) ∧ MtDone B w w' b v zs S A C D (t : Int) x (chgA zs C (t : Int) x) := by
  have HT := Lib.hid (wdtenants_v w h.mtV)
  have HH := Lib.hid (wdhas_v (t : Int) w h.mtV)
  rw [decide_eq_true ⟨by omega, by omega⟩] at HH
  have HX := Lib.hid (wdnum_any x w)
  have HL := Lib.hid (wdleft_any t w h hV ht)
  have hE : chgA zs C (t : Int) x = if ¬ lgIs x then 1 else if x > leftF zs C t then 33 else 0 := by unfold chgA; rw [if_neg (by omega), Int.toNat_natCast]
  have k0 : ((zs.length : Int) == 0) = false := by rw [beq_eq_false_iff_ne]; omega
  have ht16 : t < 16 := by have := hV.2.2.1.2; omega
  have hI := hV.2.2.2 t ht
  obtain ⟨N, hN⟩ : ∃ N, zs.length = N := ⟨_, rfl⟩
  by_cases h1 : lgIs x
  · rw [decide_eq_true h1] at HX
    have n1 : ¬ ¬ lgIs x := fun h => h h1
    rw [if_neg n1] at hE
    by_cases h2 : x > leftF zs C t
    · rw [if_pos h2] at hE
      have HR : Hid (∀ m, MtDone B w (w.drewN m) b v zs S A C D (t : Int) x 33) := Lib.hid (fun m => ⟨C, D, Or.inl ⟨by omega, rfl, rfl⟩, h.drewN m, touch_drewN _ _ _⟩)
      rw [hE]
      generalize leftF zs C t = d at *
      rw [hN] at HT k0
      clear hE h hV hI h1 n1 hN
      go_enter Try.func30, Try.ntmps30
      go_wp2_with fail
      refine HT.out.mono ?_
      rintro e w1 ⟨rfl, rfl⟩
      go_wp2_with fail
      refine HH.out.mono ?_
      rintro e w1 ⟨rfl, rfl⟩
      go_wp2_with fail
      refine HX.out.mono ?_
      rintro e w1 ⟨rfl, rfl⟩
      go_wp2_with fail
      refine HL.out.mono ?_
      rintro e w2 ⟨rfl, m, rfl⟩
      go_wp2_with fail
      go_ret
      exact ⟨rfl, HR.out m⟩
    · rw [if_neg h2] at hE
      rw [hE]
      have hx1 := h1.1
      have hx2 := h1.2
      have hleft : leftF zs C t = zs.getD t 0 - C t := rfl
      obtain ⟨cs, hcs⟩ : ∃ cs, C t + x = cs := ⟨_, rfl⟩
      obtain ⟨ds, hds⟩ : ∃ ds, D t + x = ds := ⟨_, rfl⟩
      obtain ⟨M, hM⟩ : ∃ M, min ds 1099511627776 = M := ⟨_, rfl⟩
      have HCB : Hid (-9223372036854775808 ≤ cs ∧ cs ≤ 9223372036854775807) := Lib.hid (by omega)
      have HDB : Hid (-9223372036854775808 ≤ ds ∧ ds ≤ 9223372036854775807) := Lib.hid (by omega)
      have hw1 : IntKind.i64.wrap cs = cs := IntWalk.i64_in _ (by omega)
      have hw2 : IntKind.i64.wrap ds = ds := IntWalk.i64_in _ (by omega)
      have HR : Hid (∀ m, MtDone B w ((((w.drewN m).setCell ⟨b, 3 + t, none⟩ (.int .i64 cs)).drewN 1).setCell ⟨b, 19 + t, none⟩ (.int .i64 M)) b v zs S A C D (t : Int) x 0) := Lib.hid (fun m => by
        have a1 := (h.drewN m).setC ht16 cs
        have a2 := (a1.drewN 1).setD ht16 M
        refine ⟨_, _, Or.inr ⟨rfl, t, rfl, ht, rfl, rfl⟩, ?_, ?_⟩
        · rw [hcs, hds, hM]; exact a2
        · refine touch_cell ?_
          have := touch_cell (i := 3 + t) (v := .int .i64 cs) (touch_drewN (· = b) w m)
          exact ⟨this.os, this.tape, this.output, this.size, this.block⟩)
      have HC1 : Hid (∀ m, (w.drewN m).cell? ⟨b, 3 + t, none⟩ = some (.int .i64 (C t)) ∧ (w.drewN m).frozen? ⟨b, 3 + t, none⟩ = false) := Lib.hid (fun m => ⟨(h.drewN m).cC ht16, (h.drewN m).frozen _⟩)
      have HC2 : Hid (∀ m, ((w.drewN m).setCell ⟨b, 3 + t, none⟩ (.int .i64 cs)).cell? ⟨b, 19 + t, none⟩ = some (.int .i64 (D t)) ∧ ((w.drewN m).setCell ⟨b, 3 + t, none⟩ (.int .i64 cs)).frozen? ⟨b, 19 + t, none⟩ = false) := Lib.hid (fun m => ⟨((h.drewN m).setC ht16 cs).cD ht16, ((h.drewN m).setC ht16 cs).frozen _⟩)
      have ht0 : (0 : Int) ≤ (t : Int) := by omega
      have ht16i : (t : Int) < 16 := by omega
      have HCS := Lib.hid hcs
      have HDS := Lib.hid hds
      have HMM := Lib.hid hM
      rw [hN] at HT k0
      clear hE h hV n1 hN hcs hds hleft hI
      generalize leftF zs C t = d at *
      generalize C t = c at *
      generalize D t = dd at *
      go_enter Try.func30, Try.ntmps30
      go_wp2_with fail
      refine HT.out.mono ?_
      rintro e w1 ⟨rfl, rfl⟩
      go_wp2_with fail
      refine HH.out.mono ?_
      rintro e w1 ⟨rfl, rfl⟩
      go_wp2_with fail
      refine HX.out.mono ?_
      rintro e w1 ⟨rfl, rfl⟩
      go_wp2_with fail
      refine HL.out.mono ?_
      rintro e w2 ⟨rfl, m, rfl⟩
      obtain ⟨w3, hw3⟩ : ∃ w3, w1.drewN m = w3 := ⟨_, rfl⟩
      obtain ⟨w4, hw4⟩ : ∃ w4, w3.drewN 1 = w4 := ⟨_, rfl⟩
      have h14 : w1.drewN (m + 1) = w4 := by rw [← hw4, ← hw3]; rfl
      have HR2 := Lib.hid (HR.out (m + 1))
      have HC3 := Lib.hid (HC2.out (m + 1))
      have c1 := (HC1.out m).1
      obtain ⟨g0, g1⟩ := HC1.out (m + 1)
      rw [hw3] at c1 ⊢
      rw [h14] at HR2 HC3 g0 g1
      have HW4 := Lib.hid hw4
      clear HR HC1 HC2 hw3 hw4 h14
      go_wp2_with fail
      go_still_tail 11, (by kernel_rfl)
      change wpList _ _ _ _ _ (w3.drewN 1)
      rw [HW4.out]
      go_wp2_with fail
      rw [HCS.out]
      rw [show wrap64 cs = cs from IntWalk.wrap64_in _ HCB.out]
      obtain ⟨c5, f5⟩ := HC3.out
      clear c1 g0 g1
      generalize w4.setCell ⟨b, 3 + t, none⟩ (.int .i64 cs) = w5 at *
      go_still_tail 14, (by kernel_rfl)
      change wpList _ _ _ _ _ (w5.drewN 1)
      have f7 : (w5.drewN 1).cell? ⟨b, 19 + t, none⟩ = some (.int .i64 dd) := c5
      have f6 : (w5.drewN 1).frozen? ⟨b, 19 + t, none⟩ = false := f5
      rw [HDS.out]
      try rw [show wrap64 ds = ds from IntWalk.wrap64_in _ HDB.out]
      go_wp2_with fail
      go_ret
      exact ⟨rfl, HR2.out⟩
  · rw [if_pos h1] at hE
    have HR : Hid (MtDone B w w b v zs S A C D (t : Int) x 1) := Lib.hid ⟨C, D, Or.inl ⟨by omega, rfl, rfl⟩, h, Touch.refl _ _⟩
    rw [decide_eq_false h1] at HX
    rw [hE]
    rw [hN] at HT k0
    clear hE h hV hI h1 hN
    go_enter Try.func30, Try.ntmps30
    go_wp2_with fail
    refine HT.out.mono ?_
    rintro e w1 ⟨rfl, rfl⟩
    go_wp2_with fail
    refine HH.out.mono ?_
    rintro e w1 ⟨rfl, rfl⟩
    go_wp2_with fail
    refine HX.out.mono ?_
    rintro e w1 ⟨rfl, rfl⟩
    go_wp2_with fail
    go_ret
    exact ⟨rfl, HR.out⟩
end
end Go.Proofs.Ytjpahpbofgfgfaa

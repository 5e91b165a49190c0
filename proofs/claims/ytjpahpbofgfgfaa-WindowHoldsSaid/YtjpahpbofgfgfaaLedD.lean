/-
  LAYER 27 (package ledger): an account reserves, and releases.
-/
import Derived.Test.YtjpahpbofgfgfaaLedC
import Derived.Lib.MinMax
namespace Go.Proofs.Ytjpahpbofgfgfaa
open Go.RowKit
set_option linter.unusedVariables false
set_option linter.unusedSimpArgs false
def rsvE (l u x : Int) : Int := if ¬ lgIs x then 1 else if l < x then 33 else if l - u < x then 34 else 0
def relE (u x : Int) : Int := if x < 0 ∨ u < x then 1 else 0
/-- What is so, whatever is done. -/
def LgInv (n : Nat) (L U P : Nat → Int) : Prop := ∀ i, i < n → 0 ≤ U i ∧ U i ≤ P i ∧ P i ≤ L i ∧ L i ≤ 1099511627776
/-- What an act makes of an account, if it is not refused. -/
def ActP (w w' : World) (g n i : Nat) (L U P : Nat → Int) (d E : Int) : Prop :=
  (E ≠ 0 ∧ Acc w' g n L U P ∧ Touch (· = g) w w') ∨ (E = 0 ∧ Acc w' g n L (updI U i (U i + d)) (updI P i (max (P i) (U i + d))) ∧ Touch (· = g) w w')
section
variable {w w' : World} {b g n : Nat} {L U P : Nat → Int} {v : Value}
set_option maxHeartbeats 2000000 in
theorem acreserve_any (i : Nat) (x : Int) (w : World) (hA : Acc w g n L U P) (hi : i < n) (hV : LgInv n L U P) (hx : -9223372036854775808 ≤ x ∧ x ≤ 9223372036854775807) :
    Calls Try.prog 46 #[.pointer (some ⟨g, i * 3, none⟩), .int .i64 x] w fun e w' => e = .returned (.int .i64 (rsvE (L i) (U i) x)) ∧ ActP w w' g n i L U P x (rsvE (L i) (U i) x) := by
  have HN := Lib.hid (lgnum_any x w)
  obtain ⟨v1, v2, v3, v4⟩ := hV i hi
  obtain ⟨c0, c1, c2⟩ := hA.cells hi
  have HLF := Lib.hid (acleft_any g (i * 3) (L i) (U i) w c0 c1 (by omega))
  by_cases h1 : lgIs x
  · rw [decide_eq_true h1] at HN
    by_cases h2 : L i < x
    · have hE : rsvE (L i) (U i) x = 33 := by unfold rsvE; rw [if_neg (by simpa using h1), if_pos h2]
      have HR : Hid (ActP w w g n i L U P x 33) := Lib.hid (Or.inl ⟨by omega, hA, Touch.refl _ _⟩)
      rw [hE]
      have h2' : x > L i := h2
      clear hE h1 hV hA
      generalize L i = l at *
      generalize U i = u at *
      go_enter Try.func46, Try.ntmps46
      go_wp2_with fail
      refine HN.out.mono ?_
      rintro e w1 ⟨rfl, rfl⟩
      go_wp2_with fail
      go_ret
      exact ⟨rfl, HR.out⟩
    · by_cases h3 : L i - U i < x
      · have hE : rsvE (L i) (U i) x = 34 := by unfold rsvE; rw [if_neg (by simpa using h1), if_neg h2, if_pos h3]
        have HR : Hid (∀ m, ActP w (w.drewN m) g n i L U P x 34) := Lib.hid (fun m => Or.inl ⟨by omega, hA, touch_drewN _ _ _⟩)
        rw [hE]
        have h2' : ¬ x > L i := h2
        have h3' : x > L i - U i := h3
        clear hE h1 hV hA
        obtain ⟨d, hd⟩ : ∃ d, L i - U i = d := ⟨_, rfl⟩
        rw [hd] at HLF h3'
        clear hd
        generalize L i = l at *
        generalize U i = u at *
        go_enter Try.func46, Try.ntmps46
        go_wp2_with fail
        refine HN.out.mono ?_
        rintro e w1 ⟨rfl, rfl⟩
        go_wp2_with fail
        refine HLF.out.mono ?_
        rintro e w1 ⟨rfl, m, rfl⟩
        go_wp2_with fail
        go_ret
        exact ⟨rfl, HR.out _⟩
      · have hE : rsvE (L i) (U i) x = 0 := by unfold rsvE; rw [if_neg (by simpa using h1), if_neg h2, if_neg h3]
        have hx0 : 0 ≤ x := h1.1
        rw [hE]
        have h2' : ¬ x > L i := h2
        have h3' : ¬ x > L i - U i := h3
        obtain ⟨M, hM⟩ : ∃ M, max (P i) (U i + x) = M := ⟨_, rfl⟩
        have HR : Hid (∀ m k, ActP w ((((w.drewN m).setCell ⟨g, i * 3 + 1, none⟩ (.int .i64 (U i + x))).drewN k).setCell ⟨g, i * 3 + 2, none⟩ (.int .i64 M)) g n i L U P x 0) := Lib.hid (fun m k => Or.inr ⟨rfl, by
            rw [hM]
            have a1 := (Acc.set (w := w.drewN m) hA hi (U i + x)).2.1
            exact (Acc.set (w := (((w.drewN m).setCell ⟨g, i * 3 + 1, none⟩ (.int .i64 (U i + x))).drewN k)) a1 hi M).2.2, by
            refine touch_cell ?_
            have := touch_cell (i := i * 3 + 1) (v := .int .i64 (U i + x)) (touch_drewN (· = g) w m)
            exact ⟨this.os, this.tape, this.output, this.size, this.block⟩⟩)
        have f1 : ∀ m, (w.drewN m).frozen? ⟨g, i * 3 + 1, none⟩ = false := fun m => hA.frozen _
        have HK : Hid (∀ m, ((w.drewN m).setCell ⟨g, i * 3 + 1, none⟩ (.int .i64 (U i + x))).cell? ⟨g, i * 3 + 1, none⟩ = some (.int .i64 (U i + x)) ∧ ((w.drewN m).setCell ⟨g, i * 3 + 1, none⟩ (.int .i64 (U i + x))).cell? ⟨g, i * 3 + 2, none⟩ = some (.int .i64 (P i)) ∧ ((w.drewN m).setCell ⟨g, i * 3 + 1, none⟩ (.int .i64 (U i + x))).frozen? ⟨g, i * 3 + 2, none⟩ = false) := Lib.hid (fun m => by
          have a1 := (Acc.set (w := w.drewN m) hA hi (U i + x)).2.1
          obtain ⟨_, k1, k2⟩ := a1.cells hi
          rw [updI_same] at k1
          exact ⟨k1, k2, a1.frozen _⟩)
        have hwr : IntKind.i64.wrap (U i + x) = U i + x := IntWalk.i64_in _ (by omega)
        clear hE h1 hV hA
        obtain ⟨d, hd⟩ : ∃ d, L i - U i = d := ⟨_, rfl⟩
        rw [hd] at HLF h3'
        clear hd
        obtain ⟨s, hs⟩ : ∃ s, U i + x = s := ⟨_, rfl⟩
        rw [hs] at HR HK hwr hM
        have HS := Lib.hid hs
        clear hs
        generalize P i = p at *
        generalize L i = l at *
        have d0 : ∀ m, (w.drewN m).cell? ⟨g, i * 3, none⟩ = some (.int .i64 l) := fun m => c0
        have d1 : ∀ m, (w.drewN m).cell? ⟨g, i * 3 + 1, none⟩ = some (.int .i64 (U i)) := fun m => c1
        generalize U i = u at *
        go_enter Try.func46, Try.ntmps46
        go_wp2_with fail
        refine HN.out.mono ?_
        rintro e w1 ⟨rfl, rfl⟩
        go_wp2_with fail
        refine HLF.out.mono ?_
        rintro e w2 ⟨rfl, m, rfl⟩
        have e0 := d0 m
        have e1 := d1 m
        have g1 := f1 m
        have HR2 := Lib.hid (HR.out m)
        obtain ⟨k1, k2, k3⟩ := HK.out m
        clear HK HR f1 d0 d1 HLF
        generalize w1.drewN m = w3 at *
        go_wp2_with fail
        rw [HS.out]
        generalize w3.setCell ⟨g, i * 3 + 1, none⟩ (.int .i64 s) = w4 at *
        go_still_tail 12, (by kernel_rfl)
        change wpList _ _ _ _ _ (w4.drewN 1)
        go_wp2_with fail
        go_ret
        exact ⟨rfl, HR2.out _⟩
  · have hE : rsvE (L i) (U i) x = 1 := by unfold rsvE; rw [if_pos h1]
    have HR : Hid (ActP w w g n i L U P x 1) := Lib.hid (Or.inl ⟨by omega, hA, Touch.refl _ _⟩)
    rw [decide_eq_false h1] at HN
    rw [hE]
    clear hE h1 hV hA
    go_enter Try.func46, Try.ntmps46
    go_wp2_with fail
    refine HN.out.mono ?_
    rintro e w1 ⟨rfl, rfl⟩
    go_wp2_with fail
    go_ret
    exact ⟨rfl, HR.out⟩
theorem updI_id (F : Nat → Int) (i : Nat) : updI F i (F i) = F := by
  funext k
  unfold updI
  split
  · rename_i h; rw [h]
  · rfl
set_option maxHeartbeats 2000000 in
theorem acrelease_any (i : Nat) (x : Int) (w : World) (hA : Acc w g n L U P) (hi : i < n) (hV : LgInv n L U P) (hx : -9223372036854775808 ≤ x ∧ x ≤ 9223372036854775807) :
    Calls Try.prog 44 #[.pointer (some ⟨g, i * 3, none⟩), .int .i64 x] w fun e w' => e = .returned (.int .i64 (relE (U i) x)) ∧ ActP w w' g n i L U P (-x) (relE (U i) x) := by
  obtain ⟨v1, v2, v3, v4⟩ := hV i hi
  obtain ⟨c0, c1, c2⟩ := hA.cells hi
  by_cases h1 : x < 0
  · have hE : relE (U i) x = 1 := by unfold relE; rw [if_pos (Or.inl h1)]
    have HR : Hid (ActP w w g n i L U P (-x) 1) := Lib.hid (Or.inl ⟨by omega, hA, Touch.refl _ _⟩)
    rw [hE]
    clear hE hV hA
    generalize U i = u at *
    go_enter Try.func44, Try.ntmps44
    go_wp2_with fail
    go_ret
    exact ⟨rfl, HR.out⟩
  · by_cases h2 : U i < x
    · have hE : relE (U i) x = 1 := by unfold relE; rw [if_pos (Or.inr h2)]
      have HR : Hid (ActP w w g n i L U P (-x) 1) := Lib.hid (Or.inl ⟨by omega, hA, Touch.refl _ _⟩)
      rw [hE]
      have h2' : x > U i := h2
      clear hE hV hA
      generalize U i = u at *
      go_enter Try.func44, Try.ntmps44
      go_wp2_with fail
      go_ret
      exact ⟨rfl, HR.out⟩
    · have hE : relE (U i) x = 0 := by unfold relE; rw [if_neg (by omega)]
      have h2' : ¬ x > U i := h2
      have hwr : IntKind.i64.wrap (U i - x) = U i - x := IntWalk.i64_in _ (by omega)
      have f1 : w.frozen? ⟨g, i * 3 + 1, none⟩ = false := hA.frozen _
      have HR : Hid (ActP w (w.setCell ⟨g, i * 3 + 1, none⟩ (.int .i64 (U i - x))) g n i L U P (-x) 0) := Lib.hid (Or.inr ⟨rfl, by
        have e : U i + -x = U i - x := by omega
        have e2 : max (P i) (U i - x) = P i := by omega
        rw [e, e2, updI_id]
        exact (hA.set hi (U i - x)).2.1, touch_cell (Touch.refl _ _)⟩)
      rw [hE]
      clear hE hV hA
      generalize U i = u at *
      go_enter Try.func44, Try.ntmps44
      go_wp2_with fail
      go_ret
      exact ⟨rfl, HR.out⟩
/-! ### By a closure -/
theorem lgrsv_enters : ∀ args w, (callFunc 45 args).run Try.prog w = .ok (.enter 45 args) w := enters_of Try.func45 (by kernel_rfl) rfl
theorem lgrel_enters : ∀ args w, (callFunc 43 args).run Try.prog w = .ok (.enter 43 args) w := enters_of Try.func43 (by kernel_rfl) rfl
set_option maxHeartbeats 1000000 in
theorem lgrsv1_any (i c : Nat) (x : Int) (w : World) (hA : Acc w g n L U P) (hi : i < n) (hV : LgInv n L U P) (hx : -9223372036854775808 ≤ x ∧ x ≤ 9223372036854775807) (hc : w.cell? ⟨c, 0, none⟩ = some (.int .i64 x)) :
    Calls Try.prog 45 #[.pointer (some ⟨g, i * 3, none⟩), .pointer (some ⟨c, 0, none⟩)] w fun e w' => e = .returned (.int .i64 (rsvE (L i) (U i) x)) ∧ ActP w w' g n i L U P x (rsvE (L i) (U i) x) := by
  have H := Lib.hid (acreserve_any i x w hA hi hV hx)
  clear hA hV
  generalize rsvE (L i) (U i) x = E at *
  go_enter Try.func45, Try.ntmps45
  go_wp2_with fail
  refine H.out.mono ?_
  rintro e w1 ⟨rfl, h1⟩
  have H1 := Lib.hid h1
  clear h1
  go_wp2_with fail
  go_ret
  exact ⟨rfl, H1.out⟩
set_option maxHeartbeats 1000000 in
theorem lgrel1_any (i c : Nat) (x : Int) (w : World) (hA : Acc w g n L U P) (hi : i < n) (hV : LgInv n L U P) (hx : -9223372036854775808 ≤ x ∧ x ≤ 9223372036854775807) (hc : w.cell? ⟨c, 0, none⟩ = some (.int .i64 x)) :
    Calls Try.prog 43 #[.pointer (some ⟨g, i * 3, none⟩), .pointer (some ⟨c, 0, none⟩)] w fun e w' => e = .returned (.int .i64 (relE (U i) x)) ∧ ActP w w' g n i L U P (-x) (relE (U i) x) := by
  have H := Lib.hid (acrelease_any i x w hA hi hV hx)
  clear hA hV
  generalize relE (U i) x = E at *
  go_enter Try.func43, Try.ntmps43
  go_wp2_with fail
  refine H.out.mono ?_
  rintro e w1 ⟨rfl, h1⟩
  have H1 := Lib.hid h1
  clear h1
  go_wp2_with fail
  go_ret
  exact ⟨rfl, H1.out⟩
set_option maxHeartbeats 1000000 in
theorem lgchange_no (F : FuncId) (caps : Array Value) (T : Int) (w : World) (h : LgV w v n L U P) (hT : ¬ (0 ≤ T ∧ T < n)) :
    Calls Try.prog 42 #[v, .int .i64 T, .func (.func F) #[] caps] w fun e w' => e = .returned (.int .i64 (if n = 0 then 7 else 6)) ∧ w' = w := by
  have HT := Lib.hid (lgtenants_v w h)
  have HA := Lib.hid (lgaccount_none T w h hT)
  clear h hT
  by_cases h0 : n = 0
  · subst h0
    rw [if_pos rfl]
    go_enter Try.func42, Try.ntmps42
    go_wp2_with fail
    refine HT.out.mono ?_
    rintro e w1 ⟨rfl, rfl⟩
    go_wp2_with fail
    go_ret
    exact ⟨rfl, rfl⟩
  · rw [if_neg h0]
    have k0 : ((n : Int) == 0) = false := by rw [beq_eq_false_iff_ne]; omega
    clear h0
    go_enter Try.func42, Try.ntmps42
    go_wp2_with fail
    refine HT.out.mono ?_
    rintro e w1 ⟨rfl, rfl⟩
    go_wp2_with fail
    refine HA.out.mono ?_
    rintro e w1 ⟨rfl, rfl⟩
    go_wp2_with fail
    go_ret
    exact ⟨rfl, rfl⟩
set_option maxHeartbeats 1000000 in
theorem lgchange_yes (F : FuncId) (caps : Array Value) (t : Nat) (E : Int) (Q : World → Prop) (w : World) (h : IsLg w b g n L U P) (hT : t < n) (he : ∀ args w, (callFunc F args).run Try.prog w = .ok (.enter F args) w)
    (hF : Calls Try.prog F (#[.pointer (some ⟨g, t * 3, none⟩)] ++ caps) w fun e w' => e = .returned (.int .i64 E) ∧ Q w') :
    Calls Try.prog 42 #[.pointer (some ⟨b, 0, none⟩), .int .i64 (t : Int), .func (.func F) #[] caps] w fun e w' => e = .returned (.int .i64 E) ∧ Q w' := by
  have HT := Lib.hid (lgtenants_v w (Or.inr ⟨b, g, rfl, h⟩))
  have HA := Lib.hid (lgaccount_any t w h hT)
  have HF := Lib.hid hF
  have k0 : ((n : Int) == 0) = false := by rw [beq_eq_false_iff_ne]; omega
  clear h hT hF
  go_enter Try.func42, Try.ntmps42
  go_wp2_with fail
  refine HT.out.mono ?_
  rintro e w1 ⟨rfl, rfl⟩
  go_wp2_with fail
  refine HA.out.mono ?_
  rintro e w1 ⟨rfl, rfl⟩
  go_wp2_with fail
  refine HF.out.mono ?_
  rintro e w1 ⟨rfl, h1⟩
  have H1 := Lib.hid h1
  clear h1
  go_wp2_with fail
  go_ret
  exact ⟨rfl, H1.out⟩
end
end Go.Proofs.Ytjpahpbofgfgfaa

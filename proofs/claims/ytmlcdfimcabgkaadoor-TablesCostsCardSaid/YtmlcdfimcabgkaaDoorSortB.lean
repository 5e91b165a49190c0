/-
  THE WALKS OF THE LIBRARY's STABLE SORT (package slices), AT ROWS OF int: one by one into their places.
-/
import Derived.Test.YtmlcdfimcabgkaaDoorSort
namespace Go.Proofs.YtmlcdfimcabgkaaDoor
open Go.RowKit SymM
set_option linter.unusedVariables false
/-- All of the row are from 0 up to n. -/
def Rng (n : Nat) (d : Row) : Prop := ∀ k, k < n → 0 ≤ d k ∧ d k < (n : Int)
theorem Rng.pm {n a b : Nat} {d e : Row} (h : Rng n d) (p : Pm d e a b) (hb : b ≤ n) : Rng n e := fun k hk => by
  by_cases h1 : a ≤ k ∧ k < b
  · obtain ⟨k', h2, h3, h4⟩ := p.mem h1.1 h1.2
    rw [h4]
    exact h k' (by omega)
  · rw [p.out k h1]
    exact h k hk
def sgn (a b : Int) : Int := if a < b then -1 else if b < a then 1 else 0
/-- A function that compares two by their weights; I is what it reads. -/
structure CmpF (F : FuncId) (caps : Array Value) (g n : Nat) (wt : Int → Int) (I : World → Prop) : Prop where
  enter : ∀ args w, (callFunc F args).run Tryd.prog w = .ok (.enter F args) w
  keep : ∀ W W', I W → Touch (· = g) W W' → I W'
  cmp : ∀ W (x y : Int), I W → 0 ≤ x → x < n → 0 ≤ y → y < n → Calls Tryd.prog F (#[.int .i64 x, .int .i64 y] ++ caps) W fun e w' => e = .returned (.int .i64 (sgn (wt x) (wt y))) ∧ ∃ q, w' = W.drewN q
section
variable {F : FuncId} {caps : Array Value} {g n : Nat} {wt : Int → Int} {I : World → Prop}
theorem CmpF.at (h : CmpF F caps g n wt I) {W : World} (hI : I W) {d : Row} (hr : Rng n d) {i j : Nat} (hi : i < n) (hj : j < n) (x y : Int) (hx : d i = x) (hy : d j = y) :
    ∃ z, (z < 0 ↔ wt x < wt y) ∧ -1 ≤ z ∧ z ≤ 1 ∧ ∀ q, Calls Tryd.prog F (#[.int .i64 x, .int .i64 y] ++ caps) (W.drewN q) fun e w' => e = .returned (.int .i64 z) ∧ ∃ q', w' = (W.drewN q).drewN q' := by
  subst hx hy
  have h1 := hr i hi
  have h2 := hr j hj
  refine ⟨sgn (wt (d i)) (wt (d j)), ?_, ?_, ?_, fun q => h.cmp _ _ _ (h.keep _ _ hI (touch_drewN _ W q)) h1.1 h1.2 h2.1 h2.2⟩
  all_goals unfold sgn
  all_goals repeat' split
  all_goals omega
set_option maxRecDepth 100000 in
set_option maxHeartbeats 2000000 in
theorem ins_any (hC : CmpF F caps g n wt I) (a b : Nat) (d : Row) (w : World) (hR : RowD w g n d) (hI : I w) (hab : a ≤ b) (hb : b ≤ n) (hn : n ≤ 1000000) (hr : Rng n d) (hinc : ∀ i j, a ≤ i → i < j → j < b → d i < d j) :
    Calls Tryd.prog 73 #[.slice (some ⟨g, 0, none⟩) n n, .int .i64 (a : Int), .int .i64 (b : Int), .func (.func F) #[] caps] w fun e w' =>
      e = .returned (.tuple #[]) ∧ (∃ D, RowD w' g n D ∧ Pm d D a b ∧ Srt wt D a b) ∧ Touch (· = g) w w' := by
  have he := hC.enter
  have HR0 := Lib.hid hR
  have HI0 := Lib.hid hI
  have HC := Lib.hid hC
  have HRN := Lib.hid hr
  have HINC := Lib.hid hinc
  clear hR hI hC hr hinc
  go_enter Tryd.func73, Tryd.ntmps73
  go_wp2_with fail
  go_loopw [8] (fun vi wr => ∃ (i : Nat) (D : Row), vi = .int .i64 i ∧ a < i ∧ i ≤ b + 1 ∧ RowD wr g n D ∧ Pm d D a (min i b) ∧ Srt wt D a (min i b) ∧ Touch (· = g) w wr) (fun vi _ => b + 1 - (intOf vi).toNat)
  case atStart => exact ⟨a + 1, d, by go_num, by omega, by omega, HR0.out, Pm.refl _ _ _, Srt.one _ _ (by omega), Touch.refl _ w⟩
  case round =>
    obtain ⟨i, D, rfl, hai, hib, hR, hP, hS, hT⟩ := hrel
    have HR := Lib.hid hR
    have HP := Lib.hid hP
    have HS := Lib.hid hS
    have HT := Lib.hid hT
    clear hR hP hS hT
    by_cases hi : i < b
    · have hi2 : (i : Int) < (b : Int) := by omega
      have hlow : Hid (Low D a i (i + 1)) := Lib.hid (fun x y hx hxi hy hyi => by
        have hP := HP.out
        rw [Nat.min_eq_left (by omega)] at hP
        obtain rfl : y = i := by omega
        obtain ⟨k', h2, h3, h4⟩ := hP.mem hx (by omega)
        rw [h4, hP.out y (by omega)]
        exact HINC.out k' y h2 (by omega) hi)
      have hD : Hid (Rng n D) := Lib.hid (HRN.out.pm HP.out (by omega))
      have hSi : Hid (Srt wt D a i) := Lib.hid (by have := HS.out; rw [Nat.min_eq_left (by omega)] at this; exact this)
      go_wp2_with fail
      go_loopw [9] (fun vj wr2 => ∃ (j : Nat), vj = .int .i64 j ∧ a ≤ j ∧ j ≤ i ∧ RowD wr2 g n (rot D j i (i + 1)) ∧ (j = i ∨ wt (D i) < wt (D j)) ∧ Touch (· = g) w wr2) (fun vj _ => (intOf vj).toNat)
      case atStart => exact ⟨i, rfl, by omega, Nat.le_refl _, by rw [rot_none']; exact HR.out, Or.inl rfl, HT.out⟩
      case round =>
        obtain ⟨j, rfl, haj, hji, hR2, hE, hT2⟩ := hrel
        have HR2 := Lib.hid hR2
        have HE := Lib.hid hE
        have HT2 := Lib.hid hT2
        clear hR2 hE hT2
        have hend : (j = a ∨ ¬ wt (D i) < wt (D (j - 1))) → ∀ q, ∃ (i' : Nat) (D' : Row), Value.int .i64 ((i : Int) + 1) = .int .i64 i' ∧ a < i' ∧ i' ≤ b + 1 ∧ RowD (wr.drewN q) g n D' ∧ Pm d D' a (min i' b) ∧ Srt wt D' a (min i' b) ∧ Touch (· = g) w (wr.drewN q) := fun h q =>
          ⟨i + 1, rot D j i (i + 1), by go_num, by omega, by omega, HR2.out.drewN q, by
            rw [Nat.min_eq_left (by omega)]
            have hP := HP.out
            rw [Nat.min_eq_left (by omega)] at hP
            exact (hP.wide (Nat.le_refl _) (by omega) (by omega)).trans ((rot_pm D hji (by omega)).wide haj (by omega) (Nat.le_refl _)), by
            rw [Nat.min_eq_left (by omega)]
            exact cut_last hSi.out hlow.out haj hji h HE.out, touch_drew HT2.out q⟩
        have HEND := Lib.hid hend
        clear hend
        by_cases hja : a < j
        · have hja2 : (a : Int) < (j : Int) := by omega
          obtain ⟨j1, hj1⟩ : ∃ j1, j = j1 + 1 := ⟨j - 1, by omega⟩
          have hj2 : (j : Int) - 1 = (j1 : Int) := by omega
          have hjn : j < n := by omega
          have hjn2 : (j : Int) < (n : Int) := by omega
          have hj1n : j1 < n := by omega
          have hj1n2 : (j1 : Int) < (n : Int) := by omega
          obtain ⟨c1, f1⟩ := HR2.out.cell hjn
          obtain ⟨c2, f2⟩ := HR2.out.cell hj1n
          have ex : rot D j i (i + 1) j = D i := by rw [rot_p2 D (Nat.le_refl _) (by omega)]; congr 1; omega
          have ey : rot D j i (i + 1) j1 = D j1 := rot_p1 D (by omega)
          obtain ⟨x, hx⟩ : ∃ x, rot D j i (i + 1) j = x := ⟨_, rfl⟩
          obtain ⟨y, hy⟩ : ∃ y, rot D j i (i + 1) j1 = y := ⟨_, rfl⟩
          have hrr : Rng n (rot D j i (i + 1)) := hD.out.pm (rot_pm D hji (by omega)) (by omega)
          obtain ⟨z, hz, hz1, hz2, hcall⟩ := HC.out.at (HC.out.keep _ _ HI0.out HT2.out) hrr hjn hj1n x y hx hy
          rw [hx] at c1
          rw [hy] at c2
          have HX := Lib.hid hx
          have HY := Lib.hid hy
          have HCALL := Lib.hid hcall
          have HEX : Hid (x = D i) := Lib.hid (by rw [← hx]; exact ex)
          have HEY : Hid (y = D j1) := Lib.hid (by rw [← hy]; exact ey)
          have HJ1 := Lib.hid hj1
          clear hx hy ex ey hcall hrr hj1
          by_cases hlt : wt x < wt y
          · have hz0 : z < 0 := hz.2 hlt
            have HLT := Lib.hid hlt
            clear hlt hz
            go_wp2_with fail
            go_quiet ((exact Calls.quiet_of (HCALL.out _)))
            go_wp2_with fail
            go_region
            go_wp2_with fail
            go_roundw
            case rel => exact ⟨j1, by go_num, by have := HJ1.out; omega, by have := HJ1.out; omega, by
              have := HJ1.out
              subst this
              rw [← rot_down D (show j1 < i by omega)]
              exact (HR2.out.drewN _).swap hjn hj1n _ _ HY.out.symm HX.out.symm, Or.inr (by rw [← HEX.out, ← HEY.out]; exact HLT.out), touch_swap (touch_drew HT2.out _) _ _⟩
            case measure => have := HJ1.out; simp [intOf]; omega
          · have hz0 : ¬ z < 0 := fun h => hlt (hz.1 h)
            have HLT := Lib.hid hlt
            clear hlt hz
            go_wp2_with fail
            go_quiet ((exact Calls.quiet_of (HCALL.out _)))
            go_wp2_with fail
            go_roundw
            case rel => exact HEND.out (Or.inr (by rw [show j - 1 = j1 by have := HJ1.out; omega, ← HEX.out, ← HEY.out]; exact HLT.out)) _
            case measure => simp [intOf]; omega
        · have hd : decide ((a : Int) < (j : Int)) = false := by simp only [decide_eq_false_iff_not]; omega
          go_wp2_with fail
          go_quiet (fail)
          go_wp2_with fail
          go_roundw
          case rel => exact HEND.out (Or.inl (by omega)) _
          case measure => simp [intOf]; omega
    · have hi2 : ¬ (i : Int) < (b : Int) := by omega
      go_wp2_with fail
      go_end0
      refine ⟨rfl, ⟨D, HR.out, ?_, ?_⟩, HT.out⟩
      · have := HP.out; rw [Nat.min_eq_right (by omega)] at this; exact this
      · have := HS.out; rw [Nat.min_eq_right (by omega)] at this; exact this
end
end Go.Proofs.YtmlcdfimcabgkaaDoor

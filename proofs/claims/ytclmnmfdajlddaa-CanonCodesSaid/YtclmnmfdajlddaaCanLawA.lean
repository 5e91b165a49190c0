/-
  LAYER 10's STATEMENTS: what each of them holds besides (three codes); the document's Whole; CanonNil, CanonApart.
-/
import Derived.Test.YtclmnmfdajlddaaCanD
import Derived.Test.YtclmnmfdajlddaaLenShr
import Derived.Test.YtclmnmfdajlddaaOpen
namespace Go.Proofs.Ytclmnmfdajlddaa
open Go.RowKit CanM HufM BitM
set_option linter.unusedVariables false
theorem whole212 : WholeP [2, 1, 2] := ⟨by intro z hz; simp at hz; omega, by decide⟩
theorem not222 : ¬ WholeP [2, 2, 2] := fun h => absurd h.2 (by decide)
theorem not111 : ¬ WholeP [1, 1, 1] := fun h => absurd h.2 (by decide)
theorem cod212 : cod [2, 1, 2] (ln [2, 1, 2] 2, 2) = 3 ∧ ln [2, 1, 2] 2 = 2 := by decide
instance (l : List Int) (x : Tr) (q : List Bool) : Decidable (CanM.Begins l x q) := by unfold CanM.Begins; exact inferInstance
theorem get212 {x e : Int} {p p' : Nat} (h : GetP [2, 1, 2] ((bitsOf [176]).drop 0) p x e p') : x = 0 ∧ e = 0 := by
  rcases h with ⟨i, hi, hb, h1, h2, _⟩ | ⟨h1, _⟩
  · refine ⟨?_, h2⟩
    have hi : i < 3 := hi
    rcases (show i = 0 ∨ i = 1 ∨ i = 2 by omega) with rfl | rfl | rfl
    · exact h1
    · exact absurd hb (by decide)
    · exact absurd hb (by decide)
  · exact absurd (show CanM.Begins [2, 1, 2] (ln [2, 1, 2] 0, 0) ((bitsOf [176]).drop 0) by decide) (h1 0 (by decide))
set_option maxRecDepth 100000 in
set_option maxHeartbeats 2000000 in
theorem canThree_any (w : World) : Calls Try.prog 27 #[] w fun e w' => e = .returned (.bool true) ∧ Below w.heap.size w w' := by
  go_enter Try.func27, Try.ntmps27
  go_wp2_with fail
  refine (new_yes _ [2, 1, 2] _ (by exact ints_lit w 2 1 2) (by decide) (by decide) whole212).mono ?_
  rintro e w1 ⟨rfl, hC, hB⟩
  have hb1 : w.heap.size < (w.alloc (.cells #[.int .i64 2, .int .i64 1, .int .i64 2] 3)).heap.size := by show _ < (w.heap.push _).size; simp
  obtain ⟨c, hc⟩ : ∃ c, (w.alloc (.cells #[.int .i64 2, .int .i64 1, .int .i64 2] 3)).heap.size = c := ⟨_, rfl⟩
  have HB := Lib.hid (((Below.refl w.heap.size w).alloc (Nat.le_refl _) _).trans (hB.mono (by simp)))
  rw [hc] at hC ⊢
  have HC := Lib.hid hC
  have HCS : Hid (c < w1.heap.size) := Lib.hid (by obtain ⟨F, k, _⟩ := hC; exact (Array.getElem?_eq_some_iff.1 k).1)
  have HCW : Hid (w.heap.size < c) := Lib.hid (by rw [← hc]; exact hb1)
  clear hB hC hc hb1
  go_wp2_with fail
  refine (of_yes c [2, 1, 2] 2 w1 HC.out (fun z hz => whole212.1 z hz) (by decide) (by decide)).mono ?_
  rintro e w2 ⟨rfl, n, hw2⟩
  rw [cod212.1, cod212.2]
  have HC2 : Hid (IsCode w2 c [2, 1, 2]) := Lib.hid (by rw [hw2]; exact HC.out.other (touch_drewN (fun _ => False) _ n) (fun hf => hf))
  have HB2 : Hid (Below w.heap.size w w2) := Lib.hid (by rw [hw2]; exact HB.out.trans (below_drewN _ n |>.mono HB.out.size))
  have HCS2 : Hid (c < w2.heap.size) := Lib.hid (by rw [hw2]; exact HCS.out)
  clear hw2
  go_wp2_with fail
  refine (new_table _ [2, 2, 2] _ (by exact ints_lit w2 2 2 2) (by decide) (by decide) not222).mono ?_
  rintro e w3 ⟨rfl, hw3⟩
  have hb3 : Below w2.heap.size w2 w3 := by rw [hw3]; exact (Below.refl _ _).alloc (Nat.le_refl _) _
  have HC3 : Hid (IsCode w3 c [2, 1, 2]) := Lib.hid (HC2.out.other (Touch.ofBelow (S := fun _ => False) hb3) (fun h => h))
  have HB3 : Hid (Below w.heap.size w w3) := Lib.hid (HB2.out.trans (hb3.mono HB2.out.size))
  have HCS3 : Hid (c < w3.heap.size) := Lib.hid (Nat.lt_of_lt_of_le HCS2.out hb3.size)
  clear hw3 hb3
  go_wp2_with fail
  refine (new_table _ [1, 1, 1] _ (by exact ints_lit w3 1 1 1) (by decide) (by decide) not111).mono ?_
  rintro e w4 ⟨rfl, hw4⟩
  have hb4 : Below w3.heap.size w3 w4 := by rw [hw4]; exact (Below.refl _ _).alloc (Nat.le_refl _) _
  have HC4 : Hid (IsCode w4 c [2, 1, 2]) := Lib.hid (HC3.out.other (Touch.ofBelow (S := fun _ => False) hb4) (fun h => h))
  have HB4 : Hid (Below w.heap.size w w4) := Lib.hid (HB3.out.trans (hb4.mono HB3.out.size))
  have HCS4 : Hid (c < w4.heap.size) := Lib.hid (Nat.lt_of_lt_of_le HCS3.out hb4.size)
  clear hw4 hb4
  go_wp2_with fail
  refine (newReader_any _ w4 (by show 1 ≤ maxLen; decide)).mono ?_
  rintro e w5 ⟨b, v5, rfl, hr5, hb5, hf5⟩
  have HC5 : Hid (IsCode w5 c [2, 1, 2]) := Lib.hid (HC4.out.other (Touch.ofBelow (S := fun _ => False) hb5) (fun h => h))
  have HB5 : Hid (Below w.heap.size w w5) := Lib.hid (HB4.out.trans (hb5.mono HB4.out.size))
  have HR5 : Hid (IsReader w5 b v5 [176] 0 0 0) := Lib.hid hr5
  have HF5 : Hid (w4.heap.size ≤ b) := Lib.hid (hf5 b (Or.inl rfl))
  clear hr5 hb5 hf5
  go_wp2_with fail
  refine (cget_any c [2, 1, 2] b v5 [176] 0 0 0 w5 HC5.out (by decide) (by decide) whole212 HR5.out (by decide) (by have h1 := HCS4.out; have h2 := HF5.out; omega)).mono ?_
  rintro e w6 ⟨x, er, p', rfl, hP, _, hT⟩
  obtain ⟨rfl, rfl⟩ := get212 hP
  have HC6 : Hid (IsCode w6 c [2, 1, 2]) := Lib.hid (HC5.out.other hT (by have h1 := HCS4.out; have h2 := HF5.out; intro e; omega))
  have HB6 : Hid (Below w.heap.size w w6) := Lib.hid (HB5.out.trans (hT.below HB5.out.size (fun i hi => by have h1 := HCW.out; have h2 := HCS4.out; have h3 := HF5.out; omega)))
  clear hP hT
  have HSZ := Lib.hid (csize_any c [2, 1, 2] w6 HC6.out)
  go_wp2_with (refine HSZ.out.mono ?_; rintro e w7 ⟨rfl, rfl⟩)
  go_ret
  exact ⟨rfl, HB6.out⟩
set_option maxRecDepth 100000 in
set_option maxHeartbeats 2000000 in
theorem canonNil.walk (symbol : Int) (w : World) (_ : (Lit.int .i64 symbol).wf = true) :
    Calls Try.prog 14 #[.int .i64 symbol] w fun e w' => e = .returned (.bool true) ∧ Below w.heap.size w w' := by
  go_enter Try.func14, Try.ntmps14
  go_wp2_with fail
  refine (new_yes _ [2, 1, 2] _ (by exact ints_lit w 2 1 2) (by decide) (by decide) whole212).mono ?_
  rintro e w1 ⟨rfl, hC, hB⟩
  obtain ⟨c, hc⟩ : ∃ c, (w.alloc (.cells #[.int .i64 2, .int .i64 1, .int .i64 2] 3)).heap.size = c := ⟨_, rfl⟩
  have HB := Lib.hid (((Below.refl w.heap.size w).alloc (Nat.le_refl _) _).trans (hB.mono (by simp)))
  rw [hc] at hC ⊢
  have HC := Lib.hid hC
  clear hB hC hc
  go_wp2_with fail
  refine (of_nil _ _).mono ?_
  rintro e w2 ⟨rfl, rfl⟩
  go_wp2_with fail
  refine (newReader_any _ w2 (by show 1 ≤ maxLen; decide)).mono ?_
  rintro e w3 ⟨b, v3, rfl, _, hb3, _⟩
  have HC3 : Hid (IsCode w3 c [2, 1, 2]) := Lib.hid (HC.out.other (Touch.ofBelow (S := fun _ => False) hb3) (fun h => h))
  have HB3 : Hid (Below w.heap.size w w3) := Lib.hid (HB.out.trans (hb3.mono HB.out.size))
  clear hb3
  go_wp2_with fail
  refine (cget_none _ _).mono ?_
  rintro e w4 ⟨rfl, rfl⟩
  go_wp2_with fail
  refine (cget_nil c [2, 1, 2] _ HC3.out (by decide)).mono ?_
  rintro e w5 ⟨rfl, rfl⟩
  go_wp2_with fail
  refine (csize_nil _).mono ?_
  rintro e w6 ⟨rfl, rfl⟩
  go_wp2_with fail
  refine (newWriter_any w6).mono ?_
  rintro e w7 ⟨rfl, _, hb7⟩
  have HB7 : Hid (Below w.heap.size w w7) := Lib.hid (HB3.out.trans (hb7.mono HB3.out.size))
  clear hb7
  go_wp2_with fail
  refine (cput_none _ _ _).mono ?_
  rintro e w8 ⟨rfl, rfl⟩
  go_wp2_with fail
  refine (cput_nil _ _ _).mono ?_
  rintro e w9 ⟨rfl, rfl⟩
  go_wp2_with fail
  refine (canThree_any w9).mono ?_
  rintro e w10 ⟨rfl, hb10⟩
  have HB10 : Hid (Below w.heap.size w w10) := Lib.hid (HB7.out.trans (hb10.mono HB7.out.size))
  clear hb10
  go_wp2_with fail
  go_ret
  exact ⟨rfl, HB10.out⟩
/-! ### Sizes and whole codes -/
def SizeP (n : Nat) : Prop := 3 ≤ n ∧ n ≤ 258
instance (n : Nat) : Decidable (SizeP n) := by unfold SizeP; exact inferInstance
set_option maxHeartbeats 1000000 in
theorem csz_any (v : Value) (zs : List Int) (r : Bool) (w : World) (hv : IsInts w v zs) (hz : zs.length ≤ 9223372036854775807) (hr : r = true ↔ SizeP zs.length) :
    Calls Try.prog 29 #[v] w fun e w' => e = .returned (.bool r) ∧ w' = w := by
  obtain ⟨a, cap, rfl, _⟩ := hv
  generalize zs.length = N at *
  by_cases h3 : 3 ≤ N
  · have h3i : (3 : Int) ≤ N := by omega
    by_cases h4 : N ≤ 258
    · have h4i : (N : Int) ≤ 258 := by omega
      obtain rfl : r = true := hr.2 ⟨h3, h4⟩
      clear hr
      go_enter Try.func29, Try.ntmps29
      go_wp2_with fail
      go_ret
      exact ⟨rfl, rfl⟩
    · have h4i : ¬ (N : Int) ≤ 258 := by omega
      obtain rfl : r = false := by rw [Bool.eq_false_iff, Ne, hr]; exact fun h => h4 h.2
      clear hr
      go_enter Try.func29, Try.ntmps29
      go_wp2_with fail
      go_ret
      exact ⟨rfl, rfl⟩
  · have h3i : ¬ (3 : Int) ≤ N := by omega
    obtain rfl : r = false := by rw [Bool.eq_false_iff, Ne, hr]; exact fun h => h3 h.1
    clear hr
    go_enter Try.func29, Try.ntmps29
    go_wp2_with fail
    go_ret
    exact ⟨rfl, rfl⟩
set_option maxRecDepth 100000 in
set_option maxHeartbeats 1000000 in
theorem rWhole_any (v : Value) (zs : List Int) (r : Bool) (w : World) (hv : IsInts w v zs) (hz : zs.length ≤ 258) (hr : r = true ↔ WholeP zs) :
    Calls Try.prog 30 #[v] w fun e w' => e = .returned (.bool r) ∧ w' = w := by
  have HV := Lib.hid hv
  have HR := Lib.hid hr
  clear hr
  by_cases hw : Within 1 20 zs
  · have HA := Lib.hid (may_any v zs 1 20 true w HV.out ⟨fun _ => hw, fun _ => rfl⟩ (by omega))
    have HS := Lib.hid (rShare_any v zs w HV.out (by omega) (fun z hz => by have := hw z hz; omega))
    have hsb : shr zs ≤ 1048576 * 258 := Nat.le_trans (shr_bound zs) (Nat.mul_le_mul_left _ hz)
    have HW := Lib.hid hw
    clear hw
    by_cases hs : shr zs = 1048576
    · obtain rfl : r = true := HR.out.2 ⟨HW.out, hs⟩
      have hb : ((shr zs : Int) == 1048576) = true := by rw [beq_iff_eq]; omega
      generalize shr zs = T at *
      clear hs
      go_enter Try.func30, Try.ntmps30
      go_wp2_with fail
      refine HA.out.mono ?_
      rintro e w1 ⟨rfl, rfl⟩
      go_wp2_with fail
      refine HS.out.mono ?_
      rintro e w2 ⟨rfl, rfl⟩
      go_wp2_with fail
      go_ret
      exact ⟨rfl, rfl⟩
    · obtain rfl : r = false := by rw [Bool.eq_false_iff, Ne, HR.out]; exact fun h => hs h.2
      have hb : ((shr zs : Int) == 1048576) = false := by rw [beq_eq_false_iff_ne]; omega
      generalize shr zs = T at *
      clear hs
      go_enter Try.func30, Try.ntmps30
      go_wp2_with fail
      refine HA.out.mono ?_
      rintro e w1 ⟨rfl, rfl⟩
      go_wp2_with fail
      refine HS.out.mono ?_
      rintro e w2 ⟨rfl, rfl⟩
      go_wp2_with fail
      go_ret
      exact ⟨rfl, rfl⟩
  · obtain rfl : r = false := by rw [Bool.eq_false_iff, Ne, HR.out]; exact fun h => hw h.1
    have HA := Lib.hid (may_any v zs 1 20 false w HV.out ⟨fun h => (by cases h), fun h => absurd h hw⟩ (by omega))
    clear hw
    go_enter Try.func30, Try.ntmps30
    go_wp2_with fail
    refine HA.out.mono ?_
    rintro e w1 ⟨rfl, rfl⟩
    go_wp2_with fail
    go_ret
    exact ⟨rfl, rfl⟩
end Go.Proofs.Ytclmnmfdajlddaa

/-
  LAYER 12's STATEMENTS: TablesSame.
-/
import Derived.Test.YtmlcdfimcabgkaaDoorOpenCh
import Derived.Test.YtmlcdfimcabgkaaDoorTabH
import Derived.Deep.Cut
namespace Go.Proofs.YtmlcdfimcabgkaaDoor
open Go.RowKit TabM FreqM HufM
set_option linter.unusedVariables false
set_option maxRecDepth 100000 in
set_option maxHeartbeats 2000000 in
theorem tablesSame.far (aL aP bL bP : Option Addr) (M1 M2 M3 M4 cL cP dL dP : Nat) (w : World) (hB : Bnds w) (h : 8 < M1 ∨ 8 < M3 ∨ 50 < M2 ∨ 50 < M4) :
    Calls Tryd.prog 7 #[.agg #[.slice aL M1 cL, .slice aP M2 cP], .agg #[.slice bL M3 dL, .slice bP M4 dP]] w fun e w' => e = .returned (.bool true) ∧ Below w.heap.size w w' := by
  have hb := ((Below.refl w.heap.size w).alloc (Nat.le_refl _) (.cells #[.slice aL M1 cL, .slice aP M2 cP] 35)).alloc (by simp) (.cells #[.slice bL M3 dL, .slice bP M4 dP] 35)
  have H3 := Lib.hid (tabThree_any _ (hB.below hb))
  have HB1 := Lib.hid hb
  clear hb hB
  by_cases h0 : 8 < M1
  · have h0i : (8 : Int) < (M1 : Int) := by omega
    clear h
    go_enter Tryd.func7, Tryd.ntmps7
    go_wp2_with fail
    refine H3.out.mono ?_
    rintro e w9 ⟨rfl, hb9⟩
    have HB9 := Lib.hid (HB1.out.trans (hb9.mono HB1.out.size))
    clear hb9
    go_wp2_with fail
    go_ret
    exact ⟨rfl, HB9.out⟩
  · have h0i : ¬ (8 : Int) < (M1 : Int) := by omega
    by_cases h1 : 8 < M3
    · have h1i : (8 : Int) < (M3 : Int) := by omega
      clear h
      go_enter Tryd.func7, Tryd.ntmps7
      go_wp2_with fail
      refine H3.out.mono ?_
      rintro e w9 ⟨rfl, hb9⟩
      have HB9 := Lib.hid (HB1.out.trans (hb9.mono HB1.out.size))
      clear hb9
      go_wp2_with fail
      go_ret
      exact ⟨rfl, HB9.out⟩
    · have h1i : ¬ (8 : Int) < (M3 : Int) := by omega
      by_cases h2 : 50 < M2
      · have h2i : (50 : Int) < (M2 : Int) := by omega
        clear h
        go_enter Tryd.func7, Tryd.ntmps7
        go_wp2_with fail
        refine H3.out.mono ?_
        rintro e w9 ⟨rfl, hb9⟩
        have HB9 := Lib.hid (HB1.out.trans (hb9.mono HB1.out.size))
        clear hb9
        go_wp2_with fail
        go_ret
        exact ⟨rfl, HB9.out⟩
      · have h2i : ¬ (50 : Int) < (M2 : Int) := by omega
        by_cases h3 : 50 < M4
        · have h3i : (50 : Int) < (M4 : Int) := by omega
          clear h
          go_enter Tryd.func7, Tryd.ntmps7
          go_wp2_with fail
          refine H3.out.mono ?_
          rintro e w9 ⟨rfl, hb9⟩
          have HB9 := Lib.hid (HB1.out.trans (hb9.mono HB1.out.size))
          clear hb9
          go_wp2_with fail
          go_ret
          exact ⟨rfl, HB9.out⟩
        · have h3i : ¬ (50 : Int) < (M4 : Int) := by omega
          exact absurd h (by omega)
set_option maxRecDepth 100000 in
set_option maxHeartbeats 8000000 in
theorem tablesSame.good (aL aP bL bP : Option Addr) (M1 M2 M3 M4 cL cP dL dP : Nat) (gs hs : List (List Int)) (ps qs : List Int) (w : World) (hB : Bnds w) (k1 : ChIs w (.slice aL M1 cL) (.slice aP M2 cP) gs ps) (k2 : ChIs w (.slice bL M3 dL) (.slice bP M4 dP) hs qs)
    (h1 : M1 ≤ 8) (h2 : M3 ≤ 8) (h3 : M2 ≤ 50) (h4 : M4 ≤ 50) :
    Calls Tryd.prog 7 #[.agg #[.slice aL M1 cL, .slice aP M2 cP], .agg #[.slice bL M3 dL, .slice bP M4 dP]] w fun e w' => e = .returned (.bool true) ∧ Below w.heap.size w w' := by
  have hb := ((Below.refl w.heap.size w).alloc (Nat.le_refl _) (.cells #[.slice aL M1 cL, .slice aP M2 cP] 35)).alloc (by simp) (.cells #[.slice bL M3 dL, .slice bP M4 dP] 35)
  have H3 := Lib.hid (fun W hW => tabThree_any W hW)
  have hg1 := heap_alloc_new w (.cells #[.slice aL M1 cL, .slice aP M2 cP] 35)
  have hg2 := heap_alloc_new (w.alloc (.cells #[.slice aL M1 cL, .slice aP M2 cP] 35)) (.cells #[.slice bL M3 dL, .slice bP M4 dP] 35)
  have hg1' := (alloc_old (w := w.alloc (.cells #[.slice aL M1 cL, .slice aP M2 cP] 35)) (o := .cells #[.slice bL M3 dL, .slice bP M4 dP] 35) (k := w.heap.size) (by simp)).trans hg1
  have s1 : (w.alloc (.cells #[.slice aL M1 cL, .slice aP M2 cP] 35)).heap.size = w.heap.size + 1 := by simp
  rw [s1] at hg2
  have K1 := Lib.hid (k1.below hb)
  have K2 := Lib.hid (k2.below hb)
  have HBN := Lib.hid (hB.below hb)
  have HB1 := Lib.hid hb
  have h1i : ¬ (8 : Int) < (M1 : Int) := by omega
  have h2i : ¬ (8 : Int) < (M3 : Int) := by omega
  have h3i : ¬ (50 : Int) < (M2 : Int) := by omega
  have h4i : ¬ (50 : Int) < (M4 : Int) := by omega
  obtain ⟨r, hr⟩ : ∃ r : Bool, r = true ↔ gs = hs ∧ ps = qs := ⟨decide (gs = hs ∧ ps = qs), by simp⟩
  have HR := Lib.hid hr
  have z1 : (r == r) = true := by simp
  have HRR : Hid (true = true ↔ gs = gs ∧ ps = ps) := Lib.hid ⟨fun _ => ⟨rfl, rfl⟩, fun _ => rfl⟩
  clear hb hB k1 k2 hg1 s1 hr
  go_enter Tryd.func7, Tryd.ntmps7
  go_upto_region 3 with fail
  generalize (w.alloc (.cells #[.slice aL M1 cL, .slice aP M2 cP] 35)).alloc (.cells #[.slice bL M3 dL, .slice bP M4 dP] 35) = W at *
  generalize hG : w.heap.size = G at *
  have hlt1 : G < W.heap.size := (Array.getElem?_eq_some_iff.1 hg1').1
  have hlt2 : G + 1 < W.heap.size := (Array.getElem?_eq_some_iff.1 hg2).1
  have q0 : ∀ sb : Beneath W.heap.size W, sb.val.cell? ⟨G, 0, none⟩ = some (.slice aL M1 cL) := fun sb => Beneath.cell (by rw [cell_of_row _ _ _ _ _ _ hg1']; rfl) hlt1 sb
  have q1 : ∀ sb : Beneath W.heap.size W, sb.val.cell? ⟨G, 1, none⟩ = some (.slice aP M2 cP) := fun sb => Beneath.cell (by rw [cell_of_row _ _ _ _ _ _ hg1']; rfl) hlt1 sb
  have q2 : ∀ sb : Beneath W.heap.size W, sb.val.cell? ⟨G + 1, 0, none⟩ = some (.slice bL M3 dL) := fun sb => Beneath.cell (by rw [cell_of_row _ _ _ _ _ _ hg2]; rfl) hlt2 sb
  have q3 : ∀ sb : Beneath W.heap.size W, sb.val.cell? ⟨G + 1, 1, none⟩ = some (.slice bP M4 dP) := fun sb => Beneath.cell (by rw [cell_of_row _ _ _ _ _ _ hg2]; rfl) hlt2 sb
  have KA : Hid (∀ sb : Beneath W.heap.size W, ChIs sb.val (.slice aL M1 cL) (.slice aP M2 cP) gs ps ∧ ChIs sb.val (.slice bL M3 dL) (.slice bP M4 dP) hs qs ∧ Bnds sb.val) := Lib.hid (fun sb => ⟨K1.out.below sb.is, K2.out.below sb.is, HBN.out.below sb.is⟩)
  clear hg1' hg2 h1 h2 h3 h4
  refine wp_region_beneath W.heap.size W (Below.refl _ _) (by kernel_rfl) (by kernel_rfl) ?_
  repeat (go_big_quiet_step (first
    | (go_at_call 8; rename_i sb; exact Calls.beneath sb (Nat.le_refl _) (H3.out _ (KA.out sb).2.2))
    | (go_at_call 21; rename_i sb; exact Calls.beneath sb (Nat.le_refl _) ((ref12_any _ _ _ _ _ _ _)))
    | (go_at_call 20; rename_i sb; exact Calls.beneath sb (Nat.le_refl _) (rsame12_any _ _ _ _ gs hs ps qs r _ (KA.out sb).1 (KA.out sb).2.1 HR.out))
    | (go_at_call 19; rename_i sb; exact Calls.beneath sb (Nat.le_refl _) (same12_any _ _ _ _ gs hs ps qs r _ (KA.out sb).1 (KA.out sb).2.1 HR.out))
    | (go_at_call 19; rename_i sb; exact Calls.beneath sb (Nat.le_refl _) (same12_any _ _ _ _ gs gs ps ps true _ (KA.out sb).1 (KA.out sb).1 HRR.out))))
  refine wpQuiet_nil ?_
  rintro _ ⟨sb, rfl⟩
  have HB8 := Lib.hid (HB1.out.trans (sb.is.mono (by have := HB1.out.size; omega)))
  clear KA q0 q1 q2 q3
  generalize sb.val = W8 at *
  go_wp2_with fail
  go_ret
  exact ⟨rfl, HB8.out⟩
theorem tablesSame.walk (vL vP : Value) (gs : List (List Int)) (ps : List Int) (uL uP : Value) (hs : List (List Int)) (qs : List Int) (w : World) (hB : Bnds w) (ha : Opn.ChIn w vL vP gs ps) (hb : Opn.ChIn w uL uP hs qs) :
    Calls Tryd.prog 7 #[.agg #[vL, vP], .agg #[uL, uP]] w fun e w' => e = .returned (.bool true) ∧ Below w.heap.size w w' := by
  have hm : maxLen = 9223372036854775807 := by decide
  unfold Opn.ChIn at ha hb
  rw [hm] at ha hb
  obtain ⟨a1, a2, a3, a4, a5, a6⟩ := ha
  obtain ⟨b1, b2, b3, b4, b5, b6⟩ := hb
  obtain ⟨aL, cL, rfl, a1'⟩ := a1
  obtain ⟨aP, cP, rfl, a2'⟩ := a2
  obtain ⟨bL, dL, rfl, b1'⟩ := b1
  obtain ⟨bP, dP, rfl, b2'⟩ := b2
  by_cases h : 8 < gs.length ∨ 8 < hs.length ∨ 50 < ps.length ∨ 50 < qs.length
  · exact tablesSame.far aL aP bL bP _ _ _ _ _ _ _ _ w hB h
  · exact tablesSame.good aL aP bL bP _ _ _ _ _ _ _ _ gs hs ps qs w hB ⟨⟨_, _, rfl, a1'⟩, ⟨_, _, rfl, a2'⟩, by omega, fun x hx => (a4 x hx).1, a5⟩ ⟨⟨_, _, rfl, b1'⟩, ⟨_, _, rfl, b2'⟩, by omega, fun x hx => (b4 x hx).1, b5⟩ (by omega) (by omega) (by omega) (by omega)
end Go.Proofs.YtmlcdfimcabgkaaDoor

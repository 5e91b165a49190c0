/-
  LAYER 28 (package window): All, Charge.
-/
import Derived.Test.YtjpahpbofgfgfaaWinC
namespace Go.Proofs.Ytjpahpbofgfgfaa
open Go.RowKit
set_option linter.unusedVariables false
set_option linter.unusedSimpArgs false
/-- What all may yet use, the first k. -/
def allF (zs : List Int) (C : Nat → Int) (k : Nat) : List Int := (List.range k).map (leftF zs C)
theorem allF_len (zs : List Int) (C : Nat → Int) (k : Nat) : (allF zs C k).length = k := by simp [allF]
theorem allF_next (zs : List Int) (C : Nat → Int) (k : Nat) : allF zs C (k + 1) = allF zs C k ++ [leftF zs C k] := by simp [allF, List.range_succ]
def AllP (w w' : World) (l : List Int) (e : Ending) : Prop := ∃ v, e = .returned v ∧ IsInts w' v l ∧ Below w.heap.size w w'
section
variable {B n : Nat} {w w' : World} {b : Nat} {p v : Value} {zs : List Int} {S A : Int} {C D : Nat → Int}
set_option maxRecDepth 100000 in
set_option maxHeartbeats 4000000 in
theorem wdall_any (w : World) (h : IsMt B w b v zs S A C D) (hV : MtInv zs S A C D) : Calls Try.prog 38 #[.pointer (some ⟨b, 0, none⟩)] w fun e w' => AllP w w' (allF zs C zs.length) e := by
  have HH := Lib.hid h
  have HT := Lib.hid (wdtenants_v w h.mtV)
  have HV := Lib.hid hV
  have hn16 := hV.2.2.1.2
  obtain ⟨N, hN⟩ : ∃ N, zs.length = N := ⟨_, rfl⟩
  have HN := Lib.hid hN
  have hmk := make_ints zs.length (by omega) w
  rw [hN] at HT hmk hn16 ⊢
  obtain ⟨w1, hw1⟩ : ∃ w1, w.alloc (.cells (madeCells #[Value.int .i64 0] N) 3) = w1 := ⟨_, rfl⟩
  have HR1 : Hid (RowI w1 w.heap.size (allF zs C 0 ++ List.replicate (N - 0) 0) ∧ Below w.heap.size w w1) := Lib.hid (by
    subst hw1
    exact ⟨RowI.made w N, (Below.refl _ _).alloc (Nat.le_refl _) _⟩)
  clear h hV hN
  go_enter Try.func38, Try.ntmps38
  go_wp2_with fail
  refine HT.out.mono ?_
  rintro e w2 ⟨rfl, rfl⟩
  go_wp2_with fail
  go_loopw [4, 10] (fun _ vi wr => ∃ k : Nat, vi = .int .i64 (k : Int) ∧ k ≤ N ∧ Hid (RowI wr w2.heap.size (allF zs C k ++ List.replicate (N - k) 0) ∧ Below w2.heap.size w2 wr)) (fun _ vi _ => N - (intOf vi).toNat)
  case atStart => exact ⟨0, rfl, by omega, HR1⟩
  case round =>
    obtain ⟨k, rfl, hk, hR⟩ := hrel
    by_cases hlt : k < N
    · have hki : (k : Int) < (N : Int) := by omega
      have HL := Lib.hid (wdleft_any k wr (HH.out.far hR.out.2) HV.out (by rw [HN.out]; exact hlt))
      have HX : Hid (∀ m, RowI ((wr.drewN m).setCell ⟨w2.heap.size, k, none⟩ (.int .i64 (leftF zs C k))) w2.heap.size (allF zs C (k + 1) ++ List.replicate (N - (k + 1)) 0) ∧ Below w2.heap.size w2 ((wr.drewN m).setCell ⟨w2.heap.size, k, none⟩ (.int .i64 (leftF zs C k)))) := Lib.hid (fun m => by
        have hr : RowI (wr.drewN m) w2.heap.size (allF zs C k ++ List.replicate (N - k) 0) := hR.out.1
        have hlen : k < (allF zs C k ++ List.replicate (N - k) (0 : Int)).length := by rw [List.length_append, allF_len, List.length_replicate]; omega
        have h3 := (hr.cell hlen).2.2 (leftF zs C k)
        have e1 : N - k = (N - (k + 1)) + 1 := by omega
        have h4 := set_next (allF zs C k) (N - (k + 1)) (leftF zs C k)
        rw [allF_len, ← e1, ← allF_next] at h4
        rw [h4] at h3
        have ht : Touch (· = w2.heap.size) wr ((wr.drewN m).setCell ⟨w2.heap.size, k, none⟩ (.int .i64 (leftF zs C k))) := touch_cell (touch_drewN _ _ _)
        exact ⟨h3, hR.out.2.trans (ht.below hR.out.2.size (fun i hi => by have : i = w2.heap.size := hi; omega))⟩)
      have f1 : ∀ m, (wr.drewN m).frozen? ⟨w2.heap.size, k, none⟩ = false := fun m => frozen_of_row _ _ _ _ _ hR.out.1
      have x1 : ∀ m, (wr.drewN m).cell? ⟨w2.heap.size, k, none⟩ = some (.int .i64 ((allF zs C k ++ List.replicate (N - k) (0 : Int)).getD k 0)) := fun m => (RowI.cell hR.out.1 (by rw [List.length_append, allF_len, List.length_replicate]; omega)).1
      generalize (allF zs C k ++ List.replicate (N - k) (0 : Int)).getD k 0 = old at *
      generalize leftF zs C k = d at *
      go_wp2_with fail
      refine HL.out.mono ?_
      rintro e w3 ⟨rfl, m, rfl⟩
      have f2 := f1 m
      have x2 := x1 m
      have HX2 := Lib.hid (HX.out m)
      clear f1 x1 HX
      go_wp2_with fail
      go_roundw
      case rel => exact ⟨k + 1, by go_num, by omega, HX2⟩
      case measure => simp [intOf]; omega
    · have hki : ¬ (k : Int) < (N : Int) := by omega
      have hkN : k = N := by omega
      subst hkN
      have HE : Hid (AllP w2 wr (allF zs C k) (.returned (.slice (some ⟨w2.heap.size, 0, none⟩) k k))) := Lib.hid (by
        have h1 := hR.out.1
        rw [Nat.sub_self, List.replicate_zero, List.append_nil] at h1
        exact ⟨_, rfl, h1.ints k k (allF_len zs C k).symm, hR.out.2⟩)
      go_wp2_with fail
      go_ret
      exact HE.out
set_option maxHeartbeats 1000000 in
theorem wdall_nil (w : World) : Calls Try.prog 38 #[.pointer none] w fun e w' => (∃ a c, e = .returned (.slice a 0 c)) ∧ Below w.heap.size w w' := by
  obtain ⟨N, hN⟩ : ∃ N : Nat, N = 0 := ⟨_, rfl⟩
  have HN := Lib.hid hN
  have HT := Lib.hid (wdtenants_v (B := 0) w (MtV.nil 0 w))
  have hmk := make_ints N (by omega) w
  have hki : ¬ (0 : Int) < (N : Int) := by omega
  rw [← hN] at HT
  obtain ⟨w1, hw1⟩ : ∃ w1, w.alloc (.cells (madeCells #[Value.int .i64 0] N) 3) = w1 := ⟨_, rfl⟩
  have HB : Hid (Below w.heap.size w w1) := Lib.hid (by subst hw1; exact (Below.refl _ _).alloc (Nat.le_refl _) _)
  have HE : Hid (∃ a c, Ending.returned (.slice (some ⟨w.heap.size, 0, none⟩) N N) = .returned (.slice a 0 c)) := Lib.hid (by rw [hN]; exact ⟨_, _, rfl⟩)
  clear hN
  go_enter Try.func38, Try.ntmps38
  go_wp2_with fail
  refine HT.out.mono ?_
  rintro e w2 ⟨rfl, rfl⟩
  go_wp2_with fail
  go_loopw [4, 10] (fun _ vi wr => vi = .int .i64 (0 : Int) ∧ wr = w1) (fun _ vi _ => 0)
  case atStart => exact ⟨rfl, rfl⟩
  case round =>
    obtain ⟨rfl, rfl⟩ := hrel
    go_wp2_with fail
    go_ret
    exact ⟨HE.out, HB.out⟩
end
end Go.Proofs.Ytjpahpbofgfgfaa

/-
  LAYER 28 (package window): what a meter tells; what New refuses.
-/
import Derived.Test.YtjpahpbofgfgfaaWinB
namespace Go.Proofs.Ytjpahpbofgfgfaa
open Go.RowKit
set_option linter.unusedVariables false
set_option linter.unusedSimpArgs false
/-- What is so, whatever is done. -/
def MtInv (zs : List Int) (S A : Int) (C D : Nat → Int) : Prop :=
  (1 ≤ S ∧ S ≤ 1048576) ∧ (0 ≤ A ∧ A ≤ 1099511627776) ∧ (1 ≤ zs.length ∧ zs.length ≤ 16) ∧ ∀ i, i < zs.length → 0 ≤ C i ∧ C i ≤ zs.getD i 0 ∧ zs.getD i 0 ≤ 1099511627776 ∧ 0 ≤ D i ∧ D i ≤ 1099511627776
theorem MtInv.new {S : Int} {zs : List Int} (h : wdMay S zs) : MtInv zs S 0 zeroF zeroF := by
  refine ⟨h.1, by omega, ⟨h.2.1, h.2.2.1⟩, fun i hi => ?_⟩
  have hx : lgIs (zs.getD i 0) := by
    rw [List.getD_eq_getElem?_getD, List.getElem?_eq_getElem hi]
    exact h.2.2.2 _ (List.getElem_mem hi)
  exact ⟨Int.le_refl _, hx.1, hx.2, Int.le_refl _, by unfold zeroF; omega⟩
def leftF (zs : List Int) (C : Nat → Int) (t : Nat) : Int := zs.getD t 0 - C t
section
variable {B n : Nat} {w w' : World} {b : Nat} {p v : Value} {zs : List Int} {S A : Int} {C D : Nat → Int}
set_option maxHeartbeats 1000000 in
theorem wdleft_none (T : Int) (w : World) (h : MtV B w p n) (hT : ¬ (0 ≤ T ∧ T < (n : Int))) : Calls Try.prog 32 #[p, .int .i64 T] w fun e w' => e = .returned (.int .i64 0) ∧ w' = w := by
  have HH := Lib.hid (wdhas_v T w h)
  rw [decide_eq_false hT] at HH
  clear h hT
  go_enter Try.func32, Try.ntmps32
  go_wp2_with fail
  refine HH.out.mono ?_
  rintro e w1 ⟨rfl, rfl⟩
  go_wp2_with fail
  go_ret
  exact ⟨rfl, rfl⟩
set_option maxHeartbeats 1000000 in
theorem wdtotal_none (T : Int) (w : World) (h : MtV B w p n) (hT : ¬ (0 ≤ T ∧ T < (n : Int))) : Calls Try.prog 33 #[p, .int .i64 T] w fun e w' => e = .returned (.int .i64 0) ∧ w' = w := by
  have HH := Lib.hid (wdhas_v T w h)
  rw [decide_eq_false hT] at HH
  clear h hT
  go_enter Try.func33, Try.ntmps33
  go_wp2_with fail
  refine HH.out.mono ?_
  rintro e w1 ⟨rfl, rfl⟩
  go_wp2_with fail
  go_ret
  exact ⟨rfl, rfl⟩
set_option maxHeartbeats 2000000 in
theorem wdleft_any (t : Nat) (w : World) (h : IsMt B w b v zs S A C D) (hV : MtInv zs S A C D) (ht : t < zs.length) : Calls Try.prog 32 #[.pointer (some ⟨b, 0, none⟩), .int .i64 (t : Int)] w fun e w' => e = .returned (.int .i64 (leftF zs C t)) ∧ ∃ m, w' = w.drewN m := by
  have HH := Lib.hid (wdhas_v (t : Int) w h.mtV)
  rw [decide_eq_true ⟨by omega, by omega⟩] at HH
  obtain ⟨bz, oz, cz, rfl, cq⟩ := h.row.ints.cell ht
  have c2 := h.c2
  have ht16 : t < 16 := by have := hV.2.2.1.2; omega
  have cC := h.cC ht16
  have hI := hV.2.2.2 t ht
  unfold leftF
  obtain ⟨d, hd⟩ : ∃ d, zs.getD t 0 - C t = d := ⟨_, rfl⟩
  have hw : IntKind.i64.wrap d = d := IntWalk.i64_in _ (by omega)
  rw [hd]
  have hti : (t : Int) < (zs.length : Int) := by omega
  have ht0 : (0 : Int) ≤ (t : Int) := by omega
  have ht16i : (t : Int) < 16 := by omega
  generalize zs.getD t 0 = x at *
  generalize C t = c at *
  obtain ⟨N, hN⟩ : ∃ N, zs.length = N := ⟨_, rfl⟩
  rw [hN] at c2 hti
  clear h hV hI hN
  go_enter Try.func32, Try.ntmps32
  go_wp2_with fail
  refine HH.out.mono ?_
  rintro e w1 ⟨rfl, rfl⟩
  go_wp2_with fail
  go_quiet (fail)
  go_wp2_with fail
  go_ret
  exact ⟨rfl, _, rfl⟩
set_option maxHeartbeats 2000000 in
theorem wdtotal_any (t : Nat) (w : World) (h : IsMt B w b v zs S A C D) (hV : MtInv zs S A C D) (ht : t < zs.length) : Calls Try.prog 33 #[.pointer (some ⟨b, 0, none⟩), .int .i64 (t : Int)] w fun e w' => e = .returned (.int .i64 (D t)) ∧ w' = w := by
  have HH := Lib.hid (wdhas_v (t : Int) w h.mtV)
  rw [decide_eq_true ⟨by omega, by omega⟩] at HH
  have ht16 : t < 16 := by have := hV.2.2.1.2; omega
  have cD := h.cD ht16
  have ht0 : (0 : Int) ≤ (t : Int) := by omega
  have ht16i : (t : Int) < 16 := by omega
  generalize D t = d at *
  clear h hV
  go_enter Try.func33, Try.ntmps33
  go_wp2_with fail
  refine HH.out.mono ?_
  rintro e w1 ⟨rfl, rfl⟩
  go_wp2_with fail
  go_ret
  exact ⟨rfl, rfl⟩
set_option maxHeartbeats 1000000 in
theorem wdat_any (w : World) (h : IsMt B w b v zs S A C D) : Calls Try.prog 35 #[.pointer (some ⟨b, 0, none⟩)] w fun e w' => e = .returned (.int .i64 A) ∧ w' = w := by
  have c1 := h.c1
  clear h
  go_enter Try.func35, Try.ntmps35
  go_wp2_with fail
  go_ret
  exact ⟨rfl, rfl⟩
set_option maxHeartbeats 1000000 in
theorem wdat_nil (w : World) : Calls Try.prog 35 #[.pointer none] w fun e w' => e = .returned (.int .i64 0) ∧ w' = w := by
  go_enter Try.func35, Try.ntmps35
  go_wp2_with fail
  go_ret
  exact ⟨rfl, rfl⟩
set_option maxHeartbeats 2000000 in
theorem wdbegins_nil (w : World) : Calls Try.prog 36 #[.pointer none] w fun e w' => e = .returned (.bool false) ∧ ∃ m, w' = w.drewN m := by
  have HT := Lib.hid (fun W => wdtenants_v (B := 0) W (MtV.nil 0 W))
  have hd : decide ((0 : Int) > 0) = false := rfl
  go_enter Try.func36, Try.ntmps36
  go_wp2_with fail
  go_quiet (refine (Calls.quiet_of_same (HT.out _)))
  go_wp2_with fail
  go_ret
  exact ⟨rfl, _, rfl⟩
set_option maxHeartbeats 2000000 in
theorem wdbegins_any (w : World) (h : IsMt B w b v zs S A C D) (hV : MtInv zs S A C D) : Calls Try.prog 36 #[.pointer (some ⟨b, 0, none⟩)] w fun e w' => e = .returned (.bool (A % S == 0)) ∧ ∃ m, w' = w.drewN m := by
  have HT := Lib.hid (fun W (hW : Below w.heap.size w W) => wdtenants_v W (h.far hW).mtV)
  have HTD := Lib.hid (fun m => HT.out (w.drewN m) (below_drewN w m))
  obtain ⟨⟨s1, s2⟩, ⟨a1, a2⟩, ⟨n1, n2⟩, _⟩ := hV
  have hd : decide ((zs.length : Int) > 0) = true := decide_eq_true (by omega)
  have hd2 : decide (0 < zs.length) = true := decide_eq_true (by omega)
  have c0 := h.c0
  have c1 := h.c1
  have hS0 : S ≠ 0 := by omega
  have hS1 : (S == 0) = false := by rw [beq_eq_false_iff_ne]; exact hS0
  have hmod : A.tmod S = A % S := by rw [Int.tmod_eq_emod_of_nonneg a1]
  have hw : IntKind.i64.wrap (A % S) = A % S := by
    have h1 := Int.emod_nonneg A hS0
    have h2 := Int.emod_lt_of_pos A (show 0 < S by omega)
    exact IntWalk.i64_in _ (by omega)
  have HS := Lib.hid hS0
  clear h
  go_enter Try.func36, Try.ntmps36
  go_wp2_with fail
  go_quiet (first | (refine (Calls.quiet_of_same (HTD.out _))) | (refine (Calls.quiet_of_same (HT.out _ (Below.refl _ _)))))
  go_wp2_with fail
  go_ret
  exact ⟨rfl, _, rfl⟩
end
end Go.Proofs.Ytjpahpbofgfgfaa

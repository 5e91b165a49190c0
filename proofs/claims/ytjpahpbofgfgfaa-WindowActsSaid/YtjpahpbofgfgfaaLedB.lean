/-
  LAYER 27 (package ledger): New.
-/
import Derived.Test.YtjpahpbofgfgfaaLedA
namespace Go.Proofs.Ytjpahpbofgfgfaa
open Go.RowKit
set_option linter.unusedVariables false
set_option linter.unusedSimpArgs false
/-- Block b is a ledger, its n accounts in block g. -/
structure IsLg (w : World) (b g n : Nat) (L U P : Nat → Int) : Prop where
  obj : w.heap[b]? = some (.cells #[.slice (some ⟨g, 0, none⟩) n n] 67 (0, 0))
  acc : Acc w g n L U P
  ne : b ≠ g
section
variable {w w' : World} {b g n : Nat} {L U P : Nat → Int}
theorem IsLg.cell (h : IsLg w b g n L U P) : w.cell? ⟨b, 0, none⟩ = some (.slice (some ⟨g, 0, none⟩) n n) := by rw [cell_of_row _ _ _ _ _ _ h.obj]; rfl
theorem IsLg.lt (h : IsLg w b g n L U P) : b < w.heap.size ∧ g < w.heap.size := ⟨(Array.getElem?_eq_some_iff.1 h.obj).1, h.acc.lt⟩
theorem IsLg.below {B : Nat} (h : IsLg w b g n L U P) (hb : Below B w w') (h1 : b < B) (h2 : g < B) : IsLg w' b g n L U P := ⟨(hb.block b h1).trans h.obj, h.acc.below hb h2, h.ne⟩
theorem IsLg.far (h : IsLg w b g n L U P) (hb : Below w.heap.size w w') : IsLg w' b g n L U P := h.below hb h.lt.1 h.lt.2
theorem IsLg.other {S : Nat → Prop} (h : IsLg w b g n L U P) (ht : Touch S w w') (h1 : ¬ S b) (h2 : ¬ S g) : IsLg w' b g n L U P := ⟨(ht.block b h.lt.1 h1).trans h.obj, h.acc.other ht h2, h.ne⟩
end
def limF (zs : List Int) (i : Nat) : Int := zs.getD i 0
def zeroF (_ : Nat) : Int := 0
set_option maxHeartbeats 1000000 in
theorem lgnew_bad (v : Value) (zs : List Int) (w : World) (hI : IsInts w v zs) (hn : zs.length ≤ 9223372036854775807) (hm : ¬ lgMay zs) :
    Calls Try.prog 12 #[v] w fun e w' => e = .returned (.tuple #[.pointer none, .int .i64 1]) ∧ w' = w := by
  have HC := Lib.hid (containsFunc_any 40 #[] lgBad v zs w hI hn lgbad_enters (fun x W => lgbad_any x W))
  have hcase : zs.length = 0 ∨ (0 < zs.length ∧ 16 < zs.length) ∨ (0 < zs.length ∧ ¬ 16 < zs.length ∧ zs.any lgBad = true) := by
    by_cases h0 : zs.length = 0
    · exact Or.inl h0
    · by_cases h1 : 16 < zs.length
      · exact Or.inr (Or.inl ⟨by omega, h1⟩)
      · refine Or.inr (Or.inr ⟨by omega, h1, ?_⟩)
        cases hb : zs.any lgBad with
        | true => rfl
        | false => exact absurd ⟨by omega, by omega, any_bad_false.1 hb⟩ hm
  clear hm
  obtain ⟨a, cap, rfl, _⟩ := hI
  obtain ⟨N, hN⟩ : ∃ N, zs.length = N := ⟨_, rfl⟩
  rw [hN] at HC hcase hn ⊢
  clear hN
  obtain ⟨B, hB⟩ : ∃ B, zs.any lgBad = B := ⟨_, rfl⟩
  rw [hB] at HC hcase
  clear hB
  rcases hcase with h | ⟨h, h1⟩ | ⟨h, h1, rfl⟩
  · subst h
    go_enter Try.func12, Try.ntmps12
    go_wp2_with fail
    refine HC.out.mono ?_
    rintro e w1 ⟨rfl, rfl⟩
    go_wp2_with fail
    go_ret2
    exact ⟨rfl, rfl⟩
  · have k1 : ((N : Int) == 0) = false := by rw [beq_eq_false_iff_ne]; omega
    have k2 : (N : Int) > 16 := by omega
    go_enter Try.func12, Try.ntmps12
    go_wp2_with fail
    refine HC.out.mono ?_
    rintro e w1 ⟨rfl, rfl⟩
    go_wp2_with fail
    go_ret2
    exact ⟨rfl, rfl⟩
  · have k1 : ((N : Int) == 0) = false := by rw [beq_eq_false_iff_ne]; omega
    have k2 : ¬ (N : Int) > 16 := by omega
    go_enter Try.func12, Try.ntmps12
    go_wp2_with fail
    refine HC.out.mono ?_
    rintro e w1 ⟨rfl, rfl⟩
    go_wp2_with fail
    go_ret2
    exact ⟨rfl, rfl⟩
/-- What New makes. -/
def LgNewP (w w' : World) (zs : List Int) (e : Ending) : Prop :=
  ∃ b g, e = .returned (.tuple #[.pointer (some ⟨b, 0, none⟩), .int .i64 0]) ∧ IsLg w' b g zs.length (limF zs) zeroF zeroF ∧ Below w.heap.size w w' ∧ w.heap.size ≤ b ∧ w.heap.size ≤ g
set_option maxRecDepth 100000 in
set_option maxHeartbeats 4000000 in
theorem lgnew_any (v : Value) (zs : List Int) (w : World) (hI : IsInts w v zs) (hm : lgMay zs) :
    Calls Try.prog 12 #[v] w fun e w' => LgNewP w w' zs e := by
  have HI := Lib.hid hI
  obtain ⟨h1, h16, hok⟩ := hm
  have HC := Lib.hid (containsFunc_any 40 #[] lgBad v zs w hI (by omega) lgbad_enters (fun x W => lgbad_any x W))
  rw [any_bad_false.2 hok] at HC
  clear hok
  obtain ⟨a, cap, rfl, _⟩ := hI
  have k1 : ((zs.length : Int) == 0) = false := by rw [beq_eq_false_iff_ne]; omega
  have k2 : ¬ (zs.length : Int) > 16 := by omega
  have hmk := make_accs zs.length (by omega) w
  obtain ⟨N, hN⟩ : ∃ N, zs.length = N := ⟨_, rfl⟩
  have HN := Lib.hid hN
  rw [hN] at HC k1 k2 hmk h1 h16
  obtain ⟨w1, hw1⟩ : ∃ w1, (w.alloc (.cells (madeCells accZ (N * 3)) 69)).alloc (.cells #[.slice (some ⟨w.heap.size, 0, none⟩) N N] 67) = w1 := ⟨_, rfl⟩
  have HL1 : Hid (IsLg w1 (w.heap.size + 1) w.heap.size N (fun i => if i < 0 then limF zs i else 0) zeroF zeroF ∧ Below w.heap.size w w1) := Lib.hid (by
    subst hw1
    refine ⟨⟨?_, ?_, by omega⟩, ((Below.refl _ w).alloc (Nat.le_refl _) _).alloc (by simp) _⟩
    · have := heap_alloc_new (w.alloc (.cells (madeCells accZ (N * 3)) 69)) (.cells #[.slice (some ⟨w.heap.size, 0, none⟩) N N] 67)
      simpa using this
    · exact ((Acc.made w N).below ((Below.refl _ _).alloc (Nat.le_refl _) _) (by simp)).ext (fun i _ => rfl) (fun i _ => rfl) (fun i _ => rfl))
  have c0 := HL1.out.1.cell
  rw [hN]
  clear hN
  go_enter Try.func12, Try.ntmps12
  go_wp2_with fail
  refine HC.out.mono ?_
  rintro e w2 ⟨rfl, rfl⟩
  go_wp2_with fail
  have h0 : (N : Int) = N := rfl
  have HI1 := Lib.hid (HI.out.below HL1.out.2)
  go_loopw [6, 7, 28] (fun _ _ vi wr => ∃ k : Nat, vi = .int .i64 (k : Int) ∧ k ≤ N ∧ Hid (IsLg wr (w2.heap.size + 1) w2.heap.size N (fun i => if i < k then limF zs i else 0) zeroF zeroF ∧ Below w2.heap.size w2 wr)) (fun _ _ vi _ => N - (intOf vi).toNat)
  case atStart => exact ⟨0, rfl, by omega, HL1⟩
  case round =>
    obtain ⟨k, rfl, hk, hL⟩ := hrel
    have c1 := hL.out.1.cell
    by_cases hlt : k < N
    · have hki : (k : Int) < (N : Int) := by omega
      obtain ⟨bz, oz, cz, he1, cx⟩ := (HI.out.below hL.out.2).cell (k := k) (by rw [HN.out]; exact hlt)
      simp only [Value.slice.injEq] at he1
      obtain ⟨rfl, _, rfl⟩ := he1
      have HS : Hid (IsLg (wr.setCell ⟨w2.heap.size, k * 3, none⟩ (.int .i64 (zs.getD k 0))) (w2.heap.size + 1) w2.heap.size N (fun i => if i < k + 1 then limF zs i else 0) zeroF zeroF ∧ Below w2.heap.size w2 (wr.setCell ⟨w2.heap.size, k * 3, none⟩ (.int .i64 (zs.getD k 0)))) := Lib.hid (by
        have ht := touch_cell (i := k * 3) (v := .int .i64 (zs.getD k 0)) (Touch.refl (· = w2.heap.size) wr)
        refine ⟨⟨(ht.block _ hL.out.1.lt.1 (by omega)).trans hL.out.1.obj, ((hL.out.1.acc.set hlt (zs.getD k 0)).1).ext (fun i hi => ?_) (fun i _ => rfl) (fun i _ => rfl), by omega⟩, hL.out.2.trans (ht.below hL.out.2.size (fun i hi => by have : i = w2.heap.size := hi; omega))⟩
        show (if i = k then zs.getD k 0 else (if i < k then limF zs i else 0)) = (if i < k + 1 then limF zs i else 0)
        by_cases e : i = k
        · rw [if_pos e, if_pos (by omega), e]; rfl
        · rw [if_neg e]
          by_cases e2 : i < k
          · rw [if_pos e2, if_pos (by omega)]
          · rw [if_neg e2, if_neg (by omega)])
      have f0 := hL.out.1.acc.frozen (k * 3)
      have c2 := (hL.out.1.acc.cells hlt).1
      generalize zs.getD k 0 = x at *
      go_wp2_with fail
      go_roundw
      case rel => exact ⟨k + 1, by go_num, by omega, HS⟩
      case measure => simp [intOf]; omega
    · have hki : ¬ (k : Int) < (N : Int) := by omega
      have hkN : k = N := by omega
      subst hkN
      have HE : Hid (LgNewP w2 wr zs (.returned (.tuple #[.pointer (some ⟨w2.heap.size + 1, 0, none⟩), .int .i64 0]))) := Lib.hid (by
        refine ⟨_, _, rfl, ?_, hL.out.2, by omega, Nat.le_refl _⟩
        rw [HN.out]
        exact ⟨hL.out.1.obj, hL.out.1.acc.ext (fun i hi => if_pos hi) (fun i _ => rfl) (fun i _ => rfl), hL.out.1.ne⟩)
      go_wp2_with fail
      go_ret2
      exact HE.out
end Go.Proofs.Ytjpahpbofgfgfaa

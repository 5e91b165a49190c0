/-
  LAYER 30 (package drr): New's walk.
-/
import Derived.Test.YtgdgjalfabffcaaDrB
namespace Go.Proofs.Ytgdgjalfabffcaa
open Go.RowKit
set_option linter.unusedVariables false
set_option linter.unusedSimpArgs false
def qMay (zs : List Int) : Prop := 1 ≤ zs.length ∧ zs.length ≤ 16 ∧ ∀ x ∈ zs, 1 ≤ x ∧ x ≤ 1099511627776
def quaF (zs : List Int) (i : Nat) : Int := zs.getD i 0
set_option maxHeartbeats 1000000 in
theorem drnew_bad (v : Value) (zs : List Int) (w : World) (hI : IsInts w v zs) (hn : zs.length ≤ 9223372036854775807) (hm : ¬ qMay zs) :
    Calls Try.prog 26 #[v] w fun e w' => e = .returned (.tuple #[.pointer none, .int .i64 1]) ∧ w' = w := by
  have HC := Lib.hid (containsFunc_any 48 #[] qBad v zs w hI hn qbad_enters (fun x W => qbad_any x W))
  have hcase : zs.length = 0 ∨ (0 < zs.length ∧ 16 < zs.length) ∨ (0 < zs.length ∧ ¬ 16 < zs.length ∧ zs.any qBad = true) := by
    by_cases h0 : zs.length = 0
    · exact Or.inl h0
    · by_cases h1 : 16 < zs.length
      · exact Or.inr (Or.inl ⟨by omega, h1⟩)
      · refine Or.inr (Or.inr ⟨by omega, h1, ?_⟩)
        cases hb : zs.any qBad with
        | true => rfl
        | false => exact absurd ⟨by omega, by omega, any_qbad.1 hb⟩ hm
  clear hm
  obtain ⟨a, cap, rfl, _⟩ := hI
  obtain ⟨N, hN⟩ : ∃ N, zs.length = N := ⟨_, rfl⟩
  rw [hN] at HC hcase hn ⊢
  clear hN
  obtain ⟨B, hB⟩ : ∃ B, zs.any qBad = B := ⟨_, rfl⟩
  rw [hB] at HC hcase
  clear hB
  rcases hcase with h | ⟨h, h1⟩ | ⟨h, h1, rfl⟩
  · subst h
    go_enter Try.func26, Try.ntmps26
    go_wp2_with fail
    refine HC.out.mono ?_
    rintro e w1 ⟨rfl, rfl⟩
    go_wp2_with fail
    go_ret2
    exact ⟨rfl, rfl⟩
  · have k1 : ((N : Int) == 0) = false := by rw [beq_eq_false_iff_ne]; omega
    have k2 : (N : Int) > 16 := by omega
    go_enter Try.func26, Try.ntmps26
    go_wp2_with fail
    refine HC.out.mono ?_
    rintro e w1 ⟨rfl, rfl⟩
    go_wp2_with fail
    go_ret2
    exact ⟨rfl, rfl⟩
  · have k1 : ((N : Int) == 0) = false := by rw [beq_eq_false_iff_ne]; omega
    have k2 : ¬ (N : Int) > 16 := by omega
    go_enter Try.func26, Try.ntmps26
    go_wp2_with fail
    refine HC.out.mono ?_
    rintro e w1 ⟨rfl, rfl⟩
    go_wp2_with fail
    go_ret2
    exact ⟨rfl, rfl⟩
/-- What New makes. -/
def DrNewP (w w' : World) (zs : List Int) (e : Ending) : Prop :=
  ∃ s g Q V, e = .returned (.tuple #[.pointer (some ⟨s, 0, none⟩), .int .i64 0]) ∧ IsDm w' w.heap.size s g zs.length Q V (quaF zs) zeroI (fun _ => []) ∧ Below w.heap.size w w'
set_option maxRecDepth 100000 in
set_option maxHeartbeats 8000000 in
theorem drnew_any (v : Value) (zs : List Int) (w : World) (hI : IsInts w v zs) (hm : qMay zs) :
    Calls Try.prog 26 #[v] w fun e w' => DrNewP w w' zs e := by
  have HI := Lib.hid hI
  obtain ⟨h1, h16, hok⟩ := hm
  have HC := Lib.hid (containsFunc_any 48 #[] qBad v zs w hI (by omega) qbad_enters (fun x W => qbad_any x W))
  rw [any_qbad.2 hok] at HC
  clear hok
  obtain ⟨a, cap, rfl, _⟩ := hI
  have k1 : ((zs.length : Int) == 0) = false := by rw [beq_eq_false_iff_ne]; omega
  have k2 : ¬ (zs.length : Int) > 16 := by omega
  have hmk := make_tens zs.length (by omega) w
  obtain ⟨n, hN⟩ : ∃ n, zs.length = n := ⟨_, rfl⟩
  have HN := Lib.hid hN
  rw [hN] at HC k1 k2 hmk h1 h16 HI
  obtain ⟨g, hg⟩ : ∃ g, w.heap.size = g := ⟨_, rfl⟩
  obtain ⟨s, hs⟩ : ∃ s, g + 1 = s := ⟨_, rfl⟩
  obtain ⟨w1, hw1⟩ : ∃ w1, (w.alloc (.cells (madeCells tenZ (n * 3)) 83)).alloc (.cells #[.slice (some ⟨g, 0, none⟩) n n, .pointer none] 81) = w1 := ⟨_, rfl⟩
  have hb1 : Below w.heap.size w w1 := by rw [← hw1]; exact ((Below.refl _ w).alloc (Nat.le_refl _) _).alloc (by simp) _
  have ho1 : w1.heap[s]? = some (.cells #[.slice (some ⟨g, 0, none⟩) n n, .pointer none] 81 (0, 0)) := by
    have := heap_alloc_new (w.alloc (.cells (madeCells tenZ (n * 3)) 83)) (.cells #[.slice (some ⟨g, 0, none⟩) n n, .pointer none] 81)
    rw [show (w.alloc (.cells (madeCells tenZ (n * 3)) 83)).heap.size = s by simp; omega] at this
    rw [← hw1]
    exact this
  have ht1 : Ten w1 g n nilQ zeroI zeroI := by
    have := Ten.made w n
    rw [hg] at this
    refine this.same ?_
    rw [← hw1]
    exact Below.heap_alloc _ _ _ (by simp; omega)
  have hw1s : w1.heap.size = s + 1 := by rw [← hw1]; simp; omega
  have HF := Lib.hid (fun w2 (hq : IsQ w2 w1.heap.size w1.heap.size (n : Int) (.slice none 0 0) []) (hb2 : Below w1.heap.size w1 w2) => NewDr.first (w0 := w) (qf := quaF zs) ⟨h1, h16⟩ (by omega) hg ho1 ht1 hb1 hq hb2)
  have HQ := Lib.hid (qnew_any (n : Int) w1 (by omega) (by omega))
  clear hb1 ho1 ht1
  obtain ⟨P, hP⟩ : ∃ P, w1.heap.size = P := ⟨_, rfl⟩
  rw [hP] at HF HQ
  rw [hN]
  clear hN hw1s
  go_enter Try.func26, Try.ntmps26
  go_wp2_with fail
  refine HC.out.mono ?_
  rintro e w2 ⟨rfl, hw2⟩
  obtain rfl := hw2.symm
  go_wp2_with fail
  refine HQ.out.mono ?_
  rintro e w3 ⟨rfl, hq3, hb3⟩
  obtain ⟨h4, c1, f1⟩ := HF.out w3 hq3 hb3
  have H4 := Lib.hid h4
  clear hq3 hb3 HF h4
  go_wp2_with fail
  clear hw1 hP HQ hg hs
  go_loopw [6, 7, 37] (fun _ _ vi wr => ∃ k : Nat, vi = .int .i64 (k : Int) ∧ k ≤ n ∧ Hid (∃ Q, NewDr w wr s g n k Q (quaF zs))) (fun _ _ vi _ => n - (intOf vi).toNat)
  case atStart => exact ⟨0, rfl, by omega, Lib.hid ⟨_, H4.out⟩⟩
  case round =>
    obtain ⟨k, rfl, hk, hh⟩ := hrel
    obtain ⟨Q, hq⟩ := hh.out
    clear hh
    have c0 : wr.cell? ⟨s, 0, none⟩ = some (.slice (some ⟨g, 0, none⟩) n n) := by rw [cell_of_row _ _ 0 _ _ _ hq.obj]; rfl
    by_cases hlt : k < n
    · have hki : (k : Int) < (n : Int) := by omega
      obtain ⟨bz, oz, cz, he1, cx⟩ := (HI.out.below hq.below).cell (k := k) (by rw [HN.out]; exact hlt)
      simp only [Value.slice.injEq] at he1
      obtain ⟨rfl, hz, rfl⟩ := he1
      clear hz
      obtain ⟨W1, hW1⟩ : ∃ W1, wr.setCell ⟨g, k * 3 + 1, none⟩ (.int .i64 (zs.getD k 0)) = W1 := ⟨_, rfl⟩
      obtain ⟨P2, hP2⟩ : ∃ P2, wr.heap.size = P2 := ⟨_, rfl⟩
      have hs1 : W1.heap.size = P2 := by rw [← hW1, ← hP2]; simp [World.setCell]
      obtain ⟨d0, d1, d2⟩ := hq.ten.cells hlt
      have f1 := hq.ten.frozen (k * 3 + 1)
      have ht1 : Ten W1 g n _ _ _ := (by rw [← hW1]; exact (hq.ten.set hlt (.pointer none) (zs.getD k 0)).2.1)
      have hobj1 : W1.heap[s]? = some (.cells #[.slice (some ⟨g, 0, none⟩) n n, .pointer (some ⟨Q n, 0, none⟩)] 81 (0, 0)) := by rw [← hW1]; exact (heap_setCell_other wr _ s _ hq.ne).trans hq.obj
      have e0 : W1.cell? ⟨s, 0, none⟩ = some (.slice (some ⟨g, 0, none⟩) n n) := by rw [cell_of_row _ _ 0 _ _ _ hobj1]; rfl
      have HQN : Hid (∀ m, Calls Try.prog 12 #[.int .i64 1099511627776] (W1.drewN m) fun e w' => e = .returned (.tuple #[.pointer (some ⟨P2, 0, none⟩), .int .i64 0]) ∧
          (w'.cell? ⟨s, 0, none⟩ = some (.slice (some ⟨g, 0, none⟩) n n) ∧ w'.cell? ⟨g, k * 3, none⟩ = some (.pointer none) ∧ w'.frozen? ⟨g, k * 3, none⟩ = false ∧
            (w'.setCell ⟨g, k * 3, none⟩ (.pointer (some ⟨P2, 0, none⟩))).cell? ⟨s, 0, none⟩ = some (.slice (some ⟨g, 0, none⟩) n n)) ∧ ∃ Q, NewDr w (w'.setCell ⟨g, k * 3, none⟩ (.pointer (some ⟨P2, 0, none⟩))) s g n (k + 1) Q (quaF zs)) := Lib.hid (fun m => by
        have := qnew_any 1099511627776 (W1.drewN m) (by omega) (by omega)
        rw [show (W1.drewN m).heap.size = P2 from hs1] at this
        refine this.mono ?_
        rintro e w' ⟨he, hq2, hb2⟩
        have hn := hq.next (w2 := w') (m := m) hlt (by
          rw [hP2]
          have e : ((wr.setCell ⟨g, k * 3 + 1, none⟩ (.int .i64 (quaF zs k))).drewN m).heap.size = P2 := by
            show (wr.setCell ⟨g, k * 3 + 1, none⟩ (.int .i64 (zs.getD k 0))).heap.size = P2
            rw [hW1]; exact hs1
          rw [e]; exact hq2) (by
          rw [hP2]
          show Below P2 ((wr.setCell ⟨g, k * 3 + 1, none⟩ (.int .i64 (zs.getD k 0))).drewN m) w'
          rw [hW1]; exact hb2)
        rw [hP2] at hn
        have ht2 : Ten w' g n _ _ _ := ht1.same ((hb2.block g (by have := ht1.lt; omega)))
        have ho2 := (hb2.block s (by have := (Array.getElem?_eq_some_iff.1 hobj1).1; omega)).trans hobj1
        have hc := (ht2.cells hlt).1
        rw [if_neg (by omega)] at hc
        refine ⟨he, ⟨?_, hc, ht2.frozen _, ?_⟩, _, hn⟩
        · rw [cell_of_row _ _ 0 _ _ _ ho2]; rfl
        · rw [cell_of_row _ _ 0 _ _ _ hn.obj]; rfl)
      clear ht1 hobj1 hs1 hq
      generalize zs.getD k 0 = x at *
      go_wp2_with fail
      go_region_held3 (fun W => W.cell? ⟨s, 0, none⟩ = some (.slice (some ⟨g, 0, none⟩) n n)) (first | go_keep | assumption)
        (first
          | (go_at_call 12; refine (HQN.out _).mono ?_; rintro e y1 ⟨rfl, ⟨m1, m2, m3, m4⟩, h5⟩; have H5 := Lib.hid h5; clear h5))
      all_goals
        go_wp2_with fail
        go_roundw
        case rel => exact ⟨k + 1, by go_num, by omega, H5⟩
        case measure => simp [intOf]; omega
    · have hki : ¬ (k : Int) < (n : Int) := by omega
      have hkn : k = n := by omega
      subst hkn
      have HE : Hid (DrNewP w wr zs (.returned (.tuple #[.pointer (some ⟨s, 0, none⟩), .int .i64 0]))) := Lib.hid ⟨s, g, Q, _, rfl, by rw [HN.out]; exact hq.done, hq.below⟩
      clear hq
      go_wp2_with fail
      go_ret2
      exact HE.out
end Go.Proofs.Ytgdgjalfabffcaa

/-
  LAYER 30's STATEMENTS: the example.
-/
import Derived.Test.YtgdgjalfabffcaaDrJ
namespace Go.Proofs.Ytgdgjalfabffcaa
open Go.RowKit
set_option linter.unusedVariables false
set_option linter.unusedSimpArgs false
def dA : DrrM.DS := ⟨[3, 2], [0, 0], [[], []], []⟩
def dB : DrrM.DS := ⟨[3, 2], [0, 0], [[10], []], [0]⟩
def dC : DrrM.DS := ⟨[3, 2], [0, 0], [[10], [11]], [0, 1]⟩
def dD : DrrM.DS := ⟨[3, 2], [3, 0], [[10], [11]], [0, 1]⟩
def dE : DrrM.DS := ⟨[3, 2], [0, 0], [[10], [11]], [1, 0]⟩
def dF : DrrM.DS := ⟨[3, 2], [0, 2], [[10], [11]], [1, 0]⟩
theorem dA_new : DrrM.new [3, 2] = dA := rfl
theorem dB_add : addD dA 0 10 = dB ∧ addE dA 0 10 = 0 := ⟨rfl, rfl⟩
theorem dC_add : addD dB 1 11 = dC ∧ addE dB 1 11 = 0 := ⟨rfl, rfl⟩
theorem dD_next : DrrM.next dC 9 [9, 9] = (dD, some 0) := rfl
theorem dE_spent : spD dD 10 3 false = dE ∧ spE dD 10 3 = 0 := ⟨rfl, rfl⟩
theorem dF_next : DrrM.next dE 1 [9, 9] = (dF, some 1) := rfl
theorem job_small (d : DrrM.DS) (h : d = dA ∨ d = dB) : ∀ t, t < d.q.length → (d.job t).length < 1099511627776 := by
  rcases h with rfl | rfl
  · intro t ht
    match t, ht with
    | 0, _ => decide
    | 1, _ => decide
    | t + 2, ht => simp [dA] at ht; omega
  · intro t ht
    match t, ht with
    | 0, _ => decide
    | 1, _ => decide
    | t + 2, ht => simp [dB] at ht; omega
set_option maxRecDepth 100000 in
set_option maxHeartbeats 8000000 in
theorem two30_any (w : World) : Calls Try.prog 25 #[] w fun e w' => e = .returned (.bool true) ∧ Below w.heap.size w w' := by
  obtain ⟨w1, hw1⟩ : ∃ w1, w.alloc (.cells #[.int .i64 3, .int .i64 2] 3) = w1 := ⟨_, rfl⟩
  obtain ⟨P, hP⟩ : ∃ P, w.heap.size = P := ⟨_, rfl⟩
  have h1 : IsInts w1 (.slice (some ⟨P, 0, none⟩) 2 2) [3, 2] := by rw [← hw1, ← hP]; exact ints_of_row (zs := [3, 2]) (rest := []) (heap_alloc_new w _) rfl
  have HB1 : Hid (Below w.heap.size w w1) := Lib.hid (by rw [← hw1]; exact (Below.refl _ _).alloc (Nat.le_refl _) _)
  have hm : qMay [3, 2] := by refine ⟨by decide, by decide, fun x hx => ?_⟩; simp at hx; omega
  have HN := Lib.hid (drnew_any _ [3, 2] w1 h1 hm)
  clear h1 hm
  go_enter Try.func25, Try.ntmps25
  go_wp2_with fail
  refine HN.out.mono ?_
  rintro e w2 ⟨s, g, Q, V, rfl, hd, hb2⟩
  have hd2 := DrP.new hd hb2 (by refine ⟨by decide, by decide, fun x hx => ?_⟩; simp at hx; omega)
  rw [dA_new] at hd2
  have H3 := Lib.hid (da_add 0 10 hd2 (job_small _ (Or.inl rfl)))
  rw [dB_add.1, dB_add.2] at H3
  clear hd hb2 hd2
  go_wp2_with fail
  refine H3.out.mono ?_
  rintro e w3 ⟨rfl, hd3, _⟩
  have H4 := Lib.hid (da_add 1 11 hd3 (job_small _ (Or.inr rfl)))
  rw [dC_add.1, dC_add.2] at H4
  clear hd3
  go_wp2_with fail
  refine H4.out.mono ?_
  rintro e w4 ⟨rfl, hd4, _⟩
  obtain ⟨w5, hw5⟩ : ∃ w5, w4.alloc (.cells #[.int .i64 9, .int .i64 9] 3) = w5 := ⟨_, rfl⟩
  obtain ⟨P4, hP4⟩ : ∃ P, w4.heap.size = P := ⟨_, rfl⟩
  have h5 : IsInts w5 (.slice (some ⟨P4, 0, none⟩) 2 2) [9, 9] := by rw [← hw5, ← hP4]; exact ints_of_row (zs := [9, 9]) (rest := []) (heap_alloc_new w4 _) rfl
  have hd5 : DrP w1 w5 s g dC (fun k => k = P4) := hd4.more (by rw [← hw5]; exact (Below.refl _ _).alloc (Nat.le_refl _) _) (fun k hk => Or.inr (by rw [← hw5]; simp; omega))
  have H5 := Lib.hid (da_next 9 _ [9, 9] hd5 h5 (fun k hk => Or.inl (by have h : P4 = k := (by simpa [Value.ownBlock] using hk); exact h.symm)) (by decide))
  rw [dD_next] at H5
  clear hd4 h5 hd5
  go_wp2_with fail
  refine H5.out.mono ?_
  rintro e w6 ⟨⟨hd6, _⟩, he6⟩
  obtain ⟨a, ha⟩ : ∃ a : Int, a = 0 := ⟨0, rfl⟩
  have he6' : e = .returned (.tuple #[.agg #[.int .i64 a, .int .i64 10, .int .i64 3], .bool true]) := by
    rcases he6 with ⟨h, _⟩ | ⟨t, x, l, h1, h2, h3⟩
    · cases h
    · simp only [Option.some.injEq] at h1
      subst h1
      have e1 : (10 : Int) :: [] = x :: l := h2
      injection e1 with e2 e3
      rw [h3, ← e2, ha]
      rfl
  subst he6'
  have hab : (a == 0) = true := by rw [beq_iff_eq]; exact ha
  obtain ⟨G, hG⟩ : ∃ G, w6.heap.size = G := ⟨_, rfl⟩
  obtain ⟨w7, hw7⟩ : ∃ w7, w6.alloc (.cells #[.int .i64 a, .int .i64 10, .int .i64 3] 64) = w7 := ⟨_, rfl⟩
  have hg7 : w7.heap[G]? = some (.cells #[.int .i64 a, .int .i64 10, .int .i64 3] 64 (0, 0)) := by rw [← hw7, ← hG]; exact heap_alloc_new _ _
  have hd7 : DrP w1 w7 s g dD (fun k => k = G) := hd6.more (by rw [← hw7]; exact (Below.refl _ _).alloc (Nat.le_refl _) _) (fun k hk => Or.inr (by rw [← hw7]; simp; omega))
  have H7 := Lib.hid (da_spent 10 3 false hd7)
  rw [dE_spent.1, dE_spent.2] at H7
  have HG7 := Lib.hid hg7
  have HA := Lib.hid ha
  clear hd6 he6 hd7 hg7 ha
  go_wp2_with fail
  refine H7.out.mono ?_
  rintro e w8 ⟨rfl, hd8, hk8⟩
  have hg8 := (hk8 G rfl).trans HG7.out
  obtain ⟨w9, hw9⟩ : ∃ w9, w8.alloc (.cells #[.int .i64 9, .int .i64 9] 3) = w9 := ⟨_, rfl⟩
  obtain ⟨P8, hP8⟩ : ∃ P, w8.heap.size = P := ⟨_, rfl⟩
  have h9 : IsInts w9 (.slice (some ⟨P8, 0, none⟩) 2 2) [9, 9] := by rw [← hw9, ← hP8]; exact ints_of_row (zs := [9, 9]) (rest := []) (heap_alloc_new w8 _) rfl
  have hb9 : Below w8.heap.size w8 w9 := by rw [← hw9]; exact (Below.refl _ _).alloc (Nat.le_refl _) _
  have hd9 : DrP w1 w9 s g dE (fun k => k = G ∨ k = P8) := hd8.more hb9 (fun k hk => by
    rcases hk with rfl | rfl
    · exact Or.inl rfl
    · exact Or.inr (by rw [← hw9]; simp; omega))
  have HG9 : Hid (w9.heap[G]? = _) := Lib.hid ((hd8.kept hb9 G rfl).trans hg8)
  have H9 := Lib.hid (da_next 1 _ [9, 9] hd9 h9 (fun k hk => Or.inl (Or.inr (by have h : P8 = k := (by simpa [Value.ownBlock] using hk); exact h.symm))) (by decide))
  rw [dF_next] at H9
  clear hd8 h9 hd9 hg8 hk8 hb9
  go_wp2_with fail
  refine H9.out.mono ?_
  rintro e w10 ⟨⟨hd10, hk10⟩, he10⟩
  have he10' : e = .returned (.tuple #[.agg #[.int .i64 1, .int .i64 11, .int .i64 1], .bool true]) := by
    rcases he10 with ⟨h, _⟩ | ⟨t, x, l, h1, h2, h3⟩
    · cases h
    · simp only [Option.some.injEq] at h1
      subst h1
      have e1 : (11 : Int) :: [] = x :: l := h2
      injection e1 with e2 e3
      rw [h3, ← e2]
      rfl
  subst he10'
  obtain ⟨G2, hG2⟩ : ∃ G, w10.heap.size = G := ⟨_, rfl⟩
  obtain ⟨w11, hw11⟩ : ∃ w11, w10.alloc (.cells #[.int .i64 1, .int .i64 11, .int .i64 1] 64) = w11 := ⟨_, rfl⟩
  have hb11 : Below w10.heap.size w10 w11 := by rw [← hw11]; exact (Below.refl _ _).alloc (Nat.le_refl _) _
  have hg11 : w11.heap[G2]? = some (.cells #[.int .i64 1, .int .i64 11, .int .i64 1] 64 (0, 0)) := by rw [← hw11, ← hG2]; exact heap_alloc_new _ _
  have hg11' := (hd10.kept hb11 G (Or.inl rfl)).trans ((hk10 G (Or.inl rfl)).trans HG9.out)
  have c0 : w11.cell? ⟨G2, 0, none⟩ = some (.int .i64 1) := by rw [cell_of_row _ _ 0 _ _ _ hg11]; rfl
  have c1 : w11.cell? ⟨G2, 1, none⟩ = some (.int .i64 11) := by rw [cell_of_row _ _ 1 _ _ _ hg11]; rfl
  have c2 : w11.cell? ⟨G2, 2, none⟩ = some (.int .i64 1) := by rw [cell_of_row _ _ 2 _ _ _ hg11]; rfl
  have b0 : w11.cell? ⟨G, 0, none⟩ = some (.int .i64 a) := by rw [cell_of_row _ _ 0 _ _ _ hg11']; rfl
  have b1 : w11.cell? ⟨G, 1, none⟩ = some (.int .i64 10) := by rw [cell_of_row _ _ 1 _ _ _ hg11']; rfl
  have b2 : w11.cell? ⟨G, 2, none⟩ = some (.int .i64 3) := by rw [cell_of_row _ _ 2 _ _ _ hg11']; rfl
  have hd11 := hd10.next hb11
  have HC := Lib.hid (da_credit 1 hd11 (by decide))
  rw [show dF.crd 1 = 2 from rfl] at HC
  have HB11 := Lib.hid (HB1.out.trans (hd11.below.mono HB1.out.size))
  clear hd10 he10 hk10 hd11 hg11 hg11' hb11
  go_wp2_with fail
  refine HC.out.mono ?_
  rintro e w12 ⟨rfl, hw12⟩
  obtain rfl := hw12.symm
  go_wp2_with fail
  go_ret
  exact ⟨rfl, HB11.out⟩
end Go.Proofs.Ytgdgjalfabffcaa

/-
  LAYER 28: the document's Total, Refused.
-/
import Derived.Test.YtjpahpbofgfgfaaWinH
namespace Go.Proofs.Ytjpahpbofgfgfaa
open Go.RowKit
set_option linter.unusedVariables false
set_option linter.unusedSimpArgs false
def totS (T : Int) (n : Int) (c : Chg) : Int := if c.T = T then (if n + c.Z > 1099511627776 then 1099511627776 else n + c.Z) else n
/-- All that a tenant was charged. -/
def totD (l : List Chg) (T : Int) : Int := l.foldl (totS T) 0
theorem totD_append (l : List Chg) (c : Chg) (T : Int) : totD (l ++ [c]) T = totS T (totD l T) c := by simp [totD, List.foldl_append]
theorem totD_next {l : List Chg} {k : Nat} {c : Chg} (h : l[k]? = some c) (T : Int) : totD (l.take (k + 1)) T = totS T (totD (l.take k) T) c := by
  rw [List.take_add_one, h]
  exact totD_append _ _ _
theorem totD_bd (l : List Chg) (T : Int) (h : ∀ c ∈ l, 0 ≤ c.Z) : 0 ≤ totD l T ∧ totD l T ≤ 1099511627776 := by
  have key : ∀ (l : List Chg) (n : Int), (∀ c ∈ l, 0 ≤ c.Z) → 0 ≤ n ∧ n ≤ 1099511627776 → 0 ≤ l.foldl (totS T) n ∧ l.foldl (totS T) n ≤ 1099511627776 := by
    intro l
    induction l with
    | nil => intro n _ h; exact h
    | cons c l ih =>
      intro n hl hn
      rw [List.foldl_cons]
      refine ih _ (fun x hx => hl x (List.mem_cons_of_mem _ hx)) ?_
      have := hl c (List.mem_cons_self ..)
      unfold totS
      split
      · split <;> omega
      · exact hn
  exact key l 0 h (by omega)
set_option maxRecDepth 100000 in
set_option maxHeartbeats 2000000 in
theorem rtotal28_any (v : Value) (l : List Chg) (T : Int) (w : World) (hI : IsCh w v l) (hok : ChOk l) : Calls Try.prog 34 #[v, .int .i64 T] w fun e w' => e = .returned (.int .i64 (totD l T)) ∧ Below w.heap.size w w' := by
  have HI := Lib.hid hI
  obtain ⟨a, cap, rfl, _⟩ := hI
  obtain ⟨N, hN⟩ : ∃ N, l.length = N := ⟨_, rfl⟩
  have HN := Lib.hid hN
  have hn : N ≤ 1000 := by rw [← hN]; exact hok.1
  have HO := Lib.hid hok
  have HE : Hid (totD (l.take N) T = totD l T) := Lib.hid (by rw [← hN, List.take_length])
  rw [← HE.out, hN]
  clear hok hN
  go_enter Try.func34, Try.ntmps34
  go_wp2_with fail
  go_loopw [5, 7, 10] (fun vn _ vi wr => ∃ k : Nat, vi = .int .i64 (k : Int) ∧ vn = .int .i64 (totD (l.take k) T) ∧ k ≤ N ∧ Hid (Below w.heap.size w wr)) (fun _ _ vi _ => N - (intOf vi).toNat)
  case atStart => exact ⟨0, rfl, by simp [totD], by omega, Lib.hid (Below.refl _ _)⟩
  case round =>
    obtain ⟨k, rfl, rfl, hk, hB⟩ := hrel
    by_cases hlt : k < N
    · have hki : (k : Int) < (N : Int) := by omega
      obtain ⟨c, hc⟩ : ∃ c, l[k]? = some c := ⟨_, List.getElem?_eq_getElem (by rw [HN.out]; exact hlt)⟩
      obtain ⟨a', cap', hv, hcc⟩ := HI.out.below hB.out
      simp only [Value.slice.injEq] at hv
      obtain ⟨rfl, hv2, rfl⟩ := hv
      clear hv2
      obtain ⟨bz, oz, rfl, c1, c2, c3⟩ := hcc k c hc
      have hs1 := totD_bd (l.take k) T (fun c hc => ((HO.out.take k).2 c hc).1.1)
      have hnx := totD_next hc T
      have h2 := (HO.out.2 c (List.mem_of_getElem? hc)).1
      obtain ⟨D, X, A2⟩ := c
      unfold totS at hnx
      dsimp only at hnx c1 c2 c3 h2
      obtain ⟨h2a, h2b⟩ := h2
      generalize totD (l.take k) T = s at *
      obtain ⟨s2, hs⟩ : ∃ s2, totD (l.take (k + 1)) T = s2 := ⟨_, rfl⟩
      have HS := Lib.hid hs
      rw [hs] at hnx
      have HB2 : ∀ o, Hid (Below w.heap.size w (wr.alloc o)) := fun o => Lib.hid (hB.out.alloc hB.out.size _)
      clear hs hcc hc
      by_cases he : D = T
      · subst he
        rw [if_pos rfl] at hnx
        obtain ⟨z, hz⟩ : ∃ z, s + X = z := ⟨_, rfl⟩
        have hwr : IntKind.i64.wrap z = z := IntWalk.i64_in _ (by omega)
        rw [hz] at hnx
        by_cases hg : z > 1099511627776
        · rw [if_pos hg] at hnx
          have HX := Lib.hid hnx
          clear hnx
          go_wp2_with fail
          go_roundw
          case rel => exact ⟨k + 1, by go_num, by rw [HS.out, HX.out], by omega, HB2 _⟩
          case measure => simp [intOf]; omega
        · rw [if_neg hg] at hnx
          have HX := Lib.hid hnx
          clear hnx
          go_wp2_with fail
          go_roundw
          case rel => exact ⟨k + 1, by go_num, by rw [HS.out, HX.out], by omega, HB2 _⟩
          case measure => simp [intOf]; omega
      · rw [if_neg he] at hnx
        have hef : (D == T) = false := by rw [beq_eq_false_iff_ne]; exact he
        have hs2 : ¬ s > 1099511627776 := by omega
        have HX := Lib.hid hnx
        clear hnx he
        go_wp2_with fail
        go_roundw
        case rel => exact ⟨k + 1, by go_num, by rw [HS.out, HX.out], by omega, HB2 _⟩
        case measure => simp [intOf]; omega
    · have hki : ¬ (k : Int) < (N : Int) := by omega
      have hkN : k = N := by omega
      subst hkN
      go_wp2_with fail
      go_ret
      exact ⟨rfl, hB.out⟩
/-! ### Refused -/
def refR (zs : List Int) (l : List Chg) (S T x A : Int) : Int :=
  if ¬ (0 ≤ T ∧ T < (zs.length : Int)) then 6 else if ¬ lgIs x then 1 else if x > zs.getD T.toNat 0 - chD S l T (A / S) then 33 else 0
set_option maxHeartbeats 8000000 in
theorem rrefused28_any (v u : Value) (zs : List Int) (l : List Chg) (S T x A : Int) (w : World) (hz : IsInts w v zs) (hzs : ∀ y ∈ zs, lgIs y) (hI : IsCh w u l) (hok : ChOk l) (hS : 1 ≤ S ∧ S ≤ 1048576) (hA : 0 ≤ A ∧ A ≤ 1099511627776) :
    Calls Try.prog 29 #[.agg #[.int .i64 S, v], u, .agg #[.int .i64 T, .int .i64 x, .int .i64 A]] w fun e w' => e = .returned (.int .i64 (refR zs l S T x A)) ∧ Below w.heap.size w w' := by
  obtain ⟨w4, hw4⟩ : ∃ w4, w.alloc (.cells #[.int .i64 S, v] 55) = w4 := ⟨_, rfl⟩
  obtain ⟨w5, hw5⟩ : ∃ w5, w4.alloc (.cells #[.int .i64 T, .int .i64 x, .int .i64 A] 52) = w5 := ⟨_, rfl⟩
  have hs4 : w4.heap.size = w.heap.size + 1 := by rw [← hw4]; simp
  have hs5 : w5.heap.size = w4.heap.size + 1 := by rw [← hw5]; simp
  have hy4 : w4.heap[w.heap.size]? = some (.cells #[.int .i64 S, v] 55 (0, 0)) := by rw [← hw4]; exact heap_alloc_new _ _
  have hy5 : w5.heap[w.heap.size]? = some (.cells #[.int .i64 S, v] 55 (0, 0)) := by rw [← hw5]; exact (Below.heap_alloc _ _ _ (by omega)).trans hy4
  have hx5 : w5.heap[w4.heap.size]? = some (.cells #[.int .i64 T, .int .i64 x, .int .i64 A] 52 (0, 0)) := by rw [← hw5]; exact heap_alloc_new _ _
  have hb5 : Below w.heap.size w w5 := by rw [← hw5, ← hw4]; exact ((Below.refl _ _).alloc (Nat.le_refl _) _).alloc (by simp) _
  have HB := Lib.hid hb5
  have e0 : w5.cell? ⟨w.heap.size, 0, none⟩ = some (.int .i64 S) := by rw [cell_of_row _ _ 0 _ _ _ hy5]; rfl
  have e1 : w5.cell? ⟨w.heap.size, 1, none⟩ = some v := by rw [cell_of_row _ _ 1 _ _ _ hy5]; rfl
  have c0 : w5.cell? ⟨w4.heap.size, 0, none⟩ = some (.int .i64 T) := by rw [cell_of_row _ _ 0 _ _ _ hx5]; rfl
  have c1 : w5.cell? ⟨w4.heap.size, 1, none⟩ = some (.int .i64 x) := by rw [cell_of_row _ _ 1 _ _ _ hx5]; rfl
  have c2 : w5.cell? ⟨w4.heap.size, 2, none⟩ = some (.int .i64 A) := by rw [cell_of_row _ _ 2 _ _ _ hx5]; rfl
  by_cases hT : 0 ≤ T ∧ T < (zs.length : Int)
  · obtain ⟨t, rfl⟩ : ∃ t : Nat, T = (t : Int) := ⟨T.toNat, by omega⟩
    have ht : t < zs.length := by omega
    have hR : refR zs l S (t : Int) x A = if ¬ lgIs x then 1 else if x > zs.getD t 0 - chD S l (t : Int) (A / S) then 33 else 0 := by unfold refR; rw [if_neg (by omega), Int.toNat_natCast]
    have hl : lgIs (zs.getD t 0) := by
      rw [List.getD_eq_getElem?_getD, List.getElem?_eq_getElem ht]
      exact hzs _ (List.getElem_mem ht)
    have HZ5 := Lib.hid (hz.below hb5)
    obtain ⟨bz, oz, cz, rfl, cl⟩ := (hz.below hb5).cell ht
    have HCL : Hid (∀ W, Below w5.heap.size w5 W → W.cell? ⟨bz, oz + t, none⟩ = some (.int .i64 (zs.getD t 0)) ∧ W.cell? ⟨w.heap.size, 0, none⟩ = some (.int .i64 S) ∧ W.cell? ⟨w4.heap.size, 0, none⟩ = some (.int .i64 (t : Int)) ∧ W.cell? ⟨w4.heap.size, 1, none⟩ = some (.int .i64 x) ∧ W.cell? ⟨w4.heap.size, 2, none⟩ = some (.int .i64 A)) := Lib.hid (fun W hW =>
      ⟨(hW.cell (cell_lt cl)).trans cl, (hW.cell (cell_lt e0)).trans e0, (hW.cell (cell_lt c0)).trans c0, (hW.cell (cell_lt c1)).trans c1, (hW.cell (cell_lt c2)).trans c2⟩)
    have HU := Lib.hid (rcharged28_any u l S (t : Int) x A w5.drew (hI.below hb5.drew) hok hS hA)
    have HD := Lib.hid (below_drewN w5 1)
    have hbd := hok.bd S (t : Int) (A / S)
    obtain ⟨N, hN⟩ : ∃ N, zs.length = N := ⟨_, rfl⟩
    rw [hN] at hT e1 hw4 ⊢
    have k0 : ¬ (t : Int) < 0 := by omega
    have k1 : ¬ (t : Int) ≥ (N : Int) := by omega
    have k2 : (t : Int) < (N : Int) := by omega
    have k3 : (0 : Int) ≤ (t : Int) := by omega
    generalize zs.getD t 0 = y at *
    generalize refR zs l S (t : Int) x A = R at *
    generalize chD S l (t : Int) (A / S) = q at *
    obtain ⟨hl1, hl2⟩ := hl
    clear hy4 hy5 hx5 hI hok hN hT hz HZ5 hzs ht hb5 hs4 hs5
    by_cases h1 : lgIs x
    · have g1 : ¬ x < 0 := by have := h1.1; omega
      have g2 : ¬ x > 1099511627776 := by have := h1.2; omega
      have n1 : ¬ ¬ lgIs x := fun h => h h1
      rw [if_neg n1] at hR
      obtain ⟨d, hd⟩ : ∃ d, y - q = d := ⟨_, rfl⟩
      have hw2 : IntKind.i64.wrap d = d := IntWalk.i64_in _ (by omega)
      rw [hd] at hR
      have HDD := Lib.hid hd
      clear h1 n1
      by_cases h2 : x > d
      · rw [if_pos h2] at hR
        have HR := Lib.hid hR
        clear hR
        go_enter Try.func29, Try.ntmps29
        go_wp2_with fail
        go_region_held3 (fun W => W.cell? ⟨bz, oz + t, none⟩ = some (.int .i64 y) ∧ W.cell? ⟨w.heap.size, 0, none⟩ = some (.int .i64 S) ∧ W.cell? ⟨w4.heap.size, 0, none⟩ = some (.int .i64 (t : Int)) ∧ W.cell? ⟨w4.heap.size, 1, none⟩ = some (.int .i64 x) ∧ W.cell? ⟨w4.heap.size, 2, none⟩ = some (.int .i64 A)) (go_keep)
          (first
            | (go_at_call 31; refine HU.out.mono ?_; rintro e w6 ⟨rfl, hb6⟩; have hb56 := HD.out.trans hb6; obtain ⟨y0, y1, y2, y3, y4⟩ := HCL.out _ hb56; have HB6 := Lib.hid (HB.out.trans (hb56.mono HB.out.size)); clear hb6 hb56))
        all_goals go_wp2_with fail
        all_goals go_ret
        all_goals exact ⟨by rw [HR.out]; rfl, HB6.out⟩
      · rw [if_neg h2] at hR
        have HR := Lib.hid hR
        clear hR
        go_enter Try.func29, Try.ntmps29
        go_wp2_with fail
        go_region_held3 (fun W => W.cell? ⟨bz, oz + t, none⟩ = some (.int .i64 y) ∧ W.cell? ⟨w.heap.size, 0, none⟩ = some (.int .i64 S) ∧ W.cell? ⟨w4.heap.size, 0, none⟩ = some (.int .i64 (t : Int)) ∧ W.cell? ⟨w4.heap.size, 1, none⟩ = some (.int .i64 x) ∧ W.cell? ⟨w4.heap.size, 2, none⟩ = some (.int .i64 A)) (go_keep)
          (first
            | (go_at_call 31; refine HU.out.mono ?_; rintro e w6 ⟨rfl, hb6⟩; have hb56 := HD.out.trans hb6; obtain ⟨y0, y1, y2, y3, y4⟩ := HCL.out _ hb56; have HB6 := Lib.hid (HB.out.trans (hb56.mono HB.out.size)); clear hb6 hb56))
        all_goals go_wp2_with fail
        all_goals go_ret
        all_goals exact ⟨by rw [HR.out]; rfl, HB6.out⟩
    · rw [if_pos h1] at hR
      have HR := Lib.hid hR
      clear hR
      by_cases g1 : x < 0
      · clear h1
        go_enter Try.func29, Try.ntmps29
        go_wp2_with fail
        go_ret
        exact ⟨by rw [HR.out]; rfl, HB.out⟩
      · have g2 : x > 1099511627776 := by
          by_cases g2 : x > 1099511627776
          · exact g2
          · exact absurd ⟨by omega, by omega⟩ h1
        clear h1
        go_enter Try.func29, Try.ntmps29
        go_wp2_with fail
        go_ret
        exact ⟨by rw [HR.out]; rfl, HB.out⟩
  · have hR : refR zs l S T x A = 6 := by unfold refR; rw [if_pos hT]
    have HR := Lib.hid hR
    obtain ⟨az, cz, rfl, _⟩ := hz
    generalize refR zs l S T x A = R at *
    obtain ⟨N, hN⟩ : ∃ N, zs.length = N := ⟨_, rfl⟩
    rw [hN] at hT e1 hw4 ⊢
    clear hR hN hI hok hy4 hy5 hx5 hb5 hs4 hs5
    by_cases k0 : T < 0
    · clear hT
      go_enter Try.func29, Try.ntmps29
      go_wp2_with fail
      go_ret
      exact ⟨by rw [HR.out]; rfl, HB.out⟩
    · have k1 : T ≥ (N : Int) := by omega
      clear hT
      go_enter Try.func29, Try.ntmps29
      go_wp2_with fail
      go_ret
      exact ⟨by rw [HR.out]; rfl, HB.out⟩
end Go.Proofs.Ytjpahpbofgfgfaa

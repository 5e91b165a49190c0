/-
  LAYER 28: the document's Charged, Total.
-/
import Derived.Test.YtjpahpbofgfgfaaWinG
namespace Go.Proofs.Ytjpahpbofgfgfaa
open Go.RowKit
set_option linter.unusedVariables false
set_option linter.unusedSimpArgs false
/-- So much was charged to a tenant at a tick. -/
structure Chg where
  T : Int
  Z : Int
  A : Int
/-- v is a row of charges. -/
def IsCh (w : World) (v : Value) (l : List Chg) : Prop := ∃ a cap, v = .slice a l.length cap ∧ ∀ i x, l[i]? = some x → ∃ b off, a = some ⟨b, off, none⟩ ∧ w.cell? ⟨b, off + i * 3, none⟩ = some (.int .i64 x.T) ∧ w.cell? ⟨b, off + i * 3 + 1, none⟩ = some (.int .i64 x.Z) ∧ w.cell? ⟨b, off + i * 3 + 2, none⟩ = some (.int .i64 x.A)
theorem IsCh.below {w w' : World} {v : Value} {l : List Chg} (h : IsCh w v l) (hb : Below w.heap.size w w') : IsCh w' v l := by
  obtain ⟨a, cap, hv, hc⟩ := h
  refine ⟨a, cap, hv, fun i x hx => ?_⟩
  obtain ⟨b, off, ha, h1, h2, h3⟩ := hc i x hx
  exact ⟨b, off, ha, (hb.cell (cell_lt h1)).trans h1, (hb.cell (cell_lt h2)).trans h2, (hb.cell (cell_lt h3)).trans h3⟩
/-- What a tenant was charged in a window. -/
def chD (S : Int) : List Chg → Int → Int → Int
  | [], _, _ => 0
  | c :: l, T, q => (if c.T = T ∧ c.A / S = q then c.Z else 0) + chD S l T q
theorem chD_append (S : Int) : ∀ (a b : List Chg) (T q : Int), chD S (a ++ b) T q = chD S a T q + chD S b T q
  | [], b, T, q => by simp [chD]
  | c :: a, b, T, q => by rw [List.cons_append, chD, chD, chD_append S a b T q]; omega
def ChOk (l : List Chg) : Prop := l.length ≤ 1000 ∧ ∀ c ∈ l, (0 ≤ c.Z ∧ c.Z ≤ 1099511627776) ∧ 0 ≤ c.A ∧ c.A ≤ 1099511627776
theorem chD_bd (S : Int) : ∀ (l : List Chg) (T q : Int), (∀ c ∈ l, (0 ≤ c.Z ∧ c.Z ≤ 1099511627776) ∧ 0 ≤ c.A ∧ c.A ≤ 1099511627776) → 0 ≤ chD S l T q ∧ chD S l T q ≤ 1099511627776 * (l.length : Int)
  | [], T, q, _ => by simp [chD]
  | c :: l, T, q, h => by
    have h1 := chD_bd S l T q (fun x hx => h x (List.mem_cons_of_mem _ hx))
    have h2 := (h c (List.mem_cons_self ..)).1
    rw [chD, List.length_cons]
    push_cast
    split <;> omega
theorem ChOk.take {l : List Chg} (h : ChOk l) (k : Nat) : ChOk (l.take k) := ⟨by rw [List.length_take]; have := h.1; omega, fun d hd => h.2 d (List.mem_of_mem_take hd)⟩
theorem ChOk.bd {l : List Chg} (h : ChOk l) (S T q : Int) : 0 ≤ chD S l T q ∧ chD S l T q ≤ 1099511627776000 := by
  have h1 := chD_bd S l T q h.2
  have h2 := h.1
  omega
theorem chD_next {S : Int} {l : List Chg} {k : Nat} {c : Chg} (h : l[k]? = some c) (T q : Int) : chD S (l.take (k + 1)) T q = chD S (l.take k) T q + (if c.T = T ∧ c.A / S = q then c.Z else 0) := by
  rw [List.take_add_one, h, chD_append]
  simp [chD]
set_option maxRecDepth 100000 in
set_option maxHeartbeats 4000000 in
theorem rcharged28_any (v : Value) (l : List Chg) (S T Z A : Int) (w : World) (hI : IsCh w v l) (hok : ChOk l) (hS : 1 ≤ S ∧ S ≤ 1048576) (hA : 0 ≤ A ∧ A ≤ 1099511627776) :
    Calls Try.prog 31 #[v, .agg #[.int .i64 T, .int .i64 Z, .int .i64 A], .int .i64 S] w fun e w' => e = .returned (.int .i64 (chD S l T (A / S))) ∧ Below w.heap.size w w' := by
  obtain ⟨w5, hw5⟩ : ∃ w5, w.alloc (.cells #[.int .i64 T, .int .i64 Z, .int .i64 A] 52) = w5 := ⟨_, rfl⟩
  have hx5 : w5.heap[w.heap.size]? = some (.cells #[.int .i64 T, .int .i64 Z, .int .i64 A] 52 (0, 0)) := by rw [← hw5]; exact heap_alloc_new _ _
  have hb5 : Below w.heap.size w w5 := by rw [← hw5]; exact (Below.refl _ _).alloc (Nat.le_refl _) _
  have hz5 : w5.heap.size = w.heap.size + 1 := by rw [← hw5]; simp
  have HI := Lib.hid (hI.below hb5)
  have HX5 := Lib.hid hx5
  have HB5 := Lib.hid hb5
  have hG5 : w.heap.size < w5.heap.size := by omega
  obtain ⟨a, cap, rfl, _⟩ := hI
  obtain ⟨N, hN⟩ : ∃ N, l.length = N := ⟨_, rfl⟩
  have HN := Lib.hid hN
  have hn : N ≤ 1000 := by rw [← hN]; exact hok.1
  have HO := Lib.hid hok
  obtain ⟨q, hq⟩ : ∃ q, A / S = q := ⟨_, rfl⟩
  have hS0 : S ≠ 0 := by omega
  have hS1 : (S == 0) = false := by rw [beq_eq_false_iff_ne]; exact hS0
  have HSS := Lib.hid hS
  have hqd : A.tdiv S = q := by rw [Int.tdiv_eq_ediv_of_nonneg hA.1]; exact hq
  have hq0 : 0 ≤ q := by rw [← hq]; exact Int.ediv_nonneg hA.1 (by omega)
  have hqA : q ≤ A := by rw [← hq]; exact Int.ediv_le_self _ hA.1
  have hqw : IntKind.i64.wrap q = q := IntWalk.i64_in _ (by omega)
  have HE : Hid (chD S (l.take N) T q = chD S l T q) := Lib.hid (by rw [← hN, List.take_length])
  rw [hq, ← HE.out, hN]
  clear hok hN hx5 hb5 hq hz5 HE
  go_enter Try.func31, Try.ntmps31
  go_wp2_with fail
  go_loopw [7, 9, 12] (fun vn _ vi wr => ∃ k : Nat, vi = .int .i64 (k : Int) ∧ vn = .int .i64 (chD S (l.take k) T q) ∧ k ≤ N ∧ Hid (Below w5.heap.size w5 wr)) (fun _ _ vi _ => N - (intOf vi).toNat)
  case atStart => exact ⟨0, rfl, by simp [chD], by omega, Lib.hid (Below.refl _ _)⟩
  case round =>
    obtain ⟨k, rfl, rfl, hk, hB⟩ := hrel
    by_cases hlt : k < N
    · have hki : (k : Int) < (N : Int) := by omega
      obtain ⟨c, hc⟩ : ∃ c, l[k]? = some c := ⟨_, List.getElem?_eq_getElem (by rw [HN.out]; exact hlt)⟩
      obtain ⟨a', cap', hv, hcc⟩ := HI.out.below hB.out
      simp only [Value.slice.injEq] at hv
      obtain ⟨rfl, hv2, rfl⟩ := hv
      clear hv2
      obtain ⟨bz, oz, rfl, c1, c2, c3⟩ := hcc k c hc
      have hxr := (hB.out.block w.heap.size hG5).trans HX5.out
      have hs1 := (HO.out.take k).bd S T q
      have hs2 := (HO.out.take (k + 1)).bd S T q
      have hnx := chD_next (S := S) hc T q
      have h2 := HO.out.2 c (List.mem_of_getElem? hc)
      obtain ⟨D, X, A2⟩ := c
      dsimp only at hnx c1 c2 c3 h2
      obtain ⟨⟨h2a, h2b⟩, h2c, h2d⟩ := h2
      obtain ⟨w6, hw6⟩ : ∃ w6, wr.alloc (.cells #[.int .i64 D, .int .i64 X, .int .i64 A2] 52) = w6 := ⟨_, rfl⟩
      have hx6 : w6.heap[wr.heap.size]? = some (.cells #[.int .i64 D, .int .i64 X, .int .i64 A2] 52 (0, 0)) := by rw [← hw6]; exact heap_alloc_new _ _
      have hb6 : Below wr.heap.size wr w6 := by rw [← hw6]; exact (Below.refl _ _).alloc (Nat.le_refl _) _
      have hy6 := (hb6.block w.heap.size (by have := hB.out.size; omega)).trans hxr
      have HB6 := Lib.hid (hB.out.trans (hb6.mono hB.out.size))
      have d0 : w6.cell? ⟨wr.heap.size, 0, none⟩ = some (.int .i64 D) := by rw [cell_of_row _ _ 0 _ _ _ hx6]; rfl
      have d1 : w6.cell? ⟨wr.heap.size, 1, none⟩ = some (.int .i64 X) := by rw [cell_of_row _ _ 1 _ _ _ hx6]; rfl
      have d2 : w6.cell? ⟨wr.heap.size, 2, none⟩ = some (.int .i64 A2) := by rw [cell_of_row _ _ 2 _ _ _ hx6]; rfl
      have e0 : w6.cell? ⟨w.heap.size, 0, none⟩ = some (.int .i64 T) := by rw [cell_of_row _ _ 0 _ _ _ hy6]; rfl
      have e2 : w6.cell? ⟨w.heap.size, 2, none⟩ = some (.int .i64 A) := by rw [cell_of_row _ _ 2 _ _ _ hy6]; rfl
      generalize chD S (l.take k) T q = s at *
      obtain ⟨s2, hs⟩ : ∃ s2, chD S (l.take (k + 1)) T q = s2 := ⟨_, rfl⟩
      have HS := Lib.hid hs
      rw [hs] at hs2 hnx
      obtain ⟨q2, hq2⟩ : ∃ q2, A2 / S = q2 := ⟨_, rfl⟩
      have hq2d : A2.tdiv S = q2 := by rw [Int.tdiv_eq_ediv_of_nonneg h2c]; exact hq2
      have hq20 : 0 ≤ q2 := by rw [← hq2]; exact Int.ediv_nonneg h2c (by have := HSS.out; omega)
      have hq2A : q2 ≤ A2 := by rw [← hq2]; exact Int.ediv_le_self _ h2c
      have hq2w : IntKind.i64.wrap q2 = q2 := IntWalk.i64_in _ (by omega)
      rw [hq2] at hnx
      clear hs hcc hc hxr hx6 hb6 hy6 hq2
      by_cases hD : D = T
      · have kD : (D == T) = true := by rw [beq_iff_eq]; exact hD
        by_cases hQ : q2 = q
        · have kQ : (q2 == q) = true := by rw [beq_iff_eq]; exact hQ
          rw [if_pos ⟨hD, hQ⟩] at hnx
          have hwr : IntKind.i64.wrap (s + X) = s + X := IntWalk.i64_in _ (by omega)
          have HX := Lib.hid hnx
          clear hnx hD hQ
          have HW := Lib.hid HB6.out
          go_wp2_with fail
          go_quiet (fail)
          go_wp2_with fail
          go_roundw
          case rel => exact ⟨k + 1, by go_num, by rw [HS.out, HX.out], by omega, Lib.hid (HB6.out.trans ((below_drewN _ _).mono HB6.out.size))⟩
          case measure => simp [intOf]; omega
        · have kQ : (q2 == q) = false := by rw [beq_eq_false_iff_ne]; exact hQ
          rw [if_neg (fun h => hQ h.2)] at hnx
          have HX := Lib.hid hnx
          clear hnx hD hQ
          have HW := Lib.hid HB6.out
          go_wp2_with fail
          go_quiet (fail)
          go_wp2_with fail
          go_roundw
          case rel => exact ⟨k + 1, by go_num, by rw [HS.out, HX.out, Int.add_zero], by omega, Lib.hid (HB6.out.trans ((below_drewN _ _).mono HB6.out.size))⟩
          case measure => simp [intOf]; omega
      · have kD : (D == T) = false := by rw [beq_eq_false_iff_ne]; exact hD
        rw [if_neg (fun h => hD h.1)] at hnx
        have HX := Lib.hid hnx
        clear hnx hD
        have HW := Lib.hid HB6.out
        go_wp2_with fail
        go_quiet (fail)
        go_wp2_with fail
        go_roundw
        case rel => exact ⟨k + 1, by go_num, by rw [HS.out, HX.out, Int.add_zero], by omega, Lib.hid (HB6.out.trans ((below_drewN _ _).mono HB6.out.size))⟩
        case measure => simp [intOf]; omega
    · have hki : ¬ (k : Int) < (N : Int) := by omega
      have hkN : k = N := by omega
      subst hkN
      go_wp2_with fail
      go_ret
      exact ⟨rfl, HB5.out.trans (hB.out.mono HB5.out.size)⟩
end Go.Proofs.Ytjpahpbofgfgfaa

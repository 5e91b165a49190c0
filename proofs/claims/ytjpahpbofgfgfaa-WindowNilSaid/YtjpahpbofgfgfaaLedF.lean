/-
  LAYER 27: the document's answers: limits that may be, what is reserved behind deeds, and at most.
-/
import Derived.Test.YtjpahpbofgfgfaaLedE
import Derived.Deep.RegionHeld3
namespace Go.Proofs.Ytjpahpbofgfgfaa
open Go.RowKit
set_option linter.unusedVariables false
set_option linter.unusedSimpArgs false
set_option maxRecDepth 100000 in
set_option maxHeartbeats 2000000 in
theorem rlimits_any (v : Value) (zs : List Int) (w : World) (hI : IsInts w v zs) (hn : zs.length ≤ 9223372036854775807) : Calls Try.prog 13 #[v] w fun e w' => e = .returned (.bool (decide (1 ≤ zs.length ∧ zs.length ≤ 16 ∧ ∀ x ∈ zs, lgIs x))) ∧ w' = w := by
  have HI := Lib.hid hI
  obtain ⟨a, cap, rfl, _⟩ := hI
  obtain ⟨N, hN⟩ : ∃ N, zs.length = N := ⟨_, rfl⟩
  have HN := Lib.hid hN
  obtain ⟨R, hR⟩ : ∃ R, decide (1 ≤ zs.length ∧ zs.length ≤ 16 ∧ ∀ x ∈ zs, lgIs x) = R := ⟨_, rfl⟩
  have HR := Lib.hid hR
  rw [hR]
  rw [hN] at hn ⊢
  clear hN hR
  go_enter Try.func13, Try.ntmps13
  go_wp2_with fail
  go_loopw [4, 7] (fun _ vi wr => ∃ k : Nat, vi = .int .i64 (k : Int) ∧ k ≤ N ∧ wr = w ∧ Hid (∀ x ∈ zs.take k, lgIs x)) (fun _ vi _ => N - (intOf vi).toNat)
  case atStart => exact ⟨0, rfl, by omega, rfl, Lib.hid (fun x hx => by simp at hx)⟩
  case round =>
    obtain ⟨k, rfl, hk, rfl, hA⟩ := hrel
    by_cases hlt : k < N
    · have hki : (k : Int) < (N : Int) := by omega
      have hlt2 : k < zs.length := by rw [HN.out]; exact hlt
      obtain ⟨bz, oz, cz, he1, cx⟩ := HI.out.cell hlt2
      simp only [Value.slice.injEq] at he1
      obtain ⟨rfl, _, rfl⟩ := he1
      have HX : Hid (zs[k]? = some (zs.getD k 0)) := Lib.hid (by rw [List.getD_eq_getElem?_getD, List.getElem?_eq_getElem hlt2]; rfl)
      generalize zs.getD k 0 = x at *
      by_cases h1 : lgIs x
      · have HA2 : Hid (∀ y ∈ zs.take (k + 1), lgIs y) := Lib.hid (fun y hy => by
          rw [List.take_add_one, HX.out] at hy
          rcases List.mem_append.1 hy with hy | hy
          · exact hA.out y hy
          · simp at hy; rw [hy]; exact h1)
        have g1 : ¬ x < 0 := by have := h1.1; omega
        have g2 : ¬ x > 1099511627776 := by have := h1.2; omega
        clear h1
        go_wp2_with fail
        go_roundw
        case rel => exact ⟨k + 1, by go_num, by omega, by trivial, HA2⟩
        case measure => simp [intOf]; omega
      · have HF : Hid (R = false) := Lib.hid (by rw [← HR.out]; exact decide_eq_false (fun h => h1 (h.2.2 x (List.mem_of_getElem? HX.out))))
        by_cases g1 : x < 0
        · clear h1
          go_wp2_with fail
          go_ret
          exact ⟨by rw [HF.out]; rfl, rfl⟩
        · have g2 : x > 1099511627776 := by
            by_cases g2 : x > 1099511627776
            · exact g2
            · exact absurd ⟨by omega, by omega⟩ h1
          clear h1
          go_wp2_with fail
          go_ret
          exact ⟨by rw [HF.out]; rfl, rfl⟩
    · have hki : ¬ (k : Int) < (N : Int) := by omega
      have hkN : k = N := by omega
      subst hkN
      have hA2 := hA.out
      rw [← HN.out, List.take_length] at hA2
      have hR2 := HR.out
      by_cases h1 : 1 ≤ k
      · have g1 : (k : Int) > 0 := by omega
        by_cases h2 : k ≤ 16
        · have g2 : (k : Int) ≤ 16 := by omega
          have HF : Hid (R = true) := Lib.hid (by rw [← hR2]; exact decide_eq_true ⟨by rw [HN.out]; exact h1, by rw [HN.out]; exact h2, hA2⟩)
          clear hA2 hR2
          go_wp2_with fail
          go_ret
          exact ⟨by rw [HF.out]; rfl, rfl⟩
        · have g2 : ¬ (k : Int) ≤ 16 := by omega
          have HF : Hid (R = false) := Lib.hid (by rw [← hR2]; exact decide_eq_false (fun h => h2 (by rw [← HN.out]; exact h.2.1)))
          clear hA2 hR2
          go_wp2_with fail
          go_ret
          refine ⟨?_, rfl⟩
          rw [HF.out]
          first | rfl | (show Ending.returned (Value.bool (decide ((k : Int) ≤ 16))) = _; rw [decide_eq_false g2])
      · have g1 : ¬ (k : Int) > 0 := by omega
        have HF : Hid (R = false) := Lib.hid (by rw [← hR2]; exact decide_eq_false (fun h => h1 (by rw [← HN.out]; exact h.1)))
        clear hA2 hR2
        go_wp2_with fail
        go_ret
        refine ⟨?_, rfl⟩
        rw [HF.out]
        first | rfl | (show Ending.returned (Value.bool (decide (0 < (k : Int)))) = _; rw [decide_eq_false (by omega)]) | simp
/-! ### Deeds -/
/-- v is a row of deeds: tenants, and how much more was reserved then. -/
def IsDd (w : World) (v : Value) (ds : List (Int × Int)) : Prop := ∃ a cap, v = .slice a ds.length cap ∧ ds.length ≤ cap ∧ ∀ i x, ds[i]? = some x → ∃ b off, a = some ⟨b, off, none⟩ ∧ w.cell? ⟨b, off + i * 2, none⟩ = some (.int .i64 x.1) ∧ w.cell? ⟨b, off + i * 2 + 1, none⟩ = some (.int .i64 x.2)
theorem IsDd.below {w w' : World} {v : Value} {ds : List (Int × Int)} (h : IsDd w v ds) (hb : Below w.heap.size w w') : IsDd w' v ds := by
  obtain ⟨a, cap, hv, hl, hc⟩ := h
  refine ⟨a, cap, hv, hl, fun i x hx => ?_⟩
  obtain ⟨b, off, ha, h1, h2⟩ := hc i x hx
  exact ⟨b, off, ha, (hb.cell (cell_lt h1)).trans h1, (hb.cell (cell_lt h2)).trans h2⟩
theorem IsDd.part {w : World} {a : Option Addr} {m cap : Nat} {ds : List (Int × Int)} (h : IsDd w (.slice a m cap) ds) (k : Nat) (hk : k ≤ ds.length) : IsDd w (.slice a k cap) (ds.take k) := by
  obtain ⟨a', cap', hv, hl, hc⟩ := h
  simp only [Value.slice.injEq] at hv
  obtain ⟨rfl, rfl, rfl⟩ := hv
  have e : (ds.take k).length = k := by rw [List.length_take]; omega
  refine ⟨a, cap, by rw [e], by omega, fun i x hx => ?_⟩
  have hi := (List.getElem?_eq_some_iff.1 hx).1
  rw [List.getElem?_take, if_pos (by omega)] at hx
  exact hc i x hx
def usedD : List (Int × Int) → Int → Int
  | [], _ => 0
  | d :: ds, T => (if d.1 = T then d.2 else 0) + usedD ds T
theorem usedD_append : ∀ (a b : List (Int × Int)) (T : Int), usedD (a ++ b) T = usedD a T + usedD b T
  | [], b, T => by simp [usedD]
  | d :: a, b, T => by rw [List.cons_append, usedD, usedD, usedD_append a b T]; omega
/-- Deeds that may be. -/
def DdOk (ds : List (Int × Int)) : Prop := ds.length ≤ 1000 ∧ ∀ d ∈ ds, -1099511627776 ≤ d.2 ∧ d.2 ≤ 1099511627776
theorem usedD_bd : ∀ (ds : List (Int × Int)) (T : Int), (∀ d ∈ ds, -1099511627776 ≤ d.2 ∧ d.2 ≤ 1099511627776) → -1099511627776 * (ds.length : Int) ≤ usedD ds T ∧ usedD ds T ≤ 1099511627776 * (ds.length : Int)
  | [], T, _ => by simp [usedD]
  | d :: ds, T, h => by
    have h1 := usedD_bd ds T (fun x hx => h x (List.mem_cons_of_mem _ hx))
    have h2 := h d (List.mem_cons_self ..)
    rw [usedD, List.length_cons]
    push_cast
    split <;> omega
theorem DdOk.take {ds : List (Int × Int)} (h : DdOk ds) (k : Nat) : DdOk (ds.take k) := ⟨by rw [List.length_take]; have := h.1; omega, fun d hd => h.2 d (List.mem_of_mem_take hd)⟩
theorem DdOk.bd {ds : List (Int × Int)} (h : DdOk ds) (T : Int) : -1099511627776000 ≤ usedD ds T ∧ usedD ds T ≤ 1099511627776000 := by
  have h1 := usedD_bd ds T h.2
  have h2 := h.1
  omega
theorem usedD_next {ds : List (Int × Int)} {k : Nat} {d : Int × Int} (h : ds[k]? = some d) (T : Int) : usedD (ds.take (k + 1)) T = usedD (ds.take k) T + (if d.1 = T then d.2 else 0) := by
  rw [List.take_add_one, h, usedD_append]
  simp [usedD]
set_option maxRecDepth 100000 in
set_option maxHeartbeats 2000000 in
theorem rused27_any (v : Value) (ds : List (Int × Int)) (T : Int) (w : World) (hI : IsDd w v ds) (hok : DdOk ds) : Calls Try.prog 18 #[v, .int .i64 T] w fun e w' => e = .returned (.int .i64 (usedD ds T)) ∧ Below w.heap.size w w' := by
  have HI := Lib.hid hI
  obtain ⟨a, cap, rfl, _⟩ := hI
  obtain ⟨N, hN⟩ : ∃ N, ds.length = N := ⟨_, rfl⟩
  have HN := Lib.hid hN
  have hn : N ≤ 1000 := by rw [← hN]; exact hok.1
  have HO := Lib.hid hok
  have HE : Hid (usedD (ds.take N) T = usedD ds T) := Lib.hid (by rw [← hN, List.take_length])
  rw [← HE.out, hN]
  clear hok hN
  go_enter Try.func18, Try.ntmps18
  go_wp2_with fail
  go_loopw [5, 7, 10] (fun vn _ vi wr => ∃ k : Nat, vi = .int .i64 (k : Int) ∧ vn = .int .i64 (usedD (ds.take k) T) ∧ k ≤ N ∧ Hid (Below w.heap.size w wr)) (fun _ _ vi _ => N - (intOf vi).toNat)
  case atStart => exact ⟨0, rfl, by simp [usedD], by omega, Lib.hid (Below.refl _ _)⟩
  case round =>
    obtain ⟨k, rfl, rfl, hk, hB⟩ := hrel
    by_cases hlt : k < N
    · have hki : (k : Int) < (N : Int) := by omega
      obtain ⟨d, hd⟩ : ∃ d, ds[k]? = some d := ⟨_, List.getElem?_eq_getElem (by rw [HN.out]; exact hlt)⟩
      obtain ⟨a', cap', hv, _, hc⟩ := HI.out.below hB.out
      simp only [Value.slice.injEq] at hv
      obtain ⟨rfl, _, rfl⟩ := hv
      obtain ⟨bz, oz, rfl, c1, c2⟩ := hc k d hd
      have hs1 := (HO.out.take k).bd T
      have hs2 := (HO.out.take (k + 1)).bd T
      have hnx := usedD_next hd T
      have h2 := HO.out.2 d (List.mem_of_getElem? hd)
      obtain ⟨D, Z⟩ := d
      dsimp only at hnx c1 c2 h2
      generalize usedD (ds.take k) T = s at *
      obtain ⟨s2, hs⟩ : ∃ s2, usedD (ds.take (k + 1)) T = s2 := ⟨_, rfl⟩
      have HS := Lib.hid hs
      rw [hs] at hs2 hnx
      clear hs hc hd
      by_cases he : D = T
      · subst he
        rw [if_pos rfl] at hnx
        have hwr : IntKind.i64.wrap (s + Z) = s + Z := IntWalk.i64_in _ (by omega)
        have HX := Lib.hid hnx
        clear hnx
        have HB2 : ∀ o, Hid (Below w.heap.size w (wr.alloc o)) := fun o => Lib.hid (hB.out.alloc hB.out.size _)
        go_wp2_with fail
        go_roundw
        case rel => exact ⟨k + 1, by go_num, by rw [HS.out, HX.out], by omega, HB2 _⟩
        case measure => simp [intOf]; omega
      · rw [if_neg he] at hnx
        have hef : (D == T) = false := by rw [beq_eq_false_iff_ne]; exact he
        have HX := Lib.hid hnx
        clear hnx he
        have HB2 : ∀ o, Hid (Below w.heap.size w (wr.alloc o)) := fun o => Lib.hid (hB.out.alloc hB.out.size _)
        go_wp2_with fail
        go_roundw
        case rel => exact ⟨k + 1, by go_num, by rw [HS.out, HX.out, Int.add_zero], by omega, HB2 _⟩
        case measure => simp [intOf]; omega
    · have hki : ¬ (k : Int) < (N : Int) := by omega
      have hkN : k = N := by omega
      subst hkN
      go_wp2_with fail
      go_ret
      exact ⟨rfl, hB.out⟩
end Go.Proofs.Ytjpahpbofgfgfaa

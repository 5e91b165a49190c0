/-
  LAYER 27: the document's Peak, Reserve, Release.
-/
import Derived.Test.YtjpahpbofgfgfaaLedF
namespace Go.Proofs.Ytjpahpbofgfgfaa
open Go.RowKit
set_option linter.unusedVariables false
set_option linter.unusedSimpArgs false
/-- What was reserved at most behind the first k deeds. -/
def pkD (ds : List (Int × Int)) (T : Int) : Nat → Int
  | 0 => 0
  | k + 1 => max (pkD ds T k) (usedD (ds.take (k + 1)) T)
def peakD (ds : List (Int × Int)) (T : Int) : Int := pkD ds T ds.length
theorem pkD_append (ds : List (Int × Int)) (d : Int × Int) (T : Int) : ∀ k, k ≤ ds.length → pkD (ds ++ [d]) T k = pkD ds T k
  | 0, _ => rfl
  | k + 1, h => by
    rw [pkD, pkD, pkD_append ds d T k (by omega), List.take_append_of_le_length h]
theorem peakD_append (ds : List (Int × Int)) (d : Int × Int) (T : Int) : peakD (ds ++ [d]) T = max (peakD ds T) (usedD (ds ++ [d]) T) := by
  unfold peakD
  rw [List.length_append, List.length_singleton, pkD, pkD_append ds d T _ (Nat.le_refl _), List.take_of_length_le (by simp)]
set_option maxRecDepth 100000 in
set_option maxHeartbeats 2000000 in
theorem rpeak27_any (v : Value) (ds : List (Int × Int)) (T : Int) (w : World) (hI : IsDd w v ds) (hok : DdOk ds) : Calls Try.prog 22 #[v, .int .i64 T] w fun e w' => e = .returned (.int .i64 (peakD ds T)) ∧ Below w.heap.size w w' := by
  have HI := Lib.hid hI
  obtain ⟨a, cap, rfl, hcap, _⟩ := hI
  unfold peakD
  obtain ⟨N, hN⟩ : ∃ N, ds.length = N := ⟨_, rfl⟩
  have HN := Lib.hid hN
  have hn : N ≤ 1000 := by rw [← hN]; exact hok.1
  have HO := Lib.hid hok
  have hci : (N : Int) ≤ (cap : Int) := by omega
  rw [hN]
  clear hok hN hcap
  go_enter Try.func22, Try.ntmps22
  go_wp2_with fail
  go_loopw [5, 6, 7, 10] (fun vm _ _ vi wr => ∃ k : Nat, vi = .int .i64 (k : Int) ∧ vm = .int .i64 (pkD ds T k) ∧ k ≤ N ∧ Hid (Below w.heap.size w wr)) (fun _ _ _ vi _ => N - (intOf vi).toNat)
  case atStart => exact ⟨0, rfl, rfl, by omega, Lib.hid (Below.refl _ _)⟩
  case round =>
    obtain ⟨k, rfl, rfl, hk, hB⟩ := hrel
    by_cases hlt : k < N
    · have hki : (k : Int) < (N : Int) := by omega
      obtain ⟨j, hj⟩ : ∃ j, k + 1 = j := ⟨_, rfl⟩
      have hji : (k : Int) + 1 = (j : Int) := by omega
      have hjN : (j : Int) ≤ (N : Int) := by omega
      have hj0 : (0 : Int) ≤ (j : Int) := by omega
      have hjc : (j : Int) ≤ (cap : Int) := by omega
      have HU := Lib.hid (rused27_any _ _ T wr ((HI.out.below hB.out).part j (by rw [HN.out]; omega)) (HO.out.take j))
      have HX : Hid (pkD ds T j = max (pkD ds T k) (usedD (ds.take j) T)) := Lib.hid (by rw [← hj]; rfl)
      generalize usedD (ds.take j) T = u at *
      obtain ⟨m2, hm2⟩ : ∃ m2, pkD ds T j = m2 := ⟨_, rfl⟩
      have HM := Lib.hid hm2
      rw [hm2] at HX
      generalize pkD ds T k = m at *
      clear hm2
      have HJ := Lib.hid hj
      clear hj
      by_cases hg : u > m
      · have hx2 : m2 = u := by have := HX.out; omega
        have HX2 := Lib.hid hx2
        clear hx2
        go_wp2_with fail
        refine HU.out.mono ?_
        rintro e w1 ⟨rfl, hb1⟩
        have HB1 := Lib.hid (hB.out.trans (hb1.mono hB.out.size))
        clear hb1
        go_wp2_with fail
        go_roundw
        case rel => exact ⟨j, by rw [← HJ.out], by rw [HM.out, HX2.out], by omega, HB1⟩
        case measure => have := HJ.out; simp [intOf]; omega
      · have hx2 : m2 = m := by have := HX.out; omega
        have HX2 := Lib.hid hx2
        clear hx2
        go_wp2_with fail
        refine HU.out.mono ?_
        rintro e w1 ⟨rfl, hb1⟩
        have HB1 := Lib.hid (hB.out.trans (hb1.mono hB.out.size))
        clear hb1
        go_wp2_with fail
        go_roundw
        case rel => exact ⟨j, by rw [← HJ.out], by rw [HM.out, HX2.out], by omega, HB1⟩
        case measure => have := HJ.out; simp [intOf]; omega
    · have hki : ¬ (k : Int) < (N : Int) := by omega
      have hkN : k = N := by omega
      subst hkN
      go_wp2_with fail
      go_ret
      exact ⟨rfl, hB.out⟩
/-! ### Refusals -/
def rsvR (zs : List Int) (ds : List (Int × Int)) (T x : Int) : Int :=
  if ¬ (0 ≤ T ∧ T < (zs.length : Int)) then 6 else if ¬ lgIs x then 1 else if x > limF zs T.toNat then 33 else if usedD ds T + x > limF zs T.toNat then 34 else 0
def relR (zs : List Int) (ds : List (Int × Int)) (T x : Int) : Int :=
  if ¬ (0 ≤ T ∧ T < (zs.length : Int)) then 6 else if x < 0 ∨ x > usedD ds T then 1 else 0
set_option maxHeartbeats 2000000 in
theorem rrelease27_any (v u : Value) (zs : List Int) (ds : List (Int × Int)) (T x : Int) (w : World) (hz : IsInts w v zs) (hI : IsDd w u ds) (hok : DdOk ds) :
    Calls Try.prog 14 #[v, u, .agg #[.int .i64 T, .int .i64 x]] w fun e w' => e = .returned (.int .i64 (relR zs ds T x)) ∧ Below w.heap.size w w' := by
  obtain ⟨w5, hw5⟩ : ∃ w5, w.alloc (.cells #[.int .i64 T, .int .i64 x] 34) = w5 := ⟨_, rfl⟩
  have hx : w5.heap[w.heap.size]? = some (.cells #[.int .i64 T, .int .i64 x] 34 (0, 0)) := by rw [← hw5]; exact heap_alloc_new _ _
  have hb5 : Below w.heap.size w w5 := by rw [← hw5]; exact (Below.refl _ _).alloc (Nat.le_refl _) _
  have hz5 : w5.heap.size = w.heap.size + 1 := by rw [← hw5]; simp
  have HB := Lib.hid hb5
  have c0 : w5.cell? ⟨w.heap.size, 0, none⟩ = some (.int .i64 T) := by rw [cell_of_row _ _ 0 _ _ _ hx]; rfl
  have c1 : w5.cell? ⟨w.heap.size, 1, none⟩ = some (.int .i64 x) := by rw [cell_of_row _ _ 1 _ _ _ hx]; rfl
  have hq5 : Below w.heap.size w w5.drew := hb5.drew
  have HU := Lib.hid (rused27_any u ds T w5.drew (hI.below hq5) hok)
  have HLT : Hid (w.heap.size < w5.drew.heap.size) := Lib.hid (by show w.heap.size < w5.heap.size; omega)
  have HQ5 := Lib.hid hq5
  clear hq5
  obtain ⟨az, cz, rfl, _⟩ := hz
  obtain ⟨N, hN⟩ : ∃ N, zs.length = N := ⟨_, rfl⟩
  have HX := Lib.hid hx
  have hus := hok.bd T
  have hRdef : relR zs ds T x = if ¬ (0 ≤ T ∧ T < (N : Int)) then 6 else if x < 0 ∨ x > usedD ds T then 1 else 0 := by rw [← hN]; rfl
  generalize relR zs ds T x = R at *
  generalize usedD ds T = q at *
  rw [hN]
  clear hx hI hok hN
  by_cases hT : 0 ≤ T ∧ T < (N : Int)
  · rw [if_neg (by omega)] at hRdef
    have k0 : ¬ T < 0 := by omega
    have k1 : ¬ T ≥ (N : Int) := by omega
    clear hT
    by_cases hx0 : x < 0
    · rw [if_pos (Or.inl hx0)] at hRdef
      have HR := Lib.hid hRdef
      clear hRdef
      go_enter Try.func14, Try.ntmps14
      go_wp2_with fail
      go_quiet (fail)
      go_wp2_with fail
      go_ret
      exact ⟨by rw [HR.out]; rfl, HB.out.trans ((below_drewN _ _).mono HB.out.size)⟩
    · have hd0 : decide (x < 0) = false := decide_eq_false hx0
      by_cases hxq : x > q
      · rw [if_pos (Or.inr hxq)] at hRdef
        have HR := Lib.hid hRdef
        clear hRdef
        go_enter Try.func14, Try.ntmps14
        go_wp2_with fail
        go_region_held3 (fun W => W.cell? ⟨w.heap.size, 0, none⟩ = some (.int .i64 T) ∧ W.cell? ⟨w.heap.size, 1, none⟩ = some (.int .i64 x)) (go_keep)
          (first
            | (go_at_call 18; refine HU.out.mono ?_; rintro e w6 ⟨rfl, hb6⟩; have hx6 := (hb6.block _ HLT.out).trans HX.out; have HB6 := Lib.hid (HQ5.out.trans (hb6.mono HQ5.out.size)); have y0 : w6.cell? ⟨w.heap.size, 0, none⟩ = some (.int .i64 T) := (by rw [cell_of_row _ _ 0 _ _ _ hx6]; rfl); have y1 : w6.cell? ⟨w.heap.size, 1, none⟩ = some (.int .i64 x) := (by rw [cell_of_row _ _ 1 _ _ _ hx6]; rfl); clear hx6 hb6))
        all_goals go_wp2_with fail
        all_goals go_ret
        all_goals exact ⟨by rw [HR.out]; rfl, HB6.out⟩
      · rw [if_neg (fun h => h.elim hx0 hxq)] at hRdef
        have HR := Lib.hid hRdef
        clear hRdef
        go_enter Try.func14, Try.ntmps14
        go_wp2_with fail
        go_region_held3 (fun W => W.cell? ⟨w.heap.size, 0, none⟩ = some (.int .i64 T) ∧ W.cell? ⟨w.heap.size, 1, none⟩ = some (.int .i64 x)) (go_keep)
          (first
            | (go_at_call 18; refine HU.out.mono ?_; rintro e w6 ⟨rfl, hb6⟩; have hx6 := (hb6.block _ HLT.out).trans HX.out; have HB6 := Lib.hid (HQ5.out.trans (hb6.mono HQ5.out.size)); have y0 : w6.cell? ⟨w.heap.size, 0, none⟩ = some (.int .i64 T) := (by rw [cell_of_row _ _ 0 _ _ _ hx6]; rfl); have y1 : w6.cell? ⟨w.heap.size, 1, none⟩ = some (.int .i64 x) := (by rw [cell_of_row _ _ 1 _ _ _ hx6]; rfl); clear hx6 hb6))
        all_goals go_wp2_with fail
        all_goals go_ret
        all_goals exact ⟨by rw [HR.out]; rfl, HB6.out⟩
  · rw [if_pos (by omega)] at hRdef
    have HR := Lib.hid hRdef
    clear hRdef
    by_cases k0 : T < 0
    · clear hT
      go_enter Try.func14, Try.ntmps14
      go_wp2_with fail
      go_ret
      exact ⟨by rw [HR.out]; rfl, HB.out⟩
    · have k1 : T ≥ (N : Int) := by omega
      clear hT
      go_enter Try.func14, Try.ntmps14
      go_wp2_with fail
      go_ret
      exact ⟨by rw [HR.out]; rfl, HB.out⟩
set_option maxHeartbeats 4000000 in
theorem rreserve27_any (v u : Value) (zs : List Int) (ds : List (Int × Int)) (T x : Int) (w : World) (hz : IsInts w v zs) (hzs : ∀ y ∈ zs, lgIs y) (hI : IsDd w u ds) (hok : DdOk ds) :
    Calls Try.prog 16 #[v, u, .agg #[.int .i64 T, .int .i64 x]] w fun e w' => e = .returned (.int .i64 (rsvR zs ds T x)) ∧ Below w.heap.size w w' := by
  obtain ⟨w5, hw5⟩ : ∃ w5, w.alloc (.cells #[.int .i64 T, .int .i64 x] 34) = w5 := ⟨_, rfl⟩
  have hx : w5.heap[w.heap.size]? = some (.cells #[.int .i64 T, .int .i64 x] 34 (0, 0)) := by rw [← hw5]; exact heap_alloc_new _ _
  have hb5 : Below w.heap.size w w5 := by rw [← hw5]; exact (Below.refl _ _).alloc (Nat.le_refl _) _
  have hz5 : w5.heap.size = w.heap.size + 1 := by rw [← hw5]; simp
  have HB := Lib.hid hb5
  have c0 : w5.cell? ⟨w.heap.size, 0, none⟩ = some (.int .i64 T) := by rw [cell_of_row _ _ 0 _ _ _ hx]; rfl
  have c1 : w5.cell? ⟨w.heap.size, 1, none⟩ = some (.int .i64 x) := by rw [cell_of_row _ _ 1 _ _ _ hx]; rfl
  have HX := Lib.hid hx
  have hus := hok.bd T
  have HZ5 := Lib.hid (hz.below hb5)
  have HU := Lib.hid (fun W (hW : Below w5.heap.size w5 W) => rused27_any u ds T W (hI.below (hb5.trans (hW.mono hb5.size))) hok)
  have HQ : Hid (∀ m, Below w.heap.size w (w5.drewN m)) := Lib.hid (fun m => hb5.trans ((below_drewN w5 m).mono hb5.size))
  have HLT : Hid (∀ W, Below w5.heap.size w5 W → W.heap[w.heap.size]? = w5.heap[w.heap.size]? ∧ Below w.heap.size w W) := Lib.hid (fun W hW => ⟨hW.block _ (by omega), hb5.trans (hW.mono hb5.size)⟩)
  by_cases hT : 0 ≤ T ∧ T < (zs.length : Int)
  · obtain ⟨t, rfl⟩ : ∃ t : Nat, T = (t : Int) := ⟨T.toNat, by omega⟩
    have ht : t < zs.length := by omega
    have HC : Hid (∀ W, Below w5.heap.size w5 W → ∃ b off cap, v = .slice (some ⟨b, off, none⟩) zs.length cap ∧ W.cell? ⟨b, off + t, none⟩ = some (.int .i64 (zs.getD t 0))) := Lib.hid (fun W hW => (HZ5.out.below hW).cell ht)
    have hl : lgIs (zs.getD t 0) := by
      rw [List.getD_eq_getElem?_getD, List.getElem?_eq_getElem ht]
      exact hzs _ (List.getElem_mem ht)
    have hRdef : rsvR zs ds (t : Int) x = if ¬ lgIs x then 1 else if x > zs.getD t 0 then 33 else if usedD ds (t : Int) + x > zs.getD t 0 then 34 else 0 := by
      unfold rsvR
      rw [if_neg (by omega), Int.toNat_natCast]
      rfl
    obtain ⟨bz, oz, cz, rfl, cl⟩ := HC.out w5 (Below.refl _ _)
    have HCL : Hid (∀ W, Below w5.heap.size w5 W → W.cell? ⟨bz, oz + t, none⟩ = some (.int .i64 (zs.getD t 0))) := Lib.hid (fun W hW => by
      obtain ⟨b, o, c, he, hc⟩ := HC.out W hW
      simp only [Value.slice.injEq, Option.some.injEq, Addr.mk.injEq, and_true] at he
      obtain ⟨⟨rfl, rfl⟩, _, rfl⟩ := he
      exact hc)
    obtain ⟨N, hN⟩ : ∃ N, zs.length = N := ⟨_, rfl⟩
    rw [hN] at hT ⊢
    have k0 : ¬ (t : Int) < 0 := by omega
    have k1 : ¬ (t : Int) ≥ (N : Int) := by omega
    have k2 : (t : Int) < (N : Int) := by omega
    have k3 : (0 : Int) ≤ (t : Int) := by omega
    generalize zs.getD t 0 = l at *
    generalize rsvR zs ds (t : Int) x = R at *
    generalize usedD ds (t : Int) = q at *
    clear hx hI hok hN hT hz HC hzs ht hb5
    by_cases h1 : lgIs x
    · have g1 : ¬ x < 0 := by have := h1.1; omega
      have g2 : ¬ x > 1099511627776 := by have := h1.2; omega
      rw [if_neg (by simpa using h1)] at hRdef
      obtain ⟨hl1, hl2⟩ := hl
      clear h1
      by_cases h2 : x > l
      · rw [if_pos h2] at hRdef
        have HR := Lib.hid hRdef
        clear hRdef
        go_enter Try.func16, Try.ntmps16
        go_wp2_with fail
        go_quiet (fail)
        go_wp2_with fail
        go_ret
        exact ⟨by rw [HR.out]; rfl, HQ.out _⟩
      · rw [if_neg h2] at hRdef
        have hw2 : IntKind.i64.wrap (q + x) = q + x := IntWalk.i64_in _ (by omega)
        by_cases h3 : q + x > l
        · rw [if_pos h3] at hRdef
          have HR := Lib.hid hRdef
          clear hRdef
          go_enter Try.func16, Try.ntmps16
          go_wp2_with fail
          go_quiet (fail)
          go_wp2_with fail
          have e0 : (w5.drewN nq).cell? ⟨w.heap.size, 0, none⟩ = some (.int .i64 (t : Int)) := c0
          have e1 : (w5.drewN nq).cell? ⟨w.heap.size, 1, none⟩ = some (.int .i64 x) := c1
          have e2 : (w5.drewN nq).cell? ⟨bz, oz + t, none⟩ = some (.int .i64 l) := cl
          have HBQ := Lib.hid (below_drewN w5 nq)
          generalize w5.drewN nq = wq at *
          have HBQ1 := Lib.hid (HBQ.out.drew)
          have HUQ := Lib.hid (HU.out _ HBQ1.out)
          clear c0 c1 cl
          go_region_held3 (fun W => W.cell? ⟨w.heap.size, 0, none⟩ = some (.int .i64 (t : Int)) ∧ W.cell? ⟨w.heap.size, 1, none⟩ = some (.int .i64 x) ∧ W.cell? ⟨bz, oz + t, none⟩ = some (.int .i64 l)) (go_keep)
            (first
              | (go_at_call 18; refine HUQ.out.mono ?_; rintro e w6 ⟨rfl, hb6⟩; have hb56 := HBQ1.out.trans (hb6.mono HBQ1.out.size); obtain ⟨hx6, hb06⟩ := HLT.out _ hb56; have hx6 := hx6.trans HX.out; have HB6 := Lib.hid hb06; have y2 := HCL.out _ hb56; have y0 : w6.cell? ⟨w.heap.size, 0, none⟩ = some (.int .i64 (t : Int)) := (by rw [cell_of_row _ _ 0 _ _ _ hx6]; rfl); have y1 : w6.cell? ⟨w.heap.size, 1, none⟩ = some (.int .i64 x) := (by rw [cell_of_row _ _ 1 _ _ _ hx6]; rfl); clear hx6 hb6 hb56 hb06))
          all_goals go_wp2_with fail
          all_goals go_ret
          all_goals exact ⟨by rw [HR.out]; rfl, HB6.out⟩
        · rw [if_neg h3] at hRdef
          have HR := Lib.hid hRdef
          clear hRdef
          go_enter Try.func16, Try.ntmps16
          go_wp2_with fail
          go_quiet (fail)
          go_wp2_with fail
          have e0 : (w5.drewN nq).cell? ⟨w.heap.size, 0, none⟩ = some (.int .i64 (t : Int)) := c0
          have e1 : (w5.drewN nq).cell? ⟨w.heap.size, 1, none⟩ = some (.int .i64 x) := c1
          have e2 : (w5.drewN nq).cell? ⟨bz, oz + t, none⟩ = some (.int .i64 l) := cl
          have HBQ := Lib.hid (below_drewN w5 nq)
          generalize w5.drewN nq = wq at *
          have HBQ1 := Lib.hid (HBQ.out.drew)
          have HUQ := Lib.hid (HU.out _ HBQ1.out)
          clear c0 c1 cl
          go_region_held3 (fun W => W.cell? ⟨w.heap.size, 0, none⟩ = some (.int .i64 (t : Int)) ∧ W.cell? ⟨w.heap.size, 1, none⟩ = some (.int .i64 x) ∧ W.cell? ⟨bz, oz + t, none⟩ = some (.int .i64 l)) (go_keep)
            (first
              | (go_at_call 18; refine HUQ.out.mono ?_; rintro e w6 ⟨rfl, hb6⟩; have hb56 := HBQ1.out.trans (hb6.mono HBQ1.out.size); obtain ⟨hx6, hb06⟩ := HLT.out _ hb56; have hx6 := hx6.trans HX.out; have HB6 := Lib.hid hb06; have y2 := HCL.out _ hb56; have y0 : w6.cell? ⟨w.heap.size, 0, none⟩ = some (.int .i64 (t : Int)) := (by rw [cell_of_row _ _ 0 _ _ _ hx6]; rfl); have y1 : w6.cell? ⟨w.heap.size, 1, none⟩ = some (.int .i64 x) := (by rw [cell_of_row _ _ 1 _ _ _ hx6]; rfl); clear hx6 hb6 hb56 hb06))
          all_goals go_wp2_with fail
          all_goals go_ret
          all_goals exact ⟨by rw [HR.out]; rfl, HB6.out⟩
    · rw [if_pos h1] at hRdef
      have HR := Lib.hid hRdef
      clear hRdef
      by_cases g1 : x < 0
      · clear h1
        go_enter Try.func16, Try.ntmps16
        go_wp2_with fail
        go_ret
        exact ⟨by rw [HR.out]; rfl, HB.out⟩
      · have g2 : x > 1099511627776 := by
          by_cases g2 : x > 1099511627776
          · exact g2
          · exact absurd ⟨by omega, by omega⟩ h1
        clear h1
        go_enter Try.func16, Try.ntmps16
        go_wp2_with fail
        go_ret
        exact ⟨by rw [HR.out]; rfl, HB.out⟩
  · have hRdef : rsvR zs ds T x = 6 := by unfold rsvR; rw [if_pos hT]
    have HR := Lib.hid hRdef
    obtain ⟨az, cz, rfl, _⟩ := hz
    generalize rsvR zs ds T x = R at *
    obtain ⟨N, hN⟩ : ∃ N, zs.length = N := ⟨_, rfl⟩
    rw [hN] at hT ⊢
    clear hRdef hN hx hI hok
    by_cases k0 : T < 0
    · clear hT
      go_enter Try.func16, Try.ntmps16
      go_wp2_with fail
      go_ret
      exact ⟨by rw [HR.out]; rfl, HB.out⟩
    · have k1 : T ≥ (N : Int) := by omega
      clear hT
      go_enter Try.func16, Try.ntmps16
      go_wp2_with fail
      go_ret
      exact ⟨by rw [HR.out]; rfl, HB.out⟩
end Go.Proofs.Ytjpahpbofgfgfaa

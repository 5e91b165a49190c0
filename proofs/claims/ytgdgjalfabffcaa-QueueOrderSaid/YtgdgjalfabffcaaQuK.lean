/-
  LAYER 29's STATEMENTS: QueueOrder.
-/
import Derived.Test.YtgdgjalfabffcaaQuJ
namespace Go.Proofs.Ytgdgjalfabffcaa
open Go.ChangeShapes Go.WideShapes Go.ChangeAt Go.RowKit Go.Deep
set_option linter.unusedVariables false
set_option linter.unusedSimpArgs false
set_option maxRecDepth 100000 in
set_option maxHeartbeats 16000000 in
theorem queueOrder.main (v : Value) (ls : List Int) (w : World) (hI : IsInts w v ls) (hn : ls.length ≤ 9223372036854775807) : Calls Try.prog 4 #[v] w fun e w' => e = .returned (.bool true) ∧ Below w.heap.size w w' := by
  have HI := Lib.hid hI
  obtain ⟨a, cap, rfl, _⟩ := hI
  obtain ⟨M, hM⟩ : ∃ M, ls.length = M := ⟨_, rfl⟩
  have HM := Lib.hid hM
  rw [hM] at HI hn ⊢
  clear hM
  by_cases h100 : (M : Int) > 100
  · have H9 := Lib.hid (three29_any w)
    go_enter Try.func4, Try.ntmps4
    go_wp2_with fail
    refine H9.out.mono ?_
    rintro e w1 ⟨rfl, hb⟩
    have HB := Lib.hid hb
    clear hb
    go_wp2_with fail
    go_ret
    exact ⟨rfl, HB.out⟩
  have HN := Lib.hid (at_new 1000 w (by omega) (by omega))
  obtain ⟨B, hB⟩ : ∃ B, w.heap.size = B := ⟨_, rfl⟩
  rw [hB] at HN
  have HBW := Lib.hid hB
  clear hB
  go_enter Try.func4, Try.ntmps4
  go_wp2_with fail
  refine HN.out.mono ?_
  rintro e w1 ⟨rfl, h1⟩
  have H1 : Hid (QO w w1 B 1000 [] (.slice none 0 0) []) := Lib.hid (by
    obtain ⟨⟨vq, q1⟩, q2⟩ := h1
    exact ⟨⟨vq, q1, fun k hk => by simp [Value.ownBlock] at hk⟩, World.ownsRow_nil _ _ _ _, q2⟩)
  clear h1 HN
  go_wp2_with fail
  go_loopw [5, 7, 8, 25] (fun vu _ _ vi wr => ∃ k : Nat, vi = .int .i64 (k : Int) ∧ k ≤ M ∧ Hid (∃ ws, QO w wr B 1000 ws vu ws ∧ ws.length ≤ k)) (fun _ _ _ vi _ => M - (intOf vi).toNat)
  case atStart => exact ⟨0, rfl, by omega, Lib.hid ⟨[], H1.out, Nat.le_refl _⟩⟩
  case round =>
    obtain ⟨k, rfl, hk, hq⟩ := hrel
    obtain ⟨ws, hq1, hq2⟩ := hq.out
    obtain ⟨au, cu, hu⟩ := slice_of_own hq1.own
    obtain ⟨N, hN⟩ : ∃ N, ws.length = N := ⟨_, rfl⟩
    have HN := Lib.hid hN
    rw [hN] at hu hq2
    clear hN
    subst hu
    clear hq
    by_cases hlt : k < M
    · have hki : (k : Int) < (M : Int) := by omega
      obtain ⟨b, off, cp, he1, c1⟩ := (HI.out.below (hq1.below.mono (by omega))).cell (k := k) (by rw [HM.out]; exact hlt)
      simp only [Value.slice.injEq] at he1
      obtain ⟨rfl, hz, rfl⟩ := he1
      clear hz
      generalize ls.getD k 0 = x at *
      have HP := Lib.hid (qo_push x hq1)
      have hpm := DrrM.place_mem ws x
      have hwl : ws.length ≤ 100 := by rw [HN.out]; omega
      have hpf := pushE_free (zs := ws) (lim := 1000) (n := x) (by omega)
      clear hq1
      rcases hpf with ⟨e1, e2, e3⟩ | ⟨e1, e2, e3⟩
      · have hr := hpm.2 e2
        rw [e1, e3] at HP
        clear hpm e1 e2 e3 hwl
        have HPL : Hid (∀ W, IsInts W (.slice au N cu) ws → Calls Try.prog 19 #[.slice au N cu, .int .i64 x] W fun e w' => e = .returned (.int .i64 (DrrM.place ws x)) ∧ w' = W) := Lib.hid (fun W hW => rplace_any _ ws x W hW (by rw [HN.out]; omega))
        obtain ⟨R, hR⟩ : ∃ R, DrrM.place ws x = R := ⟨_, rfl⟩
        rw [hR] at HPL hr
        clear hR
        have hr2 : R ≥ 0 := hr
        go_wp2_with fail
        refine HP.out.mono ?_
        rintro e w2 ⟨rfl, h2⟩
        have HPL2 := Lib.hid (HPL.out w2 (ints_of_own h2.own))
        have H2 : Hid (∃ ws, QO w w2 B 1000 ws (.slice au N cu) ws ∧ ws.length ≤ k + 1) := Lib.hid ⟨_, h2, by rw [HN.out]; omega⟩
        clear h2
        go_wp2_with fail
        refine HPL2.out.mono ?_
        rintro e w3 ⟨rfl, rfl⟩
        go_wp2_with fail
        go_roundw
        case rel => exact ⟨k + 1, by go_num, by omega, H2⟩
        case measure => simp [intOf]; omega
      · have hr := mt hpm.1 e2
        rw [e1, e3] at HP
        clear hpm e1 e2 e3 hwl
        have HPL : Hid (∀ W, IsInts W (.slice au N cu) ws → Calls Try.prog 19 #[.slice au N cu, .int .i64 x] W fun e w' => e = .returned (.int .i64 (DrrM.place ws x)) ∧ w' = W) := Lib.hid (fun W hW => rplace_any _ ws x W hW (by rw [HN.out]; omega))
        obtain ⟨R, hR⟩ : ∃ R, DrrM.place ws x = R := ⟨_, rfl⟩
        rw [hR] at HPL hr
        clear hR
        have hr2 : ¬ R ≥ 0 := hr
        have hr3 : decide (R ≥ 0) = false := decide_eq_false hr
        go_wp2_with fail
        refine HP.out.mono ?_
        rintro e w2 ⟨rfl, h2⟩
        have HPL2 := Lib.hid (HPL.out w2 (ints_of_own h2.own))
        have H2 := Lib.hid h2
        clear h2
        go_wp2_with fail
        refine HPL2.out.mono ?_
        rintro e w3 ⟨rfl, rfl⟩
        go_wp2_with (at_builtin; refine push_int2 w3 rfl _ _ rfl w.heap.size _ ws x H2.out.own rfl rfl (by rw [HN.out]; omega) H2.out.below.size ?_)
        intro v4 w4 ho4 hb4 hk4 hu4
        have H4 : Hid (∃ ws, QO w w4 B 1000 ws v4 ws ∧ ws.length ≤ k + 1) := Lib.hid ⟨_, H2.out.grown ho4 hb4 hk4 hu4, by rw [List.length_append, HN.out]; simp; omega⟩
        obtain ⟨a4, c4, hv4⟩ := slice_of_own ho4
        clear ho4 hb4 hk4 hu4
        obtain ⟨l4, hl4⟩ : ∃ l4, (ws ++ [x]).length = l4 := ⟨_, rfl⟩
        rw [hl4] at hv4
        clear hl4
        subst hv4
        go_wp2_with fail
        go_roundw
        case rel => exact ⟨k + 1, by go_num, by omega, H4⟩
        case measure => simp [intOf]; omega
    · have hki : ¬ (k : Int) < (M : Int) := by omega
      have HQ1 : Hid (QO w wr B 1000 (ws.drop 0) (.slice au N cu) ws) := Lib.hid hq1
      have hN100 : N ≤ 100 := by omega
      clear hq1
      obtain ⟨wa, rfl⟩ : ∃ wa : World, wa = wr := ⟨_, rfl⟩
      go_wp2_with fail
      go_loopw [10, 11, 12, 56] (fun _ _ _ vi wr => ∃ i : Nat, vi = .int .i64 (i : Int) ∧ i ≤ N ∧ Hid (QO w wr B 1000 (ws.drop i) (.slice au N cu) ws)) (fun _ _ _ vi _ => N - (intOf vi).toNat)
      case atStart => exact ⟨0, rfl, by omega, HQ1⟩
      case round =>
        obtain ⟨i, rfl, hi, hq⟩ := hrel
        have HP := Lib.hid (qo_pop hq.out)
        by_cases hlt2 : i < N
        · have hii : (i : Int) < (N : Int) := by omega
          obtain ⟨b2, off2, cp2, he1, c1⟩ := (ints_of_own hq.out.own).cell (k := i) (by rw [HN.out]; exact hlt2)
          simp only [Value.slice.injEq] at he1
          obtain ⟨rfl, hz, rfl⟩ := he1
          clear hz
          rw [drop_cons ws i (by rw [HN.out]; exact hlt2)] at HP
          generalize ws.getD i 0 = x at *
          have hx : (x != x) = false := by simp
          rw [show frontN (x :: ws.drop (i + 1)) = x from rfl, show frontE (x :: ws.drop (i + 1)) = 0 from rfl, show popL (x :: ws.drop (i + 1)) = ws.drop (i + 1) from rfl] at HP
          go_wp2_with fail
          refine HP.out.mono ?_
          rintro e w3 ⟨rfl, h3⟩
          have H3 := Lib.hid h3
          clear h3
          go_wp2_with fail
          go_roundw
          case rel => exact ⟨i + 1, by go_num, by omega, H3⟩
          case measure => simp [intOf]; omega
        · have hii : ¬ (i : Int) < (N : Int) := by omega
          have hiN : i = N := by omega
          rw [hiN, ← HN.out, List.drop_length, HN.out] at HP
          clear hiN
          rw [show frontN [] = 0 from rfl, show frontE [] = 6 from rfl] at HP
          obtain ⟨wb, rfl⟩ : ∃ wb : World, wb = wr := ⟨_, rfl⟩
          go_wp2_with fail
          refine HP.out.mono ?_
          rintro e w3 ⟨rfl, h3⟩
          have H9 := Lib.hid (three29_any w3)
          have HB3 := Lib.hid h3.below
          clear h3
          go_wp2_with fail
          refine H9.out.mono ?_
          rintro e w5 ⟨rfl, hb5⟩
          have HB5 := Lib.hid (HB3.out.trans (hb5.mono HB3.out.size))
          clear hb5
          go_wp2_with fail
          go_ret
          exact ⟨rfl, HB5.out⟩
end Go.Proofs.Ytgdgjalfabffcaa

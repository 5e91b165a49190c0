/-
  LAYER 29's STATEMENTS: QueueNil, QueueOrder, QueueRound.
-/
import Derived.Test.YtgdgjalfabffcaaQuI
namespace Go.Proofs.Ytgdgjalfabffcaa
open Go.ChangeShapes Go.WideShapes Go.ChangeAt Go.RowKit Go.Deep
set_option linter.unusedVariables false
set_option linter.unusedSimpArgs false
theorem QStep.keeps {w w' : World} {B b : Nat} {lim : Int} {v u : Value} {zs' : List Int} (hs : QStep w w' B b lim v zs') (hd : ∀ k, u.ownBlock = some k → ¬ foot b v k) (hl : ∀ k, u.ownBlock = some k → k < w.heap.size) :
    ∃ v', IsQ w' B b lim v' zs' ∧ (∀ k, u.ownBlock = some k → ¬ foot b v' k) ∧ (∀ k, u.ownBlock = some k → w'.heap[k]? = w.heap[k]?) ∧ Touch (foot b v) w w' := by
  obtain ⟨v', h1, h2, h3⟩ := hs
  refine ⟨v', h1, fun k hk hf => ?_, fun k hk => h2.block k (hl k hk) (hd k hk), h2⟩
  rcases hf with rfl | hf
  · exact hd k hk (Or.inl rfl)
  · rcases h3 k hf with h | h
    · exact hd k hk (Or.inr h)
    · have := hl k hk; omega
/-- A queue and a row of the call's own, which lie apart. -/
structure QO (w0 w : World) (b : Nat) (lim : Int) (zs : List Int) (u : Value) (ys : List Int) : Prop where
  ex : ∃ v, IsQ w w0.heap.size b lim v zs ∧ (∀ k, u.ownBlock = some k → ¬ foot b v k)
  own : OwnI w w0.heap.size u ys
  below : Below w0.heap.size w0 w
section
variable {w0 w w' : World} {b : Nat} {lim : Int} {zs ys : List Int} {u : Value}
theorem QO.qat (h : QO w0 w b lim zs u ys) : QAt w0 w b lim zs := by
  obtain ⟨⟨v, h1, _⟩, _, h3⟩ := h
  exact ⟨⟨v, h1⟩, h3⟩
theorem QO.next (h : QO w0 w b lim zs u ys) (hb : Below w.heap.size w w') : QO w0 w' b lim zs u ys := by
  obtain ⟨⟨v, h1, h2⟩, h3, h4⟩ := h
  exact ⟨⟨v, h1.far hb, h2⟩, h3.same (fun k hk => hb.block k (h3.lt k hk).2), h4.trans (hb.mono h4.size)⟩
theorem QO.step {zs' : List Int} {v : Value} (h1 : IsQ w w0.heap.size b lim v zs) (h2 : ∀ k, u.ownBlock = some k → ¬ foot b v k) (h3 : OwnI w w0.heap.size u ys) (h4 : Below w0.heap.size w0 w) (hs : QStep w w' w0.heap.size b lim v zs') : QO w0 w' b lim zs' u ys := by
  obtain ⟨v', a1, a2, a3, a4⟩ := hs.keeps h2 (fun k hk => (h3.lt k hk).2)
  exact ⟨⟨v', a1, a2⟩, h3.same a3, h4.trans (a4.below h4.size (fun i hi => (h1.lt i hi).1))⟩
theorem qo_push (n : Int) (h : QO w0 w b lim zs u ys) : Calls Try.prog 20 #[.pointer (some ⟨b, 0, none⟩), .int .i64 n] w fun e w' => e = .returned (.int .i64 (pushE zs lim n)) ∧ QO w0 w' b lim (pushL zs lim n) u ys := by
  obtain ⟨⟨v, h1, h2⟩, h3, h4⟩ := h
  exact (qpush_any n w h1).mono fun e w' ⟨he, hq⟩ => ⟨he, QO.step h1 h2 h3 h4 hq⟩
theorem qo_pop (h : QO w0 w b lim zs u ys) : Calls Try.prog 21 #[.pointer (some ⟨b, 0, none⟩)] w fun e w' => e = .returned (.tuple #[.int .i64 (frontN zs), .int .i64 (frontE zs)]) ∧ QO w0 w' b lim (popL zs) u ys := by
  obtain ⟨⟨v, h1, h2⟩, h3, h4⟩ := h
  exact (qpop_any w h1).mono fun e w' ⟨he, hq⟩ => ⟨he, QO.step h1 h2 h3 h4 hq⟩
theorem qo_rotate (h : QO w0 w b lim zs u ys) : Calls Try.prog 23 #[.pointer (some ⟨b, 0, none⟩)] w fun e w' => e = .returned (.tuple #[]) ∧ QO w0 w' b lim (DrrM.rotated zs) u ys := by
  obtain ⟨⟨v, h1, h2⟩, h3, h4⟩ := h
  exact (qrotate_any w h1).mono fun e w' ⟨he, hq⟩ => ⟨he, QO.step h1 h2 h3 h4 hq⟩
/-- The row grows. -/
theorem QO.grown {u2 : Value} {ys2 : List Int} (h : QO w0 w b lim zs u ys) (ho : OwnI w' w0.heap.size u2 ys2) (hb : Below w0.heap.size w w') (hk : ∀ k, k < w.heap.size → u.ownBlock ≠ some k → w'.heap[k]? = w.heap[k]?)
    (hu : ∀ k, u2.ownBlock = some k → u.ownBlock = some k ∨ w.heap.size ≤ k) : QO w0 w' b lim zs u2 ys2 := by
  obtain ⟨⟨v, h1, h2⟩, h3, h4⟩ := h
  refine ⟨⟨v, h1.same (fun k hf => hk k (h1.lt k hf).2 (fun e => h2 k e hf)), fun k hk2 hf => ?_⟩, ho, h4.trans hb⟩
  rcases hu k hk2 with e | e
  · exact h2 k e hf
  · have := (h1.lt k hf).2; omega
end
set_option maxRecDepth 100000 in
set_option maxHeartbeats 4000000 in
theorem queueNil.main (n : Int) (w : World) : Calls Try.prog 6 #[.int .i64 n] w fun e w' => e = .returned (.bool true) ∧ Below w.heap.size w w' := by
  have H1 := Lib.hid (qrotate_nil w)
  have H2 := Lib.hid (qpop_nil w)
  have H3 := Lib.hid (qfront_nil w)
  have H4 := Lib.hid (qpush_nil n w)
  have H5 := Lib.hid (qremove_nil n w)
  have H6 := Lib.hid (qhas_nil n w)
  have H7 := Lib.hid (qlen_nil w)
  have H8 := Lib.hid (qall_nil w)
  have H9 := Lib.hid (three29_any w)
  go_enter Try.func6, Try.ntmps6
  go_wp2_with fail
  refine H1.out.mono ?_
  rintro e w1 ⟨rfl, rfl⟩
  go_wp2_with fail
  refine H2.out.mono ?_
  rintro e w1 ⟨rfl, rfl⟩
  go_wp2_with fail
  refine H3.out.mono ?_
  rintro e w1 ⟨rfl, rfl⟩
  go_wp2_with fail
  refine H4.out.mono ?_
  rintro e w1 ⟨rfl, rfl⟩
  go_wp2_with fail
  refine H5.out.mono ?_
  rintro e w1 ⟨rfl, rfl⟩
  go_wp2_with fail
  refine H6.out.mono ?_
  rintro e w1 ⟨rfl, rfl⟩
  go_wp2_with fail
  refine H7.out.mono ?_
  rintro e w1 ⟨rfl, rfl⟩
  go_wp2_with fail
  refine H8.out.mono ?_
  rintro e w1 ⟨rfl, rfl⟩
  go_wp2_with fail
  refine H9.out.mono ?_
  rintro e w1 ⟨rfl, hb⟩
  have HB := Lib.hid hb
  clear hb
  go_wp2_with fail
  go_ret
  exact ⟨rfl, HB.out⟩
theorem pushL_len (zs : List Int) (lim n : Int) : (pushL zs lim n).length ≤ zs.length + 1 := by
  unfold pushL
  split
  · omega
  · split
    · omega
    · simp
theorem pushE_free {zs : List Int} {lim n : Int} (h : (zs.length : Int) < lim) : (pushE zs lim n = 8 ∧ n ∈ zs ∧ pushL zs lim n = zs) ∨ (pushE zs lim n = 0 ∧ n ∉ zs ∧ pushL zs lim n = zs ++ [n]) := by
  unfold pushE pushL
  by_cases hm : n ∈ zs
  · exact Or.inl ⟨by rw [if_pos hm], hm, by rw [if_pos hm]⟩
  · exact Or.inr ⟨by rw [if_neg hm, if_neg (by omega)], hm, by rw [if_neg hm, if_neg (by omega)]⟩
set_option maxRecDepth 100000 in
set_option maxHeartbeats 16000000 in
theorem queueRound.main (v : Value) (ls : List Int) (w : World) (hI : IsInts w v ls) (hn : ls.length ≤ 9223372036854775807) : Calls Try.prog 5 #[v] w fun e w' => e = .returned (.bool true) ∧ Below w.heap.size w w' := by
  have HI := Lib.hid hI
  obtain ⟨a, cap, rfl, _⟩ := hI
  obtain ⟨M, hM⟩ : ∃ M, ls.length = M := ⟨_, rfl⟩
  have HM := Lib.hid hM
  rw [hM] at HI hn ⊢
  clear hM
  by_cases h100 : (M : Int) > 100
  · have H9 := Lib.hid (three29_any w)
    go_enter Try.func5, Try.ntmps5
    go_wp2_with fail
    refine H9.out.mono ?_
    rintro e w1 ⟨rfl, hb⟩
    have HB := Lib.hid hb
    clear hb
    go_wp2_with fail
    go_ret
    exact ⟨rfl, HB.out⟩
  have HN := Lib.hid (at_new 1000 w (by omega) (by omega))
  obtain ⟨B, hB⟩ : ∃ B, w.heap.size = B := ⟨_, rfl⟩
  rw [hB] at HN
  have HBW := Lib.hid hB
  clear hB
  go_enter Try.func5, Try.ntmps5
  go_wp2_with fail
  refine HN.out.mono ?_
  rintro e w1 ⟨rfl, h1⟩
  have H1 := Lib.hid h1
  clear h1 HN
  go_wp2_with fail
  go_loopw [6, 21] (fun _ vi wr => ∃ k : Nat, vi = .int .i64 (k : Int) ∧ k ≤ M ∧ Hid (∃ zs, QAt w wr B 1000 zs ∧ zs.length ≤ k)) (fun _ vi _ => M - (intOf vi).toNat)
  case atStart => exact ⟨0, rfl, by omega, Lib.hid ⟨[], H1.out, Nat.le_refl _⟩⟩
  case round =>
    obtain ⟨k, rfl, hk, hq⟩ := hrel
    by_cases hlt : k < M
    · have hki : (k : Int) < (M : Int) := by omega
      obtain ⟨zs, hq1, hq2⟩ := hq.out
      obtain ⟨b, off, cp, he1, c1⟩ := (HI.out.below (hq1.below.mono (by omega))).cell (k := k) (by rw [HM.out]; exact hlt)
      simp only [Value.slice.injEq] at he1
      obtain ⟨rfl, hz, rfl⟩ := he1
      clear hz
      generalize ls.getD k 0 = x at *
      have HP := Lib.hid (at_push x hq1)
      have HL := Lib.hid (Nat.le_trans (pushL_len zs 1000 x) (Nat.add_le_add_right hq2 1))
      clear hq1 hq2
      go_wp2_with fail
      refine HP.out.mono ?_
      rintro e w2 ⟨rfl, h2⟩
      have H2 : Hid (∃ zs, QAt w w2 B 1000 zs ∧ zs.length ≤ k + 1) := Lib.hid ⟨_, h2, HL.out⟩
      clear h2
      go_wp2_with fail
      go_roundw
      case rel => exact ⟨k + 1, by go_num, by omega, H2⟩
      case measure => simp [intOf]; omega
    · have hkM : k = M := by omega
      obtain ⟨zs, hq1, hq2⟩ := hq.out
      have hki : ¬ (k : Int) < (M : Int) := by omega
      have HA := Lib.hid (at_all hq1 (by omega))
      have HQ1 := Lib.hid hq1
      have hzl : zs.length ≤ 100 := by omega
      clear hq1 hq2 hq
      obtain ⟨wa, rfl⟩ : ∃ wa : World, wa = wr := ⟨_, rfl⟩
      go_wp2_with fail
      refine HA.out.mono ?_
      rintro e w2 ⟨u, rfl, ho, hb⟩
      have H2 : Hid (QO w w2 B 1000 zs u zs) := Lib.hid (by
        obtain ⟨⟨vq, q1⟩, q2⟩ := HQ1.out
        exact ⟨⟨vq, q1.far hb, fun k hk hf => by have := (ho.lt k hk).1; have := (q1.lt k hf).2; omega⟩, ho.lower q2.size, q2.trans (hb.mono q2.size)⟩)
      obtain ⟨au, cu, hu⟩ := slice_of_own ho
      clear ho hb HQ1 HA
      obtain ⟨N, hN⟩ : ∃ N, zs.length = N := ⟨_, rfl⟩
      have HN := Lib.hid hN
      rw [hN] at hzl hu
      clear hN
      subst hu
      go_wp2_with fail
      go_loopw [8, 9, 10, 33] (fun _ _ _ vi wr => ∃ i : Nat, vi = .int .i64 (i : Int) ∧ i ≤ N ∧ Hid (QO w wr B 1000 (DrrM.rotN i zs) (.slice au N cu) zs)) (fun _ _ _ vi _ => N - (intOf vi).toNat)
      case atStart => exact ⟨0, rfl, by omega, H2⟩
      case round =>
        obtain ⟨i, rfl, hi, hq⟩ := hrel
        by_cases hlt2 : i < N
        · have hii : (i : Int) < (N : Int) := by omega
          obtain ⟨r, hr⟩ := DrrM.rotN_head (l := zs) (k := i) (by rw [HN.out]; exact hlt2)
          have HF := Lib.hid (at_front hq.out.qat)
          rw [hr] at HF
          obtain ⟨b2, off2, cp2, he1, c1⟩ := (ints_of_own hq.out.own).cell (k := i) (by rw [HN.out]; exact hlt2)
          simp only [Value.slice.injEq] at he1
          obtain ⟨rfl, hz, rfl⟩ := he1
          clear hz
          have HRR : Hid (DrrM.rotated (DrrM.rotN i zs) = DrrM.rotN (i + 1) zs) := Lib.hid (DrrM.rotN_succ i zs).symm
          have HR := Lib.hid (qo_rotate hq.out)
          rw [HRR.out] at HR
          clear hr
          generalize zs.getD i 0 = x at *
          have hx : (x != x) = false := by simp
          go_wp2_with fail
          refine HF.out.mono ?_
          rintro e w3 ⟨rfl, rfl⟩
          rw [show frontN (x :: r) = x from rfl, show frontE (x :: r) = 0 from rfl]
          go_wp2_with fail
          refine HR.out.mono ?_
          rintro e w4 ⟨rfl, h4⟩
          have H4 := Lib.hid h4
          clear h4
          go_wp2_with fail
          go_roundw
          case rel => exact ⟨i + 1, by go_num, by omega, H4⟩
          case measure => simp [intOf]; omega
        · have hii : ¬ (i : Int) < (N : Int) := by omega
          have hiN : i = N := by omega
          have hq2 := hq.out
          rw [hiN, ← HN.out, DrrM.rotN_all, HN.out] at hq2
          have HQ2 := Lib.hid hq2
          have HA := Lib.hid (at_all hq2.qat (by rw [HN.out]; omega))
          clear hq2
          obtain ⟨wb, rfl⟩ : ∃ wb : World, wb = wr := ⟨_, rfl⟩
          go_wp2_with fail
          refine HA.out.mono ?_
          rintro e w3 ⟨u3, rfl, ho3, hb3⟩
          have HQ3 := Lib.hid (HQ2.out.next hb3)
          have HIn := Lib.hid (ints_any u3 (.slice au N cu) zs zs true w3 (ints_of_own ho3) (ints_of_own (HQ2.out.next hb3).own) (by simp) (by rw [HN.out]; omega) (by rw [HN.out]; omega))
          obtain ⟨a3, c3, hu3⟩ := slice_of_own ho3
          clear ho3 hb3
          subst hu3
          go_wp2_with fail
          refine HIn.out.mono ?_
          rintro e w4 ⟨rfl, m, rfl⟩
          have H9 := Lib.hid (three29_any (w3.drewN m))
          have HB4 := Lib.hid (HQ3.out.next (below_drewN w3 m)).below
          go_wp2_with fail
          refine H9.out.mono ?_
          rintro e w5 ⟨rfl, hb5⟩
          have HB5 := Lib.hid (HB4.out.trans (hb5.mono HB4.out.size))
          clear hb5
          go_wp2_with fail
          go_ret
          exact ⟨rfl, HB5.out⟩
end Go.Proofs.Ytgdgjalfabffcaa

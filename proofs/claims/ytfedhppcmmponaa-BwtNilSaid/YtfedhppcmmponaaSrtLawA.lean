/-
  LAYER 16's STATEMENTS: banana; SorterNil, SorterOf, SorterMost, SorterLong.
-/
import Derived.Test.YtfedhppcmmponaaSrtO
import Derived.Test.YtfedhppcmmponaaRotLawB
namespace Go.Proofs.Ytfedhppcmmponaa
open Go.RowKit BwtM SrtM PkM
set_option linter.unusedVariables false
set_option linter.unusedSimpArgs false
theorem wf_i64 {n : Int} (h : (Lit.int .i64 n).wf = true) : -9223372036854775808 ≤ n ∧ n ≤ 9223372036854775807 := by
  simpa [Lit.wf, IntKind.min, IntKind.max, IntKind.signed, IntKind.bits] using h
theorem StepsOf.zero {T : List UInt8} {R : Nat} (h : StepsOf T R) : 0 < T.length ∨ R = 0 := by
  rcases h with ⟨_, h⟩ | ⟨h, _⟩
  · exact Or.inr h
  · exact Or.inl (by omega)
set_option maxRecDepth 100000 in
set_option maxHeartbeats 4000000 in
theorem banana16_any (w : World) : Calls Try.prog 15 #[] w fun e w' => e = .returned (.bool true) ∧ Below w.heap.size w w' := by
  have H1 : Hid (∀ W, Calls Try.prog 16 #[.string ⟨#[98, 97, 110, 97, 110, 97]⟩] W fun e w' => (∃ v, e = .returned (.tuple #[v, .int .i64 0]) ∧ IsInts w' v [5, 3, 1, 0, 4, 2]) ∧ Below W.heap.size W w') := Lib.hid (fun W => by
    refine (sof_any banT W (by decide)).mono ?_
    rintro e w' ⟨⟨v, P, rfl, hi, hs⟩, hb⟩
    have hp : P = [5, 3, 1, 0, 4, 2] := hs.same ban_sorted
    subst hp
    exact ⟨⟨v, rfl, hi⟩, hb⟩)
  have H2 : Hid (∀ W, Calls Try.prog 19 #[.string ⟨#[97, 98]⟩] W fun e w' => NewP W w' 2 [97, 98] e) := Lib.hid (fun W => snew_any ⟨#[97, 98]⟩ 2 W rfl (by omega))
  go_enter Try.func15, Try.ntmps15
  go_wp2_with fail
  refine (H1.out _).mono ?_
  rintro e w1 ⟨⟨v, rfl, hi⟩, hb⟩
  have HI1 := Lib.hid hi
  have HB1 := Lib.hid hb
  clear hi hb
  go_wp2_with fail
  refine (H2.out _).mono ?_
  rintro e w2 ⟨b, R, rfl, hS, hR, hB⟩
  have hR3 : 3 < R ∧ R ≤ 500000 := by
    refine ⟨?_, (hR.most (by decide)).2⟩
    rcases hR with ⟨h, _⟩ | ⟨_, m, _, h⟩
    · exact absurd h (by decide)
    · rw [h]
      have e1 : each [97, 98].length = 8 := by
        have h1 : passS 1 = 1 := passS_small (by omega)
        have h2 : passS 2 = 1 + passS 1 + passS 1 + 1 + 2 := passS_big (by omega)
        show passS 2 + 2 = 8
        omega
      have h3 : each [97, 98].length * 1 ≤ each [97, 98].length * (m + 1) := Nat.mul_le_mul_left _ (by omega)
      omega
  have HST := Lib.hid (sstep_any [97, 98] w2 0 R 3 hS rfl (Or.inl (by omega)) (by omega) (by omega) (by omega) (by omega) hB.size)
  rw [Nat.min_eq_left (by omega)] at HST
  have HB12 := Lib.hid hB
  clear hS hR hB
  go_wp2_with fail
  refine HST.out.mono ?_
  rintro e w3 ⟨rfl, hS, hB, _⟩
  have HB13 := Lib.hid (HB12.out.trans hB)
  have HS3 := Lib.hid hS
  clear hS hB
  obtain ⟨o, ho⟩ : ∃ o : Obj, o = .cells #[.int .i64 5, .int .i64 3, .int .i64 1, .int .i64 0, .int .i64 4, .int .i64 2] 3 := ⟨_, rfl⟩
  have HBA : Hid (Below w3.heap.size w3 (w3.alloc o)) := Lib.hid ((Below.refl _ _).alloc (Nat.le_refl _) _)
  have HI4 : Hid (IsInts (w3.alloc o) v [5, 3, 1, 0, 4, 2]) := Lib.hid ((HI1.out.below HB13.out).below HBA.out)
  have HJ4 : Hid (IsInts (w3.alloc o) (.slice (some ⟨w3.heap.size, 0, none⟩) 6 6) [5, 3, 1, 0, 4, 2]) := Lib.hid (by rw [ho]; exact ints_lits w3 [5, 3, 1, 0, 4, 2] 6 rfl)
  have HC := Lib.hid (ints_any v _ _ _ true (w3.alloc o) HI4.out HJ4.out ⟨fun _ => rfl, fun _ => rfl⟩ (by decide) (by decide))
  have HS4 := Lib.hid (HS3.out.below HBA.out)
  have HB4 : Hid (Below w.heap.size w (w3.alloc o)) := Lib.hid (HB1.out.trans ((HB13.out.mono HB1.out.size).trans (HBA.out.mono (Nat.le_trans HB1.out.size HB13.out.size))))
  subst ho
  go_wp2_with fail
  refine HC.out.mono ?_
  rintro e w5 ⟨rfl, m, rfl⟩
  have HD := Lib.hid ((HS4.out.below (below_drewN _ m)).done rfl)
  rw [show (R - 3 == 0) = false by rw [beq_eq_false_iff_ne]; omega] at HD
  have HH := Lib.hid ((HS4.out.below (below_drewN _ m)).held (by omega))
  go_wp2_with fail
  refine HD.out.mono ?_
  rintro e w6 ⟨rfl, rfl⟩
  go_wp2_with fail
  refine HH.out.mono ?_
  rintro e w7 ⟨rfl, m2, rfl⟩
  have HB5 : Hid (Below w.heap.size w ((w3.alloc (.cells #[.int .i64 5, .int .i64 3, .int .i64 1, .int .i64 0, .int .i64 4, .int .i64 2] 3)).drewN (m + m2))) := Lib.hid (HB4.out.trans (belowB_drewN _ _ (m + m2)))
  go_wp2_with fail
  go_ret
  exact ⟨rfl, HB5.out⟩
set_option maxRecDepth 100000 in
set_option maxHeartbeats 4000000 in
theorem sorterNil.walk (n : Int) (w : World) (hn : (Lit.int .i64 n).wf = true) :
    Calls Try.prog 7 #[.int .i64 n] w fun e w' => e = .returned (.bool true) ∧ Below w.heap.size w w' := by
  have HBA := Lib.hid (fun W => banana16_any W)
  clear hn
  go_enter Try.func7, Try.ntmps7
  go_wp2_with fail
  refine (sstep_nil n _).mono ?_
  rintro e w1 ⟨rfl, rfl⟩
  go_wp2_with fail
  refine (sdone_nil _).mono ?_
  rintro e w1 ⟨rfl, rfl⟩
  go_wp2_with fail
  refine (sorder_nil _).mono ?_
  rintro e w1 ⟨rfl, rfl⟩
  go_wp2_with fail
  refine (ssteps_nil _).mono ?_
  rintro e w1 ⟨rfl, rfl⟩
  go_wp2_with fail
  refine (sheld_nil _).mono ?_
  rintro e w1 ⟨rfl, rfl⟩
  go_wp2_with fail
  refine (HBA.out _).mono ?_
  rintro e w2 ⟨rfl, hb⟩
  have HB := Lib.hid hb
  clear hb
  go_wp2_with fail
  go_ret
  exact ⟨rfl, HB.out⟩
set_option maxRecDepth 100000 in
set_option maxHeartbeats 4000000 in
theorem sorterOf.walk (s : ByteArray) (w : World) (hs : s.size ≤ maxLen) :
    Calls Try.prog 3 #[.string s] w fun e w' => e = .returned (.bool true) ∧ Below w.heap.size w w' := by
  have HBA := Lib.hid (fun W => banana16_any W)
  clear hs
  by_cases hl : 60 < s.size
  · have hli : (60 : Int) < (s.size : Int) := by omega
    go_enter Try.func3, Try.ntmps3
    go_wp2_with fail
    refine (HBA.out _).mono ?_
    rintro e w1 ⟨rfl, hb1⟩
    have HB1 := Lib.hid hb1
    clear hb1
    go_wp2_with fail
    go_ret
    exact ⟨rfl, HB1.out⟩
  · have hli : ¬ (60 : Int) < (s.size : Int) := by omega
    have HOF := Lib.hid (fun W => sof_any s W (by omega))
    have HSO := Lib.hid (fun W => rsorted_any s W (by omega))
    have HL := Lib.hid (txt_len s)
    go_enter Try.func3, Try.ntmps3
    go_wp2_with fail
    refine (HOF.out _).mono ?_
    rintro e w1 ⟨⟨v, P, rfl, hi, hso⟩, hb1⟩
    have HI := Lib.hid hi
    have HB1 := Lib.hid hb1
    have HPS : Hid (P = sortP s.data.toList s.size) := Lib.hid (by
      have := sortP_is s.data.toList
      rw [HL.out] at this
      exact hso.same this)
    clear hi hb1 hso
    go_wp2_with fail
    refine (HSO.out _).mono ?_
    rintro e w2 ⟨u, rfl, hO, hb2⟩
    have HI2 := Lib.hid (HI.out.below hb2)
    have HJ2 := Lib.hid hO.ints
    have HB2 := Lib.hid (HB1.out.trans (hb2.mono HB1.out.size))
    have HC := Lib.hid (ints_any v u _ _ true w2 HI2.out HJ2.out ⟨fun _ => by rw [HPS.out], fun _ => rfl⟩ (by
      have : (sortP s.data.toList s.size).length = s.size := by rw [(sortP_perm s.data.toList s.size).length_eq, List.length_range]
      rw [toI_length, HPS.out, this]; omega) (by
      have : (sortP s.data.toList s.size).length = s.size := by rw [(sortP_perm s.data.toList s.size).length_eq, List.length_range]
      rw [toI_length, this]; omega))
    clear hO hb2
    go_wp2_with fail
    refine HC.out.mono ?_
    rintro e w3 ⟨rfl, m, rfl⟩
    have HB3 := Lib.hid (HB2.out.trans (belowB_drewN w.heap.size w2 m))
    go_wp2_with fail
    refine (HBA.out _).mono ?_
    rintro e w4 ⟨rfl, hb4⟩
    have HB4 := Lib.hid (HB3.out.trans (hb4.mono HB3.out.size))
    clear hb4
    go_wp2_with fail
    go_ret
    exact ⟨rfl, HB4.out⟩
set_option maxRecDepth 100000 in
set_option maxHeartbeats 4000000 in
theorem sorterMost.walk (n : Int) (s : ByteArray) (w : World) (hn : (Lit.int .i64 n).wf = true) (hs : s.size ≤ maxLen) :
    Calls Try.prog 5 #[.int .i64 n, .string s] w fun e w' => e = .returned (.bool true) ∧ Below w.heap.size w w' := by
  have hb := wf_i64 hn
  have HM1 := Lib.hid (fun W => smost_any n W hb.1 hb.2)
  have HM2 := Lib.hid (fun W => rmost_any n W hb.1 hb.2)
  have HBA := Lib.hid (fun W => banana16_any W)
  obtain ⟨M, hM⟩ : ∃ M : Nat, mostN n.toNat = M := ⟨_, rfl⟩
  rw [hM] at HM1 HM2
  clear hs hM hb hn
  by_cases hl : 40 < s.size
  · have hli : (40 : Int) < (s.size : Int) := by omega
    go_enter Try.func5, Try.ntmps5
    go_wp2_with fail
    refine (HM1.out _).mono ?_
    rintro e w1 ⟨rfl, rfl⟩
    go_wp2_with fail
    refine (HM2.out _).mono ?_
    rintro e w1 ⟨rfl, rfl⟩
    go_wp2_with fail
    refine (HBA.out _).mono ?_
    rintro e w1 ⟨rfl, hb1⟩
    have HB1 := Lib.hid hb1
    clear hb1
    go_wp2_with fail
    go_ret
    exact ⟨rfl, HB1.out⟩
  · have hli : ¬ (40 : Int) < (s.size : Int) := by omega
    have HNEW := Lib.hid (fun W => snew_any s s.size W rfl (by omega))
    have HL := Lib.hid (txt_len s)
    have HMS := Lib.hid (fun W => smost_any (s.size : Int) W (by omega) (by omega))
    rw [Int.toNat_natCast] at HMS
    obtain ⟨Q, hQ⟩ : ∃ Q : Nat, mostN s.size = Q := ⟨_, rfl⟩
    rw [hQ] at HMS
    have HQ := Lib.hid hQ
    clear hQ
    go_enter Try.func5, Try.ntmps5
    go_wp2_with fail
    refine (HM1.out _).mono ?_
    rintro e w1 ⟨rfl, rfl⟩
    go_wp2_with fail
    refine (HM2.out _).mono ?_
    rintro e w1 ⟨rfl, rfl⟩
    go_wp2_with fail
    refine (HNEW.out _).mono ?_
    rintro e w2 ⟨b, R, rfl, hS, hR, hB⟩
    have hRm := hR.most (by rw [HL.out]; omega)
    rw [HL.out, HQ.out] at hRm
    have h0 := hR.zero
    rw [HL.out] at h0
    have HST := Lib.hid (sstep_any s.data.toList w2 0 R 1099511627776 hS HL.out h0 (by omega) (by omega) (by omega) (by omega) hB.size)
    rw [Nat.min_eq_right (by omega)] at HST
    have HB2 := Lib.hid hB
    have hRQ : (R : Int) ≤ (Q : Int) := by omega
    clear hS hR hB h0
    go_wp2_with fail
    refine HST.out.mono ?_
    rintro e w3 ⟨rfl, hS, hB, _⟩
    rw [Nat.sub_self] at hS
    have HD := Lib.hid (hS.done HL.out)
    have HB3 := Lib.hid (HB2.out.trans hB)
    clear hS hB
    go_wp2_with fail
    refine HD.out.mono ?_
    rintro e w4 ⟨rfl, rfl⟩
    go_wp2_with fail
    refine (HMS.out _).mono ?_
    rintro e w5 ⟨rfl, rfl⟩
    go_wp2_with fail
    refine (HBA.out _).mono ?_
    rintro e w6 ⟨rfl, hb6⟩
    have HB6 := Lib.hid (HB3.out.trans (hb6.mono HB3.out.size))
    clear hb6
    go_wp2_with fail
    go_ret
    exact ⟨rfl, HB6.out⟩
end Go.Proofs.Ytfedhppcmmponaa

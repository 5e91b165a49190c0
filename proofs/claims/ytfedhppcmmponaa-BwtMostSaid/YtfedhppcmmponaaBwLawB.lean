/-
  LAYER 17's STATEMENTS: BwtMost.
-/
import Derived.Test.YtfedhppcmmponaaBwLawA
namespace Go.Proofs.Ytfedhppcmmponaa
open Go.RowKit BwtM SrtM PkM
set_option linter.unusedVariables false
set_option linter.unusedSimpArgs false
set_option maxRecDepth 100000 in
set_option maxHeartbeats 8000000 in
theorem bwtMost.walk (n : Int) (s : ByteArray) (w : World) (hn : (Lit.int .i64 n).wf = true) (hs : s.size ≤ maxLen) :
    Calls Try.prog 13 #[.int .i64 n, .string s] w fun e w' => e = .returned (.bool true) ∧ Below w.heap.size w w' := by
  have hb := wf_i64 hn
  have HBA := Lib.hid (fun W => banana17_any W)
  have HBM := Lib.hid (fun W => bmost_any n W hb.1 hb.2)
  clear hs
  by_cases hn1 : n < 1
  · have hn0 : ¬ n > 0 := by omega
    rw [show mostBw n.toNat = 0 by unfold mostBw; rw [if_pos (by omega)]] at HBM
    clear hn hb hn1
    by_cases hl : 40 < s.size
    · have hli : (40 : Int) < (s.size : Int) := by omega
      go_enter Try.func13, Try.ntmps13
      go_wp2_with fail
      refine (HBM.out _).mono ?_
      rintro e w1 ⟨rfl, rfl⟩
      go_wp2_with fail
      refine (HBA.out _).mono ?_
      rintro e w2 ⟨rfl, hb1⟩
      have HB1 := Lib.hid hb1
      clear hb1
      go_wp2_with fail
      go_ret
      exact ⟨rfl, HB1.out⟩
    · have hli : ¬ (40 : Int) < (s.size : Int) := by omega
      by_cases h0 : s.size = 0
      · obtain rfl := no_bytes s h0
        clear hl hli h0
        go_enter Try.func13, Try.ntmps13
        go_wp2_with fail
        refine (HBM.out _).mono ?_
        rintro e w1 ⟨rfl, rfl⟩
        go_wp2_with fail
        refine (HBA.out _).mono ?_
        rintro e w2 ⟨rfl, hb1⟩
        have HB1 := Lib.hid hb1
        clear hb1
        go_wp2_with fail
        go_ret
        exact ⟨rfl, HB1.out⟩
      · have hemp := some_bytes s (by omega)
        have HNEW := Lib.hid (fun W => bnew_any s s.size W rfl (by omega) (by omega))
        have HMS := Lib.hid (fun W => bmost_any (s.size : Int) W (by omega) (by omega))
        rw [Int.toNat_natCast] at HMS
        obtain ⟨Q, hQ⟩ : ∃ Q : Nat, mostBw s.size = Q := ⟨_, rfl⟩
        rw [hQ] at HMS
        have HQ := Lib.hid hQ
        clear hQ
        go_enter Try.func13, Try.ntmps13
        go_wp2_with fail
        refine (HBM.out _).mono ?_
        rintro e w1 ⟨rfl, rfl⟩
        go_wp2_with fail
        refine (HNEW.out _).mono ?_
        rintro e w2 ⟨t, R, P, rfl, hsr, hT, hB⟩
        have HB2 := Lib.hid hB
        have HSR := Lib.hid hsr
        have hm := hsr.most
        rw [HQ.out] at hm
        have HST := Lib.hid (bstep_any w2 1099511627776 hsr hT hT.lt (by omega) hB.size)
        rw [Nat.sub_zero, show min (1099511627776 : Int).toNat (R + s.size) = R + s.size by omega] at HST
        obtain ⟨RS, hRS⟩ : ∃ RS, R + s.size = RS := ⟨_, rfl⟩
        rw [hRS] at HST hm
        have HRS := Lib.hid hRS
        have hmi : (RS : Int) ≤ (Q : Int) := by omega
        clear hsr hT hB hRS
        go_wp2_with fail
        refine HST.out.mono ?_
        rintro e w3 ⟨rfl, hT3, hB3⟩
        rw [Nat.zero_add] at hT3
        have HD := Lib.hid (hT3.tells HSR.out).2.2.1
        rw [show (RS == R + s.size) = true by rw [beq_iff_eq]; exact HRS.out.symm] at HD
        have HB3 := Lib.hid (HB2.out.trans hB3)
        clear hT3 hB3
        go_wp2_with fail
        refine HD.out.mono ?_
        rintro e w4 ⟨rfl, m4, rfl⟩
        have HB4 := Lib.hid (HB3.out.trans (belowB_drewN _ w3 m4))
        go_wp2_with fail
        refine (HMS.out _).mono ?_
        rintro e w5 ⟨rfl, rfl⟩
        go_wp2_with fail
        refine (HBA.out _).mono ?_
        rintro e w6 ⟨rfl, hb6⟩
        have HB6 := Lib.hid (HB4.out.trans (hb6.mono HB4.out.size))
        clear hb6
        go_wp2_with fail
        go_ret
        exact ⟨rfl, HB6.out⟩
  · obtain ⟨N, rfl⟩ : ∃ N : Nat, n = (N : Int) := ⟨n.toNat, by omega⟩
    have hn0 : (N : Int) > 0 := by omega
    have HRM := Lib.hid (fun W => rmost_any (N : Int) W hb.1 hb.2)
    rw [Int.toNat_natCast] at HBM HRM
    have hml := mostN_le N
    have hres : mostBw N = min (mostN N + min N 1099511627776) 1099511627776 := by unfold mostBw; rw [if_neg (by omega)]
    rw [hres] at HBM
    obtain ⟨M, hM⟩ : ∃ M, mostN N = M := ⟨_, rfl⟩
    rw [hM] at HBM hml HRM
    obtain ⟨c, hc⟩ : ∃ c, min N 1099511627776 = c := ⟨_, rfl⟩
    have hci : min (N : Int) 1099511627776 = (c : Int) := by omega
    obtain ⟨d, hd⟩ : ∃ d, M + c = d := ⟨_, rfl⟩
    have hdi : (M : Int) + (c : Int) = (d : Int) := by omega
    have hdw : IntKind.i64.wrap (d : Int) = (d : Int) := IntWalk.i64_in _ (by omega)
    rw [hc, hd] at HBM
    clear hres hM hc hd hn hb hn1
    by_cases hdM : 1099511627776 < d
    · have hdMi : (d : Int) > 1099511627776 := by omega
      rw [show min d 1099511627776 = 1099511627776 by omega] at HBM
      clear hdM
      by_cases hl : 40 < s.size
      · have hli : (40 : Int) < (s.size : Int) := by omega
        go_enter Try.func13, Try.ntmps13
        go_wp2_with fail
        refine (HRM.out _).mono ?_
        rintro e w1 ⟨rfl, rfl⟩
        go_wp2_with fail
        refine (HBM.out _).mono ?_
        rintro e w1 ⟨rfl, rfl⟩
        go_wp2_with fail
        refine (HBA.out _).mono ?_
        rintro e w2 ⟨rfl, hb1⟩
        have HB1 := Lib.hid hb1
        clear hb1
        go_wp2_with fail
        go_ret
        exact ⟨rfl, HB1.out⟩
      · have hli : ¬ (40 : Int) < (s.size : Int) := by omega
        by_cases h0 : s.size = 0
        · obtain rfl := no_bytes s h0
          clear hl hli h0
          go_enter Try.func13, Try.ntmps13
          go_wp2_with fail
          refine (HRM.out _).mono ?_
          rintro e w1 ⟨rfl, rfl⟩
          go_wp2_with fail
          refine (HBM.out _).mono ?_
          rintro e w1 ⟨rfl, rfl⟩
          go_wp2_with fail
          refine (HBA.out _).mono ?_
          rintro e w2 ⟨rfl, hb1⟩
          have HB1 := Lib.hid hb1
          clear hb1
          go_wp2_with fail
          go_ret
          exact ⟨rfl, HB1.out⟩
        · have hemp := some_bytes s (by omega)
          have HNEW := Lib.hid (fun W => bnew_any s s.size W rfl (by omega) (by omega))
          have HMS := Lib.hid (fun W => bmost_any (s.size : Int) W (by omega) (by omega))
          rw [Int.toNat_natCast] at HMS
          obtain ⟨Q, hQ⟩ : ∃ Q : Nat, mostBw s.size = Q := ⟨_, rfl⟩
          rw [hQ] at HMS
          have HQ := Lib.hid hQ
          clear hQ
          go_enter Try.func13, Try.ntmps13
          go_wp2_with fail
          refine (HRM.out _).mono ?_
          rintro e w1 ⟨rfl, rfl⟩
          go_wp2_with fail
          refine (HBM.out _).mono ?_
          rintro e w1 ⟨rfl, rfl⟩
          go_wp2_with fail
          refine (HNEW.out _).mono ?_
          rintro e w2 ⟨t, R, P, rfl, hsr, hT, hB⟩
          have HB2 := Lib.hid hB
          have HSR := Lib.hid hsr
          have hm := hsr.most
          rw [HQ.out] at hm
          have HST := Lib.hid (bstep_any w2 1099511627776 hsr hT hT.lt (by omega) hB.size)
          rw [Nat.sub_zero, show min (1099511627776 : Int).toNat (R + s.size) = R + s.size by omega] at HST
          obtain ⟨RS, hRS⟩ : ∃ RS, R + s.size = RS := ⟨_, rfl⟩
          rw [hRS] at HST hm
          have HRS := Lib.hid hRS
          have hmi : (RS : Int) ≤ (Q : Int) := by omega
          clear hsr hT hB hRS
          go_wp2_with fail
          refine HST.out.mono ?_
          rintro e w3 ⟨rfl, hT3, hB3⟩
          rw [Nat.zero_add] at hT3
          have HD := Lib.hid (hT3.tells HSR.out).2.2.1
          rw [show (RS == R + s.size) = true by rw [beq_iff_eq]; exact HRS.out.symm] at HD
          have HB3 := Lib.hid (HB2.out.trans hB3)
          clear hT3 hB3
          go_wp2_with fail
          refine HD.out.mono ?_
          rintro e w4 ⟨rfl, m4, rfl⟩
          have HB4 := Lib.hid (HB3.out.trans (belowB_drewN _ w3 m4))
          go_wp2_with fail
          refine (HMS.out _).mono ?_
          rintro e w5 ⟨rfl, rfl⟩
          go_wp2_with fail
          refine (HBA.out _).mono ?_
          rintro e w6 ⟨rfl, hb6⟩
          have HB6 := Lib.hid (HB4.out.trans (hb6.mono HB4.out.size))
          clear hb6
          go_wp2_with fail
          go_ret
          exact ⟨rfl, HB6.out⟩
    · have hdMi : ¬ (d : Int) > 1099511627776 := by omega
      rw [show min d 1099511627776 = d by omega] at HBM
      clear hdM
      by_cases hl : 40 < s.size
      · have hli : (40 : Int) < (s.size : Int) := by omega
        go_enter Try.func13, Try.ntmps13
        go_wp2_with fail
        refine (HRM.out _).mono ?_
        rintro e w1 ⟨rfl, rfl⟩
        go_wp2_with fail
        refine (HBM.out _).mono ?_
        rintro e w1 ⟨rfl, rfl⟩
        go_wp2_with fail
        refine (HBA.out _).mono ?_
        rintro e w2 ⟨rfl, hb1⟩
        have HB1 := Lib.hid hb1
        clear hb1
        go_wp2_with fail
        go_ret
        exact ⟨rfl, HB1.out⟩
      · have hli : ¬ (40 : Int) < (s.size : Int) := by omega
        by_cases h0 : s.size = 0
        · obtain rfl := no_bytes s h0
          clear hl hli h0
          go_enter Try.func13, Try.ntmps13
          go_wp2_with fail
          refine (HRM.out _).mono ?_
          rintro e w1 ⟨rfl, rfl⟩
          go_wp2_with fail
          refine (HBM.out _).mono ?_
          rintro e w1 ⟨rfl, rfl⟩
          go_wp2_with fail
          refine (HBA.out _).mono ?_
          rintro e w2 ⟨rfl, hb1⟩
          have HB1 := Lib.hid hb1
          clear hb1
          go_wp2_with fail
          go_ret
          exact ⟨rfl, HB1.out⟩
        · have hemp := some_bytes s (by omega)
          have HNEW := Lib.hid (fun W => bnew_any s s.size W rfl (by omega) (by omega))
          have HMS := Lib.hid (fun W => bmost_any (s.size : Int) W (by omega) (by omega))
          rw [Int.toNat_natCast] at HMS
          obtain ⟨Q, hQ⟩ : ∃ Q : Nat, mostBw s.size = Q := ⟨_, rfl⟩
          rw [hQ] at HMS
          have HQ := Lib.hid hQ
          clear hQ
          go_enter Try.func13, Try.ntmps13
          go_wp2_with fail
          refine (HRM.out _).mono ?_
          rintro e w1 ⟨rfl, rfl⟩
          go_wp2_with fail
          refine (HBM.out _).mono ?_
          rintro e w1 ⟨rfl, rfl⟩
          go_wp2_with fail
          refine (HNEW.out _).mono ?_
          rintro e w2 ⟨t, R, P, rfl, hsr, hT, hB⟩
          have HB2 := Lib.hid hB
          have HSR := Lib.hid hsr
          have hm := hsr.most
          rw [HQ.out] at hm
          have HST := Lib.hid (bstep_any w2 1099511627776 hsr hT hT.lt (by omega) hB.size)
          rw [Nat.sub_zero, show min (1099511627776 : Int).toNat (R + s.size) = R + s.size by omega] at HST
          obtain ⟨RS, hRS⟩ : ∃ RS, R + s.size = RS := ⟨_, rfl⟩
          rw [hRS] at HST hm
          have HRS := Lib.hid hRS
          have hmi : (RS : Int) ≤ (Q : Int) := by omega
          clear hsr hT hB hRS
          go_wp2_with fail
          refine HST.out.mono ?_
          rintro e w3 ⟨rfl, hT3, hB3⟩
          rw [Nat.zero_add] at hT3
          have HD := Lib.hid (hT3.tells HSR.out).2.2.1
          rw [show (RS == R + s.size) = true by rw [beq_iff_eq]; exact HRS.out.symm] at HD
          have HB3 := Lib.hid (HB2.out.trans hB3)
          clear hT3 hB3
          go_wp2_with fail
          refine HD.out.mono ?_
          rintro e w4 ⟨rfl, m4, rfl⟩
          have HB4 := Lib.hid (HB3.out.trans (belowB_drewN _ w3 m4))
          go_wp2_with fail
          refine (HMS.out _).mono ?_
          rintro e w5 ⟨rfl, rfl⟩
          go_wp2_with fail
          refine (HBA.out _).mono ?_
          rintro e w6 ⟨rfl, hb6⟩
          have HB6 := Lib.hid (HB4.out.trans (hb6.mono HB4.out.size))
          clear hb6
          go_wp2_with fail
          go_ret
          exact ⟨rfl, HB6.out⟩
end Go.Proofs.Ytfedhppcmmponaa

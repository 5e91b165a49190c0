/-
  LAYER 15's STATEMENTS: RotatePeriods, RotateSorts, RotateAlike, RotateOne.
-/
import Derived.Test.YthkiaddmgggbpaaRotLawA
namespace Go.Proofs.Ythkiaddmgggbpaa
open Go.RowKit BwtM PkM
set_option linter.unusedVariables false
theorem no_bytes (s : ByteArray) (h : s.size = 0) : s = ByteArray.empty := by
  apply ByteArray.ext
  apply Array.toList_inj.1
  have h2 := txt_len s
  rw [h] at h2
  rw [List.eq_nil_of_length_eq_zero h2]
  rfl
theorem some_bytes (s : ByteArray) (h : 0 < s.size) : s.toList.isEmpty = false := by
  rw [ByteArray.toList_eq]
  have h2 := txt_len s
  cases hl : s.data.toList with
  | nil => rw [hl] at h2; simp at h2; omega
  | cons a t => rfl
set_option maxRecDepth 100000 in
set_option maxHeartbeats 4000000 in
theorem rotatePeriods.walk (s : ByteArray) (w : World) (hs : s.size ≤ maxLen) :
    Calls Try.prog 4 #[.string s] w fun e w' => e = .returned (.bool true) ∧ Below w.heap.size w w' := by
  have HBA := Lib.hid (fun W => banana15_any W)
  clear hs
  by_cases hl : 80 < s.size
  · have hli : (80 : Int) < (s.size : Int) := by omega
    go_enter Try.func4, Try.ntmps4
    go_wp2_with fail
    refine (HBA.out _).mono ?_
    rintro e w1 ⟨rfl, hb1⟩
    have HB1 := Lib.hid hb1
    clear hb1
    go_wp2_with fail
    go_ret
    exact ⟨rfl, HB1.out⟩
  · have hli : ¬ (80 : Int) < (s.size : Int) := by omega
    by_cases h0 : s.size = 0
    · obtain rfl := no_bytes s h0
      have HLE := Lib.hid (fun W => least_nil ByteArray.empty W rfl)
      have HPE := Lib.hid (fun W => period_nil ByteArray.empty W rfl)
      clear hl hli h0
      go_enter Try.func4, Try.ntmps4
      go_wp2_with fail
      refine (HLE.out _).mono ?_
      rintro e w' ⟨rfl, rfl⟩
      go_wp2_with fail
      refine (HPE.out _).mono ?_
      rintro e w' ⟨rfl, rfl⟩
      go_wp2_with fail
      refine (HBA.out _).mono ?_
      rintro e w1 ⟨rfl, hb1⟩
      have HB1 := Lib.hid hb1
      clear hb1
      go_wp2_with fail
      go_ret
      exact ⟨rfl, HB1.out⟩
    · have hemp := some_bytes s (by omega)
      have HLE := Lib.hid (fun W => least_any s W (by omega) (by omega))
      have HPE := Lib.hid (fun W => period_any s W (by omega) (by omega))
      have HRP := Lib.hid (fun W => rperiod_any s W (by omega) (by omega))
      have HPL := Lib.hid (fun (a : Nat) W (h : a < s.size) => lawPlace_any s (a : Int) true W ⟨fun _ => ⟨by omega, by omega⟩, fun _ => rfl⟩)
      have HRA := Lib.hid (fun i k r W h1 h2 h3 => rahead_any s i k r W (by omega) h1 h2 h3)
      obtain ⟨n, hn⟩ : ∃ n, s.size = n := ⟨_, rfl⟩
      have HN : Hid (s.data.toList.length = n) := Lib.hid (by rw [txt_len, hn])
      rw [hn] at HPL HRA hli hl
      go_enter Try.func4, Try.ntmps4
      go_wp2_with fail
      refine (HLE.out _).mono ?_
      rintro e w1 ⟨⟨a, rfl, ha⟩, hb1⟩
      have HB1 := Lib.hid hb1
      have HA := Lib.hid ha
      have han := ha.1
      rw [HN.out] at han
      clear hb1 ha
      go_wp2_with fail
      refine (HPL.out a _ han).mono ?_
      rintro e w' ⟨rfl, rfl⟩
      go_wp2_with fail
      refine (HPE.out _).mono ?_
      rintro e w2 ⟨⟨p, rfl, hp⟩, hb2⟩
      have HB2 := Lib.hid (HB1.out.trans (hb2.mono HB1.out.size))
      have HP := Lib.hid hp
      clear hb2 hp
      go_wp2_with fail
      refine (HRP.out _).mono ?_
      rintro e w3 ⟨⟨q, rfl, hq⟩, hb3⟩
      have HB3 := Lib.hid (HB2.out.trans (hb3.mono HB2.out.size))
      obtain rfl : q = p := period_one hq HP.out
      have hqq : ((q : Int) != (q : Int)) = false := by simp
      clear hb3 hq
      go_wp2_with fail
      go_loopw [36] (fun vi wr => ∃ i : Nat, vi = .int .i64 (i : Int) ∧ i ≤ n ∧ Below w.heap.size w wr) (fun vi _ => n - (intOf vi).toNat)
      case atStart => exact ⟨0, rfl, by omega, HB3.out⟩
      case round =>
        obtain ⟨i, rfl, hi, hb⟩ := hrel
        have HB := Lib.hid hb
        clear hb HB3
        by_cases hin : i < n
        · have hii : (i : Int) < (n : Int) := by omega
          have HRI := Lib.hid (HRA.out i a false wr hin han ⟨fun e => (by cases e), fun e => absurd e (HA.out.2 i (by rw [HN.out]; exact hin))⟩)
          go_wp2_with fail
          refine HRI.out.mono ?_
          rintro e w4 ⟨rfl, hb4⟩
          have HB4 := Lib.hid (HB.out.trans (hb4.mono HB.out.size))
          clear hb4
          go_wp2_with fail
          go_roundw
          case rel => exact ⟨i + 1, by go_num, by omega, HB4.out⟩
          case measure => simp [intOf]; omega
        · have hii : ¬ (i : Int) < (n : Int) := by omega
          go_wp2_with fail
          refine (HBA.out _).mono ?_
          rintro e w4 ⟨rfl, hb4⟩
          have HB4 := Lib.hid (HB.out.trans (hb4.mono HB.out.size))
          clear hb4
          go_wp2_with fail
          go_ret
          exact ⟨rfl, HB4.out⟩
theorem sorts_iff (s : ByteArray) (zs : List Int) : SortsP s.data.toList zs ↔ zs = toI (sortP s.data.toList s.size) := by
  have h := sortP_is s.data.toList
  rw [txt_len] at h
  constructor
  · rintro ⟨P, hP, rfl⟩
    rw [hP.same h]
  · rintro rfl
    exact ⟨_, h, rfl⟩
set_option maxRecDepth 100000 in
set_option maxHeartbeats 4000000 in
theorem rotateSorts.walk (s : ByteArray) (l : Option Addr) (llen lcap : Nat) (lz : List Int) (w : World) (hs : s.size ≤ maxLen) (hl : IsRow .i64 w l llen lcap lz) :
    Calls Try.prog 5 #[.string s, .slice l llen lcap] w fun e w' => e = .returned (.bool true) ∧ Below w.heap.size w w' := by
  have HBA := Lib.hid (fun W => banana15_any W)
  obtain ⟨hI, hlen⟩ := ints_in hl
  have HI := Lib.hid hI
  clear hs hl hI
  by_cases h1 : 40 < s.size
  · have h1i : (40 : Int) < (s.size : Int) := by omega
    go_enter Try.func5, Try.ntmps5
    go_wp2_with fail
    refine (HBA.out _).mono ?_
    rintro e w1 ⟨rfl, hb1⟩
    have HB1 := Lib.hid hb1
    clear hb1
    go_wp2_with fail
    go_ret
    exact ⟨rfl, HB1.out⟩
  · have h1i : ¬ (40 : Int) < (s.size : Int) := by omega
    by_cases h2 : 60 < llen
    · have h2i : (60 : Int) < (llen : Int) := by omega
      go_enter Try.func5, Try.ntmps5
      go_wp2_with fail
      refine (HBA.out _).mono ?_
      rintro e w1 ⟨rfl, hb1⟩
      have HB1 := Lib.hid hb1
      clear hb1
      go_wp2_with fail
      go_ret
      exact ⟨rfl, HB1.out⟩
    · have h2i : ¬ (60 : Int) < (llen : Int) := by omega
      have HRS := Lib.hid (fun W => rsorted_any s W (by omega))
      obtain ⟨r, hr⟩ := bool_of (lz.take llen = toI (sortP s.data.toList s.size))
      have HSO := Lib.hid (fun v W (hv : IsInts W v (lz.take llen)) => sorted_any s v (lz.take llen) r W hv (by omega) (by omega) (by rw [sorts_iff]; exact hr))
      have HSW := Lib.hid (fun v W (hv : IsInts W v (toI (sortP s.data.toList s.size))) => sorted_any s v _ true W hv (by rw [toI_length, sortP_length]; omega) (by omega) ⟨fun _ => (sorts_iff _ _).2 rfl, fun _ => rfl⟩)
      have HIN := Lib.hid (fun v u W (hv : IsInts W v (lz.take llen)) (hu : IsInts W u (toI (sortP s.data.toList s.size))) => ints_any v u _ _ r W hv hu hr (by omega) (by rw [toI_length, sortP_length]; omega))
      have hrr : (r == r) = true := by simp
      generalize lz.take llen = zs at *
      generalize toI (sortP s.data.toList s.size) = ys at *
      clear hr hlen
      go_enter Try.func5, Try.ntmps5
      go_wp2_with fail
      refine (HRS.out _).mono ?_
      rintro e w1 ⟨v, rfl, hv, hb1⟩
      have HV1 := Lib.hid hv.ints
      have HB1 := Lib.hid hb1
      have HI1 := Lib.hid (HI.out.below hb1)
      clear hv hb1
      go_wp2_with fail
      refine (HSO.out _ _ HI1.out).mono ?_
      rintro e w2 ⟨rfl, hb2⟩
      have HV2 := Lib.hid (HV1.out.below hb2)
      have HI2 := Lib.hid (HI1.out.below hb2)
      have HB2 := Lib.hid (HB1.out.trans (hb2.mono HB1.out.size))
      clear hb2
      go_wp2_with fail
      refine (HIN.out _ _ _ HI2.out HV2.out).mono ?_
      rintro e w3 ⟨rfl, m, hw3⟩
      have HV3 : Hid (IsInts w3 v ys) := Lib.hid (by rw [hw3]; exact HV2.out)
      have HB3 : Hid (Below w.heap.size w w3) := Lib.hid (by rw [hw3]; exact HB2.out.trans ⟨rfl, rfl, rfl, Nat.le_refl _, fun _ _ => rfl⟩)
      clear hw3
      go_wp2_with fail
      refine (HSW.out _ _ HV3.out).mono ?_
      rintro e w4 ⟨rfl, hb4⟩
      have HB4 := Lib.hid (HB3.out.trans (hb4.mono HB3.out.size))
      clear hb4
      go_wp2_with fail
      refine (HBA.out _).mono ?_
      rintro e w8 ⟨rfl, hb8⟩
      have HB8 := Lib.hid (HB4.out.trans (hb8.mono HB4.out.size))
      clear hb8
      go_wp2_with fail
      go_ret
      exact ⟨rfl, HB8.out⟩
theorem alike_cmp {T : List UInt8} {i k p : Nat} {c : Int} (hi : i < T.length) (hk : k < T.length) (hp : IsPeriod T p) (h : IsCmp T i k c) : c = 0 ↔ ((i : Int) - (k : Int)).tmod (p : Int) = 0 := by
  have h2 : c = 0 ↔ eqH T T.length i k := by
    rcases h with ⟨rfl, h⟩ | ⟨rfl, h⟩ | ⟨rfl, h⟩
    · exact ⟨fun e => absurd e (by decide), fun e => absurd e h.noteq⟩
    · exact ⟨fun _ => h, fun _ => rfl⟩
    · exact ⟨fun e => absurd e (by decide), fun e => absurd e.symm h.noteq⟩
  rw [h2, eqH_rot (by omega) (by omega), alike hp hi hk, ← Int.dvd_iff_emod_eq_zero, Int.dvd_iff_tmod_eq_zero]
set_option maxRecDepth 100000 in
set_option maxHeartbeats 4000000 in
theorem rotateAlike.walk (s : ByteArray) (i k : Int) (w : World) (hs : s.size ≤ maxLen) (hi : (Lit.int .i64 i).wf = true) (hk : (Lit.int .i64 k).wf = true) :
    Calls Try.prog 6 #[.string s, .int .i64 i, .int .i64 k] w fun e w' => e = .returned (.bool true) ∧ Below w.heap.size w w' := by
  have HBA := Lib.hid (fun W => banana15_any W)
  clear hs hi hk
  by_cases hl : 300 < s.size
  · have hli : (300 : Int) < (s.size : Int) := by omega
    go_enter Try.func6, Try.ntmps6
    go_wp2_with fail
    refine (HBA.out _).mono ?_
    rintro e w1 ⟨rfl, hb1⟩
    have HB1 := Lib.hid hb1
    clear hb1
    go_wp2_with fail
    go_ret
    exact ⟨rfl, HB1.out⟩
  · have hli : ¬ (300 : Int) < (s.size : Int) := by omega
    by_cases pi : 0 ≤ i ∧ i < (s.size : Int)
    · obtain ⟨a, rfl⟩ : ∃ a : Nat, i = (a : Int) := ⟨i.toNat, by omega⟩
      have ha : a < s.size := by omega
      have HP1 := Lib.hid (fun W => lawPlace_any s (a : Int) true W ⟨fun _ => pi, fun _ => rfl⟩)
      by_cases pk : 0 ≤ k ∧ k < (s.size : Int)
      · obtain ⟨b, rfl⟩ : ∃ b : Nat, k = (b : Int) := ⟨k.toNat, by omega⟩
        have hb : b < s.size := by omega
        have HP2 := Lib.hid (fun W => lawPlace_any s (b : Int) true W ⟨fun _ => pk, fun _ => rfl⟩)
        have HCO := Lib.hid (fun W => compare_any s a b W (by omega) ha hb)
        have HPE := Lib.hid (fun W => period_any s W (by omega) (by omega))
        have HAL := Lib.hid (fun p c hp hc => alike_cmp (T := s.data.toList) (i := a) (k := b) (p := p) (c := c) (by rw [txt_len]; exact ha) (by rw [txt_len]; exact hb) hp hc)
        have hd1 : -300 ≤ (a : Int) - (b : Int) ∧ (a : Int) - (b : Int) ≤ 300 := by omega
        obtain ⟨d, hd⟩ : ∃ d, (a : Int) - (b : Int) = d := ⟨_, rfl⟩
        rw [hd] at HAL hd1
        obtain ⟨hd1, hd2⟩ := hd1
        clear pi pk ha hb hl
        go_enter Try.func6, Try.ntmps6
        go_wp2_with fail
        refine (HP1.out _).mono ?_
        rintro e w' ⟨rfl, rfl⟩
        go_wp2_with fail
        refine (HP2.out _).mono ?_
        rintro e w' ⟨rfl, rfl⟩
        go_wp2_with fail
        refine (HCO.out _).mono ?_
        rintro e w1 ⟨⟨c, rfl, hc⟩, hb1⟩
        have HB1 := Lib.hid hb1
        have HC := Lib.hid hc
        clear hb1 hc
        go_wp2_with fail
        refine (HPE.out _).mono ?_
        rintro e w2 ⟨⟨p, rfl, hp⟩, hb2⟩
        have HB2 := Lib.hid (HB1.out.trans (hb2.mono HB1.out.size))
        have hp0 : (0 : Int) < (p : Int) := by have := hp.1; omega
        have hp0n : 0 < p := hp.1
        have hpe : ((p : Int) == 0) = false := by rw [beq_eq_false_iff_ne]; omega
        have hal := HAL.out p c hp HC.out
        obtain ⟨R, hR⟩ : ∃ R, d.tmod (p : Int) = R := ⟨_, rfl⟩
        have hRb : -(p : Int) < R ∧ R < (p : Int) := by
          rw [← hR]
          exact ⟨by have := Int.lt_tmod_of_pos d hp0; omega, Int.tmod_lt_of_pos d hp0⟩
        have hRd : -300 ≤ R ∧ R ≤ 300 := by
          rw [← hR]
          have h1 := Int.natAbs_tmod d (p : Int)
          have h3 := Nat.mod_le d.natAbs (p : Int).natAbs
          omega
        obtain ⟨hR1, hR2⟩ := hRd
        rw [hR] at hal
        clear hb2 hp hRb
        by_cases h0 : c = 0
        · have h0b : (c == 0) = true := by rw [beq_iff_eq]; exact h0
          have h1b : (R == 0) = true := by rw [beq_iff_eq]; exact hal.1 h0
          clear hal h0
          go_wp2_with fail
          refine (HBA.out _).mono ?_
          rintro e w8 ⟨rfl, hb8⟩
          have HB8 := Lib.hid (HB2.out.trans (hb8.mono HB2.out.size))
          clear hb8
          go_wp2_with fail
          go_ret
          exact ⟨rfl, HB8.out⟩
        · have h0b : (c == 0) = false := by rw [beq_eq_false_iff_ne]; exact h0
          have h1b : (R == 0) = false := by rw [beq_eq_false_iff_ne]; exact fun e => h0 (hal.2 e)
          clear hal h0
          go_wp2_with fail
          refine (HBA.out _).mono ?_
          rintro e w8 ⟨rfl, hb8⟩
          have HB8 := Lib.hid (HB2.out.trans (hb8.mono HB2.out.size))
          clear hb8
          go_wp2_with fail
          go_ret
          exact ⟨rfl, HB8.out⟩
      · have HP2 := Lib.hid (fun W => lawPlace_any s k false W ⟨fun e => (by cases e), fun e => absurd e pk⟩)
        clear pi pk ha hl
        go_enter Try.func6, Try.ntmps6
        go_wp2_with fail
        refine (HP1.out _).mono ?_
        rintro e w' ⟨rfl, rfl⟩
        go_wp2_with fail
        refine (HP2.out _).mono ?_
        rintro e w' ⟨rfl, rfl⟩
        go_wp2_with fail
        refine (HBA.out _).mono ?_
        rintro e w8 ⟨rfl, hb8⟩
        have HB8 := Lib.hid hb8
        clear hb8
        go_wp2_with fail
        go_ret
        exact ⟨rfl, HB8.out⟩
    · have HP1 := Lib.hid (fun W => lawPlace_any s i false W ⟨fun e => (by cases e), fun e => absurd e pi⟩)
      clear pi hl
      go_enter Try.func6, Try.ntmps6
      go_wp2_with fail
      refine (HP1.out _).mono ?_
      rintro e w' ⟨rfl, rfl⟩
      go_wp2_with fail
      refine (HBA.out _).mono ?_
      rintro e w8 ⟨rfl, hb8⟩
      have HB8 := Lib.hid hb8
      clear hb8
      go_wp2_with fail
      go_ret
      exact ⟨rfl, HB8.out⟩
end Go.Proofs.Ythkiaddmgggbpaa

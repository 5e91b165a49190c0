/-
  THE DOCUMENT's ANSWER FOR LAYER 16 (sorter): all steps; the code's Order and Of.
-/
import Derived.Test.YtfedhppcmmponaaSrtL
import Derived.Test.YtfedhppcmmponaaSrtM
import Derived.Test.YtfedhppcmmponaaSrtN
import Derived.Test.YtfedhppcmmponaaClone
namespace Go.Proofs.Ytfedhppcmmponaa
open Go.RowKit BwtM SrtM PkM
set_option linter.unusedVariables false
set_option linter.unusedSimpArgs false
theorem pow_min {n : Nat} (hn : 2 ≤ n) (h2 : n ≤ 1099511627776) : n ≤ 2 ^ mostB n := by
  have e40 : (2 : Nat) ^ 40 = 1099511627776 := by decide
  have h := (bitLen_spec 40 (min n 1099511627776 - 1) (by omega) (by omega)).1
  have e : Lib.bitLen (min n 1099511627776 - 1) = mostB n := rfl
  rw [e] at h
  omega
theorem StepsOf.most {T : List UInt8} {R : Nat} (h : StepsOf T R) (hn : T.length ≤ 1024) : R ≤ mostN T.length ∧ R ≤ 500000 := by
  have e10 : (2 : Nat) ^ 10 = 1024 := by decide
  have h10 : R ≤ T.length * (4 + 3 * 10) * (10 + 2) := h.le (by rw [e10]; exact hn)
  have hR : R ≤ 500000 := by omega
  refine ⟨?_, hR⟩
  rcases h with ⟨h1, rfl⟩ | ⟨h1, hm⟩
  · exact Nat.zero_le _
  · have := StepsOf.le (Or.inr ⟨h1, hm⟩ : StepsOf T R) (pow_min h1 (by omega))
    unfold mostN
    rw [if_neg (by omega), Nat.min_eq_left (by omega : T.length ≤ 1099511627776), ← Nat.mul_assoc]
    omega
theorem unlike_min {T : List UInt8} {H : Nat} : Unlike T (min H T.length) ↔ Unlike T H := by
  rcases Nat.le_total H T.length with c | c
  · rw [Nat.min_eq_left c]
  · rw [Nat.min_eq_right c]
    constructor
    · intro h i k hi hk hne e
      exact h i k hi hk hne (e.mono c)
    · intro h i k hi hk hne e
      exact h i k hi hk hne (eqH_up e (Nat.le_refl _))
theorem bool_of (p : Prop) : ∃ r : Bool, r = true ↔ p := by
  by_cases h : p
  · exact ⟨true, fun _ => h, fun _ => rfl⟩
  · exact ⟨false, fun e => (by cases e), fun e => absurd e h⟩
set_option maxRecDepth 100000 in
set_option maxHeartbeats 4000000 in
theorem rsteps_any (s : ByteArray) (w : World) (hs : s.size ≤ 1024) : Calls Try.prog 20 #[.string s] w fun e w' => (∃ R : Nat, e = .returned (.int .i64 (R : Int)) ∧ StepsOf s.data.toList R) ∧ Below w.heap.size w w' := by
  have hl : s.data.toList.length = s.size := txt_len s
  obtain ⟨n, hn⟩ : ∃ n, s.size = n := ⟨_, rfl⟩
  have HN := Lib.hid hn
  have HL : Hid (s.data.toList.length = n) := Lib.hid (hl.trans hn)
  by_cases h2 : n < 2
  · have h2i : (n : Int) < 2 := by omega
    have HR : Hid (StepsOf s.data.toList 0) := Lib.hid (Or.inl ⟨by rw [HL.out]; exact h2, rfl⟩)
    go_enter Try.func20, Try.ntmps20
    go_wp2_with fail
    go_ret
    exact ⟨⟨0, rfl, HR.out⟩, Below.refl _ _⟩
  · have h2i : ¬ (n : Int) < 2 := by omega
    have HP := Lib.hid (fun w => rpass_any n w (by omega))
    have hpb := passS_bnd n (by omega)
    obtain ⟨p, hp⟩ : ∃ p, passS n = p := ⟨_, rfl⟩
    rw [hp] at HP hpb
    obtain ⟨c, hc⟩ : ∃ c, p + n = c := ⟨_, rfl⟩
    have HC : Hid (each s.data.toList.length = c) := Lib.hid (by rw [HL.out]; unfold each; rw [hp, hc])
    have hci : (p : Int) + (n : Int) = (c : Int) := by omega
    have hcw : IntKind.i64.wrap (c : Int) = (c : Int) := IntWalk.i64_in _ (by omega)
    have hcb : c ≤ 1000000 := by omega
    have hn1 : n ≤ 1024 := by omega
    obtain ⟨r, hr⟩ := bool_of (Unlike s.data.toList 1)
    have HU := Lib.hid (fun w => runlike_any s 1 r w (by omega) (Nat.le_refl _) (by omega) hr)
    have HRR := Lib.hid hr
    have HUN := Lib.hid (fun (h : Nat) (r : Bool) w (h1 : 1 ≤ h) (h2 : h ≤ n) (h3 : r = true ↔ Unlike s.data.toList h) => runlike_any s h r w (by omega) h1 (by omega) h3)
    clear hl hp hc hr hs
    cases r with
    | true =>
      have HR : Hid (StepsOf s.data.toList c) := Lib.hid (Or.inr ⟨by rw [HL.out]; omega, 0, .done (Or.inl (HRR.out.1 rfl)), by rw [HC.out]; omega⟩)
      go_enter Try.func20, Try.ntmps20
      go_wp2_with fail
      refine (HP.out _).mono ?_
      rintro e w' ⟨rfl, rfl⟩
      go_wp2_with fail
      refine (HU.out _).mono ?_
      rintro e w2 ⟨rfl, hb2⟩
      have HB2 := Lib.hid hb2
      clear hb2
      go_wp2_with fail
      go_ret
      exact ⟨⟨c, rfl, HR.out⟩, HB2.out⟩
    | false =>
      have hne : ¬ SrtM.Ends s.data.toList 0 := fun h => by
        rcases h with h | h
        · have := HRR.out.2 h
          cases this
        · rw [HL.out] at h; omega
      have HNE := Lib.hid hne
      clear hne
      go_enter Try.func20, Try.ntmps20
      go_wp2_with fail
      refine (HP.out _).mono ?_
      rintro e w' ⟨rfl, rfl⟩
      go_wp2_with fail
      refine (HU.out _).mono ?_
      rintro e w2 ⟨rfl, hb2⟩
      have HB2 := Lib.hid hb2
      clear hb2
      go_wp2_with fail
      go_loopw [19, 4, 5] (fun vi vt vr wr => ∃ i : Nat, vi = .int .i64 (i : Int) ∧ i ≤ 10 ∧ (∃ q : Nat, vr = .int .i64 (q : Int) ∧ q = 2 ^ i ∧ q ≤ 1024) ∧ (∃ t : Nat, vt = .int .i64 (t : Int) ∧ t = c * (i + 1) ∧ t ≤ 11000000) ∧ (∀ m, Rem s.data.toList (2 ^ i) m → Rem s.data.toList 0 (m + i + 1)) ∧ Below w'.heap.size w' wr) (fun vi _ _ _ => 30 - (intOf vi).toNat)
      case atStart => exact ⟨0, rfl, by omega, ⟨1, rfl, rfl, by omega⟩, ⟨c, rfl, by omega, by omega⟩, fun m hm => .more HNE.out hm, HB2.out⟩
      case round =>
        obtain ⟨i, rfl, hi, ⟨q, rfl, hq, hq2⟩, ⟨t, rfl, ht, ht2⟩, hm, hB⟩ := hrel
        have HQ := Lib.hid hq
        have HT := Lib.hid ht
        have HM := Lib.hid hm
        have HB := Lib.hid hB
        have hq0 : 1 ≤ q := by rw [hq]; exact Nat.pow_pos (by omega)
        have hi10 : i = 10 → q = 1024 := fun e => by rw [hq, e]
        clear hq ht hm hB
        obtain ⟨t2, ht2E⟩ : ∃ t2, t + c = t2 := ⟨_, rfl⟩
        have ht2i : (t : Int) + (c : Int) = (t2 : Int) := by omega
        have ht2w : IntKind.i64.wrap (t2 : Int) = (t2 : Int) := IntWalk.i64_in _ (by omega)
        have HT2 : Hid (t2 = c * (i + 2)) := Lib.hid (by rw [← ht2E, HT.out, ← Nat.mul_succ])
        clear ht2E
        by_cases hqn : n ≤ q
        · have hqni : (q : Int) ≥ (n : Int) := by omega
          have HR : Hid (StepsOf s.data.toList t2) := Lib.hid (Or.inr ⟨by rw [HL.out]; omega, 0 + i + 1, HM.out 0 (.done (Or.inr (by rw [HL.out, ← HQ.out]; exact hqn))), by rw [HC.out, HT2.out]; congr 1; omega⟩)
          go_wp2_with fail
          go_ret
          exact ⟨⟨t2, rfl, HR.out⟩, HB.out⟩
        · have hqni : ¬ (q : Int) ≥ (n : Int) := by omega
          obtain ⟨q2, hq2E⟩ : ∃ q2, 2 * q = q2 := ⟨_, rfl⟩
          have hq2i : (2 : Int) * (q : Int) = (q2 : Int) := by omega
          have hq2w : IntKind.i64.wrap (q2 : Int) = (q2 : Int) := IntWalk.i64_in _ (by omega)
          obtain ⟨h, hh⟩ : ∃ h, min q2 n = h := ⟨_, rfl⟩
          have hhi : min (q2 : Int) (n : Int) = (h : Int) := by omega
          obtain ⟨r, hr⟩ := bool_of (Unlike s.data.toList h)
          have HUR := Lib.hid (fun w => HUN.out h r w (by omega) (by omega) hr)
          have hiff : r = true ↔ SrtM.Ends s.data.toList (2 ^ i) := by
            rw [hr, ← hh, ← HL.out, unlike_min]
            have e : bytesBy (2 ^ i) = q2 := by
              unfold bytesBy
              rw [← HQ.out, if_neg (by omega), hq2E]
            constructor
            · intro g; exact Or.inl (by rw [e]; exact g)
            · intro g
              rcases g with g | g
              · rw [e] at g; exact g
              · rw [HL.out, ← HQ.out] at g; omega
          have HIFF := Lib.hid hiff
          have HQ2 : Hid (q2 = 2 ^ (i + 1) ∧ bytesBy (2 ^ i) = 2 ^ (i + 1)) := Lib.hid (by
            have e : 2 ^ (i + 1) = q2 := by rw [Nat.pow_succ, ← HQ.out]; omega
            refine ⟨e.symm, ?_⟩
            unfold bytesBy
            rw [e, ← HQ.out, if_neg (by omega), hq2E])
          have hi9 : i ≤ 9 := by
            rcases (by omega : i = 10 ∨ i ≤ 9) with e | e
            · have := hi10 e; omega
            · exact e
          have hq2b : q2 ≤ 1024 := by
            have h1 : 2 ^ (i + 1) ≤ 2 ^ 10 := Nat.pow_le_pow_right (by omega) (by omega)
            have h2 : (2 : Nat) ^ 10 = 1024 := by decide
            rw [← HQ2.out.1] at h1
            omega
          have ht2b : t2 ≤ 11000000 := by
            rw [HT2.out]
            have : c * (i + 2) ≤ 1000000 * 11 := Nat.mul_le_mul hcb (by omega)
            omega
          clear hiff hr hh hq2E
          cases r with
          | true =>
            have HR : Hid (StepsOf s.data.toList t2) := Lib.hid (Or.inr ⟨by rw [HL.out]; omega, 0 + i + 1, HM.out 0 (.done (HIFF.out.1 rfl)), by rw [HC.out, HT2.out]; congr 1; omega⟩)
            go_wp2_with fail
            refine (HUR.out _).mono ?_
            rintro e w3 ⟨rfl, hb3⟩
            have HB3 := Lib.hid (HB.out.trans (hb3.mono HB.out.size))
            clear hb3
            go_wp2_with fail
            go_ret
            exact ⟨⟨t2, rfl, HR.out⟩, HB3.out⟩
          | false =>
            have HNX : Hid (∀ m, Rem s.data.toList (2 ^ (i + 1)) m → Rem s.data.toList 0 (m + (i + 1) + 1)) := Lib.hid (fun m hm => by
              have hne : ¬ SrtM.Ends s.data.toList (2 ^ i) := fun g => by
                have := HIFF.out.2 g
                cases this
              have := HM.out (m + 1) (.more hne (by rw [HQ2.out.2]; exact hm))
              rw [show m + (i + 1) + 1 = m + 1 + i + 1 by omega]
              exact this)
            go_wp2_with fail
            refine (HUR.out _).mono ?_
            rintro e w3 ⟨rfl, hb3⟩
            have HB3 := Lib.hid (HB.out.trans (hb3.mono HB.out.size))
            clear hb3
            go_wp2_with fail
            go_roundw
            case rel => exact ⟨i + 1, by go_num, by omega, ⟨q2, rfl, HQ2.out.1, hq2b⟩, ⟨t2, rfl, HT2.out, ht2b⟩, HNX.out, HB3.out⟩
            case measure => simp [intOf]; omega
section
variable {B : Nat} {b n : Nat} {Z : List Nat}
/-- The order of a sorter that is done. -/
theorem SoSt.ord {T : List UInt8} {w : World} {st : Nat} (h : SoSt B w b n T Z st 0) (hT : T.length = n) : ∃ bo P, w.cell? ⟨b, 0, none⟩ = some (.slice (some ⟨bo, 0, none⟩) n n) ∧ IsInts w (.slice (some ⟨bo, 0, none⟩) n n) (toI P) ∧ IsSorted T P ∧ P.length = n := by
  obtain ⟨bo, bc, ba, vk, vw, kb, S, h1, h2, h3⟩ := h
  rcases h3 with ⟨_, hs, _⟩ | ⟨K, _, _, _, hd⟩
  · exact ⟨bo, S.ord, h1.obj.cells.1, h1.ro.ints n n (by rw [toI_length, h1.lo]), hs, h1.lo⟩
  · have := hd.pos0 hT
    omega
set_option maxHeartbeats 2000000 in
theorem sorder_yes {T : List UInt8} (w : World) {st : Nat} (h : SoSt B w b n T Z st 0) (hT : T.length = n) (hn : n ≤ 900000) : Calls Try.prog 25 #[.pointer (some ⟨b, 0, none⟩)] w fun e w' => (∃ v P, e = .returned v ∧ OwnI w' w.heap.size v (toI P) ∧ IsSorted T P) ∧ Below w.heap.size w w' := by
  have HD := Lib.hid (h.done hT)
  obtain ⟨bo, P, d0, hi, hs, hl⟩ := h.ord hT
  have HC := Lib.hid (clone_any bo 0 n n (toI P) w hi (by rw [toI_length]; omega))
  have HS := Lib.hid hs
  clear h hi hs hT
  go_enter Try.func25, Try.ntmps25
  go_wp2_with fail
  refine HD.out.mono ?_
  rintro e w2 ⟨rfl, rfl⟩
  go_wp2_with fail
  refine HC.out.mono ?_
  rintro e w3 ⟨v, rfl, hO, hB⟩
  have HO := Lib.hid hO
  have HB := Lib.hid hB
  clear hO hB
  go_wp2_with fail
  go_ret
  exact ⟨⟨v, P, rfl, HO.out, HS.out⟩, HB.out⟩
set_option maxHeartbeats 2000000 in
theorem sorder_no {T : List UInt8} (w : World) {st R : Nat} (h : SoSt B w b n T Z st R) (hT : T.length = n) (hR : 0 < R) : Calls Try.prog 25 #[.pointer (some ⟨b, 0, none⟩)] w fun e w' => e = .returned (.slice none 0 0) ∧ w' = w := by
  have HD := Lib.hid (h.done hT)
  have e : (R == 0) = false := by rw [beq_eq_false_iff_ne]; omega
  rw [e] at HD
  clear h hT e
  go_enter Try.func25, Try.ntmps25
  go_wp2_with fail
  refine HD.out.mono ?_
  rintro e w2 ⟨rfl, rfl⟩
  go_wp2_with fail
  go_ret
  exact ⟨rfl, rfl⟩
theorem SoSt.held {T : List UInt8} {w : World} {st R : Nat} (h : SoSt B w b n T Z st R) (hn : n ≤ 900000) : Calls Try.prog 24 #[.pointer (some ⟨b, 0, none⟩)] w fun e w' => e = .returned (.int .i64 ((3 * n : Nat) : Int)) ∧ ∃ m, w' = w.drewN m := by
  obtain ⟨bo, bc, ba, vk, vw, kb, S, h1, h2, h3⟩ := h
  exact sheld_any w h1.obj (by omega)
theorem SoSt.stepsC {T : List UInt8} {w : World} {st R : Nat} (h : SoSt B w b n T Z st R) : Calls Try.prog 22 #[.pointer (some ⟨b, 0, none⟩)] w fun e w' => e = .returned (.int .i64 (st : Int)) ∧ w' = w := by
  obtain ⟨bo, bc, ba, vk, vw, kb, S, h1, ⟨rfl, h2⟩, h3⟩ := h
  exact ssteps_any w h1.obj
end
set_option maxRecDepth 100000 in
set_option maxHeartbeats 2000000 in
theorem sof_any (s : ByteArray) (w : World) (hs : s.size ≤ 1024) : Calls Try.prog 16 #[.string s] w fun e w' => (∃ v P, e = .returned (.tuple #[v, .int .i64 0]) ∧ IsInts w' v (toI P) ∧ IsSorted s.data.toList P) ∧ Below w.heap.size w w' := by
  have hl : s.data.toList.length = s.size := txt_len s
  have HL := Lib.hid hl
  have HNEW := Lib.hid (snew_any s s.size w rfl (by omega))
  have HMOST := Lib.hid (fun W => smost_any (s.size : Int) W (by omega) (by omega))
  rw [Int.toNat_natCast] at HMOST
  clear hl
  go_enter Try.func16, Try.ntmps16
  go_wp2_with fail
  refine HNEW.out.mono ?_
  rintro e w2 ⟨b, R, rfl, hS, hR, hB⟩
  have HB := Lib.hid hB
  have hm := hR.most (by rw [HL.out]; exact hs)
  rw [HL.out] at hm
  have hml := mostN_le s.size
  have h0 : 0 < s.size ∨ R = 0 := by
    rcases hR with ⟨_, h⟩ | ⟨h, _⟩
    · exact Or.inr h
    · rw [HL.out] at h; exact Or.inl (by omega)
  obtain ⟨M, hM⟩ : ∃ M, mostN s.size = M := ⟨_, rfl⟩
  rw [hM] at hm hml HMOST
  have HST := Lib.hid (sstep_any s.data.toList w2 0 R M hS HL.out h0 (by omega) (by omega) (by omega) (by omega) hB.size)
  rw [Nat.min_eq_right hm.1] at HST
  clear hS hR hB h0 hM
  go_wp2_with fail
  refine (HMOST.out _).mono ?_
  rintro e w3 ⟨rfl, rfl⟩
  go_wp2_with fail
  refine HST.out.mono ?_
  rintro e w4 ⟨rfl, hS4, hB4, _⟩
  rw [Nat.sub_self] at hS4
  obtain ⟨bo, P, d0, hi, hs4, hl4⟩ := hS4.ord HL.out
  have HI := Lib.hid hi
  have HS4 := Lib.hid hs4
  have HB4 := Lib.hid (HB.out.trans hB4)
  clear hS4 hi hs4 hB4 hl4
  go_wp2_with fail
  go_ret2
  exact ⟨⟨_, P, rfl, HI.out, HS4.out⟩, HB4.out⟩
set_option maxHeartbeats 2000000 in
theorem sof_long (s : ByteArray) (w : World) (hs : 900000 < s.size) (hm : s.size ≤ 1099511627776) : Calls Try.prog 16 #[.string s] w fun e w' => e = .returned (.tuple #[.slice none 0 0, .int .i64 2]) ∧ w' = w := by
  have HNEW := Lib.hid (snew_long s w hs hm)
  go_enter Try.func16, Try.ntmps16
  go_wp2_with fail
  refine HNEW.out.mono ?_
  rintro e w2 ⟨rfl, rfl⟩
  go_wp2_with fail
  go_ret2
  exact ⟨rfl, rfl⟩
end Go.Proofs.Ytfedhppcmmponaa

/-
  LAYER 4: a packer and an unpacker over whole texts, plainly; 'five'.
-/
import Derived.Test.YtfaalgogagpimaaDoorFeedB
namespace Go.Proofs.YtfaalgogagpimaaDoor
open Go.RowKit RleM
set_option linter.unusedVariables false
/-- A packer over a text. -/
def prun : UInt8 × Nat → List UInt8 → List UInt8 × (UInt8 × Nat)
  | st, [] => ([], st)
  | st, x :: l => ((pstep st.1 st.2 x).1 ++ (prun (pstep st.1 st.2 x).2 l).1, (prun (pstep st.1 st.2 x).2 l).2)
theorem prun_snoc : ∀ (l : List UInt8) (st : UInt8 × Nat) (x : UInt8), prun st (l ++ [x]) = ((prun st l).1 ++ (pstep (prun st l).2.1 (prun st l).2.2 x).1, (pstep (prun st l).2.1 (prun st l).2.2 x).2)
  | [], st, x => by simp [prun]
  | y :: l, st, x => by simp [prun, prun_snoc l, List.append_assoc]
structure PInv (st : UInt8 × Nat) : Prop where
  le : st.2 ≤ 254
  zero : st.2 = 0 → st.1 = 0
theorem pstep_inv {c : UInt8} {n : Nat} (h : PInv (c, n)) (x : UInt8) : PInv (pstep c n x).2 ∧ (pstep c n x).1.length ≤ 10 := by
  have h1 := h.le
  have h2 := packR_le c n
  have h3 := packP_sz (x, 255)
  simp only at h1 h3
  have h4 := sz_le 255
  unfold pstep
  simp only
  have ho : (if x = c then ([] : List UInt8) else packR c n).length ≤ 5 := by
    split
    · simp
    · exact h2
  have hm : 1 ≤ (if x = c then n + 1 else 1) ∧ (if x = c then n + 1 else 1) ≤ 255 := by split <;> omega
  generalize (if x = c then ([] : List UInt8) else packR c n) = o at *
  generalize (if x = c then n + 1 else 1) = m at *
  split
  · exact ⟨⟨by simp, fun _ => rfl⟩, by simp only [List.length_append]; omega⟩
  · exact ⟨⟨by simp only; omega, fun e => by simp only at e; omega⟩, by simp only; omega⟩
theorem prun_inv : ∀ (l : List UInt8) (st : UInt8 × Nat), PInv st → PInv (prun st l).2 ∧ (prun st l).1.length ≤ 10 * l.length
  | [], st, h => ⟨h, by simp [prun]⟩
  | x :: l, st, h => by
    obtain ⟨h1, h2⟩ := pstep_inv (c := st.1) (n := st.2) h x
    obtain ⟨h3, h4⟩ := prun_inv l _ h1
    exact ⟨h3, by simp only [prun, List.length_append, List.length_cons]; omega⟩
theorem pinv0 : PInv (0, 0) := ⟨by decide, fun _ => rfl⟩
/-- An unpacker's like is never above four. -/
theorem ustep_le {a : UInt8} {n : Nat} (h : n ≤ 4) (x : UInt8) {r : (UInt8 × Nat) × List UInt8} (hr : ustep (a, n) x = some r) : r.1.2 ≤ 4 ∧ r.2.length ≤ 255 := by
  have hx := x.toNat_lt
  unfold ustep at hr
  simp only at hr
  split at hr
  · split at hr
    · cases hr
    · obtain rfl := Option.some.inj hr
      exact ⟨by simp, by simp; omega⟩
  · obtain rfl := Option.some.inj hr
    refine ⟨?_, by simp⟩
    simp only
    split <;> omega
theorem urun_le : ∀ (l : List UInt8) (st : UInt8 × Nat) (r : (UInt8 × Nat) × List UInt8), st.2 ≤ 4 → urun st l = some r → r.1.2 ≤ 4 ∧ r.2.length ≤ 255 * l.length
  | [], st, r, h, hr => by
    have : (st, ([] : List UInt8)) = r := by simpa [urun] using hr
    subst this
    exact ⟨h, by simp⟩
  | x :: l, st, r, h, hr => by
    rw [urun] at hr
    obtain ⟨q, hq, h2⟩ := Option.bind_eq_some_iff.1 hr
    obtain ⟨q2, hq2, rfl⟩ := Option.map_eq_some_iff.1 h2
    obtain ⟨h3, h5⟩ := ustep_le (a := st.1) h x hq
    obtain ⟨h4, h6⟩ := urun_le l _ _ h3 hq2
    exact ⟨h4, by simp only [List.length_append, List.length_cons]; omega⟩
theorem uout_some {a : UInt8} {n : Nat} {x : UInt8} {r : (UInt8 × Nat) × List UInt8} (h : ustep (a, n) x = some r) : uout a n x = (r.2, 0) ∧ ust a n x = r.1 := by
  unfold uout ust; rw [h]; exact ⟨rfl, rfl⟩
theorem urun_step {s : ByteArray} {k : Nat} (hk : k < s.size) {a : UInt8} {n : Nat} {o : List UInt8} (h : urun (0, 0) (s.data.toList.take k) = some ((a, n), o)) : urun (0, 0) (s.data.toList.take (k + 1)) = (ustep (a, n) s[k]).map fun q => (q.1, o ++ q.2) := by
  rw [List.take_add_one, show s.data.toList[k]? = some s[k] from byte_at rfl hk]
  simp only [Option.toList]
  rw [urun_snoc, h]; rfl
theorem prun_step {s : ByteArray} {k : Nat} (hk : k < s.size) : prun (0, 0) (s.data.toList.take (k + 1)) = ((prun (0, 0) (s.data.toList.take k)).1 ++ (pstep (prun (0, 0) (s.data.toList.take k)).2.1 (prun (0, 0) (s.data.toList.take k)).2.2 s[k]).1, (pstep (prun (0, 0) (s.data.toList.take k)).2.1 (prun (0, 0) (s.data.toList.take k)).2.2 s[k]).2) := by
  rw [List.take_add_one, show s.data.toList[k]? = some s[k] from byte_at rfl hk]
  simp only [Option.toList]
  rw [prun_snoc]
/-- WHAT A PACKING LOOP KNOWS. -/
structure PkSt (w wr : World) (pb : Nat) (l : List UInt8) : Prop where
  row : IsPacker wr pb (prun (0, 0) l).2.1 (prun (0, 0) l).2.2
  below : Below w.heap.size w wr
theorem pput_run {w wr : World} {pb : Nat} {s : ByteArray} {k : Nat} (hk : k < s.size) (h : PkSt w wr pb (s.data.toList.take k)) (hT : Sizes w) (hpb : w.heap.size ≤ pb) :
    Calls Tryd.prog 26 #[.pointer (some ⟨pb, 0, none⟩), .int .u8 (s[k].toNat : Int)] wr fun e w' => ∃ A : List UInt8, e = .returned (.string ⟨A.toArray⟩) ∧ A.length ≤ 10 ∧ (prun (0, 0) (s.data.toList.take (k + 1))).1 = (prun (0, 0) (s.data.toList.take k)).1 ++ A ∧ PkSt w w' pb (s.data.toList.take (k + 1)) := by
  obtain ⟨hi1, hi2⟩ := prun_inv (s.data.toList.take k) (0, 0) pinv0
  have hlt := hT.lt
  refine (pput_any pb _ _ s[k] wr h.row (hT.below h.below hlt) (by omega) hi1.zero hi1.le).mono ?_
  rintro e w' ⟨rfl, h1, h2⟩
  refine ⟨_, rfl, (pstep_inv hi1 s[k]).2, by rw [prun_step hk], ?_, h.below.trans (h2.below h.below.size (fun i hi => by have : i = pb := hi; omega))⟩
  rw [prun_step hk]
  exact h1
/-- WHAT AN UNPACKING LOOP KNOWS. -/
structure UnSt (w wr : World) (ub : Nat) (l : List UInt8) (a : UInt8) (n : Nat) (O : List UInt8) : Prop where
  row : IsUnp wr ub a n
  run : urun (0, 0) l = some ((a, n), O)
  below : Below w.heap.size w wr
theorem uput_run {w wr : World} {ub : Nat} {s : ByteArray} {k : Nat} {a : UInt8} {n : Nat} {O : List UInt8} (hk : k < s.size) (h : UnSt w wr ub (s.data.toList.take k) a n O) (hub : w.heap.size ≤ ub) {r : (UInt8 × Nat) × List UInt8} (hr : ustep (a, n) s[k] = some r) :
    Calls Tryd.prog 33 #[.pointer (some ⟨ub, 0, none⟩), .int .u8 (s[k].toNat : Int)] wr fun e w' => e = .returned (.tuple #[.string ⟨r.2.toArray⟩, .int .i64 0]) ∧ UnSt w w' ub (s.data.toList.take (k + 1)) r.1.1 r.1.2 (O ++ r.2) := by
  have hn := (urun_le _ (0, 0) _ (by decide) h.run).1
  refine (uput_any ub a n s[k] wr h.row hn).mono ?_
  rintro e w' ⟨rfl, h1, h2⟩
  rw [(uout_some hr).1, (uout_some hr).2] at *
  refine ⟨rfl, h1, ?_, h.below.trans (h2.below h.below.size (fun i hi => by have : i = ub := hi; omega))⟩
  rw [urun_step hk h.run, hr]; rfl
def l6 : ByteArray := ⟨#[97, 97, 97, 97, 97, 98]⟩
def l5 : ByteArray := ⟨#[97, 97, 97, 97, 1]⟩
set_option maxRecDepth 100000 in
set_option maxHeartbeats 4000000 in
theorem five4_any (w : World) (hT : Sizes w) : Calls Tryd.prog 24 #[] w fun e w' => e = .returned (.bool true) ∧ Below w.heap.size w w' := by
  have HT := Lib.hid hT
  have hgl := hT.lt
  clear hT
  go_enter Tryd.func24, Tryd.ntmps24
  go_wp2_with fail
  refine (newPacker_any w).mono ?_
  rintro e w1 ⟨rfl, hp1, hb1⟩
  have HP1 := Lib.hid hp1
  have HB1 := Lib.hid hb1
  clear hp1 hb1
  go_wp2_with fail
  go_loopw [2, 3, 10] (fun t _ i wr => ∃ (k : Nat) (O : List UInt8), k ≤ 6 ∧ i = .int .i64 k ∧ t = .string ⟨O.toArray⟩ ∧ Hid (O = (prun (0, 0) (l6.data.toList.take k)).1) ∧ O.length ≤ 60 ∧ Hid (PkSt w wr w.heap.size (l6.data.toList.take k))) (fun _ _ i _ => 6 - (intOf i).toNat)
  case atStart => exact ⟨0, [], by omega, rfl, rfl, Lib.hid rfl, by simp, Lib.hid ⟨HP1.out, HB1.out⟩⟩
  case round =>
    obtain ⟨k, O, hk, rfl, rfl, hO, hOl, hS⟩ := hrel
    by_cases hlt : k < 6
    · have hlt6 : k < l6.size := hlt
      have hix : ∀ W, (Instr.index 9 (.string ⟨#[97, 97, 97, 97, 97, 98]⟩) (.int .i64 (k : Int))).run Tryd.prog W = .ok (.int .u8 (l6[k].toNat : Int)) W := fun W => by
        have h := run_index_string W 9 l6 .i64 (k : Int) Tryd.underlying9
        rw [dif_pos ⟨by omega, by omega⟩] at h
        exact h
      go_wp2_with fail
      refine (pput_run hlt6 hS.out HT.out (Nat.le_refl _)).mono ?_
      rintro e w2 ⟨A, rfl, hA, hAe, hS2⟩
      clear hix
      have HA := Lib.hid hAe
      have HS2 := Lib.hid hS2
      have hsz : (⟨O.toArray⟩ : ByteArray).size + (⟨A.toArray⟩ : ByteArray).size ≤ 1000 := by rw [text_size, text_size]; omega
      clear hAe hS2
      have HPI := Lib.hid (prun_inv (l6.data.toList.take (k + 1)) (0, 0) pinv0).2
      go_wp2_with fail
      go_roundw
      case rel => exact ⟨k + 1, O ++ A, by omega, by go_num, by rw [← text_append], Lib.hid (by rw [HA.out, hO.out]), by rw [hO.out, ← HA.out]; have := HPI.out; rw [List.length_take] at this; omega, HS2⟩
      case measure => simp [intOf]; omega
    · obtain rfl : k = 6 := by omega
      obtain ⟨wz, rfl⟩ : ∃ wz : World, wz = wr := ⟨_, rfl⟩
      have hfull : l6.data.toList.take 6 = [97, 97, 97, 97, 97, 98] := rfl
      have hOO : O = [97, 97, 97, 97, 1] := by rw [hO.out, hfull]; decide
      have hrow : IsPacker wz w.heap.size 98 1 := by
        have := hS.out.row
        rw [hfull] at this
        exact this
      have HROW := Lib.hid hrow
      have HB := Lib.hid hS.out.below
      subst hOO
      clear hfull hrow hO hS hOl
      have hlt6 : ¬ (6 : Int) < 6 := by omega
      go_wp2_with fail
      refine (newUnp_any wz).mono ?_
      rintro e w2 ⟨rfl, hu2, hb2⟩
      have HU2 := Lib.hid hu2
      have HROW2 := Lib.hid (HROW.out.other (Touch.ofBelow (S := fun _ => False) hb2) (fun h => h))
      have HB2 := Lib.hid (HB.out.trans (hb2.mono HB.out.size))
      have hws := HB.out.size
      have hlw := HROW.out.lt
      have HBW := Lib.hid hb2
      clear hu2 hb2
      go_wp2_with fail
      go_loopw [5, 6, 7, 8, 21] (fun t _ _ _ i wr => ∃ (j : Nat) (a : UInt8) (n : Nat) (O : List UInt8), j ≤ 5 ∧ i = .int .i64 j ∧ t = .string ⟨O.toArray⟩ ∧ O.length ≤ 2000 ∧ Hid (UnSt wz wr wz.heap.size (l5.data.toList.take j) a n O)) (fun _ _ _ _ i _ => 5 - (intOf i).toNat)
      case atStart => exact ⟨0, 0, 0, [], by omega, rfl, rfl, by simp, Lib.hid ⟨HU2.out, rfl, HBW.out⟩⟩
      case round =>
        obtain ⟨j, a, n, O, hj, rfl, rfl, hOl, hS⟩ := hrel
        by_cases hjl : j < 5
        · have hj5 : j < l5.size := hjl
          have hix : ∀ W, (Instr.index 9 (.string ⟨#[97, 97, 97, 97, 1]⟩) (.int .i64 (j : Int))).run Tryd.prog W = .ok (.int .u8 (l5[j].toNat : Int)) W := fun W => by
            have h := run_index_string W 9 l5 .i64 (j : Int) Tryd.underlying9
            rw [dif_pos ⟨by omega, by omega⟩] at h
            exact h
          obtain ⟨r, hr⟩ : ∃ r, ustep (a, n) l5[j] = some r := by
            have h1 := urun_step hj5 hS.out.run
            cases h2 : ustep (a, n) l5[j] with
            | some r => exact ⟨r, rfl⟩
            | none =>
              rw [h2] at h1
              exfalso
              have h3 : ∀ m, m < 6 → urun (0, 0) (l5.data.toList.take m) ≠ none := by decide
              exact h3 (j + 1) (by omega) h1
          have hrl := (ustep_le (urun_le _ (0, 0) _ (by decide) hS.out.run).1 l5[j] hr).2
          have hor := (urun_le _ (0, 0) _ (by decide) hS.out.run).2
          have HR := Lib.hid hr
          clear hr
          go_wp2_with fail
          refine (uput_run hj5 hS.out (Nat.le_refl _) HR.out).mono ?_
          rintro e w3 ⟨rfl, hS3⟩
          clear hix
          have HS3 := Lib.hid hS3
          have hor3 := (urun_le _ (0, 0) _ (by decide) hS3.run).2
          have hsz : (⟨O.toArray⟩ : ByteArray).size + (⟨r.2.toArray⟩ : ByteArray).size ≤ 10000 := by rw [text_size, text_size]; omega
          have hol3 : (O ++ r.2).length ≤ 2000 := by simp only [List.length_take] at hor3; omega
          clear hS3 hor hor3
          go_wp2_with fail
          go_roundw
          case rel => exact ⟨j + 1, r.1.1, r.1.2, O ++ r.2, by omega, by go_num, by rw [← text_append], hol3, HS3⟩
          case measure => simp [intOf]; omega
        · obtain rfl : j = 5 := by omega
          have hrun := hS.out.run
          have hv : urun (0, 0) (l5.data.toList.take 5) = some ((97, 0), [97, 97, 97, 97, 97]) := by decide
          rw [hv] at hrun
          obtain ⟨⟨rfl, rfl⟩, rfl⟩ : (97 = a ∧ 0 = n) ∧ [97, 97, 97, 97, 97] = O := by simpa using hrun
          have HUN := Lib.hid hS.out.row
          have HBQ := Lib.hid hS.out.below
          have HRW := Lib.hid (HROW.out.other (Touch.ofBelow (S := fun _ => False) HBQ.out) (fun h => h))
          have HBT := Lib.hid (HB.out.trans (HBQ.out.mono hws))
          clear hrun hv hS hOl
          go_wp2_with fail
          refine (pend_any w.heap.size 98 1 wr HRW.out (HT.out.below HBT.out hgl) (by omega) (fun e => by omega) (by omega)).mono ?_
          rintro e w4 ⟨rfl, hp4, ht4⟩
          have HUN4 := Lib.hid (HUN.out.other ht4 (by omega))
          have HB4 := Lib.hid (HBT.out.trans (ht4.below HBT.out.size (fun i hi => by have : i = w.heap.size := hi; omega)))
          clear hp4 ht4
          have hpr : packR 98 1 = [98] := rfl
          rw [hpr]
          go_wp2_with fail
          refine (wants_any wz.heap.size 97 0 false rfl w4 HUN4.out).mono ?_
          rintro e w' ⟨rfl, rfl⟩
          go_wp2_with fail
          go_ret
          exact ⟨rfl, HB4.out⟩
end Go.Proofs.YtfaalgogagpimaaDoor

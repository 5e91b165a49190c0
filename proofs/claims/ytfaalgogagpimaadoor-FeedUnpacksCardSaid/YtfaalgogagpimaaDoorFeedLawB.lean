/-
  LAYER 4's STATEMENTS: FeedBack.
-/
import Derived.Test.YtfaalgogagpimaaDoorFeedLawA
namespace Go.Proofs.YtfaalgogagpimaaDoor
open Go.RowKit RleM
set_option linter.unusedVariables false
theorem index_text (A : List UInt8) (j : Nat) (hj : j < A.length) (W : World) : (Instr.index 9 (.string ⟨A.toArray⟩) (.int .i64 (j : Int))).run Tryd.prog W = .ok (.int .u8 (A[j].toNat : Int)) W := by
  have hz : (⟨A.toArray⟩ : ByteArray).size = A.length := text_size A
  have h := run_index_string W 9 ⟨A.toArray⟩ .i64 (j : Int) Tryd.underlying9
  rw [dif_pos ⟨by omega, by rw [hz]; omega⟩] at h
  exact h
theorem uput_gen {w wr : World} {ub : Nat} {l : List UInt8} {a : UInt8} {n : Nat} {O : List UInt8} (h : UnSt w wr ub l a n O) (hub : w.heap.size ≤ ub) (x : UInt8) {r : (UInt8 × Nat) × List UInt8} (hr : ustep (a, n) x = some r) :
    Calls Tryd.prog 33 #[.pointer (some ⟨ub, 0, none⟩), .int .u8 (x.toNat : Int)] wr fun e w' => e = .returned (.tuple #[.string ⟨r.2.toArray⟩, .int .i64 0]) ∧ UnSt w w' ub (l ++ [x]) r.1.1 r.1.2 (O ++ r.2) ∧ Touch (· = ub) wr w' := by
  have hn := (urun_le _ (0, 0) _ (by decide) h.run).1
  refine (uput_any ub a n x wr h.row hn).mono ?_
  rintro e w' ⟨rfl, h1, h2⟩
  rw [(uout_some hr).1, (uout_some hr).2] at *
  refine ⟨rfl, ⟨h1, ?_, h.below.trans (h2.below h.below.size (fun i hi => by have : i = ub := hi; omega))⟩, h2⟩
  rw [urun_snoc, h.run]
  simp [hr]
theorem ustep_ok {l m E : List UInt8} {x : UInt8} {a : UInt8} {n : Nat} {O : List UInt8} {q : (UInt8 × Nat) × List UInt8} (h : urun (0, 0) l = some ((a, n), O)) (he : l ++ x :: m = E) (hE : urun (0, 0) E = some q) : ∃ r, ustep (a, n) x = some r := by
  rw [← he, urun_append, h, Option.bind_some] at hE
  cases h2 : ustep (a, n) x with
  | some r => exact ⟨r, rfl⟩
  | none => rw [urun, h2] at hE; cases hE
theorem prun_prefix (l : List UInt8) {k : Nat} (hk : k < l.length) : ∃ R, (prun (0, 0) (l.take (k + 1))).1 ++ R = encode l := by
  have h : ∀ (m : List UInt8) (st : UInt8 × Nat) (u : List UInt8), (prun st (u ++ m)).1 = (prun st u).1 ++ (prun (prun st u).2 m).1 := by
    intro m st u
    induction u generalizing st with
    | nil => simp [prun]
    | cons x u ih => simp [prun, ih, List.append_assoc]
  have h2 := sure_encode l
  conv at h2 => lhs; rw [show l = l.take (k + 1) ++ l.drop (k + 1) from (List.take_append_drop _ _).symm]
  rw [h, List.append_assoc] at h2
  exact ⟨_, h2⟩
/-- What was fed ahead of round k. -/
def fed (l : List UInt8) (k : Nat) : List UInt8 := if k ≤ l.length then (prun (0, 0) (l.take k)).1 else encode l
theorem take_next {A : List UInt8} {j : Nat} (hj : j < A.length) : A.take (j + 1) = A.take j ++ [A[j]] := List.take_succ_eq_append_getElem hj
theorem split_at {A : List UInt8} {j : Nat} (hj : j < A.length) (F R : List UInt8) : (F ++ A.take j) ++ A[j] :: (A.drop (j + 1) ++ R) = F ++ A ++ R := by
  have e : A = A.take j ++ A[j] :: A.drop (j + 1) := by
    conv => lhs; rw [← List.take_append_drop j A, List.drop_eq_getElem_cons hj]
  have h : F ++ A ++ R = F ++ (A.take j ++ A[j] :: A.drop (j + 1)) ++ R := congrArg (fun z => F ++ z ++ R) e
  rw [h]
  simp only [List.append_assoc, List.cons_append]
theorem fed_put (l : List UInt8) {k : Nat} (hk : k < l.length) {pc : UInt8} {pn : Nat} (h : (prun (0, 0) (l.take k)).2 = (pc, pn)) :
    fed l (k + 1) = fed l k ++ (pstep pc pn l[k]).1 ∧ (prun (0, 0) (l.take (k + 1))).2 = (pstep pc pn l[k]).2 ∧ ∃ R, fed l (k + 1) ++ R = encode l := by
  have e : l.take (k + 1) = l.take k ++ [l[k]] := List.take_succ_eq_append_getElem hk
  have hp := prun_snoc (l.take k) (0, 0) l[k]
  rw [← e, h] at hp
  unfold fed
  rw [if_pos (by omega), if_pos (by omega)]
  refine ⟨by rw [hp], by rw [hp], prun_prefix l hk⟩
theorem fed_end (l : List UInt8) {pc : UInt8} {pn : Nat} (h : (prun (0, 0) l).2 = (pc, pn)) : fed l (l.length + 1) = fed l l.length ++ packR pc pn ∧ ∃ R, fed l (l.length + 1) ++ R = encode l := by
  have hs := sure_encode l
  rw [h] at hs
  unfold fed
  rw [if_neg (by omega), if_pos (Nat.le_refl _), List.take_length, hs]
  exact ⟨rfl, [], List.append_nil _⟩
set_option maxRecDepth 100000 in
set_option maxHeartbeats 4000000 in
theorem feedBack.walk (s : ByteArray) (w : World) (hT : Sizes w) (w0 : s.size ≤ maxLen) :
    Calls Tryd.prog 10 #[.string s] w fun e w' => e = .returned (.bool true) ∧ Below w.heap.size w w' := by
  unfold maxLen at w0
  have HT := Lib.hid hT
  have hgl := hT.lt
  clear hT
  by_cases hx0 : (600 : Int) < s.size
  · go_enter Tryd.func10, Tryd.ntmps10
    go_wp2_with fail
    refine (five4_any _ HT.out).mono ?_
    rintro e w8 ⟨rfl, hb8⟩
    have H8 := Lib.hid hb8
    clear hb8
    go_wp2_with fail
    go_ret
    exact ⟨rfl, H8.out⟩
  · have hsl : s.data.toList.length = s.size := rfl
    have HSL := Lib.hid hsl
    obtain ⟨stE, hE, hE4⟩ := urun_encode s.data.toList
    have HE := Lib.hid hE
    clear hsl hE
    go_enter Tryd.func10, Tryd.ntmps10
    go_wp2_with fail
    refine (newPacker_any w).mono ?_
    rintro e w1 ⟨rfl, hp1, hb1⟩
    have HP1 := Lib.hid hp1
    have HB1 := Lib.hid hb1
    have hlp := hp1.lt
    clear hp1 hb1
    go_wp2_with fail
    refine (newUnp_any w1).mono ?_
    rintro e w2 ⟨rfl, hu2, hb2⟩
    have HP2 := Lib.hid (HP1.out.other (Touch.ofBelow (S := fun _ => False) hb2) (fun h => h))
    have HU2 := Lib.hid hu2
    have HB2 := Lib.hid (HB1.out.trans (hb2.mono HB1.out.size))
    clear hu2 hb2
    have hub : w.heap.size ≤ w1.heap.size := HB1.out.size
    generalize hubn : w1.heap.size = ub at *
    generalize hpbn : w.heap.size = pb at *
    go_wp2_with fail
    go_loopw [5, 6, 7, 8, 9, 10, 20] (fun t _ _ _ _ _ i wr => ∃ (k : Nat) (a : UInt8) (n : Nat) (O : List UInt8) (pc : UInt8) (pn : Nat), k ≤ s.size + 1 ∧ i = .int .i64 k ∧ t = .string ⟨O.toArray⟩ ∧ Hid (UnSt w wr ub (fed s.data.toList k) a n O) ∧ Hid (IsPacker wr pb pc pn) ∧ Hid (k ≤ s.size → (prun (0, 0) (s.data.toList.take k)).2 = (pc, pn))) (fun _ _ _ _ _ _ i _ => s.size + 1 - (intOf i).toNat)
    case atStart => exact ⟨0, 0, 0, [], 0, 0, by omega, rfl, rfl, Lib.hid ⟨HU2.out, rfl, by rw [hpbn]; exact HB2.out⟩, HP2, Lib.hid (fun _ => rfl)⟩
    case round =>
      obtain ⟨k, a, n, O, pc, pn, hk, rfl, rfl, hU, hP, hR⟩ := hrel
      by_cases hlt : k < s.size + 1
      · by_cases hks : k < s.size
        · have hkl : k < s.data.toList.length := by rw [HSL.out]; exact hks
          obtain ⟨hi1, hi2⟩ := prun_inv (s.data.toList.take k) (0, 0) pinv0
          have hRk := hR.out (by omega)
          rw [hRk] at hi1
          obtain ⟨hf1, hf2, hf3⟩ := fed_put s.data.toList hkl hRk
          have hlk : s.data.toList[k] = s[k] := by
            have h1 := byte_at (s := s) rfl hks
            rw [List.getElem?_eq_getElem hkl] at h1
            exact Option.some.inj h1
          rw [hlk] at hf1 hf2
          have HNX := Lib.hid hf1
          have HRS := Lib.hid hf3
          have HR2 : Hid (k + 1 ≤ s.size → (prun (0, 0) (s.data.toList.take (k + 1))).2 = ((pstep pc pn s[k]).2.1, (pstep pc pn s[k]).2.2)) := Lib.hid (fun _ => by rw [hf2])
          have hAl := (pstep_inv hi1 s[k]).2
          have HI0 := Lib.hid hi1.zero
          have hi254 := hi1.le
          simp only at hi254
          clear hi1 hi2 hRk hf1 hf2 hf3 hlk
          go_wp2_with fail
          refine (pput_any pb pc pn s[k] wr hP.out (HT.out.below hU.out.below (by omega)) (by omega) HI0.out hi254).mono ?_
          rintro e w3 ⟨rfl, hp3, ht3⟩
          have HPK := Lib.hid hp3
          have HU3 := Lib.hid (show UnSt w w3 ub (fed s.data.toList k) a n O from ⟨hU.out.row.other ht3 (by omega), hU.out.run, hU.out.below.trans (ht3.below hU.out.below.size (fun i hi => by have : i = pb := hi; omega))⟩)
          clear hp3 ht3
          generalize (pstep pc pn s[k]).1 = A at *
          generalize (pstep pc pn s[k]).2.1 = pc2 at *
          generalize (pstep pc pn s[k]).2.2 = pn2 at *
          obtain ⟨RR, hRR⟩ := HRS.out
          rw [HNX.out] at hRR
          have HALL := Lib.hid hRR
          have hFl := (show (fed s.data.toList k ++ A).length ≤ 751 by
            have h1 := congrArg List.length hRR
            have h2 := encode_small s.data.toList
            have h3 := HSL.out
            rw [List.length_append] at h1
            omega)
          clear hRR
          generalize hF : fed s.data.toList k = F at *
          have HFF := Lib.hid hF
          clear hF
          rw [List.length_append] at hFl
          have HAS := Lib.hid (text_size A)
          have hol := (urun_le _ (0, 0) _ (by decide) HU3.out.run).2
          have HOL : O.length ≤ 255 * F.length := hol
          have hst : Hid (UnSt w w3 ub (F ++ A.take 0) a n O) := Lib.hid (by rw [List.take_zero, List.append_nil]; exact HU3.out)
          clear hol
          go_wp2_with fail
          go_loopw [5, 8, 9, 10, 36] (fun t _ _ _ i wr => ∃ (j : Nat) (a : UInt8) (n : Nat) (O : List UInt8), j ≤ A.length ∧ i = .int .i64 j ∧ t = .string ⟨O.toArray⟩ ∧ Hid (UnSt w wr ub (F ++ A.take j) a n O) ∧ Hid (IsPacker wr pb pc2 pn2)) (fun _ _ _ _ i _ => A.length - (intOf i).toNat)
          case atStart => exact ⟨0, a, n, O, by omega, rfl, rfl, hst, HPK⟩
          case round =>
            obtain ⟨j, a, n, O, hj, rfl, rfl, hU4, hP4⟩ := hrel
            have hol4 := (urun_le _ (0, 0) _ (by decide) hU4.out.run).2
            by_cases hjl : j < A.length
            · obtain ⟨r, hr⟩ := ustep_ok hU4.out.run ((split_at hjl F RR).trans HALL.out) HE.out
              have hrl := (ustep_le (urun_le _ (0, 0) _ (by decide) hU4.out.run).1 A[j] hr).2
              have HRR := Lib.hid hr
              have hix := index_text A j hjl
              have hol5 : O.length ≤ 255 * 751 := by simp only [List.length_append, List.length_take] at hol4; omega
              have hsz : (⟨O.toArray⟩ : ByteArray).size + (⟨r.2.toArray⟩ : ByteArray).size ≤ 1000000 := by rw [text_size, text_size]; omega
              clear hr hol4
              go_wp2_with fail
              refine (uput_gen hU4.out (by rw [hpbn]; exact hub) A[j] HRR.out).mono ?_
              rintro e w5 ⟨rfl, hU5, hT5⟩
              clear hix
              have HU5 := Lib.hid hU5
              have HP5 := Lib.hid (hP4.out.other hT5 (by omega))
              clear hU5 hT5
              go_wp2_with fail
              go_roundw
              case rel => exact ⟨j + 1, r.1.1, r.1.2, O ++ r.2, by omega, by go_num, by rw [← text_append], Lib.hid (by rw [take_next hjl, ← List.append_assoc]; exact HU5.out), HP5⟩
              case measure => simp [intOf]; omega
            · obtain rfl : j = A.length := by omega
              have HU6 := Lib.hid (show UnSt w wr ub (fed s.data.toList (k + 1)) a n O by
                have h := hU4.out
                rw [List.take_length] at h
                rw [HNX.out]
                exact h)
              have hjz : ¬ ((A.length : Int) < (A.length : Int)) := by omega
              clear hol4
              go_wp2_with fail
              go_roundw
              case rel => exact ⟨k + 1, a, n, O, pc2, pn2, by omega, by go_num, rfl, HU6, hP4, HR2⟩
              case measure => simp [intOf]; omega
        · obtain rfl : k = s.size := by omega
          have hfin : s.data.toList.take s.size = s.data.toList := List.take_of_length_le (Nat.le_refl _)
          obtain ⟨hi1, hi2⟩ := prun_inv (s.data.toList.take s.size) (0, 0) pinv0
          have hRk := hR.out (Nat.le_refl _)
          rw [hRk] at hi1
          rw [hfin] at hRk
          obtain ⟨hf1, hf3⟩ := fed_end s.data.toList hRk
          rw [HSL.out] at hf1 hf3
          generalize hkk : s.size = k at *
          have HNX := Lib.hid hf1
          have HRS := Lib.hid hf3
          have HR2 : Hid (k + 1 ≤ k → (prun (0, 0) (s.data.toList.take (k + 1))).2 = (0, 0)) := Lib.hid (fun h => by omega)
          have hAl : (packR pc pn).length ≤ 10 := by have := packR_le pc pn; omega
          have HI0 := Lib.hid hi1.zero
          have hi254 := hi1.le
          simp only at hi254
          have hks2 : ¬ ((k : Int) < (k : Int)) := by omega
          clear hi1 hi2 hRk hf1 hf3 hfin
          go_wp2_with fail
          refine (pend_any pb pc pn wr hP.out (HT.out.below hU.out.below (by omega)) (by omega) HI0.out (by omega)).mono ?_
          rintro e w3 ⟨rfl, hp3, ht3⟩
          have HPK := Lib.hid hp3
          have HU3 := Lib.hid (show UnSt w w3 ub (fed s.data.toList k) a n O from ⟨hU.out.row.other ht3 (by omega), hU.out.run, hU.out.below.trans (ht3.below hU.out.below.size (fun i hi => by have : i = pb := hi; omega))⟩)
          clear hp3 ht3
          generalize packR pc pn = A at *
          obtain ⟨RR, hRR⟩ := HRS.out
          rw [HNX.out] at hRR
          have HALL := Lib.hid hRR
          have hFl := (show (fed s.data.toList k ++ A).length ≤ 751 by
            have h1 := congrArg List.length hRR
            have h2 := encode_small s.data.toList
            have h3 := HSL.out
            rw [List.length_append] at h1
            omega)
          clear hRR
          generalize hF : fed s.data.toList k = F at *
          have HFF := Lib.hid hF
          clear hF
          rw [List.length_append] at hFl
          have HAS := Lib.hid (text_size A)
          have hol := (urun_le _ (0, 0) _ (by decide) HU3.out.run).2
          have HOL : O.length ≤ 255 * F.length := hol
          have hst : Hid (UnSt w w3 ub (F ++ A.take 0) a n O) := Lib.hid (by rw [List.take_zero, List.append_nil]; exact HU3.out)
          clear hol
          go_wp2_with fail
          go_loopw [5, 8, 9, 10, 36] (fun t _ _ _ i wr => ∃ (j : Nat) (a : UInt8) (n : Nat) (O : List UInt8), j ≤ A.length ∧ i = .int .i64 j ∧ t = .string ⟨O.toArray⟩ ∧ Hid (UnSt w wr ub (F ++ A.take j) a n O) ∧ Hid (IsPacker wr pb 0 0)) (fun _ _ _ _ i _ => A.length - (intOf i).toNat)
          case atStart => exact ⟨0, a, n, O, by omega, rfl, rfl, hst, HPK⟩
          case round =>
            obtain ⟨j, a, n, O, hj, rfl, rfl, hU4, hP4⟩ := hrel
            have hol4 := (urun_le _ (0, 0) _ (by decide) hU4.out.run).2
            by_cases hjl : j < A.length
            · obtain ⟨r, hr⟩ := ustep_ok hU4.out.run ((split_at hjl F RR).trans HALL.out) HE.out
              have hrl := (ustep_le (urun_le _ (0, 0) _ (by decide) hU4.out.run).1 A[j] hr).2
              have HRR := Lib.hid hr
              have hix := index_text A j hjl
              have hol5 : O.length ≤ 255 * 751 := by simp only [List.length_append, List.length_take] at hol4; omega
              have hsz : (⟨O.toArray⟩ : ByteArray).size + (⟨r.2.toArray⟩ : ByteArray).size ≤ 1000000 := by rw [text_size, text_size]; omega
              clear hr hol4
              go_wp2_with fail
              refine (uput_gen hU4.out (by rw [hpbn]; exact hub) A[j] HRR.out).mono ?_
              rintro e w5 ⟨rfl, hU5, hT5⟩
              clear hix
              have HU5 := Lib.hid hU5
              have HP5 := Lib.hid (hP4.out.other hT5 (by omega))
              clear hU5 hT5
              go_wp2_with fail
              go_roundw
              case rel => exact ⟨j + 1, r.1.1, r.1.2, O ++ r.2, by omega, by go_num, by rw [← text_append], Lib.hid (by rw [take_next hjl, ← List.append_assoc]; exact HU5.out), HP5⟩
              case measure => simp [intOf]; omega
            · obtain rfl : j = A.length := by omega
              have HU6 := Lib.hid (show UnSt w wr ub (fed s.data.toList (k + 1)) a n O by
                have h := hU4.out
                rw [List.take_length] at h
                rw [HNX.out]
                exact h)
              have hjz : ¬ ((A.length : Int) < (A.length : Int)) := by omega
              clear hol4
              go_wp2_with fail
              go_roundw
              case rel => exact ⟨k + 1, a, n, O, 0, 0, by omega, by go_num, rfl, HU6, hP4, HR2⟩
              case measure => simp [intOf]
      · obtain rfl : k = s.size + 1 := by omega
        have hfe : fed s.data.toList (s.size + 1) = encode s.data.toList := by unfold fed; rw [if_neg (by rw [HSL.out]; omega)]
        have hrun := hU.out.run
        rw [hfe, HE.out] at hrun
        obtain ⟨rfl, rfl⟩ : stE = (a, n) ∧ s.data.toList = O := by simpa using hrun
        simp only at hE4
        have hte := text_eq s
        have HU6 := Lib.hid hU.out.row
        have HB6 := Lib.hid hU.out.below
        rw [← hte]
        have hkk2 : ¬ ((s.size : Int) + 1 < (s.size : Int) + 1) := by omega
        clear hrun hfe hte
        go_wp2_with fail
        refine (uend_any ub a n wr HU6.out (by omega)).mono ?_
        rintro e w7 ⟨rfl, hu7, ht7⟩
        have HB7 := Lib.hid (HB6.out.trans (ht7.below HB6.out.size (fun i hi => by have : i = ub := hi; omega)))
        clear hu7 ht7
        go_wp2_with fail
        refine (five4_any w7 (HT.out.below HB7.out (by omega))).mono ?_
        rintro e w8 ⟨rfl, hb8⟩
        have HB8 := Lib.hid (HB7.out.trans (hb8.mono HB7.out.size))
        clear hb8
        go_wp2_with fail
        go_ret
        exact ⟨rfl, by have := HB8.out; rwa [hpbn] at this⟩
end Go.Proofs.YtfaalgogagpimaaDoor

/-
  THE WALKS OF THE DOCUMENT's ANSWERS OF LAYER 4 (balerref04): Wants, Told.
-/
import Derived.Test.YtfaalgogagpimaaDoorFeedLawA
import Derived.Test.YtfaalgogagpimaaDoorRleRefB
namespace Go.Proofs.YtfaalgogagpimaaDoor
open Go.RowKit RleM
set_option linter.unusedVariables false
theorem ext_take1 (s : ByteArray) (k : Nat) : (s.extract 0 k).data.toList = s.data.toList.take k := by
  rw [ByteArray.data_extract]
  simp [List.extract_eq_take_drop]
theorem dec_some {l : List UInt8} {a : UInt8} {n : Nat} {O : List UInt8} (h : urun (0, 0) l = some ((a, n), O)) : dec l = if n = 4 then ([], 24) else (O, 0) := by
  unfold dec res; rw [h]; rfl
theorem dec_none {l m : List UInt8} (h : urun (0, 0) l = none) : dec (l ++ m) = ([], 25) := by
  unfold dec res
  rw [urun_append, h]; rfl
set_option maxRecDepth 100000 in
set_option maxHeartbeats 1000000 in
theorem wantsRef_any (s : ByteArray) (a : UInt8) (n : Nat) (O : List UInt8) (B : Bool) (hB : ((n : Int) == 4) = B) (w : World) (hs : s.size ≤ 1000000) (h : urun (0, 0) s.data.toList = some ((a, n), O)) :
    Calls Tryd.prog 31 #[.string s] w fun e w' => e = .returned (.bool B) ∧ ∃ m, w' = w.drewN m := by
  have hd := dec_some h
  have HD2 := Lib.hid (show (((dec s.data.toList).2 : Int) == 24) = B by
    rw [hd, ← hB]
    by_cases hn : n = 4
    · rw [if_pos hn, hn]; rfl
    · rw [if_neg hn]
      have h4 : ((n : Int) == 4) = false := by rw [beq_eq_false_iff_ne]; omega
      rw [h4]; rfl)
  clear hd h hB
  generalize hX : (dec s.data.toList).2 = X at *
  generalize hY : (dec s.data.toList).1 = Y at *
  have HX := Lib.hid hX
  have HY := Lib.hid hY
  have hb := HD2.out
  clear hX hY
  go_enter Tryd.func31, Tryd.ntmps31
  go_wp2_with fail
  refine (refDecode_any s w (by omega)).mono ?_
  rintro e w' ⟨rfl, m, rfl⟩
  rw [HX.out, HY.out]
  go_wp2_with fail
  go_ret
  exact ⟨rfl, m, rfl⟩
theorem urun_last {l : List UInt8} {a : UInt8} {O : List UInt8} (h : urun (0, 0) l = some ((a, 4), O)) : ∃ l' x O', l = l' ++ [x] ∧ dec l' = (O', 0) ∧ O = O' ++ [x] := by
  cases hl : l.reverse with
  | nil =>
    have : l = [] := by simpa using hl
    subst this
    simp [urun] at h
  | cons x r =>
    have e : l = r.reverse ++ [x] := by
      have := congrArg List.reverse hl
      simpa using this
    subst e
    rw [urun_snoc] at h
    obtain ⟨q, hq, h2⟩ := Option.bind_eq_some_iff.1 h
    obtain ⟨q2, hq2, h3⟩ := Option.map_eq_some_iff.1 h2
    obtain ⟨⟨a', n'⟩, O'⟩ := q
    have hn' : n' ≠ 4 := by
      intro e
      subst e
      unfold ustep at hq2
      simp only [if_true] at hq2
      split at hq2
      · cases hq2
      · have h4 := Option.some.inj hq2
        rw [← h4] at h3
        simp at h3
    refine ⟨r.reverse, x, O', rfl, by rw [dec_some hq, if_neg hn'], ?_⟩
    unfold ustep at hq2
    rw [if_neg hn'] at hq2
    have h4 := Option.some.inj hq2
    rw [← h4] at h3
    simp only [Prod.mk.injEq] at h3
    exact h3.2.symm
set_option maxRecDepth 100000 in
set_option maxHeartbeats 1000000 in
theorem told_any (s : ByteArray) (a : UInt8) (n : Nat) (O : List UInt8) (w : World) (hs : s.size ≤ 10000) (h : urun (0, 0) s.data.toList = some ((a, n), O)) :
    Calls Tryd.prog 34 #[.string s] w fun e w' => e = .returned (.string ⟨O.toArray⟩) ∧ ∃ m, w' = w.drewN m := by
  have H := Lib.hid h
  by_cases hn : n = 4
  · subst hn
    obtain ⟨l', x, O', hl, hd, hO⟩ := urun_last h
    subst hO
    have hz : s.size = l'.length + 1 := by show s.data.toList.length = _; rw [hl]; simp
    have hs1 : (s.extract 0 (s.size - 1)).data.toList = l' := by rw [ext_take1, hl, hz]; simp
    have hs2 : s.extract (s.size - 1) s.size = ⟨#[x]⟩ := by
      rw [text_eq (s.extract (s.size - 1) s.size), ext_data, hl, hz]; simp
    have hol := (urun_le _ (0, 0) _ (by decide) h).2
    have hol2 : O'.length ≤ 10000000 := by simp only [List.length_append, List.length_cons, List.length_nil] at hol; rw [hl, List.length_append] at hol; simp at hol; omega
    have hsz : (⟨O'.toArray⟩ : ByteArray).size + (⟨#[x]⟩ : ByteArray).size ≤ 100000000 := by rw [text_size]; show _ + 1 ≤ _; omega
    have HD := Lib.hid hd
    have HZ := Lib.hid hz
    have HS1 := Lib.hid hs1
    have HS2 := Lib.hid hs2
    have hpos : 1 ≤ s.size := by omega
    clear h hd hz hs1 hs2 hol hl
    go_enter Tryd.func34, Tryd.ntmps34
    go_wp2_with fail
    refine (wantsRef_any s a 4 _ true rfl w (by omega) H.out).mono ?_
    rintro e w' ⟨rfl, m, rfl⟩
    go_wp2_with fail
    refine (refDecode_any (s.extract 0 (s.size - 1)) _ (by simp [ByteArray.size_extract]; omega)).mono ?_
    rintro e w' ⟨rfl, m2, rfl⟩
    rw [HS1.out, HD.out]
    have hs2 := HS2.out
    go_wp2_with fail
    go_ret
    exact ⟨by rw [← text_append]; rfl, _, rfl⟩
  · have HN := Lib.hid (show ((n : Int) == 4) = false by rw [beq_eq_false_iff_ne]; omega)
    have hd := dec_some h
    rw [if_neg hn] at hd
    have HD := Lib.hid hd
    clear h hd
    go_enter Tryd.func34, Tryd.ntmps34
    go_wp2_with fail
    refine (wantsRef_any s a n _ false HN.out w (by omega) H.out).mono ?_
    rintro e w' ⟨rfl, m, rfl⟩
    go_wp2_with fail
    refine (refDecode_any s _ (by omega)).mono ?_
    rintro e w' ⟨rfl, m2, rfl⟩
    rw [HD.out]
    go_wp2_with fail
    go_ret
    exact ⟨rfl, _, rfl⟩
end Go.Proofs.YtfaalgogagpimaaDoor

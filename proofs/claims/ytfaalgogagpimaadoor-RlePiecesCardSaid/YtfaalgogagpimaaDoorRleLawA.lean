/-
  LAYER 3's STATEMENTS: six; RleEncodes, RleDecodes.
-/
import Derived.Test.YtfaalgogagpimaaDoorRleG
import Derived.Test.YtfaalgogagpimaaDoorRleRefB
namespace Go.Proofs.YtfaalgogagpimaaDoor
open Go.RowKit RleM
set_option linter.unusedVariables false
theorem ends {u v : Value} (h : u = v) : Ending.returned u = .returned v := by rw [h]
theorem decode_at (l t : List UInt8) (n : Nat) (w : World) (hl : l.length ≤ 4294967296) (h : dec l = (t, n)) :
    Calls Tryd.prog 19 #[.string ⟨l.toArray⟩] w fun e w' => e = .returned (.tuple #[.string ⟨t.toArray⟩, .int .i64 (n : Int)]) ∧ Below w.heap.size w w' := by
  refine (decode_any ⟨l.toArray⟩ w (by rw [text_size]; omega)).mono ?_
  rintro e w' ⟨rfl, hb⟩
  refine ⟨?_, hb⟩
  show Ending.returned (.tuple #[.string ⟨(dec l).1.toArray⟩, .int .i64 ((dec l).2 : Int)]) = _
  rw [h]
theorem length_at (l t : List UInt8) (n : Nat) (w : World) (hl : l.length ≤ 4294967296) (h : dec l = (t, n)) :
    Calls Tryd.prog 20 #[.string ⟨l.toArray⟩] w fun e w' => e = .returned (.tuple #[.int .i64 (t.length : Int), .int .i64 (n : Int)]) ∧ Below w.heap.size w w' := by
  refine (length_any ⟨l.toArray⟩ w (by rw [text_size]; omega)).mono ?_
  rintro e w' ⟨rfl, hb⟩
  refine ⟨?_, hb⟩
  show Ending.returned (.tuple #[.int .i64 ((dec l).1.length : Int), .int .i64 ((dec l).2 : Int)]) = _
  rw [h]
theorem refDecode_at (l t : List UInt8) (n : Nat) (w : World) (hl : l.length ≤ 4294967296) (h : dec l = (t, n)) :
    Calls Tryd.prog 23 #[.string ⟨l.toArray⟩] w fun e w' => e = .returned (.tuple #[.string ⟨t.toArray⟩, .int .i64 (n : Int)]) ∧ ∃ n, w' = w.drewN n := by
  refine (refDecode_any ⟨l.toArray⟩ w (by rw [text_size]; omega)).mono ?_
  rintro e w' ⟨rfl, hb⟩
  refine ⟨?_, hb⟩
  show Ending.returned (.tuple #[.string ⟨(dec l).1.toArray⟩, .int .i64 ((dec l).2 : Int)]) = _
  rw [h]
theorem refEncode_at (l t : List UInt8) (w : World) (hl : l.length ≤ 4294967296) (h : encode l = t) :
    Calls Tryd.prog 21 #[.string ⟨l.toArray⟩] w fun e w' => e = .returned (.string ⟨t.toArray⟩) ∧ Below w.heap.size w w' := by
  refine (refEncode_any ⟨l.toArray⟩ w (by rw [text_size]; omega)).mono ?_
  rintro e w' ⟨rfl, hb⟩
  refine ⟨?_, hb⟩
  show Ending.returned (.string ⟨(encode l).toArray⟩) = _
  rw [h]
theorem sizeOf_at (l t : List UInt8) (w : World) (hT : Sizes w) (hl : l.length ≤ 4294967296) (h : encode l = t) :
    Calls Tryd.prog 22 #[.string ⟨l.toArray⟩] w fun e w' => e = .returned (.int .i64 (t.length : Int)) ∧ Below w.heap.size w w' := by
  refine (sizeOf_any ⟨l.toArray⟩ w (by rw [text_size]; omega) hT).mono ?_
  rintro e w' ⟨rfl, hb⟩
  refine ⟨?_, hb⟩
  show Ending.returned (.int .i64 ((encode l).length : Int)) = _
  rw [h]
theorem encode_at (l t : List UInt8) (w : World) (hT : Sizes w) (hl : l.length ≤ 4294967296) (h : encode l = t) :
    Calls Tryd.prog 18 #[.string ⟨l.toArray⟩] w fun e w' => e = .returned (.string ⟨t.toArray⟩) ∧ Below w.heap.size w w' := by
  refine (encode_any ⟨l.toArray⟩ w (by rw [text_size]; omega) hT).mono ?_
  rintro e w' ⟨rfl, hb⟩
  refine ⟨?_, hb⟩
  show Ending.returned (.string ⟨(encode l).toArray⟩) = _
  rw [h]
set_option maxRecDepth 100000 in
set_option maxHeartbeats 1000000 in
theorem six_any (w : World) (hT : Sizes w) : Calls Tryd.prog 13 #[] w fun e w' => e = .returned (.bool true) ∧ Below w.heap.size w w' := by
  have HT := Lib.hid hT
  clear hT
  go_enter Tryd.func13, Tryd.ntmps13
  go_wp2_with fail
  refine (decode_at [97, 97, 97, 97, 2, 98] [97, 97, 97, 97, 97, 97, 98] 0 w (by decide) (by decide)).mono ?_
  rintro e w1 ⟨rfl, hb1⟩
  have B1 := Lib.hid hb1
  clear hb1
  go_wp2_with fail
  refine (decode_at [97, 97, 97, 97] [] 24 w1 (by decide) (by decide)).mono ?_
  rintro e w2 ⟨rfl, hb2⟩
  have B2 := Lib.hid (B1.out.trans (hb2.mono B1.out.size))
  clear hb2
  go_wp2_with fail
  refine (decode_at [97, 97, 97, 97, 252] [] 25 w2 (by decide) (by decide)).mono ?_
  rintro e w3 ⟨rfl, hb3⟩
  have B3 := Lib.hid (B2.out.trans (hb3.mono B2.out.size))
  clear hb3
  go_wp2_with fail
  refine (encode_at [97, 97, 97, 97, 97, 97, 98] [97, 97, 97, 97, 2, 98] w3 (HT.out.below B3.out HT.out.lt) (by decide) (by decide)).mono ?_
  rintro e w4 ⟨rfl, hb4⟩
  have B4 := Lib.hid (B3.out.trans (hb4.mono B3.out.size))
  clear hb4
  go_wp2_with fail
  go_ret
  exact ⟨rfl, B4.out⟩
set_option maxRecDepth 100000 in
set_option maxHeartbeats 1000000 in
theorem rleEncodes.walk (s : ByteArray) (w : World) (hT : Sizes w) (w0 : s.size ≤ maxLen) :
    Calls Tryd.prog 4 #[.string s] w fun e w' => e = .returned (.bool true) ∧ Below w.heap.size w w' := by
  unfold maxLen at w0
  have HT := Lib.hid hT
  clear hT
  by_cases hx0 : (2000 : Int) < s.size
  · go_enter Tryd.func4, Tryd.ntmps4
    go_wp2_with fail
    refine (six_any _ HT.out).mono ?_
    rintro e w8 ⟨rfl, hb8⟩
    have H8 := Lib.hid hb8
    clear hb8
    go_wp2_with fail
    go_ret
    exact ⟨rfl, H8.out⟩
  · have hes := encode_small s.data.toList
    obtain ⟨l, hl⟩ : ∃ l, s.data.toList = l := ⟨_, rfl⟩
    have hz : s.data.toList.length = s.size := rfl
    have hxs : s = ⟨l.toArray⟩ := hl ▸ text_eq s
    rw [hl] at hes hz
    have hll : l.length ≤ 2000 := by omega
    obtain ⟨E, hE⟩ : ∃ E, encode l = E := ⟨_, rfl⟩
    have hde := dec_encode l
    rw [hE] at hes hde
    have hel : E.length ≤ 2500 := by omega
    subst hxs
    have HE := Lib.hid hE
    have HDE := Lib.hid hde
    have hsz1 := text_size l
    have hx1 : ¬ (2000 : Int) < (l.length : Int) := by omega
    clear hes hz hE hde hl hx0
    have HSL : (⟨l.toArray⟩ : ByteArray).size = l.length := hsz1
    have HSE : (⟨E.toArray⟩ : ByteArray).size = E.length := text_size E
    clear hsz1
    go_enter Tryd.func4, Tryd.ntmps4
    go_wp2_with fail
    refine (encode_at l E w HT.out (by omega) HE.out).mono ?_
    rintro e w1 ⟨rfl, hb1⟩
    have B1 := Lib.hid hb1
    clear hb1
    go_wp2_with fail
    refine (decode_at E l 0 w1 (by omega) HDE.out).mono ?_
    rintro e w2 ⟨rfl, hb2⟩
    have B2 := Lib.hid (B1.out.trans (hb2.mono B1.out.size))
    clear hb2
    go_wp2_with fail
    refine (length_at E l 0 w2 (by omega) HDE.out).mono ?_
    rintro e w3 ⟨rfl, hb3⟩
    have B3 := Lib.hid (B2.out.trans (hb3.mono B2.out.size))
    clear hb3
    go_wp2_with fail
    refine (refEncode_at l E w3 (by omega) HE.out).mono ?_
    rintro e w4 ⟨rfl, hb4⟩
    have B4 := Lib.hid (B3.out.trans (hb4.mono B3.out.size))
    clear hb4
    go_wp2_with fail
    refine (sizeOf_at l E w4 (HT.out.below B4.out HT.out.lt) (by omega) HE.out).mono ?_
    rintro e w5 ⟨rfl, hb5⟩
    have B5 := Lib.hid (B4.out.trans (hb5.mono B4.out.size))
    clear hb5
    go_wp2_with fail
    refine (six_any w5 (HT.out.below B5.out HT.out.lt)).mono ?_
    rintro e w6 ⟨rfl, hb6⟩
    have B6 := Lib.hid (B5.out.trans (hb6.mono B5.out.size))
    clear hb6
    go_wp2_with fail
    go_ret
    exact ⟨rfl, B6.out⟩
set_option maxRecDepth 100000 in
set_option maxHeartbeats 1000000 in
theorem rleDecodes.walk (s : ByteArray) (w : World) (hT : Sizes w) (w0 : s.size ≤ maxLen) :
    Calls Tryd.prog 5 #[.string s] w fun e w' => e = .returned (.bool true) ∧ Below w.heap.size w w' := by
  unfold maxLen at w0
  have HT := Lib.hid hT
  clear hT
  by_cases hx0 : (100 : Int) < s.size
  · go_enter Tryd.func5, Tryd.ntmps5
    go_wp2_with fail
    refine (six_any _ HT.out).mono ?_
    rintro e w8 ⟨rfl, hb8⟩
    have H8 := Lib.hid hb8
    clear hb8
    go_wp2_with fail
    go_ret
    exact ⟨rfl, H8.out⟩
  · obtain ⟨l, hl⟩ : ∃ l, s.data.toList = l := ⟨_, rfl⟩
    have hz : s.data.toList.length = s.size := rfl
    have hxs : s = ⟨l.toArray⟩ := hl ▸ text_eq s
    rw [hl] at hz
    obtain ⟨T, N, hde⟩ : ∃ T N, dec l = (T, N) := ⟨_, _, rfl⟩
    have hel := dec_len l
    have hcd := dec_code l
    rw [hde] at hel hcd
    simp only at hel hcd
    have hN : N ≤ 25 := by omega
    subst hxs
    have HSL : (⟨l.toArray⟩ : ByteArray).size = l.length := text_size l
    have HST : (⟨T.toArray⟩ : ByteArray).size = T.length := text_size T
    have hll : l.length ≤ 100 := by omega
    have htl : T.length ≤ 25500 := by omega
    have hx1 : ¬ (100 : Int) < (l.length : Int) := by omega
    have HDE := Lib.hid hde
    clear hde hl hz hx0 hcd hel
    go_enter Tryd.func5, Tryd.ntmps5
    go_wp2_with fail
    refine (decode_at l T N w (by omega) HDE.out).mono ?_
    rintro e w1 ⟨rfl, hb1⟩
    have B1 := Lib.hid hb1
    clear hb1
    go_wp2_with fail
    refine (length_at l T N w1 (by omega) HDE.out).mono ?_
    rintro e w2 ⟨rfl, hb2⟩
    have B2 := Lib.hid (B1.out.trans (hb2.mono B1.out.size))
    clear hb2
    go_wp2_with fail
    refine (refDecode_at l T N w2 (by omega) HDE.out).mono ?_
    rintro e w3 ⟨rfl, m, rfl⟩
    have B3 := Lib.hid (B2.out.trans (show Below w.heap.size w2 (w2.drewN m) from ⟨rfl, rfl, rfl, Nat.le_refl _, fun _ _ => rfl⟩))
    generalize w2.drewN m = w3 at *
    go_wp2_with fail
    refine (six_any w3 (HT.out.below B3.out HT.out.lt)).mono ?_
    rintro e w6 ⟨rfl, hb6⟩
    have B6 := Lib.hid (B3.out.trans (hb6.mono B3.out.size))
    clear hb6
    go_wp2_with fail
    go_ret
    exact ⟨rfl, B6.out⟩
end Go.Proofs.YtfaalgogagpimaaDoor

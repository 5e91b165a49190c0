/-
  LAYER 6's STATEMENTS: the three bytes that each of them tries; MtfNil, MtfEncodes, MtfDecodes.
-/
import Derived.Test.YthpgddodfnjmbaaMtfRef
namespace Go.Proofs.Ythpgddodfnjmbaa
open Go.RowKit UsedM MtfM
set_option linter.unusedVariables false
theorem syms_ab : IsSyms [97, 98] := ⟨(show Sorted [97, 98] from by unfold Sorted; decide).rise, by simp⟩
theorem syms_abc : IsSyms [97, 98, 99] := ⟨(show Sorted [97, 98, 99] from by unfold Sorted; decide).rise, by simp⟩
theorem enc_bab : EncP [98, 97, 98] [97, 98] [1, 1, 1] 0 := Or.inr (Or.inr ⟨syms_ab, ⟨[98, 97], by kernel_rfl⟩, rfl⟩)
theorem dec_bba : DecP [1, 0, 1] [97, 98, 99] [98, 98, 97] 0 := Or.inr (Or.inr ⟨syms_abc, ⟨[97, 98, 99], by kernel_rfl⟩, rfl⟩)
theorem ints_lit (w : World) (a b c : Int) : IsInts (w.alloc (.cells #[.int .i64 a, .int .i64 b, .int .i64 c] 3)) (.slice (some ⟨w.heap.size, 0, none⟩) 3 3) [a, b, c] :=
  ints_of_row (zs := [a, b, c]) (rest := []) (heap_alloc_new w _) rfl
theorem enc_le {s l : List UInt8} {zs : List Int} {err : Nat} (h : EncP s l zs err) : zs.length ≤ s.length := by
  rcases h with ⟨_, rfl, _⟩ | ⟨_, _, rfl, _⟩ | ⟨_, ⟨m, h⟩, _⟩
  · simp
  · simp
  · exact Nat.le_of_eq (encK_len _ _ _ _ _ h).1
theorem dec_le {zs : List Int} {l s : List UInt8} {err : Nat} (h : DecP zs l s err) : s.length ≤ zs.length := by
  rcases h with ⟨_, rfl, _⟩ | ⟨_, _, rfl, _⟩ | ⟨_, ⟨m, h⟩, _⟩
  · simp
  · simp
  · exact Nat.le_of_eq (decK_len _ _ _ _ _ h).1
set_option maxRecDepth 100000 in
set_option maxHeartbeats 1000000 in
theorem bab_any (w : World) : Calls Try.prog 38 #[] w fun e w' => e = .returned (.bool true) ∧ Below w.heap.size w w' := by
  go_enter Try.func38, Try.ntmps38
  go_wp2_with fail
  refine (encode_any ⟨#[98, 97, 98]⟩ ⟨#[97, 98]⟩ w (by decide) (by decide)).mono ?_
  rintro e w1 ⟨v, zs, err, rfl, hI, hB, hP⟩
  obtain ⟨rfl, rfl⟩ := hP.same enc_bab
  have HI := Lib.hid hI
  have HB := Lib.hid hB
  clear hI hB hP
  go_wp2_with fail
  refine (decode_any _ [1, 0, 1] ⟨#[97, 98, 99]⟩ _ (ints_lit w1 1 0 1) (by decide) (by decide)).mono ?_
  rintro e w2 ⟨s, err, rfl, hB2, hP⟩
  obtain ⟨rfl, rfl⟩ := hP.same dec_bba
  have hb12 : Below w1.heap.size w1 w2 := ((Below.refl w1.heap.size w1).alloc (Nat.le_refl _) _).trans (hB2.mono (by simp))
  have HI2 := Lib.hid (HI.out.below hb12)
  have HB2 := Lib.hid (HB.out.trans (hb12.mono HB.out.size))
  clear hB2 hP hb12
  go_wp2_with fail
  refine (ints_any v _ [1, 1, 1] [1, 1, 1] true _ (HI2.out.below ((Below.refl w2.heap.size w2).alloc (Nat.le_refl _) _)) (ints_lit w2 1 1 1) ⟨fun _ => rfl, fun _ => rfl⟩ (by decide) (by decide)).mono ?_
  rintro e w3 ⟨rfl, n, rfl⟩
  go_wp2_with fail
  go_ret
  exact ⟨rfl, (HB2.out.alloc HB2.out.size _).trans ((below_drewN _ n).mono (Nat.le_trans HB2.out.size (by simp)))⟩
set_option maxRecDepth 100000 in
set_option maxHeartbeats 1000000 in
theorem mtfNil.walk (b i : Int) (w : World) (_ : (Lit.int .u8 b).wf = true) (_ : (Lit.int .i64 i).wf = true) :
    Calls Try.prog 14 #[.int .u8 b, .int .i64 i] w fun e w' => e = .returned (.bool true) ∧ Below w.heap.size w w' := by
  go_enter Try.func14, Try.ntmps14
  go_wp2_with fail
  refine (find_nil _ w).mono ?_
  rintro e w' ⟨rfl, rfl⟩
  go_wp2_with fail
  refine (at_nil _ w).mono ?_
  rintro e w' ⟨rfl, rfl⟩
  go_wp2_with fail
  refine (text_nil w).mono ?_
  rintro e w' ⟨rfl, rfl⟩
  go_wp2_with fail
  refine (mlen_nil w).mono ?_
  rintro e w' ⟨rfl, rfl⟩
  go_wp2_with fail
  refine (bab_any w).mono ?_
  rintro e w1 ⟨rfl, hb⟩
  have HB := Lib.hid hb
  clear hb
  go_wp2_with fail
  go_ret
  exact ⟨rfl, HB.out⟩
set_option maxRecDepth 100000 in
set_option maxHeartbeats 1000000 in
theorem mtfEncodes.walk (s t : ByteArray) (w : World) (hs : s.size ≤ maxLen) (ht : t.size ≤ maxLen) :
    Calls Try.prog 10 #[.string s, .string t] w fun e w' => e = .returned (.bool true) ∧ Below w.heap.size w w' := by
  by_cases h1 : s.size ≤ 300
  · have h1i : (s.size : Int) ≤ 300 := by omega
    by_cases h2 : t.size ≤ 256
    · have h2i : (t.size : Int) ≤ 256 := by omega
      go_enter Try.func10, Try.ntmps10
      go_wp2_with fail
      refine (encode_any s t w h1 (by omega)).mono ?_
      rintro e w1 ⟨v, zs, err, rfl, hI, hB, hP⟩
      have HI := Lib.hid hI
      have HB := Lib.hid hB
      have HP := Lib.hid hP
      clear hI hB hP
      go_wp2_with fail
      refine (refEncode_any s t w1 h1 (by omega)).mono ?_
      rintro e w2 ⟨u, ys, err2, rfl, hI2, hB2, hP2⟩
      obtain ⟨rfl, rfl⟩ := HP.out.same hP2
      have hle := enc_le hP2
      have hsl : s.data.toList.length = s.size := rfl
      have HI1 := Lib.hid (HI.out.below hB2)
      have HI2 := Lib.hid hI2
      have HB2 := Lib.hid (HB.out.trans (hB2.mono HB.out.size))
      clear hI2 hB2 hP2 HP
      go_wp2_with fail
      refine (ints_any v u zs zs true w2 HI1.out HI2.out ⟨fun _ => rfl, fun _ => rfl⟩ (by omega) (by omega)).mono ?_
      rintro e w3 ⟨rfl, n, rfl⟩
      have HB3 := Lib.hid (HB2.out.trans ((below_drewN w2 n).mono HB2.out.size))
      go_wp2_with fail
      refine (bab_any _).mono ?_
      rintro e w4 ⟨rfl, hb⟩
      have HB4 := Lib.hid (HB3.out.trans (hb.mono HB3.out.size))
      clear hb
      go_wp2_with fail
      go_ret
      exact ⟨rfl, HB4.out⟩
    · have h2i : (256 : Int) < (t.size : Int) := by omega
      go_enter Try.func10, Try.ntmps10
      go_wp2_with fail
      refine (bab_any _).mono ?_
      rintro e w4 ⟨rfl, hb⟩
      have HB4 := Lib.hid hb
      clear hb
      go_wp2_with fail
      go_ret
      exact ⟨rfl, HB4.out⟩
  · have h1i : (300 : Int) < (s.size : Int) := by omega
    go_enter Try.func10, Try.ntmps10
    go_wp2_with fail
    refine (bab_any _).mono ?_
    rintro e w4 ⟨rfl, hb⟩
    have HB4 := Lib.hid hb
    clear hb
    go_wp2_with fail
    go_ret
    exact ⟨rfl, HB4.out⟩
theorem ints_in {w : World} {a : Option Addr} {len cap : Nat} {zs : List Int} (h : IsRow .i64 w a len cap zs) : IsInts w (.slice a len cap) (zs.take len) ∧ (zs.take len).length = len := by
  rcases h with ⟨rfl, rfl, rfl, rfl⟩ | ⟨x, rfl, hl, _, hz, hc, _⟩
  · exact ⟨IsInts.nil w, rfl⟩
  · have hlen : (zs.take len).length = len := by rw [List.length_take]; omega
    refine ⟨⟨some x, cap, by rw [hlen], fun i y hy => ?_⟩, hlen⟩
    have hi := (List.getElem?_eq_some_iff.1 hy).1
    rw [List.getElem?_take] at hy
    rw [hlen] at hi
    rw [if_pos hi] at hy
    have hcell := hc i (by omega)
    obtain ⟨b, off, spot⟩ := x
    have hspot : spot = none := by simpa [Addr.add] using World.cell?_spot (hc 0 (by omega))
    subst hspot
    refine ⟨b, off, rfl, ?_⟩
    rw [Addr.add_lit] at hcell
    rw [hcell, List.getD_eq_getElem?_getD, hy]
    rfl
set_option maxRecDepth 100000 in
set_option maxHeartbeats 1000000 in
theorem mtfDecodes.walk (l : Option Addr) (llen lcap : Nat) (lz : List Int) (t : ByteArray) (w : World) (hl : IsRow .i64 w l llen lcap lz) (ht : t.size ≤ maxLen) :
    Calls Try.prog 11 #[.slice l llen lcap, .string t] w fun e w' => e = .returned (.bool true) ∧ Below w.heap.size w w' := by
  obtain ⟨hI, hlen⟩ := ints_in hl
  have HI := Lib.hid hI
  clear hl hI
  generalize lz.take llen = zs at *
  by_cases h1 : llen ≤ 300
  · have h1i : (llen : Int) ≤ 300 := by omega
    by_cases h2 : t.size ≤ 256
    · have h2i : (t.size : Int) ≤ 256 := by omega
      go_enter Try.func11, Try.ntmps11
      go_wp2_with fail
      refine (decode_any _ zs t w HI.out (by omega) (by omega)).mono ?_
      rintro e w1 ⟨s, err, rfl, hB, hP⟩
      have HB := Lib.hid hB
      have HP := Lib.hid hP
      clear hB hP
      go_wp2_with fail
      refine (refDecode_any _ zs t w1 (HI.out.below HB.out) (by omega) (by omega)).mono ?_
      rintro e w2 ⟨s2, err2, rfl, hB2, hP2⟩
      obtain ⟨rfl, rfl⟩ := HP.out.same hP2
      have HB2 := Lib.hid (HB.out.trans (hB2.mono HB.out.size))
      clear hB2 hP2 HP
      generalize (⟨s.toArray⟩ : ByteArray) = T at *
      go_wp2_with fail
      refine (bab_any _).mono ?_
      rintro e w4 ⟨rfl, hb⟩
      have HB4 := Lib.hid (HB2.out.trans (hb.mono HB2.out.size))
      clear hb
      go_wp2_with fail
      go_ret
      exact ⟨rfl, HB4.out⟩
    · have h2i : (256 : Int) < (t.size : Int) := by omega
      go_enter Try.func11, Try.ntmps11
      go_wp2_with fail
      refine (bab_any _).mono ?_
      rintro e w4 ⟨rfl, hb⟩
      have HB4 := Lib.hid hb
      clear hb
      go_wp2_with fail
      go_ret
      exact ⟨rfl, HB4.out⟩
  · have h1i : (300 : Int) < (llen : Int) := by omega
    go_enter Try.func11, Try.ntmps11
    go_wp2_with fail
    refine (bab_any _).mono ?_
    rintro e w4 ⟨rfl, hb⟩
    have HB4 := Lib.hid hb
    clear hb
    go_wp2_with fail
    go_ret
    exact ⟨rfl, HB4.out⟩
end Go.Proofs.Ythpgddodfnjmbaa

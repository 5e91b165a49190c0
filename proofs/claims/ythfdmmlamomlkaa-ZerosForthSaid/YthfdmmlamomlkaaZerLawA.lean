/-
  LAYER 7's STATEMENTS: the row of four that each of them tries; ZerosNil, ZerosRow, ZerosEncodes, ZerosBack.
-/
import Derived.Test.YthfdmmlamomlkaaZerRefB
namespace Go.Proofs.Ythfdmmlamomlkaa
open Go.RowKit ZerM
set_option linter.unusedVariables false
theorem ints_at (w : World) (zs : List Int) (N : Nat) (hN : N = zs.length) : IsInts (w.alloc (.cells (zs.map iv64).toArray 3)) (.slice (some ⟨w.heap.size, 0, none⟩) N N) zs :=
  ints_of_row (rest := []) (by rw [List.append_nil]; exact heap_alloc_new w _) hN
theorem enc_four : EncP [0, 0, 0, 0, 2] 3 [1, 0, 3, 4] 0 := Or.inr ⟨⟨by decide, by decide, by decide⟩, by
  rw [enc_eq]
  have h4 := rowC_4
  have h0 := rowC_zero
  simp [encR, h4, h0], rfl⟩
theorem dec_four : DecP [1, 0, 3, 4] 3 5 [0, 0, 0, 0, 2] 0 := Or.inr ⟨⟨by decide, by decide, by decide, by decide⟩, by kernel_rfl⟩
theorem dec_long : DecP [1, 0, 3, 4] 3 4 [] 2 := Or.inr ⟨⟨by decide, by decide, by decide, by decide⟩, by kernel_rfl⟩
set_option maxRecDepth 100000 in
set_option maxHeartbeats 1000000 in
theorem four_any (w : World) : Calls Try.prog 17 #[] w fun e w' => e = .returned (.bool true) ∧ Below w.heap.size w w' := by
  go_enter Try.func17, Try.ntmps17
  go_wp2_with fail
  refine (zEncode_any _ [0, 0, 0, 0, 2] 3 _ (by exact ints_at w [0, 0, 0, 0, 2] 5 rfl) (by decide)).mono ?_
  rintro e w1 ⟨v, zs, err, rfl, hI, hB, hP⟩
  obtain ⟨rfl, rfl⟩ := hP.same enc_four
  have HI := Lib.hid hI
  have HB := Lib.hid (((Below.refl w.heap.size w).alloc (Nat.le_refl _) _).trans (hB.mono (by simp)))
  clear hI hB hP
  go_wp2_with fail
  refine (zDecode_any _ [1, 0, 3, 4] 3 5 _ (by exact ints_at w1 [1, 0, 3, 4] 4 rfl) (by decide) (fun _ => by decide)).mono ?_
  rintro e w2 ⟨u, ys, err, rfl, hI2, hB2, hP2⟩
  obtain ⟨rfl, rfl⟩ := hP2.same dec_four
  have hb12 : Below w1.heap.size w1 w2 := ((Below.refl w1.heap.size w1).alloc (Nat.le_refl _) _).trans (hB2.mono (by simp))
  have HI1 := Lib.hid (HI.out.below hb12)
  have HI2 := Lib.hid hI2
  have HB2 := Lib.hid (HB.out.trans (hb12.mono HB.out.size))
  clear hI2 hB2 hP2 hb12
  go_wp2_with fail
  refine (zDecode_any _ [1, 0, 3, 4] 3 4 _ (by exact ints_at w2 [1, 0, 3, 4] 4 rfl) (by decide) (fun _ => by decide)).mono ?_
  rintro e w3 ⟨u3, ys3, err3, rfl, hI3, hB3, hP3⟩
  obtain ⟨rfl, rfl⟩ := hP3.same dec_long
  have hb23 : Below w2.heap.size w2 w3 := ((Below.refl w2.heap.size w2).alloc (Nat.le_refl _) _).trans (hB3.mono (by simp))
  have HI13 := Lib.hid (HI1.out.below hb23)
  have HI23 := Lib.hid (HI2.out.below hb23)
  have HB3 := Lib.hid (HB2.out.trans (hb23.mono HB2.out.size))
  clear hI3 hB3 hP3 hb23
  go_wp2_with fail
  refine (ints_any v _ [1, 0, 3, 4] [1, 0, 3, 4] true _ (HI13.out.below ((Below.refl w3.heap.size w3).alloc (Nat.le_refl _) _)) (by exact ints_at w3 [1, 0, 3, 4] 4 rfl) ⟨fun _ => rfl, fun _ => rfl⟩ (by decide) (by decide)).mono ?_
  rintro e w4 ⟨rfl, k, hk⟩
  have hb34 : Below w3.heap.size w3 w4 := by
    rw [hk]
    exact ((Below.refl w3.heap.size w3).alloc (Nat.le_refl _) _).trans ((below_drewN _ k).mono (by simp))
  have HI24 := Lib.hid (HI23.out.below hb34)
  have HB4 := Lib.hid (HB3.out.trans (hb34.mono HB3.out.size))
  clear hk hb34
  go_wp2_with fail
  refine (ints_any u _ [0, 0, 0, 0, 2] [0, 0, 0, 0, 2] true _ (HI24.out.below ((Below.refl w4.heap.size w4).alloc (Nat.le_refl _) _)) (by exact ints_at w4 [0, 0, 0, 0, 2] 5 rfl) ⟨fun _ => rfl, fun _ => rfl⟩ (by decide) (by decide)).mono ?_
  rintro e w5 ⟨rfl, k, hk⟩
  have hb45 : Below w4.heap.size w4 w5 := by
    rw [hk]
    exact ((Below.refl w4.heap.size w4).alloc (Nat.le_refl _) _).trans ((below_drewN _ k).mono (by simp))
  have HB5 := Lib.hid (HB4.out.trans (hb45.mono HB4.out.size))
  clear hk hb45
  go_wp2_with fail
  go_ret
  exact ⟨rfl, HB5.out⟩
set_option maxRecDepth 100000 in
set_option maxHeartbeats 1000000 in
theorem zerosNil.walk (code : Int) (w : World) (_ : (Lit.int .i64 code).wf = true) :
    Calls Try.prog 9 #[.int .i64 code] w fun e w' => e = .returned (.bool true) ∧ Below w.heap.size w w' := by
  go_enter Try.func9, Try.ntmps9
  go_wp2_with fail
  refine (zput_nil _ w).mono ?_
  rintro e w' ⟨rfl, rfl⟩
  go_wp2_with fail
  refine (zdone_nil w).mono ?_
  rintro e w' ⟨rfl, rfl⟩
  go_wp2_with fail
  refine (zcount_nil w).mono ?_
  rintro e w' ⟨rfl, rfl⟩
  go_wp2_with fail
  refine (four_any w).mono ?_
  rintro e w1 ⟨rfl, hb⟩
  have HB := Lib.hid hb
  clear hb
  go_wp2_with fail
  go_ret
  exact ⟨rfl, HB.out⟩
set_option maxRecDepth 100000 in
set_option maxHeartbeats 1000000 in
theorem zerosRow.walk (m : Int) (w : World) (_ : (Lit.int .i64 m).wf = true) :
    Calls Try.prog 3 #[.int .i64 m] w fun e w' => e = .returned (.bool true) ∧ Below w.heap.size w w' := by
  have HROW := Lib.hid (zRow_any m w)
  by_cases hm1 : m < 1
  · go_enter Try.func3, Try.ntmps3
    go_wp2_with fail
    refine HROW.out.mono ?_
    rintro e w1 ⟨v, zs, err, rfl, hO, hB, hP⟩
    obtain ⟨rfl, rfl⟩ : zs = [] ∧ err = 1 := by
      rcases hP with ⟨_, h1, h2⟩ | ⟨h1, _⟩
      · exact ⟨h1, h2⟩
      · omega
    obtain ⟨a, cap, rfl⟩ := hO.slice
    have HB := Lib.hid hB
    clear hO hB hP
    go_wp2_with fail
    refine (four_any w1).mono ?_
    rintro e w2 ⟨rfl, hb⟩
    have HB2 := Lib.hid (HB.out.trans (hb.mono HB.out.size))
    clear hb
    go_wp2_with fail
    go_ret
    exact ⟨rfl, HB2.out⟩
  · by_cases hm2 : 1099511627776 < m
    · go_enter Try.func3, Try.ntmps3
      go_wp2_with fail
      refine HROW.out.mono ?_
      rintro e w1 ⟨v, zs, err, rfl, hO, hB, hP⟩
      obtain ⟨rfl, rfl⟩ : zs = [] ∧ err = 1 := by
        rcases hP with ⟨_, h1, h2⟩ | ⟨_, h1, _⟩
        · exact ⟨h1, h2⟩
        · omega
      obtain ⟨a, cap, rfl⟩ := hO.slice
      have HB := Lib.hid hB
      clear hO hB hP
      go_wp2_with fail
      refine (four_any w1).mono ?_
      rintro e w2 ⟨rfl, hb⟩
      have HB2 := Lib.hid (HB.out.trans (hb.mono HB.out.size))
      clear hb
      go_wp2_with fail
      go_ret
      exact ⟨rfl, HB2.out⟩
    · obtain ⟨k, rfl⟩ : ∃ k : Nat, m = (k : Int) := ⟨m.toNat, by omega⟩
      have hks := rowC_small k (by omega)
      have hkv := val_rowC k
      have HBI := Lib.hid (bin_rowC k)
      go_enter Try.func3, Try.ntmps3
      go_wp2_with fail
      refine HROW.out.mono ?_
      rintro e w1 ⟨v, zs, err, rfl, hO, hB, hP⟩
      obtain ⟨rfl, rfl⟩ : zs = rowC k ∧ err = 0 := by
        rcases hP with ⟨h1, _⟩ | ⟨_, _, h1, h2⟩
        · omega
        · simp only [Int.toNat_natCast] at h1; exact ⟨h1, h2⟩
      have HO := Lib.hid hO
      have HB := Lib.hid hB
      clear hO hB hP HROW
      go_wp2_with fail
      refine (rrow_any k (by omega) w1).mono ?_
      rintro e w2 ⟨u, rfl, hO2, hB2⟩
      have HI1 := Lib.hid (HO.out.ints.below hB2)
      have HI2 := Lib.hid hO2.ints
      have HB2 := Lib.hid (HB.out.trans (hB2.mono HB.out.size))
      clear hO2 hB2
      go_wp2_with fail
      refine (ints_any v u (rowC k) (rowC k) true w2 HI1.out HI2.out ⟨fun _ => rfl, fun _ => rfl⟩ (by omega) (by omega)).mono ?_
      rintro e w3 ⟨rfl, j, hj⟩
      have hb3 : Below w2.heap.size w2 w3 := by rw [hj]; exact below_drewN w2 j
      have HI3 := Lib.hid (HI1.out.below hb3)
      have HB3 := Lib.hid (HB2.out.trans (hb3.mono HB2.out.size))
      clear hj hb3
      go_wp2_with fail
      refine (rvalue_any v (rowC k) w3 HI3.out HBI.out hks (by omega)).mono ?_
      rintro e w4 ⟨rfl, j, hj⟩
      have hb4 : Below w3.heap.size w3 w4 := by rw [hj]; exact below_drewN w3 j
      have HB4 := Lib.hid (HB3.out.trans (hb4.mono HB3.out.size))
      rw [hkv]
      clear hj hb4
      go_wp2_with fail
      refine (four_any w4).mono ?_
      rintro e w5 ⟨rfl, hb⟩
      have HB5 := Lib.hid (HB4.out.trans (hb.mono HB4.out.size))
      clear hb
      go_wp2_with fail
      go_ret
      exact ⟨rfl, HB5.out⟩
theorem encP_le {l : List Int} {n : Int} {zs : List Int} {err : Nat} (h : EncP l n zs err) : zs.length ≤ l.length + 1 := by
  rcases h with ⟨_, rfl, _⟩ | ⟨_, rfl, _⟩
  · simp
  · exact enc_len l n
set_option maxRecDepth 100000 in
set_option maxHeartbeats 1000000 in
theorem zerosEncodes.walk (l : Option Addr) (llen lcap : Nat) (lz : List Int) (n : Int) (w : World) (hl : IsRow .i64 w l llen lcap lz) (_ : (Lit.int .i64 n).wf = true) :
    Calls Try.prog 4 #[.slice l llen lcap, .int .i64 n] w fun e w' => e = .returned (.bool true) ∧ Below w.heap.size w w' := by
  obtain ⟨hI, hlen⟩ := ints_in hl
  have HI := Lib.hid hI
  clear hl hI
  generalize lz.take llen = zs at *
  by_cases h1 : llen ≤ 300
  · have h1i : (llen : Int) ≤ 300 := by omega
    go_enter Try.func4, Try.ntmps4
    go_wp2_with fail
    refine (zEncode_any _ zs n w HI.out (by omega)).mono ?_
    rintro e w1 ⟨v, ys, err, rfl, hI1, hB, hP⟩
    have HI1 := Lib.hid hI1
    have HB := Lib.hid hB
    have HP := Lib.hid hP
    clear hI1 hB hP
    go_wp2_with fail
    refine (rEncode_any _ zs n w1 (HI.out.below HB.out) (by omega)).mono ?_
    rintro e w2 ⟨u, ys2, err2, rfl, hI2, hB2, hP2⟩
    obtain ⟨rfl, rfl⟩ := HP.out.same hP2
    have hle := encP_le hP2
    have HI3 := Lib.hid (HI1.out.below hB2)
    have HI2 := Lib.hid hI2
    have HB2 := Lib.hid (HB.out.trans (hB2.mono HB.out.size))
    clear hI2 hB2 hP2 HP
    go_wp2_with fail
    refine (ints_any v u ys ys true w2 HI3.out HI2.out ⟨fun _ => rfl, fun _ => rfl⟩ (by omega) (by omega)).mono ?_
    rintro e w3 ⟨rfl, j, hj⟩
    have hb3 : Below w2.heap.size w2 w3 := by rw [hj]; exact below_drewN w2 j
    have HB3 := Lib.hid (HB2.out.trans (hb3.mono HB2.out.size))
    clear hj hb3
    go_wp2_with fail
    refine (four_any _).mono ?_
    rintro e w4 ⟨rfl, hb⟩
    have HB4 := Lib.hid (HB3.out.trans (hb.mono HB3.out.size))
    clear hb
    go_wp2_with fail
    go_ret
    exact ⟨rfl, HB4.out⟩
  · have h1i : (300 : Int) < (llen : Int) := by omega
    go_enter Try.func4, Try.ntmps4
    go_wp2_with fail
    refine (four_any _).mono ?_
    rintro e w4 ⟨rfl, hb⟩
    have HB4 := Lib.hid hb
    clear hb
    go_wp2_with fail
    go_ret
    exact ⟨rfl, HB4.out⟩
set_option maxRecDepth 100000 in
set_option maxHeartbeats 1000000 in
theorem zerosBack.walk (l : Option Addr) (llen lcap : Nat) (lz : List Int) (n : Int) (w : World) (hl : IsRow .i64 w l llen lcap lz) (_ : (Lit.int .i64 n).wf = true) :
    Calls Try.prog 7 #[.slice l llen lcap, .int .i64 n] w fun e w' => e = .returned (.bool true) ∧ Below w.heap.size w w' := by
  obtain ⟨hI, hlen⟩ := ints_in hl
  have HI := Lib.hid hI
  clear hl hI
  generalize lz.take llen = zs at *
  by_cases h1 : llen ≤ 300
  · have h1i : (llen : Int) ≤ 300 := by omega
    go_enter Try.func7, Try.ntmps7
    go_wp2_with fail
    refine (zEncode_any _ zs n w HI.out (by omega)).mono ?_
    rintro e w1 ⟨v, ys, err, rfl, hI1, hB, hP⟩
    have HI1 := Lib.hid hI1
    have HB := Lib.hid hB
    rcases hP with ⟨hno, rfl, rfl⟩ | ⟨hok, hys, rfl⟩
    · have HNO := Lib.hid hno
      clear hI1 hB hno
      go_wp2_with fail
      refine (rEncode_any _ zs n w1 (HI.out.below HB.out) (by omega)).mono ?_
      rintro e w2 ⟨u, ys2, err2, rfl, hI2, hB2, hP2⟩
      obtain ⟨rfl, rfl⟩ : ys2 = [] ∧ err2 = 1 := by
        rcases hP2 with ⟨_, h1, h2⟩ | ⟨h1, _⟩
        · exact ⟨h1, h2⟩
        · exact absurd h1 HNO.out
      have HB2 := Lib.hid (HB.out.trans (hB2.mono HB.out.size))
      clear hI2 hB2 hP2
      go_wp2_with fail
      refine (four_any _).mono ?_
      rintro e w4 ⟨rfl, hb⟩
      have HB4 := Lib.hid (HB2.out.trans (hb.mono HB2.out.size))
      clear hb
      go_wp2_with fail
      go_ret
      exact ⟨rfl, HB4.out⟩
    · have hyl : ys.length ≤ zs.length + 1 := by rw [hys]; exact enc_len zs n
      have HDE : Hid (dec n zs.length ini ys = (zs, 0)) := Lib.hid (by rw [hys]; exact dec_enc hok)
      have HOK : Hid (DecOk n (zs.length : Int)) := Lib.hid ⟨hok.1, hok.2.1, by omega, by omega⟩
      obtain ⟨a, cap, rfl, _⟩ := hI1
      have hylI : (ys.length : Int) ≤ (llen : Int) + 1 := by omega
      have hlw : IntKind.i64.wrap ((llen : Int) + 1) = (llen : Int) + 1 := IntWalk.i64_in _ (by omega)
      clear hB hok hys
      go_wp2_with fail
      refine (zDecode_any _ ys n (llen : Int) w1 (by exact HI1.out) (by omega) (fun _ => by omega)).mono ?_
      rintro e w2 ⟨u, ys2, err2, rfl, hI2, hB2, hP2⟩
      obtain ⟨rfl, rfl⟩ : ys2 = zs ∧ err2 = 0 := by
        rcases hP2 with ⟨h1, _⟩ | ⟨_, h2⟩
        · exact absurd (by rw [← hlen]; exact HOK.out) h1
        · rw [show ((llen : Int)).toNat = zs.length by omega, HDE.out] at h2
          exact ⟨congrArg Prod.fst h2, congrArg Prod.snd h2⟩
      have HI3 := Lib.hid ((HI.out.below HB.out).below hB2)
      have HI2 := Lib.hid hI2
      have HB2 := Lib.hid (HB.out.trans (hB2.mono HB.out.size))
      clear hI2 hB2 hP2
      go_wp2_with fail
      refine (ints_any u _ ys2 ys2 true w2 HI2.out HI3.out ⟨fun _ => rfl, fun _ => rfl⟩ (by omega) (by omega)).mono ?_
      rintro e w3 ⟨rfl, j, hj⟩
      have hb3 : Below w2.heap.size w2 w3 := by rw [hj]; exact below_drewN w2 j
      have HB3 := Lib.hid (HB2.out.trans (hb3.mono HB2.out.size))
      clear hj hb3
      go_wp2_with fail
      refine (four_any _).mono ?_
      rintro e w4 ⟨rfl, hb⟩
      have HB4 := Lib.hid (HB3.out.trans (hb.mono HB3.out.size))
      clear hb
      go_wp2_with fail
      go_ret
      exact ⟨rfl, HB4.out⟩
  · have h1i : (300 : Int) < (llen : Int) := by omega
    go_enter Try.func7, Try.ntmps7
    go_wp2_with fail
    refine (four_any _).mono ?_
    rintro e w4 ⟨rfl, hb⟩
    have HB4 := Lib.hid hb
    clear hb
    go_wp2_with fail
    go_ret
    exact ⟨rfl, HB4.out⟩
end Go.Proofs.Ythfdmmlamomlkaa

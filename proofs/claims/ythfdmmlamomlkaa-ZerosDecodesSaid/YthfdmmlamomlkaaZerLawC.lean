/-
  LAYER 7's STATEMENTS: ZerosDecodes, ZerosForth.
-/
import Derived.Test.YthfdmmlamomlkaaZerLawA
import Derived.Test.YthfdmmlamomlkaaZerRefG
namespace Go.Proofs.Ythfdmmlamomlkaa
open Go.RowKit ZerM
set_option linter.unusedVariables false
theorem decP_le {l : List Int} {n most : Int} {zs : List Int} {err : Nat} (h : DecP l n most zs err) : zs.length ≤ most.toNat := by
  rcases h with ⟨_, rfl, _⟩ | ⟨h1, h2⟩
  · simp
  · by_cases he : err = 0
    · subst he
      exact dec_len n most.toNat l ini zs (Ok.ini _) h2.symm
    · rw [dec_nil n most.toNat l ini zs err h2.symm he]; simp
set_option maxRecDepth 100000 in
set_option maxHeartbeats 1000000 in
theorem zerosDecodes.walk (l : Option Addr) (llen lcap : Nat) (lz : List Int) (n most : Int) (w : World) (hl : IsRow .i64 w l llen lcap lz) (_ : (Lit.int .i64 n).wf = true) (_ : (Lit.int .i64 most).wf = true) :
    Calls Try.prog 6 #[.slice l llen lcap, .int .i64 n, .int .i64 most] w fun e w' => e = .returned (.bool true) ∧ Below w.heap.size w w' := by
  obtain ⟨hI, hlen⟩ := ints_in hl
  have HI := Lib.hid hI
  clear hl hI
  generalize lz.take llen = zs at *
  by_cases h1 : llen ≤ 100
  · have h1i : (llen : Int) ≤ 100 := by omega
    by_cases h2 : 3000 < most ∧ most ≤ 1099511627776
    · obtain ⟨h3, h4⟩ := h2
      go_enter Try.func6, Try.ntmps6
      go_wp2_with fail
      refine (four_any _).mono ?_
      rintro e w4 ⟨rfl, hb⟩
      have HB4 := Lib.hid hb
      clear hb
      go_wp2_with fail
      go_ret
      exact ⟨rfl, HB4.out⟩
    · have hms : Hid (DecOk n most → most ≤ 1000000) := Lib.hid (fun h => by have := h.2.2.2; omega)
      have HD1 := Lib.hid (zDecode_any _ zs n most w HI.out (by omega) hms.out)
      have HD2 := Lib.hid (fun w1 (h : IsInts w1 (.slice l llen lcap) zs) => rDecode_any _ zs n most w1 h (by omega) hms.out)
      have tail : Hid (∀ w1, Below w.heap.size w w1 → ∀ v ys err, IsInts w1 v ys → DecP zs n most ys err → ys.length ≤ 9223372036854775807) := Lib.hid (fun _ _ _ ys err _ hp => by
        have h5 := decP_le hp
        rcases hp with ⟨_, rfl, _⟩ | ⟨h6, _⟩
        · simp
        · have := hms.out h6; omega)
      by_cases h3 : 3000 < most
      · have h4 : ¬ most ≤ 1099511627776 := fun h => h2 ⟨h3, h⟩
        clear h2
        go_enter Try.func6, Try.ntmps6
        go_wp2_with fail
        refine HD1.out.mono ?_
        rintro e w1 ⟨v, ys, err, rfl, hI1, hB, hP⟩
        have hyl := tail.out w1 hB v ys err hI1 hP
        have HI1 := Lib.hid hI1
        have HB := Lib.hid hB
        have HP := Lib.hid hP
        clear hI1 hB hP
        go_wp2_with fail
        refine (HD2.out w1 (HI.out.below HB.out)).mono ?_
        rintro e w2 ⟨u, ys2, err2, rfl, hI2, hB2, hP2⟩
        obtain ⟨rfl, rfl⟩ := HP.out.same hP2
        have HI3 := Lib.hid (HI1.out.below hB2)
        have HI2 := Lib.hid hI2
        have HB2 := Lib.hid (HB.out.trans (hB2.mono HB.out.size))
        clear hI2 hB2 hP2 HP
        go_wp2_with fail
        refine (ints_any v u ys ys true w2 HI3.out HI2.out ⟨fun _ => rfl, fun _ => rfl⟩ hyl hyl).mono ?_
        rintro e w3 ⟨rfl, j, hj⟩
        have hb3 : Below w2.heap.size w2 w3 := by rw [hj]; exact below_drewN w2 j
        have HB3 := Lib.hid (HB2.out.trans (hb3.mono HB2.out.size))
        clear hj hb3
        go_wp2_with fail
        refine (four_any _).mono ?_
        rintro e w4 ⟨rfl, hb⟩
        have HB4 := Lib.hid (HB3.out.trans (hb.mono HB3.out.size))
        clear hb
        go_wp2_with fail
        go_ret
        exact ⟨rfl, HB4.out⟩
      · clear h2
        go_enter Try.func6, Try.ntmps6
        go_wp2_with fail
        refine HD1.out.mono ?_
        rintro e w1 ⟨v, ys, err, rfl, hI1, hB, hP⟩
        have hyl := tail.out w1 hB v ys err hI1 hP
        have HI1 := Lib.hid hI1
        have HB := Lib.hid hB
        have HP := Lib.hid hP
        clear hI1 hB hP
        go_wp2_with fail
        refine (HD2.out w1 (HI.out.below HB.out)).mono ?_
        rintro e w2 ⟨u, ys2, err2, rfl, hI2, hB2, hP2⟩
        obtain ⟨rfl, rfl⟩ := HP.out.same hP2
        have HI3 := Lib.hid (HI1.out.below hB2)
        have HI2 := Lib.hid hI2
        have HB2 := Lib.hid (HB.out.trans (hB2.mono HB.out.size))
        clear hI2 hB2 hP2 HP
        go_wp2_with fail
        refine (ints_any v u ys ys true w2 HI3.out HI2.out ⟨fun _ => rfl, fun _ => rfl⟩ hyl hyl).mono ?_
        rintro e w3 ⟨rfl, j, hj⟩
        have hb3 : Below w2.heap.size w2 w3 := by rw [hj]; exact below_drewN w2 j
        have HB3 := Lib.hid (HB2.out.trans (hb3.mono HB2.out.size))
        clear hj hb3
        go_wp2_with fail
        refine (four_any _).mono ?_
        rintro e w4 ⟨rfl, hb⟩
        have HB4 := Lib.hid (HB3.out.trans (hb.mono HB3.out.size))
        clear hb
        go_wp2_with fail
        go_ret
        exact ⟨rfl, HB4.out⟩
  · have h1i : (100 : Int) < (llen : Int) := by omega
    go_enter Try.func6, Try.ntmps6
    go_wp2_with fail
    refine (four_any _).mono ?_
    rintro e w4 ⟨rfl, hb⟩
    have HB4 := Lib.hid hb
    clear hb
    go_wp2_with fail
    go_ret
    exact ⟨rfl, HB4.out⟩
set_option maxRecDepth 100000 in
set_option maxHeartbeats 1000000 in
theorem zerosForth.walk (l : Option Addr) (llen lcap : Nat) (lz : List Int) (n : Int) (w : World) (hl : IsRow .i64 w l llen lcap lz) (_ : (Lit.int .i64 n).wf = true) :
    Calls Try.prog 8 #[.slice l llen lcap, .int .i64 n] w fun e w' => e = .returned (.bool true) ∧ Below w.heap.size w w' := by
  obtain ⟨hI, hlen⟩ := ints_in hl
  have HI := Lib.hid hI
  clear hl hI
  generalize lz.take llen = zs at *
  by_cases h1 : llen ≤ 100
  · have h1i : (llen : Int) ≤ 100 := by omega
    by_cases h2 : n < 1
    · go_enter Try.func8, Try.ntmps8
      go_wp2_with fail
      refine (four_any _).mono ?_
      rintro e w4 ⟨rfl, hb⟩
      have HB4 := Lib.hid hb
      clear hb
      go_wp2_with fail
      go_ret
      exact ⟨rfl, HB4.out⟩
    · by_cases h3 : 256 < n
      · go_enter Try.func8, Try.ntmps8
        go_wp2_with fail
        refine (four_any _).mono ?_
        rintro e w4 ⟨rfl, hb⟩
        have HB4 := Lib.hid hb
        clear hb
        go_wp2_with fail
        go_ret
        exact ⟨rfl, HB4.out⟩
      · have HD1 := Lib.hid (zDecode_any _ zs n 3000 w HI.out (by omega) (fun _ => by decide))
        have HD2 := Lib.hid (fun w1 (h : IsInts w1 (.slice l llen lcap) zs) => rDecode_any _ zs n 3000 w1 h (by omega) (fun _ => by decide))
        have HOK : Hid (DecOk n 3000) := Lib.hid ⟨by omega, by omega, by decide, by decide⟩
        go_enter Try.func8, Try.ntmps8
        go_wp2_with fail
        refine HD1.out.mono ?_
        rintro e w1 ⟨v, ys, err, rfl, hI1, hB, hP⟩
        have hyl : ys.length ≤ 3000 := decP_le hP
        have HI1 := Lib.hid hI1
        have HB := Lib.hid hB
        have hdec : (ys, err) = dec n 3000 ini zs := by
          rcases hP with ⟨h, _⟩ | ⟨_, h⟩
          · exact absurd HOK.out h
          · exact h
        by_cases he : err = 0
        · subst he
          obtain ⟨hek, hee⟩ := enc_dec (by omega) (by omega) hdec.symm
          have HEK := Lib.hid hek
          have HEE := Lib.hid hee
          clear hI1 hB hP hdec hek hee
          go_wp2_with fail
          refine (zEncode_any _ ys n w1 HI1.out (by omega)).mono ?_
          rintro e w2 ⟨u, cs, err2, rfl, hI2, hB2, hP2⟩
          obtain ⟨rfl, rfl⟩ : cs = zs ∧ err2 = 0 := by
            rcases hP2 with ⟨h, _⟩ | ⟨_, h1, h2⟩
            · exact absurd HEK.out h
            · exact ⟨h1.trans HEE.out, h2⟩
          have HI3 := Lib.hid ((HI.out.below HB.out).below hB2)
          have HI2 := Lib.hid hI2
          have HB2 := Lib.hid (HB.out.trans (hB2.mono HB.out.size))
          clear hI2 hB2 hP2
          go_wp2_with fail
          refine (ints_any u _ cs cs true w2 HI2.out HI3.out ⟨fun _ => rfl, fun _ => rfl⟩ (by omega) (by omega)).mono ?_
          rintro e w3 ⟨rfl, j, hj⟩
          have hb3 : Below w2.heap.size w2 w3 := by rw [hj]; exact below_drewN w2 j
          have HB3 := Lib.hid (HB2.out.trans (hb3.mono HB2.out.size))
          clear hj hb3
          go_wp2_with fail
          refine (four_any _).mono ?_
          rintro e w4 ⟨rfl, hb⟩
          have HB4 := Lib.hid (HB3.out.trans (hb.mono HB3.out.size))
          clear hb
          go_wp2_with fail
          go_ret
          exact ⟨rfl, HB4.out⟩
        · have heI : ((err : Int) != 0) = true := by rw [bne_iff_ne]; omega
          have HDE := Lib.hid hdec
          clear hI1 hB hP hdec
          go_wp2_with fail
          refine (HD2.out w1 (HI.out.below HB.out)).mono ?_
          rintro e w2 ⟨u, ys2, err2, rfl, hI2, hB2, hP2⟩
          obtain rfl : err2 = err := by
            rcases hP2 with ⟨h, _⟩ | ⟨_, h⟩
            · exact absurd HOK.out h
            · exact congrArg Prod.snd (h.trans HDE.out.symm)
          have HB2 := Lib.hid (HB.out.trans (hB2.mono HB.out.size))
          clear hI2 hB2 hP2
          go_wp2_with fail
          refine (four_any _).mono ?_
          rintro e w4 ⟨rfl, hb⟩
          have HB4 := Lib.hid (HB2.out.trans (hb.mono HB2.out.size))
          clear hb
          go_wp2_with fail
          go_ret
          exact ⟨rfl, HB4.out⟩
  · have h1i : (100 : Int) < (llen : Int) := by omega
    go_enter Try.func8, Try.ntmps8
    go_wp2_with fail
    refine (four_any _).mono ?_
    rintro e w4 ⟨rfl, hb⟩
    have HB4 := Lib.hid hb
    clear hb
    go_wp2_with fail
    go_ret
    exact ⟨rfl, HB4.out⟩
end Go.Proofs.Ythfdmmlamomlkaa

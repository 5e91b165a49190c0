/-
  LAYER 10's STATEMENTS: the codes of any lengths: CanonCodes.
-/
import Derived.Test.YtclmnmfdajlddaaCanRefC
namespace Go.Proofs.Ytclmnmfdajlddaa
open Go.RowKit CanM HufM BitM
set_option linter.unusedVariables false
set_option maxRecDepth 100000 in
set_option maxHeartbeats 4000000 in
theorem canonCodes.walk (l : Option Addr) (llen lcap : Nat) (lz : List Int) (symbol : Int) (w : World) (hl : IsRow .i64 w l llen lcap lz) (hs : (Lit.int .i64 symbol).wf = true) :
    Calls Try.prog 9 #[.slice l llen lcap, .int .i64 symbol] w fun e w' => e = .returned (.bool true) ∧ Below w.heap.size w w' := by
  obtain ⟨hI, hlen⟩ := ints_in hl
  obtain ⟨hl1, hl2⟩ := isRow_len hl
  generalize List.take llen lz = zs at *
  have HI := Lib.hid hI
  have HLEN := Lib.hid hlen
  have h3 := fun W => canThree_any W
  have H3 := Lib.hid h3
  clear hl hI hlen h3
  by_cases hmid : 40 < llen ∧ llen ≤ 258
  · have hm1 : (40 : Int) < (llen : Int) := by omega
    have hm2 : (llen : Int) ≤ 258 := by omega
    go_enter Try.func9, Try.ntmps9
    go_wp2_with fail
    refine (H3.out _).mono ?_
    rintro e w' ⟨rfl, hb⟩
    have HBB := Lib.hid hb
    clear hb
    go_wp2_with fail
    go_ret
    exact ⟨rfl, HBB.out⟩
  by_cases hsz : SizeP llen
  · have hs258 := hsz.2
    have hs3 := hsz.1
    have hm1 : ¬ (40 : Int) < (llen : Int) := by omega
    have HA := Lib.hid (csz_any _ zs true w HI.out (by rw [HLEN.out]; omega) ⟨fun _ => by rw [HLEN.out]; exact hsz, fun _ => rfl⟩)
    clear hmid
    by_cases hwh : WholeP zs
    · have HW := Lib.hid hwh
      have HNY := Lib.hid (new_yes _ zs w HI.out (by rw [HLEN.out]; omega) (by rw [HLEN.out]; omega) hwh)
      clear hwh HA
      go_enter Try.func9, Try.ntmps9
      go_wp2_with fail
      refine HNY.out.mono ?_
      rintro e w3 ⟨rfl, hC3, hB3⟩
      have HC3 := Lib.hid hC3
      have HB3 := Lib.hid hB3
      have HI3 : Hid (IsInts w3 (.slice l llen lcap) zs) := Lib.hid (HI.out.below hB3)
      have HCS3 : Hid (w.heap.size < w3.heap.size) := Lib.hid (by obtain ⟨F, k, _⟩ := hC3; exact (Array.getElem?_eq_some_iff.1 k).1)
      clear hC3 hB3 HNY
      have HA := Lib.hid (csz_any _ zs true w3 HI3.out (by rw [HLEN.out]; omega) ⟨fun _ => by rw [HLEN.out]; exact hsz, fun _ => rfl⟩)
      have HB := Lib.hid (rWhole_any _ zs true w3 HI3.out (by rw [HLEN.out]; omega) ⟨fun _ => HW.out, fun _ => rfl⟩)
      go_wp2_with fail
      refine HA.out.mono ?_
      rintro e w4 ⟨rfl, rfl⟩
      go_wp2_with fail
      refine HB.out.mono ?_
      rintro e w5 ⟨rfl, rfl⟩
      clear HA HB
      obtain ⟨c, hc⟩ : ∃ c, w.heap.size = c := ⟨_, rfl⟩
      rw [hc] at HC3 HCS3 ⊢
      have HCC := Lib.hid hc
      clear hc
      by_cases hin : 0 ≤ symbol ∧ symbol < (llen : Int)
      · obtain ⟨i, rfl⟩ : ∃ i : Nat, symbol = (i : Int) := ⟨symbol.toNat, by omega⟩
        have hiz : i < zs.length := by rw [HLEN.out]; omega
        have hil : (i : Int) < (llen : Int) := hin.2
        have hln := ln_bd (fun z hz => HW.out.1 z hz) hiz
        have hcl : cod zs (ln zs i, i) < 2 ^ ln zs i := cod_lt (x := (ln zs i, i)) (ent_of hiz) HW.out.2 hln.2
        have hc20 : cod zs (ln zs i, i) < 1048576 := Nat.lt_of_lt_of_le hcl (Nat.pow_le_pow_right (by decide) hln.2)
        have HOF := Lib.hid (of_yes c zs i w5 HC3.out (fun z hz => HW.out.1 z hz) (by rw [HLEN.out]; omega) hiz)
        have HFT := Lib.hid (fun W => fieldTxt_any (cod zs (ln zs i, i)) (ln zs i) W (by omega) (by omega))
        have hcode : field (cod zs (ln zs i, i)) (ln zs i) = code zs i := rfl
        rw [hcode] at HFT
        have hgd : zs.getD i 0 = (ln zs i : Int) := by
          have := HW.out.1 _ (getD_mem hiz)
          unfold ln
          omega
        have HGD := Lib.hid hgd
        obtain ⟨C, hC⟩ : ∃ C, code zs i = C := ⟨_, rfl⟩
        rw [hC] at HFT
        have HC := Lib.hid hC
        generalize cod zs (ln zs i, i) = X at *
        generalize ln zs i = n at *
        clear hin hcl hcode hgd hC
        go_wp2_with fail
        refine HOF.out.mono ?_
        rintro e w6 ⟨rfl, m6, hw6⟩
        have HC6 : Hid (IsCode w6 c zs) := Lib.hid (by rw [hw6]; exact HC3.out.other (touch_drewN (fun _ => False) _ m6) (fun hf => hf))
        have HB6 : Hid (Below w.heap.size w w6) := Lib.hid (by rw [hw6]; exact HB3.out.trans ((below_drewN _ m6).mono HB3.out.size))
        have HI6 : Hid (IsInts w6 (.slice l llen lcap) zs) := Lib.hid (HI.out.below HB6.out)
        clear hw6 HOF
        have HSZ := Lib.hid (csize_any c zs w6 HC6.out)
        rw [HLEN.out] at HSZ
        go_wp2_with fail
        refine HSZ.out.mono ?_
        rintro e w7 ⟨rfl, rfl⟩
        clear HSZ
        go_wp2_with fail
        refine (HFT.out w7).mono ?_
        rintro e w8 ⟨rfl, rfl⟩
        have HCD := Lib.hid (codes_any _ zs w7 HI6.out (by rw [HLEN.out]; omega) HW.out)
        rw [HLEN.out] at HCD
        go_wp2_with fail
        refine HCD.out.mono ?_
        rintro e w9 ⟨rfl, hR9, hB9⟩
        obtain ⟨d0, _, _⟩ := hR9.cell (i := i) (by omega)
        simp only [HC.out] at d0
        have HB9 : Hid (Below w.heap.size w w9) := Lib.hid (HB6.out.trans (hB9.mono HB6.out.size))
        have HI9 : Hid (IsInts w9 (.slice l llen lcap) zs) := Lib.hid (HI.out.below HB9.out)
        clear hR9 hB9
        obtain ⟨b1, o1, k1, he1, c1⟩ := HI9.out.cell hiz
        rw [HLEN.out] at he1
        simp only [Value.slice.injEq] at he1
        obtain ⟨rfl, _, rfl⟩ := he1
        rw [HGD.out] at c1
        generalize w7.heap.size = G at *
        go_wp2_with fail
        refine (H3.out _).mono ?_
        rintro e w10 ⟨rfl, hb⟩
        have HB10 : Hid (Below w.heap.size w w10) := Lib.hid (HB9.out.trans (hb.mono HB9.out.size))
        clear hb
        go_wp2_with fail
        go_ret
        exact ⟨rfl, by first | exact HB10.out | (rw [← HCC.out]; exact HB10.out)⟩
      · have HOF := Lib.hid (of_bad c zs symbol w5 HC3.out (by rw [HLEN.out]; omega) (by rw [HLEN.out]; omega))
        have HSZ := Lib.hid (csize_any c zs w5 HC3.out)
        rw [HLEN.out] at HSZ
        by_cases h0 : symbol < 0
        · clear hin
          go_wp2_with fail
          refine HOF.out.mono ?_
          rintro e w6 ⟨rfl, rfl⟩
          go_wp2_with fail
          refine HSZ.out.mono ?_
          rintro e w7 ⟨rfl, rfl⟩
          go_wp2_with fail
          refine (H3.out _).mono ?_
          rintro e w10 ⟨rfl, hb⟩
          have HB10 : Hid (Below w.heap.size w w10) := Lib.hid (HB3.out.trans (hb.mono HB3.out.size))
          clear hb
          go_wp2_with fail
          go_ret
          exact ⟨rfl, by first | exact HB10.out | (rw [← HCC.out]; exact HB10.out)⟩
        · have hge : (llen : Int) ≤ symbol := by omega
          clear hin
          go_wp2_with fail
          refine HOF.out.mono ?_
          rintro e w6 ⟨rfl, rfl⟩
          go_wp2_with fail
          refine HSZ.out.mono ?_
          rintro e w7 ⟨rfl, rfl⟩
          go_wp2_with fail
          refine (H3.out _).mono ?_
          rintro e w10 ⟨rfl, hb⟩
          have HB10 : Hid (Below w.heap.size w w10) := Lib.hid (HB3.out.trans (hb.mono HB3.out.size))
          clear hb
          go_wp2_with fail
          go_ret
          exact ⟨rfl, by first | exact HB10.out | (rw [← HCC.out]; exact HB10.out)⟩
    · have HNT := Lib.hid (new_table _ zs w HI.out (by rw [HLEN.out]; omega) (by rw [HLEN.out]; omega) hwh)
      have HB := Lib.hid (rWhole_any _ zs false w HI.out (by rw [HLEN.out]; omega) ⟨fun h => (by cases h), fun h => absurd h hwh⟩)
      go_enter Try.func9, Try.ntmps9
      go_wp2_with fail
      refine HNT.out.mono ?_
      rintro e w3 ⟨rfl, rfl⟩
      go_wp2_with fail
      refine HA.out.mono ?_
      rintro e w4 ⟨rfl, rfl⟩
      go_wp2_with fail
      refine HB.out.mono ?_
      rintro e w5 ⟨rfl, rfl⟩
      go_wp2_with fail
      refine (H3.out _).mono ?_
      rintro e w' ⟨rfl, hb⟩
      have HBB := Lib.hid hb
      clear hb
      go_wp2_with fail
      go_ret
      exact ⟨rfl, HBB.out⟩
  · have HNA := Lib.hid (new_arg _ zs w HI.out (by rw [HLEN.out]; unfold SizeP at hsz; omega))
    have HA := Lib.hid (csz_any _ zs false w HI.out (by rw [HLEN.out]; omega) ⟨fun h => (by cases h), fun h => absurd h (by rw [HLEN.out]; exact hsz)⟩)
    by_cases h40 : 40 < llen
    · have hm1 : (40 : Int) < (llen : Int) := by omega
      have hm2 : ¬ (llen : Int) ≤ 258 := by unfold SizeP at hsz; omega
      clear hmid hsz
      go_enter Try.func9, Try.ntmps9
      go_wp2_with fail
      refine HNA.out.mono ?_
      rintro e w3 ⟨rfl, rfl⟩
      go_wp2_with fail
      refine HA.out.mono ?_
      rintro e w4 ⟨rfl, rfl⟩
      go_wp2_with fail
      refine (H3.out _).mono ?_
      rintro e w' ⟨rfl, hb⟩
      have HBB := Lib.hid hb
      clear hb
      go_wp2_with fail
      go_ret
      exact ⟨rfl, HBB.out⟩
    · have hm1 : ¬ (40 : Int) < (llen : Int) := by omega
      clear hmid hsz
      go_enter Try.func9, Try.ntmps9
      go_wp2_with fail
      refine HNA.out.mono ?_
      rintro e w3 ⟨rfl, rfl⟩
      go_wp2_with fail
      refine HA.out.mono ?_
      rintro e w4 ⟨rfl, rfl⟩
      go_wp2_with fail
      refine (H3.out _).mono ?_
      rintro e w' ⟨rfl, hb⟩
      have HBB := Lib.hid hb
      clear hb
      go_wp2_with fail
      go_ret
      exact ⟨rfl, HBB.out⟩
end Go.Proofs.Ytclmnmfdajlddaa

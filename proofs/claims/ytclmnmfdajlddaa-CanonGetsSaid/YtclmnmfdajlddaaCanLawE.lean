/-
  LAYER 10's STATEMENTS: symbols read: CanonGets.
-/
import Derived.Test.YtclmnmfdajlddaaCanRefC
namespace Go.Proofs.Ytclmnmfdajlddaa
open Go.RowKit CanM HufM BitM
set_option linter.unusedVariables false
theorem getR_is {zs : List Int} (hwh : WholeP zs) {i : Nat} (hi : i < zs.length) {q : List Bool} (hb : CanM.Begins zs (ln zs i, i) q) {x : Int} (h : GetR zs q x) : x = (i : Int) := by
  rcases h with ⟨j, hj, hbj, h1⟩ | ⟨h1, _⟩
  · have := begins_one (ent_of hj) (ent_of hi) (ln_bd (fun z hz => hwh.1 z hz) hj).2 (ln_bd (fun z hz => hwh.1 z hz) hi).2 hbj hb
    obtain rfl : j = i := congrArg Prod.snd this
    exact h1
  · exact absurd hb (h1 i hi)
theorem getR_no {zs : List Int} {q : List Bool} (hb : ∀ i, i < zs.length → ¬ CanM.Begins zs (ln zs i, i) q) {x : Int} (h : GetR zs q x) : x = -1 := by
  rcases h with ⟨j, hj, hbj, h1⟩ | ⟨_, h1⟩
  · exact absurd hbj (hb j hj)
  · exact h1
theorem getP_no {zs : List Int} {q : List Bool} (hb : ∀ i, i < zs.length → ¬ CanM.Begins zs (ln zs i, i) q) {p p' : Nat} {x e : Int} (h : GetP zs q p x e p') : x = 0 ∧ e = 3 ∧ p' = p := by
  rcases h with ⟨j, hj, hbj, _⟩ | ⟨_, h1, h2, h3⟩
  · exact absurd hbj (hb j hj)
  · exact ⟨h1, h2, h3⟩
set_option maxRecDepth 100000 in
set_option maxHeartbeats 4000000 in
theorem canonGets.walk (l : Option Addr) (llen lcap : Nat) (lz : List Int) (s : ByteArray) (at_ : Int) (w : World) (hl : IsRow .i64 w l llen lcap lz) (hs : s.size ≤ maxLen) (hat : (Lit.int .i64 at_).wf = true) :
    Calls Try.prog 11 #[.slice l llen lcap, .string s, .int .i64 at_] w fun e w' => e = .returned (.bool true) ∧ Below w.heap.size w w' := by
  obtain ⟨hI, hlen⟩ := ints_in hl
  obtain ⟨hl1, hl2⟩ := isRow_len hl
  generalize List.take llen lz = zs at *
  have HI := Lib.hid hI
  have HLEN := Lib.hid hlen
  have h3 := fun W => canThree_any W
  have H3 := Lib.hid h3
  have hsl : s.size ≤ 9223372036854775807 := hs
  clear hl hI hlen h3 hs
  by_cases h40 : llen ≤ 40
  · have h40i : ¬ (40 : Int) < (llen : Int) := by omega
    by_cases h30 : s.size ≤ 30
    · have h30i : ¬ (30 : Int) < (s.size : Int) := by omega
      by_cases hsz : SizeP llen
      · have HA := Lib.hid (csz_any _ zs true w HI.out (by rw [HLEN.out]; omega) ⟨fun _ => by rw [HLEN.out]; exact hsz, fun _ => rfl⟩)
        have hs258 := hsz.2
        have hs3 := hsz.1
        by_cases hwh : WholeP zs
        · have HB := Lib.hid (rWhole_any _ zs true w HI.out (by rw [HLEN.out]; omega) ⟨fun _ => hwh, fun _ => rfl⟩)
          by_cases ha0 : at_ < 0
          · go_enter Try.func11, Try.ntmps11
            go_wp2_with fail
            refine HA.out.mono ?_
            rintro e wHA ⟨rfl, rfl⟩
            go_wp2_with fail
            refine HB.out.mono ?_
            rintro e wHB ⟨rfl, rfl⟩
            go_wp2_with fail
            refine (H3.out _).mono ?_
            rintro e w' ⟨rfl, hb⟩
            have HBB := Lib.hid hb
            clear hb
            go_wp2_with fail
            go_ret
            exact ⟨rfl, HBB.out⟩
          by_cases ha8 : 8 * (s.size : Int) < at_
          · go_enter Try.func11, Try.ntmps11
            go_wp2_with fail
            refine HA.out.mono ?_
            rintro e wHA ⟨rfl, rfl⟩
            go_wp2_with fail
            refine HB.out.mono ?_
            rintro e wHB ⟨rfl, rfl⟩
            go_wp2_with fail
            refine (H3.out _).mono ?_
            rintro e w' ⟨rfl, hb⟩
            have HBB := Lib.hid hb
            clear hb
            go_wp2_with fail
            go_ret
            exact ⟨rfl, HBB.out⟩
          obtain ⟨p0, rfl⟩ : ∃ p0 : Nat, at_ = (p0 : Int) := ⟨at_.toNat, by omega⟩
          have hp0 : (p0 : Int) ≤ 8 * (s.size : Int) := by omega
          have HW := Lib.hid hwh
          have HNY := Lib.hid (new_yes _ zs w HI.out (by rw [HLEN.out]; omega) (by rw [HLEN.out]; omega) hwh)
          have HBT : Hid (∀ W, Calls Try.prog 43 #[.string s] W fun e w' => e = .returned (.string (txt (bitsOf s.data.toList))) ∧ W = w') := Lib.hid (fun W => bitsTxt_any s W (by omega))
          have hll : s.data.toList.length = s.size := by simp
          obtain ⟨lb, hlb⟩ : ∃ lb, s.data.toList = lb := ⟨_, rfl⟩
          rw [hlb] at HBT hll
          have HLB := Lib.hid hlb
          obtain ⟨B, hB⟩ : ∃ B, bitsOf lb = B := ⟨_, rfl⟩
          rw [hB] at HBT
          have HBB := Lib.hid hB
          have hBl : B.length = 8 * s.size := by rw [← hB, bitsOf_length, hll]
          have hts : ((txt B).size : Int) = 8 * (s.size : Int) := by rw [txt_size, hBl]; omega
          have HBL := Lib.hid hBl
          have HLL := Lib.hid hll
          have htb : (txt B).size ≤ 240 := by rw [txt_size, hBl]; omega
          have HDR : Hid ((txt B).extract p0 (txt B).size = txt (B.drop p0)) := Lib.hid (txt_drop B p0 (by rw [hBl]; omega))
          have hps : (p0 : Int) ≤ ((txt B).size : Int) := by omega
          clear hwh ha0 ha8 hB hBl hll hlb hts
          go_enter Try.func11, Try.ntmps11
          go_wp2_with fail
          refine HA.out.mono ?_
          rintro e w1 ⟨rfl, rfl⟩
          go_wp2_with fail
          refine HB.out.mono ?_
          rintro e w1' ⟨rfl, rfl⟩
          go_wp2_with fail
          refine HNY.out.mono ?_
          rintro e w3 ⟨rfl, hC3, hB3⟩
          have HC3 := Lib.hid hC3
          have HB3 := Lib.hid hB3
          have HCS3 : Hid (w1'.heap.size < w3.heap.size) := Lib.hid (by obtain ⟨F, k, _⟩ := hC3; exact (Array.getElem?_eq_some_iff.1 k).1)
          clear hC3 hB3 HNY HA HB
          obtain ⟨c, hc⟩ : ∃ c, w1'.heap.size = c := ⟨_, rfl⟩
          rw [hc] at HC3 HCS3 ⊢
          have HCC := Lib.hid hc
          clear hc
          have HI4 : Hid (IsInts w3 (.slice l llen lcap) zs) := Lib.hid (HI.out.below HB3.out)
          have HCD := Lib.hid (codes_any _ zs w3 HI4.out (by rw [HLEN.out]; omega) HW.out)
          rw [HLEN.out] at HCD
          go_wp2_with fail
          refine HCD.out.mono ?_
          rintro e w5 ⟨rfl, hR5, hB5⟩
          obtain ⟨G, hG⟩ : ∃ G, w3.heap.size = G := ⟨_, rfl⟩
          have HC5 : Hid (IsCode w5 c zs) := Lib.hid (HC3.out.other (Touch.ofBelow (S := fun _ => False) hB5) (fun h => h))
          have HBB5 : Hid (Below w1'.heap.size w1' w5) := Lib.hid (HB3.out.trans (hB5.mono HB3.out.size))
          have hcG : Hid (c < G) := Lib.hid (by rw [← hG]; exact HCS3.out)
          rw [hG] at hR5 ⊢
          have HR5 := Lib.hid hR5
          clear hR5 hB5 hG HCD HCS3 HC3 HB3 HI4
          go_wp2_with fail
          refine (newReader_any s w5 hsl).mono ?_
          rintro e w6 ⟨b, rv, rfl, hr6, hb6, hf6⟩
          rw [HLB.out] at hr6
          have HC6 : Hid (IsCode w6 c zs) := Lib.hid (HC5.out.other (Touch.ofBelow (S := fun _ => False) hb6) (fun h => h))
          have HRW6 : Hid (RowS w6 G llen (fun j => txt (code zs j))) := Lib.hid (HR5.out.below hb6)
          have HB6 : Hid (Below w1'.heap.size w1' w6) := Lib.hid (HBB5.out.trans (hb6.mono HBB5.out.size))
          have HR6 : Hid (IsReader w6 b rv lb 0 0 0) := Lib.hid hr6
          have hGb : Hid (G < b) := Lib.hid (Nat.lt_of_lt_of_le HR5.out.lt (hf6 b (Or.inl rfl)))
          clear hr6 hb6 hf6 HC5 HR5 HBB5
          go_wp2_with fail
          refine (seek_yes b rv lb 0 0 0 p0 w6 HR6.out (by rw [HLL.out]; omega) (by omega) (by rw [HLL.out]; omega)).mono ?_
          rintro e w7 ⟨rfl, hr7, ht7⟩
          have HR7 := Lib.hid hr7
          have HC7 : Hid (IsCode w7 c zs) := Lib.hid (HC6.out.other ht7 (by have h1 := hcG.out; have h2 := hGb.out; intro h; omega))
          have HRW7 : Hid (RowS w7 G llen (fun j => txt (code zs j))) := Lib.hid (HRW6.out.other ht7 (by have h2 := hGb.out; intro h; omega))
          have HB7 : Hid (Below w1'.heap.size w1' w7) := Lib.hid (HB6.out.trans (ht7.below HB6.out.size (by
            rintro j rfl
            have h1 := hcG.out; have h2 := hGb.out; have h3 := HCC.out; omega)))
          clear hr7 ht7 HC6 HRW6 HB6 HR6
          go_wp2_with fail
          refine (HBT.out _).mono ?_
          rintro e w8 ⟨rfl, rfl⟩
          generalize htB : txt B = SB at *
          clear htB
          go_wp2_with fail
          go_loopw [12] (fun va wr => ∃ p : Nat, p ≤ 8 * s.size ∧ va = .string (txt (B.drop p)) ∧ IsReader wr b rv lb 0 0 p ∧ IsCode wr c zs ∧ RowS wr G llen (fun j => txt (code zs j)) ∧ Below w1'.heap.size w1' wr) (fun va _ => match va with | .string t => t.size | _ => 0)
          case atStart => exact ⟨p0, by omega, by rw [HDR.out], HR7.out, HC7.out, HRW7.out, HB7.out⟩
          case round =>
            clear HR7 HC7 HRW7 HB7 HDR hps hp0
            obtain ⟨p, hp, rfl, hRk, hCk, hWk, hBk⟩ := hrel
            have HRK := Lib.hid hRk
            have HCK := Lib.hid hCk
            have HWK := Lib.hid hWk
            have HBK := Lib.hid hBk
            obtain ⟨q, hq⟩ : ∃ q, B.drop p = q := ⟨_, rfl⟩
            have hql : q.length = 8 * s.size - p := by rw [← hq, List.length_drop, HBL.out]
            have HQ := Lib.hid hq
            have hqs : (txt q).size = 8 * s.size - p := by rw [txt_size, hql]
            have HQS := Lib.hid hqs
            have hqb : (txt q).size ≤ 240 := by omega
            have HGET := Lib.hid (cget_any c zs b rv lb 0 0 p wr HCK.out (by rw [HLEN.out]; omega) (by rw [HLEN.out]; omega) HW.out HRK.out (by rw [HLL.out]; omega) (by have h1 := hcG.out; have h2 := hGb.out; omega))
            rw [HBB.out, Nat.mul_zero, Nat.sub_zero, hq] at HGET
            have HQL := Lib.hid hql
            rw [hq]
            clear hRk hCk hWk hBk hq hql hqs
            by_cases hb : ∃ i, i < zs.length ∧ CanM.Begins zs (ln zs i, i) q
            · obtain ⟨i, hi, hbi⟩ := hb
              have hil : (i : Int) < (llen : Int) := by rw [HLEN.out] at hi; omega
              have hln := ln_bd (fun z hz => HW.out.1 z hz) hi
              have HBI := Lib.hid hbi
              have hcl : (txt (code zs i)).size = ln zs i := by rw [txt_size, code_length]
              have hlq : ln zs i ≤ q.length := hbi.1
              have HCL := Lib.hid hcl
              have hcq : ((txt (code zs i)).size : Int) ≤ ((txt q).size : Int) := by rw [hcl, txt_size]; omega
              have hcb : (txt (code zs i)).size ≤ 240 := by omega
              have HNX : Hid ((txt q).extract (txt (code zs i)).size (txt q).size = txt (B.drop (p + ln zs i))) := Lib.hid (by
                rw [hcl, txt_drop q (ln zs i) hlq, ← HQ.out, List.drop_drop])
              have HLNQ : Hid (1 ≤ ln zs i ∧ ln zs i ≤ 8 * s.size - p) := Lib.hid ⟨hln.1, by rw [← HQL.out]; exact hlq⟩
              clear hbi hcl hlq hln
              go_wp2_with fail
              refine HGET.out.mono ?_
              rintro e w9 ⟨x, er, p', rfl, hP, h9a, h9b⟩
              obtain ⟨rfl, rfl, hp'⟩ := getP_is HW.out hi HBI.out hP
              have HR9 : Hid (IsReader w9 b rv lb 0 0 (p + ln zs i)) := Lib.hid (by rw [← hp']; exact h9a)
              have HC9 : Hid (IsCode w9 c zs) := Lib.hid (HCK.out.other h9b (by have h1 := hcG.out; have h2 := hGb.out; intro h; omega))
              have HW9 : Hid (RowS w9 G llen (fun j => txt (code zs j))) := Lib.hid (HWK.out.other h9b (by have h2 := hGb.out; intro h; omega))
              have HB9 : Hid (Below w1'.heap.size w1' w9) := Lib.hid (HBK.out.trans (h9b.below HBK.out.size (by
                rintro j rfl
                have h1 := hcG.out; have h2 := hGb.out; have h3 := HCC.out; omega)))
              clear hP hp' h9a h9b HGET
              go_wp2_with fail
              refine (rget_any G llen zs q w9 HLEN.out (by omega) HW.out HW9.out (by rw [HQL.out]; omega)).mono ?_
              rintro e w10 ⟨y, rfl, hy, rfl⟩
              obtain rfl := getR_is HW.out hi HBI.out hy
              obtain ⟨d0, _, _⟩ := HW9.out.cell (i := i) (by omega)
              clear hy
              have HQS2 := HQS
              obtain ⟨T, hT⟩ : ∃ T, txt (code zs i) = T := ⟨_, rfl⟩
              obtain ⟨S, hS⟩ : ∃ S, txt q = S := ⟨_, rfl⟩
              rw [hT] at HNX HCL hcq hcb
              rw [hS] at HNX HQS hcq hqb ⊢
              simp only [hT] at d0
              clear hT hS
              go_wp2_with fail
              go_roundw
              case rel => exact ⟨p + ln zs i, by have := HLNQ.out; omega, by rw [HNX.out], HR9.out, HC9.out, HW9.out, HB9.out⟩
              case measure =>
                have h1 := HQS.out
                have h0 := HQS2.out
                have h2 := HLNQ.out
                have h3 := HCL.out
                simp
                omega
            · have HNB : Hid (∀ i, i < zs.length → ¬ CanM.Begins zs (ln zs i, i) q) := Lib.hid (fun i hi h => hb ⟨i, hi, h⟩)
              have hqi : ((txt q).size : Int) = ((8 * s.size - p : Nat) : Int) := by rw [HQS.out]
              obtain ⟨L, hL⟩ : ∃ L, 8 * s.size - p = L := ⟨_, rfl⟩
              rw [hL] at hqi
              have HL := Lib.hid hL
              clear hb hL
              go_wp2_with fail
              refine HGET.out.mono ?_
              rintro e w9 ⟨x, er, p', rfl, hP, h9a, h9b⟩
              obtain ⟨rfl, rfl, hp'⟩ := getP_no HNB.out hP
              have HR9 : Hid (IsReader w9 b rv lb 0 0 p) := Lib.hid (by rw [← hp']; exact h9a)
              have HW9 : Hid (RowS w9 G llen (fun j => txt (code zs j))) := Lib.hid (HWK.out.other h9b (by have h2 := hGb.out; intro h; omega))
              have HB9 : Hid (Below w1'.heap.size w1' w9) := Lib.hid (HBK.out.trans (h9b.below HBK.out.size (by
                rintro j rfl
                have h1 := hcG.out; have h2 := hGb.out; have h3 := HCC.out; omega)))
              clear hP hp' h9a h9b HGET
              go_wp2_with fail
              refine (rget_any G llen zs q w9 HLEN.out (by omega) HW.out HW9.out (by rw [HQL.out]; omega)).mono ?_
              rintro e w10 ⟨y, rfl, hy, rfl⟩
              obtain rfl := getR_no HNB.out hy
              clear hy
              generalize txt q = S at *
              go_wp2_with fail
              refine (rleft_any b rv lb 0 0 p L w10 HR9.out (by rw [HLL.out]; omega) (by rw [HLL.out, Nat.zero_add]; exact HL.out)).mono ?_
              rintro e w11 ⟨rfl, n11, hw11⟩
              have HB11 : Hid (Below w1'.heap.size w1' w11) := Lib.hid (by rw [hw11]; exact HB9.out.trans ((below_drewN _ n11).mono HB9.out.size))
              clear hw11
              go_wp2_with fail
              refine (H3.out _).mono ?_
              rintro e w12 ⟨rfl, hb12⟩
              have HB12 : Hid (Below w1'.heap.size w1' w12) := Lib.hid (HB11.out.trans (hb12.mono HB11.out.size))
              clear hb12
              go_wp2_with fail
              go_ret
              exact ⟨rfl, by first | exact HB12.out | (rw [← HCC.out]; exact HB12.out)⟩
        · have HB := Lib.hid (rWhole_any _ zs false w HI.out (by rw [HLEN.out]; omega) ⟨fun h => (by cases h), fun h => absurd h hwh⟩)
          go_enter Try.func11, Try.ntmps11
          go_wp2_with fail
          refine HA.out.mono ?_
          rintro e wHA ⟨rfl, rfl⟩
          go_wp2_with fail
          refine HB.out.mono ?_
          rintro e wHB ⟨rfl, rfl⟩
          go_wp2_with fail
          refine (H3.out _).mono ?_
          rintro e w' ⟨rfl, hb⟩
          have HBB := Lib.hid hb
          clear hb
          go_wp2_with fail
          go_ret
          exact ⟨rfl, HBB.out⟩
      · have HA := Lib.hid (csz_any _ zs false w HI.out (by rw [HLEN.out]; omega) ⟨fun h => (by cases h), fun h => absurd h (by rw [HLEN.out]; exact hsz)⟩)
        go_enter Try.func11, Try.ntmps11
        go_wp2_with fail
        refine HA.out.mono ?_
        rintro e wHA ⟨rfl, rfl⟩
        go_wp2_with fail
        refine (H3.out _).mono ?_
        rintro e w' ⟨rfl, hb⟩
        have HBB := Lib.hid hb
        clear hb
        go_wp2_with fail
        go_ret
        exact ⟨rfl, HBB.out⟩
    · have h30i : (30 : Int) < (s.size : Int) := by omega
      go_enter Try.func11, Try.ntmps11
      go_wp2_with fail
      refine (H3.out _).mono ?_
      rintro e w' ⟨rfl, hb⟩
      have HBB := Lib.hid hb
      clear hb
      go_wp2_with fail
      go_ret
      exact ⟨rfl, HBB.out⟩
  · have h40i : (40 : Int) < (llen : Int) := by omega
    go_enter Try.func11, Try.ntmps11
    go_wp2_with fail
    refine (H3.out _).mono ?_
    rintro e w' ⟨rfl, hb⟩
    have HBB := Lib.hid hb
    clear hb
    go_wp2_with fail
    go_ret
    exact ⟨rfl, HBB.out⟩
end Go.Proofs.Ytclmnmfdajlddaa

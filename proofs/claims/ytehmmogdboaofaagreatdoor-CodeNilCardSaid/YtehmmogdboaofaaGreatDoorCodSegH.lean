/-
  MERGED by seg.py out of: CodRef CodLawC MtfTouch PkRef DelRef CanMathD CanRef Strs TextEq CanRefB CanRefC TabM FreqLawA FreqLawC.
-/
import Derived.Test.YtehmmogdboaofaaGreatDoorCodSegG
import Derived.Deep.Cut
namespace Go.Proofs.YtehmmogdboaofaaGreatDoor
open Go.RowKit BitM HufM CanM CodM TabM FreqM
set_option linter.unusedVariables false
set_option maxRecDepth 100000 in
set_option maxHeartbeats 4000000 in
theorem rmay14_any (v : Value) (zs : List Int) (n : Int) (r : Bool) (w : World) (hv : IsInts w v zs) (hr : r = true ↔ May14 zs n) (hz : zs.length ≤ 1000000000) :
    Calls Tryz.prog 14 #[v, .int .i64 n] w fun e w' => e = .returned (.bool r) ∧ Below w.heap.size w w' := by
  have HR := Lib.hid hr
  have HRF : Hid (∀ W : World, w.heap.size = W.heap.size → w.os = W.os → W = W) := Lib.hid (fun _ _ _ => rfl)
  have hv0 := hv
  obtain ⟨ad, cap, rfl, _⟩ := hv0
  have HV := Lib.hid hv
  clear hr hv
  by_cases h0 : zs.length = 0
  · obtain rfl : r = false := by rw [Bool.eq_false_iff, Ne, HR.out]; exact fun h => by have := h.2.2.1; omega
    have h0b : ((zs.length : Int) == 0) = true := by rw [beq_iff_eq]; omega
    clear h0
    go_enter Tryz.func14, Tryz.ntmps14
    go_wp2_with fail
    go_ret
    exact ⟨rfl, Below.refl _ _⟩
  have h0b : ((zs.length : Int) == 0) = false := by rw [beq_eq_false_iff_ne]; omega
  by_cases hs : 3 ≤ n ∧ n ≤ 258
  · by_cases ho : Syms zs n
    · have HSZ := Lib.hid (fun W => rSize_any n true W ⟨fun _ => hs, fun _ => rfl⟩)
      have HOF := Lib.hid (fun W (hW : IsInts W (.slice ad zs.length cap) zs) => rOf_any (.slice ad zs.length cap) zs n true W hW (by omega) ⟨fun _ => ho, fun _ => rfl⟩)
      have HH : Hid (r = true ↔ ∀ i, i < zs.length → (zs.getD i 0 = n - 1 ↔ i + 1 = zs.length)) := Lib.hid (HR.out.trans ⟨fun h => h.2.2.2.2, fun h => ⟨hs.1, hs.2, by omega, ho, h⟩⟩)
      have hn1 := hs.1
      have hn2 := hs.2
      obtain ⟨L, hL⟩ : ∃ L, zs.length = L := ⟨_, rfl⟩
      have HL := Lib.hid hL
      rw [hL] at HV HOF hz h0b ⊢
      clear h0 HR hs ho hL
      go_enter Tryz.func14, Tryz.ntmps14
      go_wp2_with fail
      refine (HSZ.out _).mono ?_
      rintro e w1 ⟨rfl, rfl⟩
      go_wp2_with fail
      refine (HOF.out _ HV.out).mono ?_
      rintro e w2 ⟨rfl, rfl⟩
      go_wp2_with fail
      go_loopw [23] (fun i wr => ∃ k : Nat, k ≤ L ∧ i = .int .i64 (k : Int) ∧ Below w.heap.size w wr ∧ ∀ j, j < k → (zs.getD j 0 = n - 1 ↔ j + 1 = L)) (fun i _ => L - (intOf i).toNat)
      case atStart => exact ⟨0, by omega, rfl, Below.refl _ _, fun j hj => by omega⟩
      case round =>
        obtain ⟨k, hk, rfl, hB, hA⟩ := hrel
        have HA := Lib.hid hA
        have HB := Lib.hid hB
        have hVr := HV.out.below hB
        clear hA hB
        by_cases hlk : k < L
        · have hki : (k : Int) < (L : Int) := by omega
          obtain ⟨b1, o1, k1, he1, c1⟩ := hVr.cell (show k < zs.length by rw [HL.out]; exact hlk)
          rw [HL.out] at he1
          simp only [Value.slice.injEq] at he1
          obtain ⟨rfl, _, rfl⟩ := he1
          obtain ⟨x, hx⟩ : ∃ x, zs.getD k 0 = x := ⟨_, rfl⟩
          rw [hx] at c1
          have HX := Lib.hid hx
          clear hx hVr
          by_cases hx1 : x = n - 1
          · have hxb : (x == n - 1) = true := by rw [beq_iff_eq]; exact hx1
            by_cases hk1 : k + 1 = L
            · have hkb : ((k : Int) == (L : Int) - 1) = true := by rw [beq_iff_eq]; omega
              have HN : Hid (∀ j, j < k + 1 → (zs.getD j 0 = n - 1 ↔ j + 1 = L)) := Lib.hid (fun j hj => by
                by_cases e : j = k
                · rw [e, HX.out]; exact ⟨fun _ => hk1, fun _ => hx1⟩
                · exact HA.out j (by omega))
              clear hx1
              go_wp2_with fail
              go_roundw
              case rel => exact ⟨k + 1, by omega, by go_num, HB.out, HN.out⟩
              case measure => simp [intOf]; omega
            · have hkb : ((k : Int) == (L : Int) - 1) = false := by rw [beq_eq_false_iff_ne]; omega
              obtain rfl : r = false := by
                rw [Bool.eq_false_iff, Ne, HH.out]
                intro h
                exact hk1 (by rw [← HL.out]; exact (h k (by rw [HL.out]; exact hlk)).1 (by rw [HX.out]; exact hx1))
              clear hx1
              go_wp2_with fail
              go_ret
              exact ⟨rfl, HB.out⟩
          · have hxb : (x == n - 1) = false := by rw [beq_eq_false_iff_ne]; exact hx1
            by_cases hk1 : k + 1 = L
            · have hkb : ((k : Int) == (L : Int) - 1) = true := by rw [beq_iff_eq]; omega
              obtain rfl : r = false := by
                rw [Bool.eq_false_iff, Ne, HH.out]
                intro h
                exact hx1 (by rw [← HX.out]; exact (h k (by rw [HL.out]; exact hlk)).2 (by rw [HL.out]; exact hk1))
              clear hx1
              go_wp2_with fail
              go_ret
              exact ⟨rfl, HB.out⟩
            · have hkb : ((k : Int) == (L : Int) - 1) = false := by rw [beq_eq_false_iff_ne]; omega
              have HN : Hid (∀ j, j < k + 1 → (zs.getD j 0 = n - 1 ↔ j + 1 = L)) := Lib.hid (fun j hj => by
                by_cases e : j = k
                · rw [e, HX.out]; exact ⟨fun h => absurd h hx1, fun h => absurd h hk1⟩
                · exact HA.out j (by omega))
              clear hx1
              go_wp2_with fail
              go_roundw
              case rel => exact ⟨k + 1, by omega, by go_num, HB.out, HN.out⟩
              case measure => simp [intOf]; omega
        · have hki : ¬ (k : Int) < (L : Int) := by omega
          obtain rfl : r = true := HH.out.2 (fun i hi => by rw [HL.out] at hi ⊢; exact HA.out i (by omega))
          go_wp2_with fail
          go_ret
          exact ⟨rfl, HB.out⟩
    · obtain rfl : r = false := by rw [Bool.eq_false_iff, Ne, HR.out]; exact fun h => ho h.2.2.2.1
      have HSZ := Lib.hid (fun W => rSize_any n true W ⟨fun _ => hs, fun _ => rfl⟩)
      have HOF := Lib.hid (fun W (hW : IsInts W (.slice ad zs.length cap) zs) => rOf_any (.slice ad zs.length cap) zs n false W hW (by omega) ⟨fun e => (by cases e), fun h => absurd h ho⟩)
      clear h0 hs ho
      go_enter Tryz.func14, Tryz.ntmps14
      go_wp2_with fail
      refine (HSZ.out _).mono ?_
      rintro e w1 ⟨rfl, rfl⟩
      go_wp2_with fail
      refine (HOF.out _ HV.out).mono ?_
      rintro e w2 ⟨rfl, rfl⟩
      go_wp2_with fail
      go_ret
      exact ⟨rfl, Below.refl _ _⟩
  · obtain rfl : r = false := by rw [Bool.eq_false_iff, Ne, HR.out]; exact fun h => hs ⟨h.1, h.2.1⟩
    have HSZ := Lib.hid (fun W => rSize_any n false W ⟨fun e => (by cases e), fun h => absurd h hs⟩)
    clear h0 hs
    go_enter Tryz.func14, Tryz.ntmps14
    go_wp2_with fail
    refine (HSZ.out _).mono ?_
    rintro e w1 ⟨rfl, rfl⟩
    go_wp2_with fail
    go_ret
    exact ⟨rfl, Below.refl _ _⟩
end Go.Proofs.YtehmmogdboaofaaGreatDoor
namespace Go.Proofs.YtehmmogdboaofaaGreatDoor
open Go.RowKit BitM HufM CanM CodM TabM FreqM
set_option linter.unusedVariables false
set_option maxRecDepth 100000 in
set_option maxHeartbeats 4000000 in
theorem codeBack.far (l : Option Addr) (llen lcap : Nat) (zs : List Int) (n : Int) (s : ByteArray) (w : World) (hB : Bnds w) (hI : IsInts w (.slice l llen lcap) zs) (hlen : zs.length = llen) (hs : s.size ≤ maxLen) (h : 700 < llen ∨ 100 < s.size ∨ ¬ May14 zs n) :
    Calls Tryz.prog 6 #[.slice l llen lcap, .int .i64 n, .string s] w fun e w' => e = .returned (.bool true) ∧ Below w.heap.size w w' := by
  have HBN := Lib.hid hB
  have H2 := Lib.hid (fun W (h : Bnds W) => codTwo_any W h)
  unfold maxLen at hs
  by_cases h0 : 700 < llen
  · have h0i : (700 : Int) < (llen : Int) := by omega
    clear h hI hB
    go_enter Tryz.func6, Tryz.ntmps6
    go_wp2_with fail
    refine (H2.out _ HBN.out).mono ?_
    rintro e w9 ⟨rfl, hb9⟩
    have HB9 := Lib.hid hb9
    clear hb9
    go_wp2_with fail
    go_ret
    exact ⟨rfl, HB9.out⟩
  have h0i : ¬ (700 : Int) < (llen : Int) := by omega
  by_cases h1 : 100 < s.size
  · have h1i : (100 : Int) < (s.size : Int) := by omega
    clear h hI hB
    go_enter Tryz.func6, Tryz.ntmps6
    go_wp2_with fail
    refine (H2.out _ HBN.out).mono ?_
    rintro e w9 ⟨rfl, hb9⟩
    have HB9 := Lib.hid hb9
    clear hb9
    go_wp2_with fail
    go_ret
    exact ⟨rfl, HB9.out⟩
  · have h1i : ¬ (100 : Int) < (s.size : Int) := by omega
    have HM := Lib.hid (rmay14_any _ zs n false w hI ⟨fun e => (by cases e), fun e => absurd e ((h.resolve_left h0).resolve_left h1)⟩ (by omega))
    clear h hI hB
    go_enter Tryz.func6, Tryz.ntmps6
    go_wp2_with fail
    refine HM.out.mono ?_
    rintro e w1 ⟨rfl, hb1⟩
    have HB1 := Lib.hid hb1
    clear hb1
    go_wp2_with fail
    refine (H2.out _ (HBN.out.below HB1.out)).mono ?_
    rintro e w9 ⟨rfl, hb9⟩
    have HB9 := Lib.hid (HB1.out.trans (hb9.mono HB1.out.size))
    clear hb9
    go_wp2_with fail
    go_ret
    exact ⟨rfl, HB9.out⟩
set_option maxRecDepth 100000 in
set_option maxHeartbeats 8000000 in
theorem codeBack.good (l : Option Addr) (llen lcap : Nat) (zs : List Int) (N : Nat) (s : ByteArray) (w : World) (hB : Bnds w) (hI : IsInts w (.slice l llen lcap) zs) (hlen : zs.length = llen) (hc : llen ≤ lcap) (hc2 : lcap ≤ 9223372036854775807) (hl3 : llen ≤ 700) (hs : s.size ≤ 100) (hmay : May14 zs (N : Int)) :
    Calls Tryz.prog 6 #[.slice l llen lcap, .int .i64 (N : Int), .string s] w fun e w' => e = .returned (.bool true) ∧ Below w.heap.size w w' := by
  have HBN := Lib.hid hB
  have H2 := Lib.hid (fun W (h : Bnds W) => codTwo_any W h)
  have HI := Lib.hid hI
  have HMB := Lib.hid hmay
  have HLEN := Lib.hid hlen
  have h0i : ¬ (700 : Int) < (llen : Int) := by omega
  have h1i : ¬ (100 : Int) < (s.size : Int) := by omega
  have h1l : 1 ≤ llen := by have := hmay.2.2.1; omega
  have h3 : 3 ≤ N := by have := hmay.1; omega
  have h258 : N ≤ 258 := by have := hmay.2.1; omega
  have hLb := hmay.len (by omega)
  have HRD := Lib.hid (fun q most => hmay.rd (by omega) q most)
  have HIB : Hid (∀ k, (Value.slice l llen lcap).ownBlock = some k → k < w.heap.size) := Lib.hid (fun k hk => by
    obtain ⟨a2, c2, e2, hcell⟩ := hI
    simp only [Value.slice.injEq] at e2
    obtain ⟨rfl, _, rfl⟩ := e2
    obtain ⟨b3, o3, rfl, h4⟩ := hcell 0 (zs[0]'(by omega)) (List.getElem?_eq_getElem _)
    have : k = b3 := (Option.some.inj hk).symm
    subst this
    exact cell_lt h4)
  have HWR := Lib.hid (fun (g : Nat) (v : Value) (W : World) (h1 : IsWriter W g v [] 0) (h2 : IsInts W (.slice l llen lcap) zs) (h3 : Bnds W) (h4 : ∀ k, (Value.slice l llen lcap).ownBlock = some k → ¬ foot g v k) => cwrite_any g v [] 0 l llen lcap zs N W h1 h2 hlen (by omega) hc hc2 h3 hmay h4 (by simp))
  obtain ⟨Q, hQ⟩ : ∃ Q, allC (rnd zs N 4) (pks zs N) zs = Q := ⟨_, rfl⟩
  obtain ⟨L, hL⟩ : ∃ L, Q.length = L := ⟨_, rfl⟩
  have HL := Lib.hid hL
  rw [hQ] at HRD HWR hLb
  rw [hL] at HRD hLb
  have hTS : (⟨(byts (Q ++ padding Q)).toArray⟩ : ByteArray).size ≤ 40000 := by
    show (byts (Q ++ padding Q)).length ≤ _
    obtain ⟨n, hn1, hn2⟩ := pad_bytes Q
    rw [byts_length]
    omega
  have HTB := Lib.hid (taken_bits Q s)
  obtain ⟨T, hT⟩ : ∃ T : ByteArray, (⟨(byts (Q ++ padding Q)).toArray⟩ : ByteArray) = T := ⟨_, rfl⟩
  have HT := Lib.hid hT
  rw [hT] at hTS HTB
  have hcs : (T ++ s).size = T.size + s.size := by
    show (T ++ s).data.size = _
    rw [ByteArray.data_append, Array.size_append]
    rfl
  have HCS := Lib.hid hcs
  have hm1 : (llen : Int) - 1 = ((llen - 1 : Nat) : Int) := by omega
  have HM1 := Lib.hid hm1
  clear hI hB hmay hlen hQ hL hT hcs hm1
  go_enter Tryz.func6, Tryz.ntmps6
  go_wp2_with fail
  refine (rmay14_any _ zs (N : Int) true w HI.out ⟨fun _ => HMB.out, fun _ => rfl⟩ (by have := HLEN.out; omega)).mono ?_
  rintro e w1 ⟨rfl, hb1⟩
  have HB1 := Lib.hid hb1
  clear hb1
  go_wp2_with fail
  refine (newWriter_any w1).mono ?_
  rintro e w2 ⟨rfl, hw2, hb2⟩
  have HW2 := Lib.hid hw2
  have HB2 := Lib.hid (HB1.out.trans (hb2.mono HB1.out.size))
  have HG2 : Hid (w.heap.size ≤ w1.heap.size) := Lib.hid HB1.out.size
  clear hw2 hb2
  go_wp2_with fail
  refine (HWR.out _ _ w2 HW2.out (HI.out.below HB2.out) (HBN.out.below HB2.out) (fun k hk hf => by
    have h1 := HIB.out k hk
    have h2 := (HW2.out.lt k hf).2
    have h3 := HG2.out
    omega)).mono ?_
  rintro e w4 ⟨rfl, v4, hw4, ht4, _⟩
  rw [List.nil_append] at hw4
  have HW4 := Lib.hid hw4
  have HB4 := Lib.hid (HB2.out.trans (ht4.below HB2.out.size (fun i hi => Nat.le_trans HG2.out (HW2.out.lt i hi).2)))
  clear hw4 ht4
  go_wp2_with fail
  refine (wlen_any _ v4 Q 0 w4 HW4.out).mono ?_
  rintro e w5 ⟨rfl, rfl⟩
  rw [HL.out]
  go_wp2_with fail
  refine (wpad_any _ v4 Q 0 _ HW4.out (by have := HL.out; omega)).mono ?_
  rintro e w8 ⟨rfl, v8, h8a, h8b, h8c⟩
  have HW8 := Lib.hid h8a
  have HB8 := Lib.hid (HB4.out.trans (h8b.below HB4.out.size (fun i hi => Nat.le_trans HG2.out (HW4.out.lt i hi).2)))
  clear h8a h8b h8c
  go_wp2_with fail
  refine (wtake_any _ v8 _ 0 w8 HW8.out).mono ?_
  rintro e w9 ⟨rfl, _, h9b⟩
  have HB9 := Lib.hid (HB8.out.trans (h9b.below HB8.out.size (fun i hi => Nat.le_trans HG2.out (HW8.out.lt i hi).2)))
  rw [List.drop_zero, HT.out]
  clear h9b
  go_wp2_with fail
  refine (newReader_any _ w9 (by rw [HCS.out]; unfold maxLen; omega)).mono ?_
  rintro e w10 ⟨b, v10, rfl, hr10, hb10, hf10⟩
  have HR10 := Lib.hid hr10
  have HB10 := Lib.hid (HB9.out.trans (hb10.mono HB9.out.size))
  have HF10 := Lib.hid (hf10 b (Or.inl rfl))
  have HS9 := Lib.hid HB9.out.size
  have HLL : Hid ((T ++ s).data.toList.length = T.size + s.size) := Lib.hid HCS.out
  clear hr10 hb10 hf10
  go_wp2_with fail
  refine (cread_any b N llen v10 _ 0 0 0 w10 HR10.out (by have := HLL.out; omega) h3 h258 (by have := HLL.out; omega)).mono ?_
  rintro e w11 ⟨u, ls, er, k, rfl, hi11, hp11, hr11, ht11⟩
  have hp12 : RdP14 (bitsOf (T ++ s).data.toList) N llen ls er k := hp11
  unfold RdP14 at hp12
  rw [HTB.out, HRD.out, if_pos (by have := HLEN.out; omega)] at hp12
  obtain ⟨rfl, rfl, rfl⟩ : ls = zs ∧ er = 0 ∧ k = L := hp12
  have HI11 := Lib.hid hi11
  have hz0 : 0 + k = k := Nat.zero_add k
  rw [hz0] at hr11
  have HR11 := Lib.hid hr11
  have HB11 := Lib.hid (HB10.out.trans (ht11.below HB10.out.size (fun i hi => by have h1 := HF10.out; have h2 : i = b := hi; have h3 := HS9.out; omega)))
  clear hp11 hr11 ht11 hi11 hz0
  go_wp2_with fail
  refine (ints_any _ _ ls ls true _ (HI.out.below HB11.out) HI11.out ⟨fun _ => rfl, fun _ => rfl⟩ (by have := HLEN.out; omega) (by have := HLEN.out; omega)).mono ?_
  rintro e w12 ⟨rfl, m12, hw12⟩
  have HR12 : Hid (IsReader w12 b v10 (T ++ s).data.toList 0 0 k) := Lib.hid (by rw [hw12]; exact HR11.out.drewN m12)
  have HB12 : Hid (Below w.heap.size w w12) := Lib.hid (by rw [hw12]; exact HB11.out.trans ⟨rfl, rfl, rfl, Nat.le_refl _, fun _ _ => rfl⟩)
  clear hw12
  go_wp2_with fail
  refine (rat_any b v10 _ 0 0 k w12 HR12.out).mono ?_
  rintro e w13 ⟨rfl, rfl⟩
  go_wp2_with fail
  refine (seek_yes b v10 _ 0 0 k 0 _ HR12.out (by have := HLL.out; omega) (by omega) (by omega)).mono ?_
  rintro e w14 ⟨rfl, hr14, ht14⟩
  have HR14 := Lib.hid hr14
  have HB14 := Lib.hid (HB12.out.trans (ht14.below HB12.out.size (fun i hi => by have h1 := HF10.out; have h2 : i = b := hi; have h3 := HS9.out; omega)))
  clear hr14 ht14
  have HRE := Lib.hid (cread_any b N (llen - 1) v10 _ 0 0 0 w14 HR14.out (by have := HLL.out; omega) h3 h258 (by have := HLL.out; omega))
  rw [← HM1.out] at HRE
  go_wp2_with fail
  refine HRE.out.mono ?_
  rintro e w15 ⟨u2, ls2, er2, k2, rfl, hi15, hp15, hr15, ht15⟩
  have hp16 : RdP14 (bitsOf (T ++ s).data.toList) N (llen - 1) ls2 er2 k2 := hp15
  unfold RdP14 at hp16
  rw [HTB.out, HRD.out, if_neg (by have := HLEN.out; omega)] at hp16
  obtain ⟨rfl, rfl, rfl⟩ : ls2 = [] ∧ er2 = 2 ∧ k2 = 0 := hp16
  have HR15 : Hid (IsReader w15 b v10 (T ++ s).data.toList 0 0 0) := Lib.hid hr15
  have HB15 := Lib.hid (HB14.out.trans (ht15.below HB14.out.size (fun i hi => by have h1 := HF10.out; have h2 : i = b := hi; have h3 := HS9.out; omega)))
  clear hp15 hr15 ht15 hi15
  go_wp2_with fail
  refine (rat_any b v10 _ 0 0 0 w15 HR15.out).mono ?_
  rintro e w16 ⟨rfl, rfl⟩
  go_wp2_with fail
  refine (H2.out _ (HBN.out.below HB15.out)).mono ?_
  rintro e w17 ⟨rfl, hb17⟩
  have HB17 := Lib.hid (HB15.out.trans (hb17.mono HB15.out.size))
  clear hb17
  go_wp2_with fail
  go_ret
  exact ⟨rfl, HB17.out⟩
theorem codeBack.walk (l : Option Addr) (llen lcap : Nat) (lz : List Int) (n : Int) (s : ByteArray) (w : World) (hB : Bnds w) (hl : IsRow .i64 w l llen lcap lz) (hn : (Lit.int .i64 n).wf = true) (hs : s.size ≤ maxLen) :
    Calls Tryz.prog 6 #[.slice l llen lcap, .int .i64 n, .string s] w fun e w' => e = .returned (.bool true) ∧ Below w.heap.size w w' := by
  obtain ⟨hI, hlen⟩ := ints_in hl
  obtain ⟨hl1, hl2⟩ := isRow_len hl
  generalize List.take llen lz = zs at *
  by_cases h : 700 < llen ∨ 100 < s.size ∨ ¬ May14 zs n
  · exact codeBack.far l llen lcap zs n s w hB hI hlen hs h
  · have hm : May14 zs n := Classical.not_not.1 (fun e => h (Or.inr (Or.inr e)))
    obtain ⟨N, rfl⟩ : ∃ N : Nat, n = (N : Int) := ⟨n.toNat, by have := hm.1; omega⟩
    exact codeBack.good l llen lcap zs N s w hB hI hlen (by omega) (by omega) (by omega) (by omega) hm
end Go.Proofs.YtehmmogdboaofaaGreatDoor
namespace Go.Proofs.YtehmmogdboaofaaGreatDoor
open Go.RowKit UsedM MtfM
set_option linter.unusedVariables false
set_option maxHeartbeats 1000000 in
theorem place_any (s : ByteArray) (c : UInt8) (w : World) (hs : s.size ≤ 9223372036854775807) :
    Calls Tryz.prog 77 #[.string s, .int .u8 (c.toNat : Int)] w fun e w' => e = .returned (.int .i64 (Lib.indexByte s.data.toList c)) ∧ w = w' := by
  have hsl : s.data.toList.length = s.size := rfl
  have hcl := c.toNat_lt
  go_enter Tryz.func77, Tryz.ntmps77
  go_wp2_with fail
  go_loop [5] (fun i => ∃ k : Nat, k ≤ s.size ∧ i = .int .i64 k ∧ ∀ j, j < k → s.data.toList[j]? ≠ some c) (fun i => s.size - (intOf i).toNat)
  case atStart => exact ⟨0, by omega, rfl, fun j hj => by omega⟩
  case round =>
    obtain ⟨k, hk, rfl, hn⟩ := hrel
    have HN := Lib.hid hn
    clear hn
    by_cases hlt : k < s.size
    · have hki : (k : Int) < (s.size : Int) := by omega
      have hx := s[k].toNat_lt
      have HG := Lib.hid (show s.data.toList[k]? = some s[k] from List.getElem?_eq_getElem (l := s.data.toList) (by simpa using hlt))
      by_cases he : s[k] = c
      · have hp := place_is (l := s.data.toList) (c := c) (k := k) (by rw [HG.out, he]) HN.out
        have hd : ((s[k].toNat : Int) == (c.toNat : Int)) = true := by rw [he]; exact beq_self_eq_true _
        have HP := Lib.hid hp
        clear he hp
        go_wp2_with fail
        go_ret
        exact ⟨by rw [HP.out]; rfl, rfl⟩
      · have hd : ((s[k].toNat : Int) == (c.toNat : Int)) = false := by
          rw [beq_eq_false_iff_ne]
          intro h
          exact he (UInt8.toNat_inj.1 (by omega))
        have HNE := Lib.hid he
        clear he
        go_wp2_with fail
        go_round
        case rel => exact ⟨k + 1, by omega, by go_num, fun j hj => by
          by_cases e : j = k
          · subst e
            rw [HG.out]
            intro h
            exact HNE.out (by simpa using h)
          · exact HN.out j (by omega)⟩
        case measure => simp [intOf]; omega
    · obtain rfl : k = s.size := by omega
      have hp := place_not (l := s.data.toList) (c := c) (fun j hj => HN.out j (by omega))
      have HP := Lib.hid hp
      clear hp
      go_wp2_with fail
      go_ret
      exact ⟨by rw [HP.out]; rfl, rfl⟩
theorem touch_text (m : List UInt8) (i : Nat) (h : i < m.length) :
    ((⟨m.toArray⟩ : ByteArray).extract i (i + 1) ++ (⟨m.toArray⟩ : ByteArray).extract 0 i) ++ (⟨m.toArray⟩ : ByteArray).extract (i + 1) m.length = ⟨(touch m i).toArray⟩ := by
  apply ByteArray.ext
  apply Array.toList_inj.1
  unfold touch
  simp only [ByteArray.data_append, ByteArray.data_extract, Array.toList_append, List.extract_toArray, List.extract_eq_take_drop]
  simp only [Nat.add_sub_cancel_left, Nat.sub_zero, List.drop_zero]
  rw [List.take_of_length_le (l := m.drop (i + 1)) (by rw [List.length_drop]; exact Nat.le_refl _)]
set_option maxHeartbeats 1000000 in
theorem rtouch_any (m : List UInt8) (i : Nat) (w : World) (hi : i < m.length) (hm : m.length ≤ 256) :
    Calls Tryz.prog 78 #[.string ⟨m.toArray⟩, .int .i64 (i : Int)] w fun e w' => e = .returned (.string ⟨(touch m i).toArray⟩) ∧ ∃ n, w' = w.drewN n := by
  have HT := touch_text m i hi
  have hsz : (⟨m.toArray⟩ : ByteArray).size = m.length := text_size m
  obtain ⟨L, hL⟩ : ∃ L, m.length = L := ⟨_, rfl⟩
  rw [hL] at HT hsz hi hm
  generalize (⟨m.toArray⟩ : ByteArray) = T at *
  obtain ⟨j, hj⟩ : ∃ j, i + 1 = j := ⟨_, rfl⟩
  rw [hj] at HT
  have z1 : (T.extract i j).size = 1 := by rw [ByteArray.size_extract]; omega
  have z2 : (T.extract 0 i).size = i := by rw [ByteArray.size_extract]; omega
  have z3 : (T.extract j L).size = L - j := by rw [ByteArray.size_extract]; omega
  have z4 : (T.extract i j ++ T.extract 0 i).size = j := by rw [ByteArray.size_append]; omega
  have hji : (i : Int) + 1 = (j : Int) := by omega
  have hjw : IntKind.i64.wrap (j : Int) = (j : Int) := IntWalk.i64_in _ (by omega)
  have b1 : (0 : Int) ≤ (i : Int) := by omega
  have b2 : (i : Int) ≤ (j : Int) := by omega
  have b3 : (j : Int) ≤ (L : Int) := by omega
  have b4 : (i : Int) ≤ (L : Int) := by omega
  have b5 : (0 : Int) ≤ (j : Int) := by omega
  have b6 : (L : Int) ≤ 256 := by omega
  have hc1 : ∀ W, (Op.stringOp .add (T.extract i j) (T.extract 0 i)).run Tryz.prog W = .ok (.string (T.extract i j ++ T.extract 0 i)) W := fun W => by
    rw [run_string_add_if, if_neg (by omega)]
  have hc2 : ∀ W, (Op.stringOp .add (T.extract i j ++ T.extract 0 i) (T.extract j L)).run Tryz.prog W = .ok (.string ((T.extract i j ++ T.extract 0 i) ++ T.extract j L)) W := fun W => by
    rw [run_string_add_if, if_neg (by omega)]
  have HTT := Lib.hid HT
  clear HT z1 z2 z3 z4 hL
  go_enter Tryz.func78, Tryz.ntmps78
  go_wp2_with fail
  go_quiet (fail)
  go_wp2_with fail
  go_ret
  rw [HTT.out]
  exact ⟨rfl, _, rfl⟩
end Go.Proofs.YtehmmogdboaofaaGreatDoor
namespace Go.Proofs.YtehmmogdboaofaaGreatDoor
open Go.RowKit PkM BitM
set_option linter.unusedVariables false
set_option maxRecDepth 100000 in
theorem let_ix (p : Nat) (hp : p < 6) (W : World) : (Instr.index 9 (.string ⟨#[48, 49, 50, 51, 52, 53]⟩) (.int .i64 (p : Int))).run Tryz.prog W = .ok (.int .u8 ((48 + p : Nat) : Int)) W := by
  rw [run_index_string W 9 _ .i64 (p : Int) Tryz.underlying9]
  rcases (by omega : p = 0 ∨ p = 1 ∨ p = 2 ∨ p = 3 ∨ p = 4 ∨ p = 5) with rfl | rfl | rfl | rfl | rfl | rfl <;> rfl
theorem ones_cut (I : Nat) (hI : I < 6) : (⟨#[49, 49, 49, 49, 49, 49]⟩ : ByteArray).extract 0 I = txt (List.replicate I true) := by
  rcases (by omega : I = 0 ∨ I = 1 ∨ I = 2 ∨ I = 3 ∨ I = 4 ∨ I = 5) with rfl | rfl | rfl | rfl | rfl | rfl <;> rfl
theorem let_nat (p : Nat) (hp : p < 6) : (UInt8.ofNat (48 + p)).toNat = 48 + p := by
  rcases (by omega : p = 0 ∨ p = 1 ∨ p = 2 ∨ p = 3 ∨ p = 4 ∨ p = 5) with rfl | rfl | rfl | rfl | rfl | rfl <;> rfl
theorem lets_text (o : List Nat) : (⟨(lets o).toArray⟩ : ByteArray).data.toList = lets o := rfl
set_option maxRecDepth 100000 in
set_option maxHeartbeats 4000000 in
theorem rbits13_any (l : Value) (ps : List Nat) (t : Nat) (w : World) (hv : IsInts w l (toI ps)) (hm : May ps t) :
    Calls Tryz.prog 46 #[l, .int .i64 (t : Int)] w fun e w' => e = .returned (.string (txt (allB ps t))) ∧ ∃ m, w' = w.drewN m := by
  have HV := Lib.hid hv
  have HM := Lib.hid hm
  have hlz := toI_length ps
  have hn1 := hm.2.2.1
  have hn2 := hm.2.2.2.1
  have ht2 := hm.1
  have ht6 := hm.2.1
  obtain ⟨ad, cap, rfl, _⟩ := hv
  obtain ⟨N, hN⟩ : ∃ N, ps.length = N := ⟨_, rfl⟩
  rw [hlz] at HV ⊢
  rw [hN] at hn1 hn2 hlz HV ⊢
  have HZ := Lib.hid hlz
  have HN := Lib.hid hN
  have HALL : Hid (allB ps t = field t 3 ++ field N 15 ++ encK ps N) := Lib.hid (by unfold allB; rw [hN, encK_all ps N (by omega)])
  have hc1 : IntKind.u32.wrap (t : Int) = (t : Int) := by simp [IntKind.wrap, IntKind.bits, IntKind.signed]; omega
  have hc2 : IntKind.u32.wrap (N : Int) = (N : Int) := by simp [IntKind.wrap, IntKind.bits, IntKind.signed]; omega
  have HF1 := Lib.hid (fun W => fieldTxt_any t 3 W (by omega) (by omega))
  have HF2 := Lib.hid (fun W => fieldTxt_any N 15 W (by omega) (by omega))
  have hs1 : (txt (field t 3)).size = 3 := by rw [txt_size, field_length]
  have hs2 : (txt (field N 15)).size = 15 := by rw [txt_size, field_length]
  have HTT : Hid (txt (field t 3) ++ txt (field N 15) = txt (field t 3 ++ field N 15)) := Lib.hid (txt_append _ _)
  obtain ⟨Q0, hQ0⟩ : ∃ Q0, field t 3 ++ field N 15 = Q0 := ⟨_, rfl⟩
  have HQ0l : Hid (Q0.length = 18) := Lib.hid (by rw [← hQ0, List.length_append, field_length, field_length])
  rw [hQ0] at HTT HALL
  clear hm hlz hN hQ0
  generalize txt (field t 3) = S1 at *
  generalize txt (field N 15) = S2 at *
  go_enter Tryz.func46, Tryz.ntmps46
  go_wp2_with fail
  refine (HF1.out _).mono ?_
  rintro e w1 ⟨rfl, rfl⟩
  go_wp2_with fail
  refine (HF2.out _).mono ?_
  rintro e w2 ⟨rfl, rfl⟩
  go_wp2_with fail
  rw [HTT.out]
  clear hs1 hs2 HTT HF1 HF2
  go_loopw [5, 6, 20] (fun vout vord vk wr => ∃ k m : Nat, vk = .int .i64 (k : Int) ∧ k ≤ N ∧ vout = .string (txt (Q0 ++ encK ps k)) ∧ vord = .string ⟨(lets (ordK ps k)).toArray⟩ ∧ wr = w.drewN m) (fun _ _ vk _ => N - (intOf vk).toNat)
  case atStart => exact ⟨0, 0, rfl, by omega, by rw [show encK ps 0 = [] from rfl, List.append_nil], rfl, rfl⟩
  case round =>
    obtain ⟨k, m, rfl, hk, rfl, rfl, rfl⟩ := hrel
    have hkl := encK_len ps HM.out.2.1 HM.out.2.2.2.2 k (by rw [HN.out]; exact hk)
    by_cases hlk : k < N
    · have hki : (k : Int) < (N : Int) := by omega
      have hkp : k < ps.length := by rw [HN.out]; exact hlk
      obtain ⟨b1, o1, k1, he1, c1⟩ := HV.out.cell (k := k) (by rw [HZ.out]; exact hlk)
      rw [HZ.out] at he1
      simp only [Value.slice.injEq] at he1
      obtain ⟨rfl, _, rfl⟩ := he1
      rw [toI_getD] at c1
      have c2 : (w.drewN m).cell? ⟨b1, o1 + k, none⟩ = some (.int .i64 ((ps.getD k 0 : Nat) : Int)) := c1
      have hpm : ps.getD k 0 < t := by
        rw [List.getD_eq_getElem?_getD, List.getElem?_eq_getElem hkp]
        exact HM.out.2.2.2.2 _ (List.getElem_mem _)
      have hO := ordK_ord ps HM.out.2.1 HM.out.2.2.2.2 k (by omega)
      have hpo : ps.getD k 0 ∈ ordK ps k := List.mem_of_mem_take ((hO.1.2 _).1 hpm)
      have hIl := (hO.1.place HM.out.2.1 hpm).1
      have hol := lets_length (ordK ps k)
      rw [hO.1.1] at hol
      have hPL := fun W => place_any ⟨(lets (ordK ps k)).toArray⟩ (UInt8.ofNat (48 + ps.getD k 0)) W (by rw [text_size, hol]; omega)
      rw [lets_text, lets_place hO.2 hpo, let_nat _ (by omega)] at hPL
      have hTC := fun W => rtouch_any (lets (ordK ps k)) ((ordK ps k).idxOf (ps.getD k 0)) W (by rw [hol]; omega) (by rw [hol]; omega)
      rw [lets_tch, ← ordK_next ps hkp] at hTC
      have HEN := Lib.hid (encK_next ps hkp)
      have hix := fun W => let_ix (ps.getD k 0) (by omega) W
      obtain ⟨I, hI⟩ : ∃ I, (ordK ps k).idxOf (ps.getD k 0) = I := ⟨_, rfl⟩
      rw [hI] at HEN hPL hTC hIl
      obtain ⟨x, hx⟩ : ∃ x, ps.getD k 0 = x := ⟨_, rfl⟩
      rw [hx] at c2 hPL hix
      obtain ⟨C, hC⟩ : ∃ C, 48 + x = C := ⟨_, rfl⟩
      rw [hC] at hPL hix
      have HPL := Lib.hid hPL
      have HTC := Lib.hid hTC
      have hI0 : (0 : Int) ≤ (I : Int) := by omega
      have hI6 : (I : Int) ≤ 6 := by omega
      have hcut := ones_cut I (by omega)
      have hS : (txt (Q0 ++ encK ps k)).size ≤ 200000 := by rw [txt_size, List.length_append]; have := HQ0l.out; omega
      have hR : (txt (List.replicate I true)).size ≤ 6 := by rw [txt_size, List.length_replicate]; omega
      have HT : Hid (txt (Q0 ++ encK ps k) ++ txt (List.replicate I true) ++ ⟨#[48]⟩ = txt (Q0 ++ encK ps (k + 1))) := Lib.hid (by
        rw [HEN.out, txt_append, ← List.append_assoc Q0, ← List.append_assoc]
        exact txt_append _ [false])
      generalize txt (Q0 ++ encK ps k) = S at *
      generalize txt (List.replicate I true) = R at *
      have hSR : (S ++ R).size ≤ 200006 := by rw [ByteArray.size_append]; omega
      have hx6 : x < 6 := by omega
      clear hpm hO hpo hI hx hkp hol hPL hTC hC c1 hkl
      go_wp2_with fail
      refine (HPL.out _).mono ?_
      rintro e w3 ⟨rfl, rfl⟩
      go_wp2_with fail
      refine (HTC.out _).mono ?_
      rintro e w4 ⟨rfl, m4, rfl⟩
      go_wp2_with fail
      go_roundw
      case rel => exact ⟨k + 1, _, by go_num, by omega, by rw [← HT.out], rfl, rfl⟩
      case measure => simp [intOf]; omega
    · have hki : ¬ (k : Int) < (N : Int) := by omega
      obtain rfl : k = N := by omega
      go_wp2_with fail
      go_ret
      exact ⟨by rw [HALL.out]; rfl, m, rfl⟩
end Go.Proofs.YtehmmogdboaofaaGreatDoor
namespace Go.Proofs.YtehmmogdboaofaaGreatDoor
open Go.RowKit DelM BitM
set_option linter.unusedVariables false
/-- The first i rounds of the document's loop over a difference. -/
def mvI (a b i : Nat) : List Bool := two false (min i a) ++ two true (min i b)
theorem mvI_zero (a b : Nat) : mvI a b 0 = [] := by unfold mvI; rw [Nat.zero_min, Nat.zero_min]; rfl
theorem mvI_up {a b i : Nat} (hi : i < a) (hb : b = 0) : mvI a b (i + 1) = mvI a b i ++ [true, false] := by
  subst hb
  unfold mvI
  rw [Nat.min_zero, Nat.min_zero, Nat.min_eq_left (by omega), Nat.min_eq_left (by omega)]
  simp [two]
theorem mvI_down {a b i : Nat} (hi : i < b) (ha : a = 0) : mvI a b (i + 1) = mvI a b i ++ [true, true] := by
  subst ha
  unfold mvI
  rw [Nat.min_zero, Nat.min_zero, Nat.min_eq_left (by omega), Nat.min_eq_left (by omega)]
  simp [two]
theorem mvI_not {a b i : Nat} (ha : ¬ i < a) (hb : ¬ i < b) : mvI a b (i + 1) = mvI a b i := by
  unfold mvI
  rw [Nat.min_eq_right (by omega), Nat.min_eq_right (by omega), Nat.min_eq_right (by omega), Nat.min_eq_right (by omega)]
theorem mvI_all {p x : Int} (hp : 1 ≤ p ∧ p ≤ 20) (hx : 1 ≤ x ∧ x ≤ 20) : mvI (x - p).toNat (p - x).toNat 40 = mv p x := by
  unfold mvI mv
  rw [Nat.min_eq_right (by omega), Nat.min_eq_right (by omega)]
theorem mvI_len (a b i : Nat) (ha : a ≤ 20) (hb : b ≤ 20) : (mvI a b i).length ≤ 80 := by
  unfold mvI
  rw [List.length_append, two_length, two_length]
  omega
set_option maxRecDepth 100000 in
set_option maxHeartbeats 4000000 in
theorem rbits11_any (l : Value) (zs : List Int) (w : World) (hv : IsInts w l zs) (hm : May zs) :
    Calls Tryz.prog 47 #[l] w fun e w' => e = .returned (.string (txt (allB zs))) ∧ w' = w := by
  have HV := Lib.hid hv
  have HM := Lib.hid hm
  have h3 := hm.1
  have h258 := hm.2.1
  obtain ⟨ad, cap, rfl, _⟩ := hv
  have HL : Hid (∀ k, k ≤ zs.length → (encK zs k).length ≤ 11000) := Lib.hid (fun k hk => by have := (encK_le HM.out hk).1; omega)
  obtain ⟨N, hN⟩ : ∃ N, zs.length = N := ⟨_, rfl⟩
  have HN := Lib.hid hN
  rw [hN] at h3 h258 HV ⊢
  clear hm hN
  obtain ⟨b1, o1, k1, he1, c1⟩ := HV.out.cell (k := 0) (by rw [HN.out]; omega)
  rw [HN.out] at he1
  simp only [Value.slice.injEq] at he1
  obtain ⟨rfl, _, rfl⟩ := he1
  have hz0 := HM.out.at_ (k := 0) (by rw [HN.out]; omega)
  obtain ⟨x0, hx0⟩ : ∃ x0, zs.getD 0 0 = x0 := ⟨_, rfl⟩
  rw [hx0] at c1 hz0
  rw [Nat.add_zero] at c1
  obtain ⟨X0, rfl⟩ : ∃ X0 : Nat, x0 = (X0 : Int) := ⟨x0.toNat, by omega⟩
  have hX20 : X0 ≤ 20 := by omega
  have HALL : Hid (allB zs = field X0 5 ++ encK zs N) := Lib.hid (by unfold allB; rw [hx0, HN.out]; rfl)
  have HPRV : Hid (prv zs 0 = (X0 : Int)) := Lib.hid hx0
  have hc32 : IntKind.u32.wrap (X0 : Int) = (X0 : Int) := by simp [IntKind.wrap, IntKind.bits, IntKind.signed]; omega
  clear hx0 hz0
  have hN0 : (0 : Int) < (N : Int) := by omega
  go_enter Tryz.func47, Tryz.ntmps47
  go_wp2_with fail
  refine (fieldTxt_any X0 5 _ (by omega) (by omega)).mono ?_
  rintro e w' ⟨rfl, rfl⟩
  go_wp2_with fail
  go_loopw [3, 4, 18] (fun vo vl vk wr => ∃ k : Nat, vk = .int .i64 (k : Int) ∧ k ≤ N ∧ vl = .int .i64 (prv zs k) ∧ vo = .string (txt (field X0 5 ++ encK zs k)) ∧ wr = w) (fun _ _ vk _ => N - (intOf vk).toNat)
  case atStart => exact ⟨0, rfl, by omega, by rw [HPRV.out], by rw [show encK zs 0 = [] from rfl, List.append_nil], rfl⟩
  case round =>
    obtain ⟨k, rfl, hk, rfl, rfl, rfl⟩ := hrel
    by_cases hlk : k < N
    · have hki : (k : Int) < (N : Int) := by omega
      have hkz : k < zs.length := by rw [HN.out]; exact hlk
      obtain ⟨b1, o1, k1, he1, c1⟩ := HV.out.cell hkz
      rw [HN.out] at he1
      simp only [Value.slice.injEq] at he1
      obtain ⟨he1, _, rfl⟩ := he1
      simp only [Option.some.injEq, Addr.mk.injEq, and_true] at he1
      obtain ⟨rfl, rfl⟩ := he1
      have hzk := HM.out.at_ hkz
      have hpk := HM.out.prv (k := k) (by omega)
      have HLk := Lib.hid (HL.out k (by rw [HN.out]; omega))
      have HEN : Hid (encK zs (k + 1) = encK zs k ++ (mv (prv zs k) (zs.getD k 0) ++ [false])) := Lib.hid rfl
      have HPS : Hid (prv zs (k + 1) = zs.getD k 0) := Lib.hid rfl
      obtain ⟨x, hx⟩ : ∃ x, zs.getD k 0 = x := ⟨_, rfl⟩
      obtain ⟨p, hp⟩ : ∃ p, prv zs k = p := ⟨_, rfl⟩
      rw [hx] at c1 hzk HEN HPS
      rw [hp] at hpk HEN ⊢
      obtain ⟨Q, hQ⟩ : ∃ Q, field X0 5 ++ encK zs k = Q := ⟨_, rfl⟩
      have HQ := Lib.hid hQ
      have hQl : Q.length ≤ 20000 := by
        have := HLk.out
        rw [← hQ, List.length_append, field_length]
        omega
      rw [hQ]
      obtain ⟨A, hA⟩ : ∃ A, (x - p).toNat = A := ⟨_, rfl⟩
      obtain ⟨B, hB⟩ : ∃ B, (p - x).toNat = B := ⟨_, rfl⟩
      have hA20 : A ≤ 20 := by omega
      have hB20 : B ≤ 20 := by omega
      have HMA : Hid (mvI A B 40 = mv p x) := Lib.hid (by rw [← hA, ← hB]; exact mvI_all hpk hzk)
      have HAB : Hid ((∀ i : Nat, i < A ↔ (i : Int) < x - p) ∧ (∀ i : Nat, i < B ↔ (i : Int) < p - x) ∧ (A = 0 ∨ B = 0)) := Lib.hid ⟨fun i => by omega, fun i => by omega, by omega⟩
      clear hx hp hQ hA hB
      go_wp2_with fail
      go_loopw [3, 22] (fun vo vi wr2 => ∃ i : Nat, vi = .int .i64 (i : Int) ∧ i ≤ 40 ∧ vo = .string (txt (Q ++ mvI A B i)) ∧ wr2 = wr) (fun _ vi _ => 40 - (intOf vi).toNat)
      case atStart => exact ⟨0, rfl, by omega, by rw [mvI_zero, List.append_nil], rfl⟩
      case round =>
        obtain ⟨i, rfl, hi, rfl, rfl⟩ := hrel
        have hml := mvI_len A B i hA20 hB20
        by_cases hi40 : i < 40
        · have hi40i : (i : Int) < 40 := by omega
          have hS : (txt (Q ++ mvI A B i)).size ≤ 20080 := by rw [txt_size, List.length_append]; omega
          by_cases hu : i < A
          · have hui := (HAB.out.1 i).1 hu
            have hdi : ¬ (i : Int) < p - x := by omega
            have HT : Hid (txt (Q ++ mvI A B i) ++ ⟨#[49, 48]⟩ = txt (Q ++ mvI A B (i + 1))) := Lib.hid (by
              rw [mvI_up hu (by have := HAB.out.2.2; omega), ← List.append_assoc]
              exact txt_append _ [true, false])
            clear hu hml
            generalize txt (Q ++ mvI A B i) = S at *
            go_wp2_with fail
            go_roundw
            case rel => exact ⟨i + 1, by go_num, by omega, by rw [← HT.out], by first | rfl | trivial⟩
            case measure => simp [intOf]; omega
          · have hui : ¬ (i : Int) < x - p := fun h => hu ((HAB.out.1 i).2 h)
            by_cases hd : i < B
            · have hdi := (HAB.out.2.1 i).1 hd
              have HT : Hid (txt (Q ++ mvI A B i) ++ ⟨#[49, 49]⟩ = txt (Q ++ mvI A B (i + 1))) := Lib.hid (by
                rw [mvI_down hd (by have := HAB.out.2.2; omega), ← List.append_assoc]
                exact txt_append _ [true, true])
              clear hu hd hml
              generalize txt (Q ++ mvI A B i) = S at *
              go_wp2_with fail
              go_roundw
              case rel => exact ⟨i + 1, by go_num, by omega, by rw [← HT.out], by first | rfl | trivial⟩
              case measure => simp [intOf]; omega
            · have hdi : ¬ (i : Int) < p - x := fun h => hd ((HAB.out.2.1 i).2 h)
              have HT : Hid (txt (Q ++ mvI A B i) = txt (Q ++ mvI A B (i + 1))) := Lib.hid (by rw [mvI_not hu hd])
              clear hu hd hml
              generalize txt (Q ++ mvI A B i) = S at *
              go_wp2_with fail
              go_roundw
              case rel => exact ⟨i + 1, by go_num, by omega, by rw [← HT.out], by first | rfl | trivial⟩
              case measure => simp [intOf]; omega
        · obtain rfl : i = 40 := by omega
          have hS : (txt (Q ++ mvI A B 40)).size ≤ 20080 := by rw [txt_size, List.length_append]; omega
          have HT : Hid (txt (Q ++ mvI A B 40) ++ ⟨#[48]⟩ = txt (field X0 5 ++ encK zs (k + 1))) := Lib.hid (by
            rw [HMA.out, HEN.out, ← List.append_assoc, HQ.out, ← List.append_assoc]
            exact txt_append _ [false])
          clear hml
          generalize txt (Q ++ mvI A B 40) = S at *
          go_wp2_with fail
          go_roundw
          case rel => exact ⟨k + 1, by go_num, by omega, by rw [HPS.out], by rw [← HT.out], by first | rfl | trivial⟩
          case measure => simp [intOf]; omega
    · have hki : ¬ (k : Int) < (N : Int) := by omega
      obtain rfl : k = N := by omega
      go_wp2_with fail
      go_ret
      exact ⟨by rw [HALL.out]; rfl, rfl⟩
end Go.Proofs.YtehmmogdboaofaaGreatDoor
namespace Go.Proofs.YtehmmogdboaofaaGreatDoor
namespace CanM
open Go.RowKit HufM BitM
set_option linter.unusedVariables false
theorem field_cons' (X k : Nat) : field X (k + 1) = (X / 2 ^ k % 2 == 1) :: field X k := by
  apply num_inj
  · simp [field_length]
  · have e : num ((X / 2 ^ k % 2 == 1) :: field X k) = bn (X / 2 ^ k % 2 == 1) * 2 ^ (field X k).length + num (field X k) := num_append [X / 2 ^ k % 2 == 1] (field X k) |>.trans (by rw [show num [X / 2 ^ k % 2 == 1] = bn (X / 2 ^ k % 2 == 1) from Nat.zero_add _])
    have hb : bn (X / 2 ^ k % 2 == 1) = X / 2 ^ k % 2 := by
      have : X / 2 ^ k % 2 = 0 ∨ X / 2 ^ k % 2 = 1 := by omega
      rcases this with h | h <;> simp [h, bn]
    rw [e, hb, field_length, field_num, field_num, Nat.pow_succ, Nat.mod_mul, Nat.mul_comm, Nat.add_comm]
/-- One more, and whether all bits were 1. -/
def nxtL : List Bool → List Bool × Bool
  | [] => ([], true)
  | b :: t => ((b != (nxtL t).2) :: (nxtL t).1, (nxtL t).2 && b)
theorem nxtL_length : ∀ t, (nxtL t).1.length = t.length
  | [] => rfl
  | b :: t => by simp only [nxtL, List.length_cons, nxtL_length t]
theorem num_cons (b : Bool) (t : List Bool) : num (b :: t) = bn b * 2 ^ t.length + num t := by
  have := num_append [b] t
  rw [List.singleton_append] at this
  rw [this, show num [b] = bn b from Nat.zero_add _]
theorem nxtL_is : ∀ t, num (nxtL t).1 + bn (nxtL t).2 * 2 ^ t.length = num t + 1
  | [] => rfl
  | b :: t => by
    have ih := nxtL_is t
    have h1 := num_lt t
    have h2 := num_lt (nxtL t).1
    rw [nxtL_length] at h2
    simp only [nxtL, List.length_cons]
    rw [num_cons, num_cons, nxtL_length, Nat.pow_succ]
    generalize num (nxtL t).1 = A at *
    generalize num t = T at *
    generalize 2 ^ t.length = P at *
    generalize (nxtL t).2 = c at *
    cases b <;> cases c <;> simp [bn] at * <;> omega
/-- The next code of a length. -/
def nxtC (C : List Bool) (n : Nat) : List Bool := (nxtL C).1 ++ List.replicate (n - C.length) false
theorem nxtC_is {C : List Bool} {n X : Nat} (hm : C.length ≤ n) (hX : (num C + 1) * 2 ^ (n - C.length) = X) (hlt : X < 2 ^ n) : nxtC C n = field X n := by
  have h1 := nxtL_is C
  have hl := nxtL_length C
  have hp : 0 < 2 ^ (n - C.length) := Nat.pow_pos (by decide)
  have hn : 2 ^ n = 2 ^ C.length * 2 ^ (n - C.length) := by rw [← Nat.pow_add]; congr 1; omega
  have h2 : num C + 1 < 2 ^ C.length := by
    rw [← hX, hn] at hlt
    exact Nat.lt_of_mul_lt_mul_right hlt
  have h3 : num (nxtL C).1 = num C + 1 := by
    cases h : (nxtL C).2
    · rw [h] at h1; simp [bn] at h1; exact h1
    · rw [h] at h1
      simp only [bn, if_true, Nat.one_mul] at h1
      omega
  apply num_inj
  · unfold nxtC
    rw [List.length_append, List.length_replicate, hl, field_length]
    omega
  · unfold nxtC
    rw [num_zeros, h3, hX, field_num, Nat.mod_eq_of_lt hlt]
theorem field_zero (n : Nat) : field 0 n = List.replicate n false := by
  apply num_inj
  · rw [field_length, List.length_replicate]
  · rw [field_num, Nat.zero_mod]
    have := num_zeros [] n
    rw [List.nil_append] at this
    rw [this]
    simp [num]
/-- The number of the next code of n bits: behind the symbols of fewer bits, and those of n bits below i. -/
def nxtX (l : List Int) (n i : Nat) : Nat := fcod l n + rank l n i
theorem nxtX_skip {l : List Int} {n i : Nat} (h : ¬ ln l i = n) : nxtX l n (i + 1) = nxtX l n i := by
  unfold nxtX
  rw [rank_succ, if_neg (show ¬ (l.getD i 0).toNat = n from h)]
  rfl
theorem nxtX_take {l : List Int} {n i : Nat} (h : ln l i = n) : nxtX l n (i + 1) = nxtX l n i + 1 := by
  unfold nxtX
  rw [rank_succ, if_pos (show (l.getD i 0).toNat = n from h)]
  omega
theorem nxtX_next {l : List Int} {n : Nat} (h : n < 20) : nxtX l (n + 1) 0 = 2 * nxtX l n l.length := by
  unfold nxtX
  rw [fcod_succ l h]
  show _ + 0 = _
  rfl
theorem nxtX_cod {l : List Int} {n i : Nat} (hi : i < l.length) (h : ln l i = n) : nxtX l n i = cod l (ln l i, i) := by
  rw [h, cod_rank hi n h]
  rfl
/-- What the last code says of the next one. -/
def CodeAt (C : List Bool) (n X : Nat) : Prop := (C = [] ∧ X = 0) ∨ (C ≠ [] ∧ C.length ≤ n ∧ (num C + 1) * 2 ^ (n - C.length) = X)
theorem CodeAt.next {C : List Bool} {n X : Nat} (h : CodeAt C n X) : CodeAt C (n + 1) (2 * X) := by
  rcases h with ⟨h1, h2⟩ | ⟨h1, h2, h3⟩
  · exact Or.inl ⟨h1, by rw [h2]⟩
  · refine Or.inr ⟨h1, by omega, ?_⟩
    rw [← h3, show n + 1 - C.length = n - C.length + 1 by omega, Nat.pow_succ, ← Nat.mul_assoc, Nat.mul_comm]
theorem CodeAt.took {n X : Nat} (h1 : 1 ≤ n) (hX : X < 2 ^ n) : CodeAt (field X n) n (X + 1) := by
  refine Or.inr ⟨?_, by rw [field_length]; exact Nat.le_refl _, ?_⟩
  · intro h
    have := field_length X n
    rw [h] at this
    simp at this
    omega
  · rw [field_length, field_num, Nat.mod_eq_of_lt hX, Nat.sub_self, Nat.pow_zero, Nat.mul_one]
end CanM
end Go.Proofs.YtehmmogdboaofaaGreatDoor
namespace Go.Proofs.YtehmmogdboaofaaGreatDoor
open Go.RowKit CanM HufM BitM
set_option linter.unusedVariables false
theorem txt_get1 (q : List Bool) (k : Nat) (hk : k < q.length) (h : k < (txt q).size) : (txt q)[k] = chr q[k] := by
  have h2 : (txt q).data[k]'(by simpa [txt] using hk) = chr q[k] := by simp [txt]
  exact h2
theorem chr_eq (b : Bool) (x : Int) (h : x = ((chr b).toNat : Int)) : (x == 49) = b := by
  subst h
  cases b <;> rfl
theorem txt_one (b : Bool) (q : List Bool) : txt [b] ++ txt q = txt (b :: q) := txt_append [b] q
theorem txt_zero (q : List Bool) : txt q ++ txt [false] = txt (q ++ [false]) := txt_append q [false]
set_option maxRecDepth 100000 in
set_option maxHeartbeats 2000000 in
theorem next_any (C : List Bool) (n : Nat) (w : World) (hC : C.length ≤ n) (hn : n ≤ 20) :
    Calls Tryz.prog 79 #[.string (txt C), .int .i64 (n : Int)] w fun e w' => e = .returned (.string (txt (nxtC C n))) ∧ w' = w := by
  obtain ⟨m, hm⟩ : ∃ m, C.length = m := ⟨_, rfl⟩
  have hsz : (txt C).size = m := by rw [txt_size, hm]
  have HM := Lib.hid hm
  rw [hm] at hC
  clear hm
  go_enter Tryz.func79, Tryz.ntmps79
  go_wp2_with fail
  go_loopw [5, 6, 7] (fun vo vc vi wr => ∃ t : Nat, vi = .int .i64 ((t : Int) - 1) ∧ t ≤ m ∧ vo = .string (txt (nxtL (C.drop t)).1) ∧ vc = .bool (nxtL (C.drop t)).2 ∧ wr = w) (fun _ _ vi _ => (intOf vi + 1).toNat)
  case atStart =>
    have e : C.drop m = [] := List.drop_of_length_le (by rw [HM.out]; exact Nat.le_refl _)
    exact ⟨m, rfl, Nat.le_refl _, by rw [e]; rfl, by rw [e]; rfl, rfl⟩
  case round =>
    obtain ⟨t, rfl, ht, rfl, rfl, rfl⟩ := hrel
    have hol : (nxtL (C.drop t)).1.length ≤ 20 := by rw [nxtL_length, List.length_drop, HM.out]; omega
    by_cases ht0 : 0 < t
    · obtain ⟨s, rfl⟩ : ∃ s, t = s + 1 := ⟨t - 1, by omega⟩
      have hi : (((s + 1 : Nat) : Int) - 1) = (s : Int) := by omega
      rw [hi]
      have hsC : s < C.length := by rw [HM.out]; omega
      have hsm : (s : Int) < (m : Int) := by omega
      have hdrop : C.drop s = C[s] :: C.drop (s + 1) := List.drop_eq_getElem_cons hsC
      obtain ⟨b, hb⟩ : ∃ b, C[s] = b := ⟨_, rfl⟩
      have hidx : ∀ h : s < (txt C).size, (((txt C)[s]'h).toNat : Int) = ((chr b).toNat : Int) := fun h => by rw [txt_get1 C s hsC h, hb]
      rw [hb] at hdrop
      have HN : Hid ((nxtL (C.drop s)).1 = (b != (nxtL (C.drop (s + 1))).2) :: (nxtL (C.drop (s + 1))).1 ∧ (nxtL (C.drop s)).2 = ((nxtL (C.drop (s + 1))).2 && b)) := Lib.hid (by rw [hdrop]; exact ⟨rfl, rfl⟩)
      obtain ⟨o, ho⟩ : ∃ o, (nxtL (C.drop (s + 1))).1 = o := ⟨_, rfl⟩
      obtain ⟨cc, hcc⟩ : ∃ cc, (nxtL (C.drop (s + 1))).2 = cc := ⟨_, rfl⟩
      rw [ho, hcc] at HN
      rw [ho] at hol
      rw [ho, hcc]
      have hos : (txt o).size ≤ 20 := by rw [txt_size]; exact hol
      clear hdrop hb ho hcc hi hol hsC
      cases b
      · have hidx0 : ∀ h : s < (txt C).size, (((txt C)[s]'h).toNat : Int) = 48 := hidx
        clear hidx
        cases cc
        · go_wp2_with fail
          go_roundw
          case rel => exact ⟨s, by go_num, by omega, by rw [HN.out.1]; exact congrArg Value.string (txt_one false o), by rw [HN.out.2]; rfl, by first | rfl | trivial⟩
          case measure => first | (simp [intOf]; done) | (simp [intOf]; omega)
        · go_wp2_with fail
          go_roundw
          case rel => exact ⟨s, by go_num, by omega, by rw [HN.out.1]; exact congrArg Value.string (txt_one true o), by rw [HN.out.2]; rfl, by first | rfl | trivial⟩
          case measure => first | (simp [intOf]; done) | (simp [intOf]; omega)
      · have hidx0 : ∀ h : s < (txt C).size, (((txt C)[s]'h).toNat : Int) = 49 := hidx
        clear hidx
        cases cc
        · go_wp2_with fail
          go_roundw
          case rel => exact ⟨s, by go_num, by omega, by rw [HN.out.1]; exact congrArg Value.string (txt_one true o), by rw [HN.out.2]; rfl, by first | rfl | trivial⟩
          case measure => first | (simp [intOf]; done) | (simp [intOf]; omega)
        · go_wp2_with fail
          go_roundw
          case rel => exact ⟨s, by go_num, by omega, by rw [HN.out.1]; exact congrArg Value.string (txt_one false o), by rw [HN.out.2]; rfl, by first | rfl | trivial⟩
          case measure => first | (simp [intOf]; done) | (simp [intOf]; omega)
    · obtain rfl : t = 0 := by omega
      rw [List.drop_zero] at hol ⊢
      obtain ⟨o, ho⟩ : ∃ o, (nxtL C).1 = o := ⟨_, rfl⟩
      obtain ⟨cc, hcc⟩ : ∃ cc, (nxtL C).2 = cc := ⟨_, rfl⟩
      have HOL : Hid (o.length = m) := Lib.hid (by rw [← ho, nxtL_length, HM.out])
      have HRES : Hid (nxtC C n = o ++ List.replicate (n - m) false) := Lib.hid (by unfold nxtC; rw [ho, HM.out])
      rw [ho, hcc]
      clear ho hcc hol
      go_wp2_with fail
      obtain ⟨wz, hwz⟩ : ∃ wz : World, wz = wr := ⟨_, rfl⟩
      subst hwz
      go_loopw [5] (fun vo wr => ∃ e : Nat, m + e ≤ n ∧ vo = .string (txt (o ++ List.replicate e false)) ∧ wr = wz) (fun vo _ => n - (match vo with | .string s => s.size | _ => 0))
      case atStart => exact ⟨0, by omega, by simp, rfl⟩
      case round =>
        obtain ⟨e, he, rfl, rfl⟩ := hrel
        have hs1 : (txt (o ++ List.replicate e false)).size = m + e := by rw [txt_size, List.length_append, List.length_replicate, HOL.out]
        have HT : Hid (txt (o ++ List.replicate e false) ++ txt [false] = txt (o ++ List.replicate (e + 1) false)) := Lib.hid (by rw [txt_append, List.append_assoc, List.replicate_succ'])
        have hs2 : Hid ((txt (o ++ List.replicate (e + 1) false)).size = m + (e + 1)) := Lib.hid (by rw [txt_size, List.length_append, List.length_replicate, HOL.out])
        by_cases hen : m + e < n
        · have heni : ((m + e : Nat) : Int) < (n : Int) := by omega
          generalize txt (o ++ List.replicate e false) = T at *
          go_wp2_with fail
          go_roundw
          case rel => exact ⟨e + 1, by omega, congrArg Value.string HT.out, by first | rfl | trivial⟩
          case measure => 
            have h2 := hs2.out
            rw [← HT.out] at h2
            have h3 : (T ++ (⟨#[48]⟩ : ByteArray)).size = m + (e + 1) := h2
            simp only [h3, hs1]
            omega
        · have heni : ¬ ((m + e : Nat) : Int) < (n : Int) := by omega
          have HE : Hid (nxtC C n = o ++ List.replicate e false) := Lib.hid (by rw [HRES.out, show n - m = e by omega])
          go_wp2_with fail
          go_ret
          rw [HE.out]
          exact ⟨rfl, rfl⟩
end Go.Proofs.YtehmmogdboaofaaGreatDoor
namespace Go.Proofs.YtehmmogdboaofaaGreatDoor
open Go.RowKit
set_option linter.unusedVariables false
/-- Block g is the N texts F. -/
def RowS (w : World) (g N : Nat) (F : Nat → ByteArray) : Prop := w.heap[g]? = some (.cells (cellsF N (fun i => .string (F i))) 9 (0, 0))
theorem RowS.lt {w : World} {g N : Nat} {F : Nat → ByteArray} (h : RowS w g N F) : g < w.heap.size := (Array.getElem?_eq_some_iff.1 h).1
theorem RowS.below {w w' : World} {g N : Nat} {F : Nat → ByteArray} (h : RowS w g N F) (hb : Below w.heap.size w w') : RowS w' g N F := (hb.block g h.lt).trans h
theorem RowS.other {w w' : World} {g N : Nat} {F : Nat → ByteArray} (h : RowS w g N F) {S : Nat → Prop} (ht : Touch S w w') (hS : ¬ S g) : RowS w' g N F := (ht.block g h.lt hS).trans h
theorem RowS.drewN {w : World} {g N : Nat} {F : Nat → ByteArray} (h : RowS w g N F) (n : Nat) : RowS (w.drewN n) g N F := h
theorem cellsF_ext {M : Nat} {F G : Nat → Value} (h : ∀ i, i < M → F i = G i) : cellsF M F = cellsF M G := by
  unfold cellsF
  congr 1
  exact List.map_congr_left fun i hi => h i (List.mem_range.1 hi)
theorem RowS.ext {w : World} {g N : Nat} {F G : Nat → ByteArray} (h : RowS w g N F) (he : ∀ i, i < N → F i = G i) : RowS w g N G := by
  unfold RowS at h ⊢
  rw [h, cellsF_ext (G := fun i => .string (G i)) (fun i hi => by rw [he i hi])]
theorem RowS.cell {w : World} {g N : Nat} {F : Nat → ByteArray} (h : RowS w g N F) {i : Nat} (hi : i < N) : w.cell? ⟨g, i, none⟩ = some (.string (F i)) ∧ w.frozen? ⟨g, i, none⟩ = false ∧
    ∀ x : ByteArray, RowS (w.setCell ⟨g, i, none⟩ (.string x)) g N (fun k => if k = i then x else F k) := by
  refine ⟨(cell_of_row _ _ _ _ _ _ h).trans (cellsF_get N _ hi), frozen_of_row _ _ _ _ _ h, fun x => ?_⟩
  have := heap_setCell_same w g i _ _ (.string x) h
  rw [cellsF_set] at this
  unfold RowS
  rw [this, cellsF_ext (G := fun k => .string (if k = i then x else F k))]
  intro j _
  unfold upd
  split <;> rfl
theorem RowS.made (w : World) (n : Nat) : RowS (w.alloc (.cells (madeCells #[Value.string ⟨#[]⟩] n) 9)) w.heap.size n (fun _ => ⟨#[]⟩) := by
  have e : madeCells #[Value.string ⟨#[]⟩] n = cellsF n (fun _ => .string ⟨#[]⟩) := by
    apply Array.toList_inj.1
    rw [toList_madeCells_one]
    unfold cellsF
    show List.replicate n _ = (List.range n).map fun _ => _
    rw [List.map_const', List.length_range]
  unfold RowS
  rw [← e]
  exact heap_alloc_new _ _
set_option maxHeartbeats 1000000 in
theorem make_strs (n : Nat) (hn : n ≤ 1000000) (W : World) : (Instr.makeSlice 82 (.int .i64 (n : Int)) (.int .i64 (n : Int))).run Tryz.prog W = .ok (.slice (some ⟨W.heap.size, 0, none⟩) n n) (W.alloc (.cells (madeCells #[Value.string ⟨#[]⟩] n) 9)) := by
  obtain ⟨i0, hi, hz0, hz1, hz2⟩ := info_parts (show (Tryz.prog.info? 9).map (fun i => (i.zero, i.size, i.bytes)) = some (some (.string ⟨#[]⟩), 1, 16) by kernel_rfl)
  have := run_make (P := Tryz.prog) W 82 9 i0 (.string ⟨#[]⟩) Tryz.underlying82 hi hz0 .i64 .i64 (n : Int) (n : Int) (by omega) (by omega) (by rw [hz2]; omega) (by omega)
  rw [hz1] at this
  simpa [Value.cells] using this
end Go.Proofs.YtehmmogdboaofaaGreatDoor
namespace Go.Proofs.YtehmmogdboaofaaGreatDoor
theorem list_eq_test (a b : ByteArray) (r : Bool) (h : r = true ↔ a = b) : (a.toList == b.toList) = r := by
  rw [Bool.eq_iff_iff, beq_iff_eq, ByteArray.toList_eq, ByteArray.toList_eq, h]
  constructor
  · intro h
    apply ByteArray.ext
    exact Array.toList_inj.1 h
  · rintro rfl
    rfl
end Go.Proofs.YtehmmogdboaofaaGreatDoor
namespace Go.Proofs.YtehmmogdboaofaaGreatDoor
open Go.RowKit CanM HufM BitM
set_option linter.unusedVariables false
theorem txt_inj {p q : List Bool} (h : txt p = txt q) : p = q := by
  have h1 : (p.map chr).toArray = (q.map chr).toArray := congrArg ByteArray.data h
  have h2 : p.map chr = q.map chr := by simpa using congrArg Array.toList h1
  exact (List.map_inj_right (fun a b hab => by cases a <;> cases b <;> first | rfl | exact absurd hab (by decide))).1 h2
theorem txt_test (p q : List Bool) (r : Bool) (h : r = true ↔ p = q) : ((txt p).toList == (txt q).toList) = r := list_eq_test _ _ r (h.trans ⟨fun e => by rw [e], txt_inj⟩)
theorem txt_empty (q : List Bool) (r : Bool) (h : r = true ↔ q = []) : (txt q).toList.isEmpty = r := by
  rw [Bool.eq_iff_iff, h, ByteArray.toList_eq, List.isEmpty_iff]
  constructor
  · intro e
    cases q with
    | nil => rfl
    | cons a t => cases e
  · rintro rfl
    rfl
/-- The symbols so far have their codes. -/
def CodesAt (zs : List Int) (n i : Nat) (F : Nat → ByteArray) : Prop := ∀ j, j < zs.length → (ln zs j < n ∨ (ln zs j = n ∧ j < i)) → F j = txt (code zs j)
theorem CodesAt.skip {zs : List Int} {n i : Nat} {F : Nat → ByteArray} (h : CodesAt zs n i F) (hn : ¬ ln zs i = n) : CodesAt zs n (i + 1) F := fun j hj hc => h j hj (by
  rcases hc with h1 | ⟨h1, h2⟩
  · exact Or.inl h1
  · refine Or.inr ⟨h1, ?_⟩
    rcases Nat.lt_succ_iff_lt_or_eq.1 h2 with h3 | h3
    · exact h3
    · exact absurd (h3 ▸ h1) hn)
theorem CodesAt.take {zs : List Int} {n i : Nat} {F : Nat → ByteArray} (h : CodesAt zs n i F) (x : ByteArray) (hx : x = txt (code zs i)) : CodesAt zs n (i + 1) (fun k => if k = i then x else F k) := fun j hj hc => by
  show (if j = i then x else F j) = _
  by_cases e : j = i
  · rw [if_pos e, hx, e]
  · rw [if_neg e]
    exact h j hj (by omega)
theorem CodesAt.next {zs : List Int} {n : Nat} {F : Nat → ByteArray} (h : CodesAt zs n zs.length F) : CodesAt zs (n + 1) 0 F := fun j hj hc => h j hj (by omega)
set_option maxRecDepth 100000 in
set_option maxHeartbeats 2000000 in
theorem codes_any (v : Value) (zs : List Int) (w : World) (hv : IsInts w v zs) (h258 : zs.length ≤ 258) (hwh : WholeP zs) :
    Calls Tryz.prog 48 #[v] w fun e w' => e = .returned (.slice (some ⟨w.heap.size, 0, none⟩) zs.length zs.length) ∧ RowS w' w.heap.size zs.length (fun j => txt (code zs j)) ∧ Below w.heap.size w w' := by
  have HV := Lib.hid hv
  have HW := Lib.hid hwh
  obtain ⟨a, cap, rfl, _⟩ := hv
  obtain ⟨N, hN⟩ : ∃ N, zs.length = N := ⟨_, rfl⟩
  have HN := Lib.hid hN
  rw [hN] at h258 ⊢
  have hmk := make_strs N (by omega) w
  have HR0 := Lib.hid (RowS.made w N)
  have HB0 := Lib.hid ((Below.refl w.heap.size w).alloc (Nat.le_refl _) (.cells (madeCells #[Value.string ⟨#[]⟩] N) 9))
  generalize hw1 : w.alloc (.cells (madeCells #[Value.string ⟨#[]⟩] N) 9) = w1 at *
  clear hw1 hwh hN
  go_enter Tryz.func48, Tryz.ntmps48
  go_wp2_with fail
  generalize hg : w.heap.size = g at *
  have HG := Lib.hid hg
  clear hg
  go_loopw [4, 5] (fun vc vn wr => ∃ (n : Nat) (C : List Bool) (F : Nat → ByteArray), vn = .int .i64 (n : Int) ∧ 1 ≤ n ∧ n ≤ 21 ∧ vc = .string (txt C) ∧ C.length ≤ 20 ∧ (n ≤ 20 → CodeAt C n (nxtX zs n 0)) ∧ CodesAt zs n 0 F ∧ RowS wr g N F ∧ Below g w wr) (fun _ vn _ => 21 - (intOf vn).toNat)
  case atStart => exact ⟨1, [], _, rfl, by omega, by omega, rfl, by simp, fun _ => Or.inl ⟨rfl, by
    unfold nxtX
    rw [fcod_succ zs (by decide : 0 < 20), fcod_zero, rank_zero (fun z hz => (HW.out.1 z hz).1)]
    rfl⟩, fun j hj hc => by have := (ln_bd (fun z hz => HW.out.1 z hz) hj).1; omega, HR0.out, HB0.out⟩
  case round =>
    clear HR0 HB0 hmk
    obtain ⟨n, C, F, rfl, hn1, hn21, rfl, hCl, hCA, hCs, hR, hB⟩ := hrel
    have HCA := Lib.hid hCA
    have HCS := Lib.hid hCs
    have HR := Lib.hid hR
    have HB := Lib.hid hB
    have HCL := Lib.hid hCl
    clear hCA hCs hR hB hCl
    by_cases hn20 : n ≤ 20
    · have hni : (n : Int) ≤ 20 := by omega
      have HCA0 := Lib.hid (HCA.out hn20)
      clear HCA
      go_wp2_with fail
      try rw [HN.out]
      go_loopw [4, 17] (fun vc vi wr2 => ∃ (i : Nat) (C : List Bool) (F : Nat → ByteArray), vi = .int .i64 (i : Int) ∧ i ≤ N ∧ vc = .string (txt C) ∧ C.length ≤ n ∧ CodeAt C n (nxtX zs n i) ∧ CodesAt zs n i F ∧ RowS wr2 g N F ∧ Below g w wr2) (fun _ vi _ => N - (intOf vi).toNat)
      case atStart => exact ⟨0, C, F, rfl, by omega, rfl, by rcases HCA0.out with h | h; · rw [h.1]; exact Nat.zero_le _
                                                             · exact h.2.1, HCA0.out, HCS.out, HR.out, HB.out⟩
      case round =>
        clear HCA0 HCS HR HB HCL
        obtain ⟨i, C, F, rfl, hi, rfl, hCl, hCA, hCs, hR, hB⟩ := hrel
        have HCA := Lib.hid hCA
        have HCS := Lib.hid hCs
        have HR := Lib.hid hR
        have HB := Lib.hid hB
        clear hCA hCs hR hB
        by_cases hlk : i < N
        · have hki : (i : Int) < (N : Int) := by omega
          have hlz : i < zs.length := by rw [HN.out]; exact hlk
          have HV2 := Lib.hid (HV.out.below (HG.out ▸ HB.out))
          obtain ⟨b1, o1, k1, he1, c1⟩ := HV2.out.cell hlz
          simp only [Value.slice.injEq] at he1
          obtain ⟨rfl, _, rfl⟩ := he1
          obtain ⟨x, hx⟩ : ∃ x, zs.getD i 0 = x := ⟨_, rfl⟩
          have hxr := HW.out.1 x (by rw [← hx]; exact getD_mem hlz)
          have hln : Hid (ln zs i = x.toNat) := Lib.hid (by unfold ln; rw [hx])
          rw [hx] at c1
          clear hx
          by_cases hxn : x = (n : Int)
          · subst hxn
            have hlnn : Hid (ln zs i = n) := Lib.hid (by rw [hln.out]; omega)
            have hXc := nxtX_cod hlz hlnn.out
            have hcl := cod_lt (x := (ln zs i, i)) (ent_of hlz) HW.out.2 (by show ln zs i ≤ 20; rw [hlnn.out]; exact hn20)
            have hcode : code zs i = field (nxtX zs n i) n := by
              unfold code
              rw [← hXc, hlnn.out]
            rw [← hXc] at hcl
            have hcl : nxtX zs n i < 2 ^ n := by
              have h2 : nxtX zs n i < 2 ^ ln zs i := hcl
              rw [hlnn.out] at h2
              exact h2
            have HNX : Hid (CodeAt (field (nxtX zs n i) n) n (nxtX zs n (i + 1))) := Lib.hid (by
              rw [nxtX_take hlnn.out]
              exact CodeAt.took hn1 hcl)
            have HCODE := Lib.hid hcode
            have HCLT := Lib.hid hcl
            obtain ⟨d0, d1, d2⟩ := HR.out.cell (i := i) hlk
            have HD2 := Lib.hid (d2 (txt (code zs i)))
            have HB2 := Lib.hid (HB.out.setCell (p := ⟨g, i, none⟩) (Nat.le_refl _) (.string (txt (code zs i))))
            clear hXc hcl hcode d2
            by_cases hCe : C = []
            · subst hCe
              have hz : nxtX zs n i = 0 := by
                rcases HCA.out with h | h
                · exact h.2
                · exact absurd rfl h.1
              have HFZ : Hid (code zs i = List.replicate n false) := Lib.hid (by rw [HCODE.out, hz, field_zero])
              have hte := txt_empty [] true ⟨fun _ => rfl, fun _ => rfl⟩
              clear hz
              go_wp2_with fail
              obtain ⟨wz, hwz⟩ : ∃ wz : World, wz = wr := ⟨_, rfl⟩
              subst hwz
              go_loopw [4, 28] (fun vc vk wr3 => ∃ k : Nat, vk = .int .i64 (k : Int) ∧ k ≤ n ∧ vc = .string (txt (List.replicate k false)) ∧ wr3 = wz) (fun _ vk _ => n - (intOf vk).toNat)
              case atStart => exact ⟨0, rfl, by omega, rfl, rfl⟩
              case round =>
                obtain ⟨k, rfl, hk, rfl, rfl⟩ := hrel
                by_cases hkn : k < n
                · have hkni : (k : Int) < (n : Int) := by omega
                  have hs1 : (txt (List.replicate k false)).size ≤ 20 := by rw [txt_size, List.length_replicate]; omega
                  have HT : Hid (txt (List.replicate k false) ++ txt [false] = txt (List.replicate (k + 1) false)) := Lib.hid (by rw [txt_append, List.replicate_succ'])
                  generalize txt (List.replicate k false) = T at *
                  go_wp2_with fail
                  go_roundw
                  case rel => exact ⟨k + 1, by go_num, by omega, congrArg Value.string HT.out, by first | rfl | trivial⟩
                  case measure => simp [intOf]; omega
                · obtain rfl : k = n := by omega
                  rw [← HFZ.out]
                  go_wp2_with fail
                  go_roundw
                  case rel => exact ⟨i + 1, code zs i, _, by go_num, by omega, rfl, by rw [code_length, hlnn.out]; exact Nat.le_refl _, by rw [HCODE.out]; exact HNX.out, HCS.out.take _ rfl, HD2.out, HB2.out⟩
                  case measure => simp [intOf]; omega
            · have hte := txt_empty C false ⟨fun h => (by cases h), fun h => absurd h hCe⟩
              have HNE : Hid (nxtC C n = code zs i) := Lib.hid (by
                rcases HCA.out with h | h
                · exact absurd h.1 hCe
                · rw [HCODE.out]
                  exact nxtC_is h.2.1 h.2.2 HCLT.out)
              clear hCe
              go_wp2_with fail
              refine (next_any C n _ hCl hn20).mono ?_
              rintro e w3 ⟨rfl, rfl⟩
              rw [HNE.out]
              go_wp2_with fail
              go_roundw
              case rel => exact ⟨i + 1, code zs i, _, by go_num, by omega, rfl, by rw [code_length, hlnn.out]; exact Nat.le_refl _, by rw [HCODE.out]; exact HNX.out, HCS.out.take _ rfl, HD2.out, HB2.out⟩
              case measure => simp [intOf]; omega
          · have hxn2 : (x == (n : Int)) = false := by rw [beq_eq_false_iff_ne]; exact hxn
            have hlnn : Hid (¬ ln zs i = n) := Lib.hid (by rw [hln.out]; omega)
            go_wp2_with fail
            go_roundw
            case rel => exact ⟨i + 1, C, F, by go_num, by omega, rfl, hCl, by rw [nxtX_skip hlnn.out]; exact HCA.out, HCS.out.skip hlnn.out, HR.out, HB.out⟩
            case measure => simp [intOf]; omega
        · obtain rfl : i = N := by omega
          go_wp2_with fail
          go_roundw
          case rel => exact ⟨n + 1, C, F, by go_num, by omega, by omega, rfl, by omega, fun h => by rw [nxtX_next (by omega), HN.out]; exact HCA.out.next, CodesAt.next (by rw [HN.out]; exact HCS.out), HR.out, HB.out⟩
          case measure => simp [intOf]; omega
    · obtain rfl : n = 21 := by omega
      go_wp2_with fail
      go_ret
      rw [HG.out]
      exact ⟨rfl, HR.out.ext (fun j hj => HCS.out j (by rw [HN.out]; exact hj) (Or.inl (by have := (ln_bd (fun z hz => HW.out.1 z hz) (show j < zs.length by rw [HN.out]; exact hj)).2; omega))), HB.out⟩
end Go.Proofs.YtehmmogdboaofaaGreatDoor
namespace Go.Proofs.YtehmmogdboaofaaGreatDoor
open Go.RowKit CanM HufM BitM
set_option linter.unusedVariables false
theorem begins_iff {zs : List Int} (hwh : WholeP zs) {i : Nat} (hi : i < zs.length) (q : List Bool) : CanM.Begins zs (ln zs i, i) q ↔ (code zs i).length ≤ q.length ∧ q.take (code zs i).length = code zs i := by
  rw [code_length]
  unfold CanM.Begins
  refine and_congr_right fun hl => ?_
  have hc : cod zs (ln zs i, i) < 2 ^ ln zs i := cod_lt (x := (ln zs i, i)) (ent_of hi) hwh.2 (ln_bd (fun z hz => hwh.1 z hz) hi).2
  have hlen : (q.take (ln zs i)).length = ln zs i := by rw [List.length_take]; exact Nat.min_eq_left hl
  constructor
  · intro h
    have h2 := field_of (q.take (ln zs i))
    rw [hlen, h] at h2
    exact h2.symm
  · intro h
    show num (q.take (ln zs i)) = _
    rw [h]
    unfold code
    rw [field_num, Nat.mod_eq_of_lt hc]
set_option maxHeartbeats 1000000 in
theorem begins_any (q C : List Bool) (r : Bool) (w : World) (hq : q.length ≤ 1099511627776) (hr : r = true ↔ C.length ≤ q.length ∧ q.take C.length = C) :
    Calls Tryz.prog 84 #[.string (txt q), .string (txt C)] w fun e w' => e = .returned (.bool r) ∧ w' = w := by
  have hsq := txt_size q
  have hsc := txt_size C
  by_cases hl : C.length ≤ q.length
  · have hb := txt_test (q.take C.length) C r (by rw [hr]; exact ⟨fun h => h.2, fun h => ⟨hl, h⟩⟩)
    rw [← txt_take q C.length hl, ← hsc] at hb
    have hli : ((txt C).size : Int) ≤ (txt q).size := by omega
    have hqb : (txt q).size ≤ 1099511627776 := by omega
    clear hr hl hsq hsc
    generalize txt q = S at *
    generalize txt C = T at *
    go_enter Tryz.func84, Tryz.ntmps84
    go_wp2_with fail
    go_ret
    exact ⟨rfl, rfl⟩
  · obtain rfl : r = false := by rw [Bool.eq_false_iff, Ne, hr]; exact fun h => hl h.1
    have hli : ¬ ((txt C).size : Int) ≤ (txt q).size := by omega
    have hqb : (txt q).size ≤ 1099511627776 := by omega
    clear hr hl hsq hsc
    generalize txt q = S at *
    generalize txt C = T at *
    go_enter Tryz.func84, Tryz.ntmps84
    go_wp2_with fail
    go_ret
    exact ⟨rfl, rfl⟩
/-- The symbol with which bits begin. -/
def GetR (zs : List Int) (q : List Bool) (x : Int) : Prop := (∃ i, i < zs.length ∧ CanM.Begins zs (ln zs i, i) q ∧ x = (i : Int)) ∨ ((∀ i, i < zs.length → ¬ CanM.Begins zs (ln zs i, i) q) ∧ x = -1)
set_option maxRecDepth 100000 in
set_option maxHeartbeats 1000000 in
theorem rget_any (g N : Nat) (zs : List Int) (q : List Bool) (w : World) (hN : zs.length = N) (h258 : N ≤ 258) (hwh : WholeP zs) (hR : RowS w g N (fun j => txt (code zs j))) (hq : q.length ≤ 1099511627776) :
    Calls Tryz.prog 56 #[.slice (some ⟨g, 0, none⟩) N N, .string (txt q)] w fun e w' => ∃ x : Int, e = .returned (.int .i64 x) ∧ GetR zs q x ∧ w' = w := by
  have HN := Lib.hid hN
  have HW := Lib.hid hwh
  have HR := Lib.hid hR
  clear hN hwh hR
  have hqs : (txt q).size ≤ 1099511627776 := by rw [txt_size]; exact hq
  go_enter Tryz.func56, Tryz.ntmps56
  go_wp2_with fail
  go_loopw [9] (fun vi wr => ∃ i : Nat, vi = .int .i64 (i : Int) ∧ i ≤ N ∧ (∀ j, j < i → ¬ CanM.Begins zs (ln zs j, j) q) ∧ wr = w) (fun vi _ => N - (intOf vi).toNat)
  case atStart => exact ⟨0, rfl, by omega, fun j hj => by omega, rfl⟩
  case round =>
    obtain ⟨i, rfl, hi, hno, rfl⟩ := hrel
    have HNO := Lib.hid hno
    clear hno
    by_cases hlk : i < N
    · have hki : (i : Int) < (N : Int) := by omega
      have hlz : i < zs.length := by rw [HN.out]; exact hlk
      obtain ⟨d0, _, _⟩ := HR.out.cell (i := i) hlk
      have hcl : (code zs i).length ≤ 20 := by rw [code_length]; exact (ln_bd (fun z hz => HW.out.1 z hz) hlz).2
      obtain ⟨C, hC⟩ : ∃ C, code zs i = C := ⟨_, rfl⟩
      rw [hC] at d0
      have HC := Lib.hid hC
      have hcs : (txt C).size ≤ 20 := by rw [txt_size, ← hC]; exact hcl
      clear hC hcl
      by_cases hb : CanM.Begins zs (ln zs i, i) q
      · have HB := Lib.hid hb
        have HBG := Lib.hid (begins_any q C true wr hq ⟨fun _ => by rw [← HC.out]; exact (begins_iff HW.out hlz q).1 hb, fun _ => rfl⟩)
        clear hb
        go_wp2_with fail
        refine HBG.out.mono ?_
        rintro e w2 ⟨rfl, rfl⟩
        go_wp2_with fail
        go_ret
        exact ⟨(i : Int), rfl, Or.inl ⟨i, hlz, HB.out, rfl⟩, rfl⟩
      · have HNX : Hid (∀ j, j < i + 1 → ¬ CanM.Begins zs (ln zs j, j) q) := Lib.hid (fun j hj => by
          rcases Nat.lt_succ_iff_lt_or_eq.1 hj with h | h
          · exact HNO.out j h
          · rw [h]; exact hb)
        have HBG := Lib.hid (begins_any q C false wr hq ⟨fun h => (by cases h), fun h => absurd ((begins_iff HW.out hlz q).2 (by rw [HC.out]; exact h)) hb⟩)
        clear hb
        go_wp2_with fail
        refine HBG.out.mono ?_
        rintro e w2 ⟨rfl, rfl⟩
        go_wp2_with fail
        go_roundw
        case rel => exact ⟨i + 1, by go_num, by omega, HNX.out, by first | rfl | trivial⟩
        case measure => simp [intOf]; omega
    · obtain rfl : i = N := by omega
      go_wp2_with fail
      go_ret
      exact ⟨-1, rfl, Or.inr ⟨fun j hj => HNO.out j (by rw [← HN.out]; exact hj), rfl⟩, rfl⟩
end Go.Proofs.YtehmmogdboaofaaGreatDoor
namespace Go.Proofs.YtehmmogdboaofaaGreatDoor
open Go.RowKit TabM FreqM HufM
set_option linter.unusedVariables false
set_option maxRecDepth 100000 in
set_option maxHeartbeats 4000000 in
theorem rpick_any (vg vr : Value) (g : List Int) (rows : List (List Int)) (N : Nat) (w : World) (hg : IsInts w vg g) (hr : IsRR w vr rows) (hsy : Syms g (N : Int)) (hok : TabOk N rows) (hg50 : g.length ≤ 50) (hN : N ≤ 258) :
    Calls Tryz.prog 75 #[vg, vr] w fun e w' => e = .returned (.int .i64 (pickM g rows : Int)) ∧ Below w.heap.size w w' := by
  have HG := Lib.hid hg
  have HR := Lib.hid hr
  have HOK := Lib.hid hok
  obtain ⟨hl2, hl6, _⟩ := hok
  have HBD : Hid (∀ k, k < rows.length → 0 ≤ costS g (rw_ rows k) ∧ costS g (rw_ rows k) ≤ 1000) := Lib.hid (fun k hk => by
    obtain ⟨h1, h2⟩ := HOK.out.at_ hk
    have h3 := costS_bd hsy h1 h2
    omega)
  have HCO : Hid (∀ (k : Nat) (u : Value) (W : World), k < rows.length → IsInts W vg g → IsInts W u (rw_ rows k) → Calls Tryz.prog 102 #[vg, u] W fun e w' => e = .returned (.int .i64 (costS g (rw_ rows k))) ∧ W = w') := Lib.hid (fun k u W hk h1 h2 => by
    obtain ⟨h3, h4⟩ := HOK.out.at_ hk
    have h5 := HBD.out k hk
    have h6 := rCost_any vg u g (rw_ rows k) W h1 h2 (by omega) (by omega) ⟨by rw [h3]; exact hsy, fun x hx => by have := h4 x hx; omega⟩
    rw [cap_id _ (by omega)] at h6
    exact h6)
  obtain ⟨ag, cg, rfl, _⟩ := hg
  obtain ⟨ar, cr, rfl, _⟩ := hr
  obtain ⟨T, hT⟩ : ∃ T, rows.length = T := ⟨_, rfl⟩
  have HT := Lib.hid hT
  obtain ⟨L, hL⟩ : ∃ L, g.length = L := ⟨_, rfl⟩
  obtain ⟨M, hM⟩ : ∃ M, pickM g rows = M := ⟨_, rfl⟩
  have HM : Hid (pk g rows T = M) := Lib.hid (by rw [← hT]; exact hM)
  rw [hM]
  rw [hL] at HG HCO ⊢
  rw [hT] at hl2 hl6 HCO HBD ⊢
  clear hT hM hsy hg50 hL HOK
  go_enter Tryz.func75, Tryz.ntmps75
  go_wp2_with fail
  go_loopw [5, 10] (fun vp vk wr => ∃ k : Nat, vk = .int .i64 (k : Int) ∧ k ≤ T ∧ vp = .int .i64 (pk g rows k : Int) ∧ Below w.heap.size w wr) (fun _ vk _ => T - (intOf vk).toNat)
  case atStart => exact ⟨0, rfl, by omega, rfl, Below.refl _ _⟩
  case round =>
    obtain ⟨k, rfl, hk, rfl, hB⟩ := hrel
    have HB := Lib.hid hB
    clear hB
    by_cases hkT : k < T
    · have hki : (k : Int) < (T : Int) := by omega
      have hle := pk_le g rows k
      have HPS : Hid (pk g rows (k + 1) = if costS g (rw_ rows k) < costS g (rw_ rows (pk g rows k)) then k else pk g rows k) := Lib.hid rfl
      obtain ⟨p, hp⟩ : ∃ p, pk g rows k = p := ⟨_, rfl⟩
      rw [hp] at HPS hle ⊢
      clear hp
      have hpT : p < T := by omega
      have hpi : (p : Int) < (T : Int) := by omega
      have HR2 := Lib.hid (HR.out.below HB.out)
      obtain ⟨b, off, cap, u, he, c1, hI⟩ := HR2.out.at_ (show k < rows.length by rw [HT.out]; exact hkT)
      rw [HT.out] at he
      simp only [Value.slice.injEq] at he
      obtain ⟨rfl, he2, rfl⟩ := he
      clear he2
      obtain ⟨b2, off2, cap2, u2, he, c2, hI2⟩ := HR2.out.at_ (show p < rows.length by rw [HT.out]; exact hpT)
      rw [HT.out] at he
      simp only [Value.slice.injEq] at he
      obtain ⟨he1, _, rfl⟩ := he
      simp only [Option.some.injEq, Addr.mk.injEq] at he1
      obtain ⟨rfl, rfl, _⟩ := he1
      have HGB : Hid (∀ sb : Beneath wr.heap.size wr, IsInts sb.val (.slice ag L cg) g ∧ IsInts sb.val u (rw_ rows k) ∧ IsInts sb.val u2 (rw_ rows p)) := Lib.hid (fun sb => ⟨(HG.out.below HB.out).below sb.is, hI.below sb.is, hI2.below sb.is⟩)
      have q2 : ∀ sb : Beneath wr.heap.size wr, sb.val.cell? ⟨b, off + p, none⟩ = some u2 := fun sb => Beneath.cell c2 (cell_lt c2) sb
      obtain ⟨au, cu, hu, _⟩ := hI
      obtain ⟨au2, cu2, hu2, _⟩ := hI2
      obtain ⟨C1, hC1⟩ : ∃ C, costS g (rw_ rows k) = C := ⟨_, rfl⟩
      obtain ⟨C2, hC2⟩ : ∃ C, costS g (rw_ rows p) = C := ⟨_, rfl⟩
      have HC1 := Lib.hid (fun u W h1 h2 => HCO.out k u W hkT h1 h2)
      have HC2 := Lib.hid (fun u W h1 h2 => HCO.out p u W hpT h1 h2)
      rw [hC1] at HC1 HPS
      rw [hC2] at HC2 HPS
      obtain ⟨n1, hn1⟩ : ∃ n, (rw_ rows k).length = n := ⟨_, rfl⟩
      obtain ⟨n2, hn2⟩ : ∃ n, (rw_ rows p).length = n := ⟨_, rfl⟩
      rw [hn1] at hu
      rw [hn2] at hu2
      subst hu hu2
      clear hC1 hC2 hn1 hn2 c2 HR2 hle hpT
      go_upto_region 5 with fail
      refine wp_region_beneath wr.heap.size wr (Below.refl _ _) (by kernel_rfl) (by kernel_rfl) ?_
      repeat (go_big_quiet_step (first
        | (go_at_call 102; rename_i sb; exact Calls.beneath_same sb (HC1.out _ _ (HGB.out sb).1 (HGB.out sb).2.1))
        | (go_at_call 102; rename_i sb; exact Calls.beneath_same sb (HC2.out _ _ (HGB.out sb).1 (HGB.out sb).2.2))))
      refine wpQuiet_nil ?_
      rintro _ ⟨sb, rfl⟩
      have HB6 := Lib.hid (HB.out.trans (sb.is.mono HB.out.size))
      clear HGB q2 HB
      generalize sb.val = W6 at *
      by_cases hlt : C1 < C2
      · have HNX : Hid (pk g rows (k + 1) = k) := Lib.hid (by rw [HPS.out, if_pos hlt])
        clear HPS
        go_wp2_with fail
        go_roundw
        case rel => exact ⟨k + 1, by go_num, by omega, by rw [HNX.out], HB6.out⟩
        case measure => simp [intOf]; omega
      · have HNX : Hid (pk g rows (k + 1) = p) := Lib.hid (by rw [HPS.out, if_neg hlt])
        clear HPS
        go_wp2_with fail
        go_roundw
        case rel => exact ⟨k + 1, by go_num, by omega, by rw [HNX.out], HB6.out⟩
        case measure => simp [intOf]; omega
    · obtain rfl : k = T := by omega
      have hki : ¬ (k : Int) < (k : Int) := by omega
      rw [HM.out]
      go_wp2_with fail
      go_ret
      exact ⟨rfl, HB.out⟩
end Go.Proofs.YtehmmogdboaofaaGreatDoor
namespace Go.Proofs.YtehmmogdboaofaaGreatDoor
open Go.RowKit FreqM
set_option linter.unusedVariables false
theorem CntP.ok {l : List Int} {n : Int} {zs : List Int} {err : Nat} (h : CntP l n zs err) (hk : CntOk l n) : zs = counts l n.toNat ∧ err = 0 := by
  rcases h with ⟨h1, _⟩ | ⟨_, h1, h2⟩
  · exact absurd hk h1
  · exact ⟨h1, h2⟩
theorem CntP.no {l : List Int} {n : Int} {zs : List Int} {err : Nat} (h : CntP l n zs err) (hk : ¬ CntOk l n) : zs = [] ∧ err = 1 := by
  rcases h with ⟨_, h1, h2⟩ | ⟨h1, _⟩
  · exact ⟨h1, h2⟩
  · exact absurd h1 hk
theorem CostP.ok {l ls : List Int} {n : Int} {err : Nat} (h : CostP l ls n err) (hk : CostOk l ls) : n = FreqM.cap (costS l ls) ∧ err = 0 := by
  rcases h with ⟨h1, _⟩ | ⟨_, h1, h2⟩
  · exact absurd hk h1
  · exact ⟨h1, h2⟩
theorem CostP.no {l ls : List Int} {n : Int} {err : Nat} (h : CostP l ls n err) (hk : ¬ CostOk l ls) : n = 0 ∧ err = 1 := by
  rcases h with ⟨_, h1, h2⟩ | ⟨h1, _⟩
  · exact ⟨h1, h2⟩
  · exact absurd h1 hk
theorem AddP.ok {a b : List Int} {zs : List Int} {err : Nat} (h : AddP a b zs err) (hk : AddOk a b) : zs = adds a b ∧ err = 0 := by
  rcases h with ⟨h1, _⟩ | ⟨_, h1, h2⟩
  · exact absurd hk h1
  · exact ⟨h1, h2⟩
theorem AddP.no {a b : List Int} {zs : List Int} {err : Nat} (h : AddP a b zs err) (hk : ¬ AddOk a b) : zs = [] ∧ err = 1 := by
  rcases h with ⟨_, h1, h2⟩ | ⟨h1, _⟩
  · exact ⟨h1, h2⟩
  · exact absurd h1 hk
theorem ints_at8 (w : World) (zs : List Int) (N : Nat) (hN : N = zs.length) : IsInts (w.alloc (.cells (zs.map iv64).toArray 3)) (.slice (some ⟨w.heap.size, 0, none⟩) N N) zs :=
  ints_of_row (rest := []) (by rw [List.append_nil]; exact heap_alloc_new w _) hN
theorem ints_two (w : World) : IsInts ((w.alloc (.cells (([0, 2, 2] : List Int).map iv64).toArray 3)).alloc (.cells (([5, 1, 2] : List Int).map iv64).toArray 3)) (.slice (some ⟨w.heap.size + 1, 0, none⟩) 3 3) [5, 1, 2] := by
  have h := ints_at8 (w.alloc (.cells (([0, 2, 2] : List Int).map iv64).toArray 3)) [5, 1, 2] 3 rfl
  rw [show (w.alloc (.cells (([0, 2, 2] : List Int).map iv64).toArray 3)).heap.size = w.heap.size + 1 from by simp] at h
  exact h
theorem cnt_three {zs : List Int} {err : Nat} (h : CntP [0, 2, 2] 3 zs err) : zs = [1, 0, 2] ∧ err = 0 := by
  have hk : CntOk [0, 2, 2] 3 := ⟨by decide, by decide, by unfold Syms; decide⟩
  obtain ⟨h1, h2⟩ := h.ok hk
  exact ⟨h1.trans (by decide), h2⟩
theorem cost_three {n : Int} {err : Nat} (h : CostP [0, 2, 2] [5, 1, 2] n err) : n = 9 ∧ err = 0 := by
  have hk : CostOk [0, 2, 2] [5, 1, 2] := ⟨by unfold Syms; decide, by unfold Nums; decide⟩
  obtain ⟨h1, h2⟩ := h.ok hk
  exact ⟨h1.trans (by decide), h2⟩
theorem tot_three : tot [3, -1, 4] = 7 := by decide
theorem gn_51 : gn 51 = 2 := by decide
end Go.Proofs.YtehmmogdboaofaaGreatDoor
namespace Go.Proofs.YtehmmogdboaofaaGreatDoor
open Go.RowKit FreqM
set_option linter.unusedVariables false
/-- How far Groups has come behind k symbols: q groups are whole, now is what is open. -/
def GrS (zs : List Int) (k q : Nat) (now : List Int) : Prop := (k < zs.length ∧ 50 * q ≤ k ∧ k < 50 * q + 50 ∧ now = (zs.take k).drop (50 * q)) ∨ (k = zs.length ∧ q = ng zs.length)
theorem now_next (zs : List Int) (k q : Nat) (h : k < zs.length) (hq : 50 * q ≤ k) : (zs.take k).drop (50 * q) ++ [zs.getD k 0] = (zs.take (k + 1)).drop (50 * q) := by
  rw [List.take_succ_eq_append_getElem h, List.drop_append_of_le_length (by rw [List.length_take]; omega), List.getD_eq_getElem?_getD, List.getElem?_eq_getElem h]
  rfl
theorem now_full (zs : List Int) (k q : Nat) (h : k < zs.length) (hf : k + 1 = 50 * q + 50 ∨ k + 1 = zs.length) (hk : k < 50 * q + 50) : (zs.take (k + 1)).drop (50 * q) = grp zs q := by
  unfold grp
  rw [List.drop_take]
  rcases hf with h1 | h1
  · rw [show k + 1 - 50 * q = 50 by omega]
  · rw [List.take_of_length_le (by rw [List.length_drop]; omega), List.take_of_length_le (by rw [List.length_drop]; omega)]
set_option maxRecDepth 100000 in
set_option maxHeartbeats 4000000 in
theorem rGroups_any (v0 : Value) (zs : List Int) (w : World) (hv : IsInts w v0 zs) (hz : zs.length ≤ 1000) :
    Calls Tryz.prog 74 #[v0] w fun e w' => ∃ r, e = .returned r ∧ IsRR w' r (grps zs (ng zs.length)) ∧ Below w.heap.size w w' := by
  have HV := Lib.hid hv
  obtain ⟨a, cap, rfl, _⟩ := hv
  go_enter Tryz.func74, Tryz.ntmps74
  go_wp2_with fail
  go_loopw [3, 4, 9] (fun o n i wr => ∃ (k q bn : Nat) (now : List Int) (v u : Value), k ≤ zs.length ∧ i = .int .i64 k ∧ v = o ∧ u = n ∧ GrS zs k q now ∧ OwnRR wr w.heap.size bn v (grps zs q) ∧ OwnI wr bn u now ∧ Below w.heap.size w wr) (fun _ _ i _ => zs.length - (intOf i).toNat)
  case atStart =>
    refine ⟨0, 0, w.heap.size, [], .slice none 0 0, .slice none 0 0, by omega, rfl, rfl, rfl, ?_, OwnRR.nil _ _ (Nat.le_refl _), OwnI.nil _ _, Below.refl _ _⟩
    by_cases h : zs.length = 0
    · exact Or.inr ⟨h.symm, by rw [h]; rfl⟩
    · exact Or.inl ⟨by omega, by omega, by omega, by simp⟩
  case round =>
    obtain ⟨k, q, bn, now, v, u, hk, rfl, rfl, rfl, hG, hR, hU, hB⟩ := hrel
    have HR := Lib.hid hR
    have HU := Lib.hid hU
    have HB := Lib.hid hB
    have hbn := hR.2.1
    have hBbn := hR.1
    clear hR hU hB
    by_cases hlk : k < zs.length
    · have hki : (k : Int) < (zs.length : Int) := by omega
      obtain ⟨_, hq1, hq2, rfl⟩ := hG.resolve_right (fun h => by omega)
      have HV2 := Lib.hid (HV.out.below HB.out)
      obtain ⟨b1, o1, k1, he1, c1⟩ := HV2.out.cell hlk
      simp only [Value.slice.injEq] at he1
      obtain ⟨rfl, _, rfl⟩ := he1
      have HNX := Lib.hid (now_next zs k q hlk hq1)
      have HFU := Lib.hid (now_full zs k q hlk)
      have HGO : Hid (¬ k + 1 = 50 * q + 50 → ¬ k + 1 = zs.length → GrS zs (k + 1) q ((zs.take (k + 1)).drop (50 * q))) := Lib.hid (fun h1 h2 => Or.inl ⟨by omega, by omega, by omega, rfl⟩)
      have hnl : ((zs.take k).drop (50 * q)).length = k - 50 * q := by rw [List.length_drop, List.length_take]; omega
      have hnl2 : ((zs.take (k + 1)).drop (50 * q)).length = k + 1 - 50 * q := by rw [List.length_drop, List.length_take]; omega
      have hln : ((zs.take k).drop (50 * q)).length + 1 ≤ 17592186044416 := by omega
      have hna : ((zs.take (k + 1)).drop (50 * q)).length + 50 * q ≤ k + 1 := by omega
      have hnb : k + 1 ≤ ((zs.take (k + 1)).drop (50 * q)).length + 50 * q := by omega
      clear hnl hnl2 hG
      generalize zs.getD k 0 = x at *
      generalize (zs.take k).drop (50 * q) = now at *
      go_upto_region 7 with (at_builtin; go_loud (refine push_int wr rfl _ _ rfl bn _ now x HU.out rfl rfl hln hbn ?_))
      intro u2 w2 hO2 hB2
      rw [HNX.out] at hO2
      have HU2 := Lib.hid hO2
      have HR2 := Lib.hid (HR.out.below hB2)
      have HB2 := Lib.hid (HB.out.trans (hB2.mono hBbn))
      have hbn2 : bn ≤ w2.heap.size := Nat.le_trans hbn hB2.size
      have hBw2 : w.heap.size ≤ w2.heap.size := HB2.out.size
      clear hO2 hB2 HR HU HB HNX hln
      generalize (zs.take (k + 1)).drop (50 * q) = now2 at *
      obtain ⟨au, cu, rfl⟩ := HU2.out.slice
      generalize now2.length = N at *
      have hgl : (grps zs q).length + 1 ≤ 1099511627776 := by rw [grps_len]; omega
      have hwk : IntKind.i64.wrap ((k : Int) + 1) = (k : Int) + 1 := IntWalk.i64_in _ (by omega)
      by_cases hA : k + 1 = 50 * q + 50
      · have hN50 : ((N : Int) == 50) = true := by rw [beq_iff_eq]; omega
        have hN50' : N = 50 := by omega
        have e1 := HFU.out (Or.inl hA) hq2
        subst e1
        have HGS : Hid (GrS zs (k + 1) (q + 1) []) := Lib.hid (by
          by_cases h : k + 1 < zs.length
          · exact Or.inl ⟨h, by omega, by omega, by rw [List.drop_eq_nil_of_le (by rw [List.length_take]; omega)]⟩
          · exact Or.inr ⟨by omega, by unfold ng; omega⟩)
        subst hN50'
        go_wp2_with (at_builtin; go_loud (refine push_row w2 rfl _ _ rfl w.heap.size bn _ (grps zs q) _ (grp zs q) HR2.out HU2.out rfl rfl hgl ?_))
        intro v3 w3 hR3 hB3
        rw [← grps_succ] at hR3
        have HR3 := Lib.hid hR3
        have HB3 := Lib.hid (HB2.out.trans hB3)
        clear hR3 hB3
        go_wp2_with fail
        go_roundw
        case rel => exact ⟨k + 1, q + 1, w3.heap.size, [], v3, _, by omega, by go_num, rfl, rfl, HGS.out, HR3.out, OwnI.nil _ _, HB3.out⟩
        case measure => simp [intOf]; omega
      · have hN50 : ((N : Int) == 50) = false := by rw [beq_eq_false_iff_ne]; omega
        by_cases hC : k + 1 = zs.length
        · have hCI : ((k : Int) + 1 == (zs.length : Int)) = true := by rw [beq_iff_eq]; omega
          have e1 := HFU.out (Or.inr hC) hq2
          subst e1
          have HGS : Hid (GrS zs (k + 1) (q + 1) []) := Lib.hid (Or.inr ⟨hC, by unfold ng; omega⟩)
          go_wp2_with (at_builtin; go_loud (refine push_row w2 rfl _ _ rfl w.heap.size bn _ (grps zs q) _ (grp zs q) HR2.out HU2.out rfl rfl hgl ?_))
          intro v3 w3 hR3 hB3
          rw [← grps_succ] at hR3
          have HR3 := Lib.hid hR3
          have HB3 := Lib.hid (HB2.out.trans hB3)
          clear hR3 hB3
          go_wp2_with fail
          go_roundw
          case rel => exact ⟨k + 1, q + 1, w3.heap.size, [], v3, _, by omega, by go_num, rfl, rfl, HGS.out, HR3.out, OwnI.nil _ _, HB3.out⟩
          case measure => simp [intOf]; omega
        · have hCI : ((k : Int) + 1 == (zs.length : Int)) = false := by rw [beq_eq_false_iff_ne]; omega
          have HGS := Lib.hid (HGO.out hA hC)
          clear HGO HFU
          go_wp2_with fail
          go_roundw
          case rel => exact ⟨k + 1, q, bn, now2, v, _, by omega, by go_num, rfl, rfl, HGS.out, HR2.out, HU2.out, HB2.out⟩
          case measure => simp [intOf]; omega
    · obtain rfl : k = zs.length := by omega
      have hq : q = ng zs.length := by
        rcases hG with ⟨h, _⟩ | ⟨_, h⟩
        · omega
        · exact h
      subst hq
      go_wp2_with fail
      go_ret
      exact ⟨_, rfl, HR.out.rr, HB.out⟩
theorem wf_i64 {n : Int} (h : (Lit.int .i64 n).wf = true) : -9223372036854775808 ≤ n ∧ n ≤ 9223372036854775807 := by
  simp [Lit.wf, IntKind.min, IntKind.max, IntKind.signed, IntKind.bits] at h
  omega
end Go.Proofs.YtehmmogdboaofaaGreatDoor

/-
  LAYER 1's STATEMENTS: A READER THAT GETS ITS BYTES IN PIECES TELLS THE SAME AS ONE THAT HAS THEM AT ONCE (1.5).
-/
import Derived.Test.YthkgkhpfahippaaBitsRB
import Derived.Test.YthkgkhpfahippaaBitsL
namespace Go.Proofs.Ythkgkhpfahippaa
open Go.RowKit BitM
set_option linter.unusedVariables false
/-- What has come: the first c bytes, or all. -/
def come (S : List UInt8) (c : Nat) : Bool → List UInt8
  | true => S
  | false => S.take c
theorem come_length (S : List UInt8) (c : Nat) (hc : c ≤ S.length) (B : Bool) : (come S c B).length = if B then S.length else c := by cases B <;> simp [come]; omega
theorem come_le (S : List UInt8) (c : Nat) (hc : c ≤ S.length) (B : Bool) : (come S c B).length ≤ S.length := by rw [come_length S c hc]; split <;> omega
/-- A field that is there is the same. -/
theorem same_get (S : List UInt8) (c : Nat) (B : Bool) (dr p n : Nat) (hd : 8 * dr ≤ p) (hp : p + n ≤ 8 * (come S c B).length) :
    num (((bitsOf ((come S c B).drop dr)).drop (p - 8 * dr)).take n) = num (((bitsOf S).drop (p - 8 * 0)).take n) := by
  rw [bitsOf_drop, List.drop_drop, show 8 * dr + (p - 8 * dr) = p by omega, Nat.mul_zero, Nat.sub_zero]
  cases B with
  | true => rfl
  | false =>
    show num (((bitsOf (S.take c)).drop p).take n) = _
    have hp2 : p + n ≤ 8 * c := by
      have : (come S c false).length ≤ c := by show (S.take c).length ≤ c; exact List.length_take_le _ _
      omega
    rw [bitsOf_take, List.drop_take, List.take_take, Nat.min_eq_left (by omega)]
theorem pieces_join (S : List UInt8) (c dr : Nat) (hd : dr ≤ c) (hc : c ≤ S.length) : (S.take c).drop dr ++ S.drop c = S.drop dr := by
  have h : S = S.take c ++ S.drop c := (List.take_append_drop c S).symm
  conv => rhs; rw [h]
  rw [List.drop_append_of_le_length (by simp; omega)]
theorem ext_take (s : ByteArray) (c : Nat) (hc : c ≤ s.size) : (s.extract 0 c).data.toList = s.data.toList.take c := by
  simp [ByteArray.data_extract]
theorem ext_drop (s : ByteArray) (c : Nat) (hc : c ≤ s.size) : (s.extract c s.size).data.toList = s.data.toList.drop c := by
  have e : s.size = s.data.toList.length := rfl
  rw [ByteArray.data_extract, e]
  simp only [Array.toList_extract, List.extract_eq_take_drop]
  rw [List.take_of_length_le (by simp)]
theorem IsReader.moved {w w' : World} {b b2 : Nat} {v v2 : Value} {l : List UInt8} {dr sp p : Nat} (h : IsReader w b v l dr sp p) (ht : Touch (· = b2) w w') (hd : ∀ k, foot b v k → ¬ foot b2 v2 k) : IsReader w' b v l dr sp p :=
  h.other ht (fun k hk e => hd k hk (Or.inl e))
theorem foot_kept {w : World} {b b2 : Nat} {v v2 v3 : Value} {l : List UInt8} {dr sp p : Nat} (h : IsReader w b v l dr sp p) (hd : ∀ k, foot b v k → ¬ foot b2 v2 k) (ho : ∀ k, v3.ownBlock = some k → v2.ownBlock = some k ∨ w.heap.size ≤ k) : ∀ k, foot b v k → ¬ foot b2 v3 k := by
  intro k hk hf
  rcases hf with e | e
  · exact hd k hk (Or.inl e)
  · rcases ho k e with h1 | h1
    · exact hd k hk (Or.inr h1)
    · have := h.lt k hk; omega
theorem foot_above {w : World} {b2 B : Nat} {v2 v3 : Value} (hB : B ≤ w.heap.size) (h : ∀ k, foot b2 v2 k → B ≤ k) (ho : ∀ k, v3.ownBlock = some k → v2.ownBlock = some k ∨ w.heap.size ≤ k) : ∀ k, foot b2 v3 k → B ≤ k := by
  intro k hf
  rcases hf with e | e
  · exact h k (Or.inl e)
  · rcases ho k e with h1 | h1
    · exact h k (Or.inr h1)
    · omega
set_option maxRecDepth 100000 in
set_option maxHeartbeats 4000000 in
theorem bitsPieces.walk (s : ByteArray) (cut n : Int) (w : World) (w0 : s.size ≤ maxLen) (w1 : (Lit.int .i64 cut).wf = true) (w2 : (Lit.int .i64 n).wf = true) :
    Calls Try.prog 6 #[.string s, .int .i64 cut, .int .i64 n] w fun e w' => e = .returned (.bool true) ∧ Below w.heap.size w w' := by
  unfold maxLen at w0
  clear w1 w2
  by_cases hx0 : (100 : Int) < s.size
  · go_enter Try.func6, Try.ntmps6
    go_wp2_with fail
    refine (five_any _).mono ?_
    rintro e w8 ⟨rfl, hb8⟩
    have H8 := Lib.hid hb8
    clear hb8
    go_wp2_with fail
    go_ret
    exact ⟨rfl, H8.out⟩
  by_cases hx1 : cut < 0
  · go_enter Try.func6, Try.ntmps6
    go_wp2_with fail
    refine (five_any _).mono ?_
    rintro e w8 ⟨rfl, hb8⟩
    have H8 := Lib.hid hb8
    clear hb8
    go_wp2_with fail
    go_ret
    exact ⟨rfl, H8.out⟩
  by_cases hx2 : (s.size : Int) < cut
  · go_enter Try.func6, Try.ntmps6
    go_wp2_with fail
    refine (five_any _).mono ?_
    rintro e w8 ⟨rfl, hb8⟩
    have H8 := Lib.hid hb8
    clear hb8
    go_wp2_with fail
    go_ret
    exact ⟨rfl, H8.out⟩
  by_cases hx3 : n < 1
  · go_enter Try.func6, Try.ntmps6
    go_wp2_with fail
    refine (five_any _).mono ?_
    rintro e w8 ⟨rfl, hb8⟩
    have H8 := Lib.hid hb8
    clear hb8
    go_wp2_with fail
    go_ret
    exact ⟨rfl, H8.out⟩
  by_cases hx4 : (32 : Int) < n
  · go_enter Try.func6, Try.ntmps6
    go_wp2_with fail
    refine (five_any _).mono ?_
    rintro e w8 ⟨rfl, hb8⟩
    have H8 := Lib.hid hb8
    clear hb8
    go_wp2_with fail
    go_ret
    exact ⟨rfl, H8.out⟩
  obtain ⟨c, rfl⟩ : ∃ c : Nat, cut = c := ⟨cut.toNat, by omega⟩
  obtain ⟨m, rfl⟩ : ∃ m : Nat, n = m := ⟨n.toNat, by omega⟩
  have hm32 : m ≤ 32 := by omega
  have hcs : c ≤ s.size := by omega
  have hs100 : s.size ≤ 100 := by omega
  have HE1 := Lib.hid (ext_take s c hcs)
  have HE2 := Lib.hid (ext_drop s c hcs)
  have hez : (s.extract c s.size).size ≤ 100 := by rw [ByteArray.size_extract]; omega
  have HEZ := Lib.hid hez
  have HEX := Lib.hid (show (s.extract 0 c).size ≤ maxLen by rw [ByteArray.size_extract]; unfold maxLen; omega)
  have hSl : s.data.toList.length = s.size := rfl
  have HSL := Lib.hid hSl
  clear hez hSl
  go_enter Try.func6, Try.ntmps6
  go_wp2_with fail
  refine (newReader_any s w (by unfold maxLen; omega)).mono ?_
  rintro e wa ⟨ba, va, rfl, hra, hba, hfa⟩
  have RA0 := Lib.hid hra
  have BA := Lib.hid hba
  have FA := Lib.hid hfa
  clear hra hba hfa
  go_wp2_with fail
  refine (newReader_any (s.extract 0 c) wa HEX.out).mono ?_
  rintro e wb ⟨bb, vb0, rfl, hrb, hbb, hfb⟩
  rw [HE1.out] at hrb
  have RB0 := Lib.hid hrb
  have RA1 := Lib.hid (RA0.out.other (Touch.ofBelow (S := fun _ => False) hbb) (fun _ _ h => h))
  have BB := Lib.hid (BA.out.trans (hbb.mono BA.out.size))
  have HD0 : Hid (∀ k, foot ba va k → ¬ foot bb vb0 k) := Lib.hid (fun k hk hk2 => by
    have h1 := RA0.out.lt k hk
    have h2 := hfb k hk2
    omega)
  have HF0 : Hid (∀ k, foot bb vb0 k → w.heap.size ≤ k) := Lib.hid (fun k hk => Nat.le_trans BA.out.size (hfb k hk))
  have hba0 : w.heap.size ≤ ba := FA.out ba (Or.inl rfl)
  clear hrb hbb hfb
  go_wp2_with fail
  go_loopw [9, 45] (fun cm i wr => ∃ (k p dr sp : Nat) (B : Bool) (vb : Value), k ≤ 8 * s.size ∧ i = .int .i64 k ∧ cm = .bool B ∧ dr ≤ (come s.data.toList c B).length ∧ sp ≤ dr ∧ IsReader wr ba va s.data.toList 0 0 p ∧ IsReader wr bb vb ((come s.data.toList c B).drop dr) dr sp p ∧
    (∀ k, foot ba va k → ¬ foot bb vb k) ∧ (∀ k, foot bb vb k → w.heap.size ≤ k) ∧ Below w.heap.size w wr) (fun _ i _ => 8 * s.size - (intOf i).toNat)
  case atStart => exact ⟨0, 0, 0, 0, false, vb0, by omega, rfl, rfl, Nat.zero_le _, Nat.le_refl _, RA1.out, RB0.out, HD0.out, HF0.out, BB.out⟩
  case round =>
    obtain ⟨k, p, dr, sp, B, vb, hk, rfl, rfl, hdr, hsp, hRA, hRB, hD, hF, hBw⟩ := hrel
    have RA := Lib.hid hRA
    have RB := Lib.hid hRB
    have HD := Lib.hid hD
    have HF := Lib.hid hF
    have HB := Lib.hid hBw
    have hpd : 8 * dr ≤ p := hRB.2.2.2.1
    have hpS : p ≤ 8 * (0 + s.data.toList.length) := hRA.2.2.2.2
    have hcl := come_le s.data.toList c hcs B
    have hsl := HSL.out
    have hpT : p ≤ 8 * (dr + ((come s.data.toList c B).drop dr).length) := hRB.2.2.2.2
    have hTl : dr + ((come s.data.toList c B).drop dr).length = (come s.data.toList c B).length := by rw [List.length_drop]; omega
    clear hRA hRB hD hF hBw
    by_cases hlt : k < 8 * s.size
    · by_cases hin : p + m ≤ 8 * (come s.data.toList c B).length
      · go_wp2_with fail
        refine (get_any ba va s.data.toList 0 0 p m _ RA.out (by omega) hm32 (by omega)).mono ?_
        rintro e w3 ⟨rfl, hra3, hta3⟩
        have RA3 := Lib.hid hra3
        have RB3 := Lib.hid (RB.out.other hta3 (fun k hk e => HD.out ba (Or.inl rfl) ((show k = ba from e) ▸ hk)))
        have B3 := Lib.hid (HB.out.trans (hta3.below HB.out.size (fun i hi => by have hi' : i = ba := hi; omega)))
        clear hra3 hta3
        have HFX := HF
        go_wp2_with fail
        refine (get_any bb vb _ dr sp p m _ RB3.out (by omega) hm32 (by omega)).mono ?_
        rintro e w4 ⟨rfl, hrb4, htb4⟩
        have HSG := Lib.hid (same_get s.data.toList c B dr p m hpd (by omega))
        have RB4 := Lib.hid hrb4
        have RA4 := Lib.hid (RA3.out.moved (v2 := vb) htb4 HD.out)
        have B4 := Lib.hid (B3.out.trans (htb4.below B3.out.size (fun i hi => HFX.out i (Or.inl hi))))
        clear hrb4 htb4
        rw [HSG.out]
        generalize num (((bitsOf s.data.toList).drop (p - 8 * 0)).take m) = V at *
        have hp4 : 8 * dr ≤ p + m := by omega
        have hp5 := RB4.out.2.2.2.2
        obtain ⟨n2, hn2⟩ : ∃ n2, n2 = (p + m) / 8 - dr := ⟨_, rfl⟩
        go_wp2_with fail
        refine (drop_any bb vb _ dr sp _ n2 _ RB4.out (by omega) hsp hn2).mono ?_
        rintro e w7 ⟨rfl, vb7, sp7, hrb7, hsp7, htb7, hob7⟩
        rw [List.drop_drop] at hrb7
        have RB7 := Lib.hid hrb7
        have RA7 := Lib.hid (RA4.out.other htb7 HD.out)
        have HD7 := Lib.hid (foot_kept RA4.out HD.out hob7)
        have HF7 := Lib.hid (foot_above B4.out.size HF.out hob7)
        have B7 := Lib.hid (B4.out.trans (htb7.below B4.out.size HF.out))
        have hdr7 : dr + n2 ≤ (come s.data.toList c B).length := by omega
        clear hrb7 htb7 hob7
        go_wp2_with fail
        refine (rat_any _ _ _ _ _ _ w7 RA7.out).mono ?_
        rintro e w' ⟨rfl, rfl⟩
        go_wp2_with fail
        refine (rat_any _ _ _ _ _ _ w7 RB7.out).mono ?_
        rintro e w' ⟨rfl, rfl⟩
        go_wp2_with fail
        go_roundw
        case rel => exact ⟨k + 1, _, _, _, B, _, by omega, by go_num, rfl, hdr7, hsp7, RA7.out, RB7.out, HD7.out, HF7.out, B7.out⟩
        case measure => simp [intOf]; omega
      · cases B with
        | false =>
          by_cases hinS : p + m ≤ 8 * s.data.toList.length
          · go_wp2_with fail
            refine (get_any ba va s.data.toList 0 0 p m _ RA.out (by omega) hm32 (by omega)).mono ?_
            rintro e w3 ⟨rfl, hra3, hta3⟩
            have RA3 := Lib.hid hra3
            have RB3 := Lib.hid (RB.out.other hta3 (fun k hk e => HD.out ba (Or.inl rfl) ((show k = ba from e) ▸ hk)))
            have B3 := Lib.hid (HB.out.trans (hta3.below HB.out.size (fun i hi => by have hi' : i = ba := hi; omega)))
            clear hra3 hta3
            go_wp2_with fail
            refine (get_short bb vb _ dr sp p m _ RB3.out (by omega) hm32 (by omega)).mono ?_
            rintro e w' ⟨rfl, q2, rfl⟩
            have RA5 := Lib.hid (RA3.out.drewN q2)
            have RB5 := Lib.hid (RB3.out.drewN q2)
            have B5 := Lib.hid (B3.out.trans (show Below w.heap.size w3 (w3.drewN q2) from ⟨rfl, rfl, rfl, Nat.le_refl _, fun _ _ => rfl⟩))
            generalize w3.drewN q2 = w5 at *
            go_wp2_with fail
            refine (more_any bb vb _ dr sp p (s.extract c s.size) w5 RB5.out (by have := HEZ.out; omega)).mono ?_
            rintro e w6 ⟨rfl, vb6, hrb6, htb6, hob6⟩
            have hdc : dr ≤ c := by
              have : (come s.data.toList c false).length ≤ c := by show (s.data.toList.take c).length ≤ c; exact List.length_take_le _ _
              omega
            rw [HE2.out, show (come s.data.toList c false).drop dr ++ s.data.toList.drop c = (come s.data.toList c true).drop dr from pieces_join s.data.toList c dr hdc hcs] at hrb6
            have RB6 := Lib.hid hrb6
            have RA6 := Lib.hid (RA5.out.other htb6 HD.out)
            have HD6 := Lib.hid (foot_kept RA5.out HD.out hob6)
            have HF6 := Lib.hid (foot_above B5.out.size HF.out hob6)
            have B6 := Lib.hid (B5.out.trans (htb6.below B5.out.size HF.out))
            clear hrb6 htb6 hob6
            have hT6 : dr + ((come s.data.toList c true).drop dr).length = s.data.toList.length := by
              show dr + (s.data.toList.drop dr).length = _
              rw [List.length_drop]; omega
            have HFX := HF6
            go_wp2_with fail
            refine (get_any bb vb6 _ dr sp p m _ RB6.out (by omega) hm32 (by omega)).mono ?_
            rintro e w4 ⟨rfl, hrb4, htb4⟩
            have HSG := Lib.hid (same_get s.data.toList c true dr p m hpd (by show p + m ≤ 8 * s.data.toList.length; omega))
            have RB4 := Lib.hid hrb4
            have RA4 := Lib.hid (RA6.out.moved (v2 := vb6) htb4 HD6.out)
            have B4 := Lib.hid (B6.out.trans (htb4.below B6.out.size (fun i hi => HFX.out i (Or.inl hi))))
            clear hrb4 htb4
            rw [HSG.out]
            generalize num (((bitsOf s.data.toList).drop (p - 8 * 0)).take m) = V at *
            have hp4 : 8 * dr ≤ p + m := by omega
            have hp5 := RB4.out.2.2.2.2
            obtain ⟨n2, hn2⟩ : ∃ n2, n2 = (p + m) / 8 - dr := ⟨_, rfl⟩
            go_wp2_with fail
            refine (drop_any bb vb6 _ dr sp _ n2 _ RB4.out (by omega) hsp hn2).mono ?_
            rintro e w7 ⟨rfl, vb7, sp7, hrb7, hsp7, htb7, hob7⟩
            rw [List.drop_drop] at hrb7
            have RB7 := Lib.hid hrb7
            have RA7 := Lib.hid (RA4.out.other htb7 HD6.out)
            have HD7 := Lib.hid (foot_kept RA4.out HD6.out hob7)
            have HF7 := Lib.hid (foot_above B4.out.size HF6.out hob7)
            have B7 := Lib.hid (B4.out.trans (htb7.below B4.out.size HF6.out))
            have hdr7 : dr + n2 ≤ (come s.data.toList c true).length := by show dr + n2 ≤ s.data.toList.length; omega
            clear hrb7 htb7 hob7
            go_wp2_with fail
            refine (rat_any _ _ _ _ _ _ w7 RA7.out).mono ?_
            rintro e w' ⟨rfl, rfl⟩
            go_wp2_with fail
            refine (rat_any _ _ _ _ _ _ w7 RB7.out).mono ?_
            rintro e w' ⟨rfl, rfl⟩
            go_wp2_with fail
            go_roundw
            case rel => exact ⟨k + 1, _, _, _, true, _, by omega, by go_num, rfl, hdr7, hsp7, RA7.out, RB7.out, HD7.out, HF7.out, B7.out⟩
            case measure => simp [intOf]; omega
          · go_wp2_with fail
            refine (get_short ba va s.data.toList 0 0 p m _ RA.out (by omega) hm32 (by omega)).mono ?_
            rintro e w' ⟨rfl, q1, rfl⟩
            have RA3 := Lib.hid (RA.out.drewN q1)
            have RB3 := Lib.hid (RB.out.drewN q1)
            have B3 := Lib.hid (HB.out.trans (show Below w.heap.size wr (wr.drewN q1) from ⟨rfl, rfl, rfl, Nat.le_refl _, fun _ _ => rfl⟩))
            generalize wr.drewN q1 = w3 at *
            go_wp2_with fail
            refine (get_short bb vb _ dr sp p m _ RB3.out (by omega) hm32 (by omega)).mono ?_
            rintro e w' ⟨rfl, q2, rfl⟩
            have RA5 := Lib.hid (RA3.out.drewN q2)
            have RB5 := Lib.hid (RB3.out.drewN q2)
            have B5 := Lib.hid (B3.out.trans (show Below w.heap.size w3 (w3.drewN q2) from ⟨rfl, rfl, rfl, Nat.le_refl _, fun _ _ => rfl⟩))
            generalize w3.drewN q2 = w5 at *
            go_wp2_with fail
            refine (more_any bb vb _ dr sp p (s.extract c s.size) w5 RB5.out (by have := HEZ.out; omega)).mono ?_
            rintro e w6 ⟨rfl, vb6, hrb6, htb6, hob6⟩
            have hdc : dr ≤ c := by
              have : (come s.data.toList c false).length ≤ c := by show (s.data.toList.take c).length ≤ c; exact List.length_take_le _ _
              omega
            rw [HE2.out, show (come s.data.toList c false).drop dr ++ s.data.toList.drop c = (come s.data.toList c true).drop dr from pieces_join s.data.toList c dr hdc hcs] at hrb6
            have RB6 := Lib.hid hrb6
            have RA6 := Lib.hid (RA5.out.other htb6 HD.out)
            have HD6 := Lib.hid (foot_kept RA5.out HD.out hob6)
            have HF6 := Lib.hid (foot_above B5.out.size HF.out hob6)
            have B6 := Lib.hid (B5.out.trans (htb6.below B5.out.size HF.out))
            clear hrb6 htb6 hob6
            have hT6 : dr + ((come s.data.toList c true).drop dr).length = s.data.toList.length := by
              show dr + (s.data.toList.drop dr).length = _
              rw [List.length_drop]; omega
            go_wp2_with fail
            refine (get_short bb vb6 _ dr sp p m _ RB6.out (by omega) hm32 (by omega)).mono ?_
            rintro e w' ⟨rfl, q3, rfl⟩
            have RA4 := Lib.hid (RA6.out.drewN q3)
            have RB4 := Lib.hid (RB6.out.drewN q3)
            have B4 := Lib.hid (B6.out.trans (show Below w.heap.size w6 (w6.drewN q3) from ⟨rfl, rfl, rfl, Nat.le_refl _, fun _ _ => rfl⟩))
            generalize w6.drewN q3 = w4 at *
            have hp4 : 8 * dr ≤ p := by omega
            have hp5 := RB4.out.2.2.2.2
            obtain ⟨n2, hn2⟩ : ∃ n2, n2 = (p) / 8 - dr := ⟨_, rfl⟩
            go_wp2_with fail
            refine (drop_any bb vb6 _ dr sp _ n2 _ RB4.out (by omega) hsp hn2).mono ?_
            rintro e w7 ⟨rfl, vb7, sp7, hrb7, hsp7, htb7, hob7⟩
            rw [List.drop_drop] at hrb7
            have RB7 := Lib.hid hrb7
            have RA7 := Lib.hid (RA4.out.other htb7 HD6.out)
            have HD7 := Lib.hid (foot_kept RA4.out HD6.out hob7)
            have HF7 := Lib.hid (foot_above B4.out.size HF6.out hob7)
            have B7 := Lib.hid (B4.out.trans (htb7.below B4.out.size HF6.out))
            have hdr7 : dr + n2 ≤ (come s.data.toList c true).length := by show dr + n2 ≤ s.data.toList.length; omega
            clear hrb7 htb7 hob7
            go_wp2_with fail
            refine (rat_any _ _ _ _ _ _ w7 RA7.out).mono ?_
            rintro e w' ⟨rfl, rfl⟩
            go_wp2_with fail
            refine (rat_any _ _ _ _ _ _ w7 RB7.out).mono ?_
            rintro e w' ⟨rfl, rfl⟩
            go_wp2_with fail
            go_roundw
            case rel => exact ⟨k + 1, _, _, _, true, _, by omega, by go_num, rfl, hdr7, hsp7, RA7.out, RB7.out, HD7.out, HF7.out, B7.out⟩
            case measure => simp [intOf]; omega
        | true =>
          have hT6 : dr + ((come s.data.toList c true).drop dr).length = s.data.toList.length := hTl
          have hinS : ¬ p + m ≤ 8 * s.data.toList.length := hin
          go_wp2_with fail
          refine (get_short ba va s.data.toList 0 0 p m _ RA.out (by omega) hm32 (by omega)).mono ?_
          rintro e w' ⟨rfl, q1, rfl⟩
          have RA3 := Lib.hid (RA.out.drewN q1)
          have RB3 := Lib.hid (RB.out.drewN q1)
          have B3 := Lib.hid (HB.out.trans (show Below w.heap.size wr (wr.drewN q1) from ⟨rfl, rfl, rfl, Nat.le_refl _, fun _ _ => rfl⟩))
          generalize wr.drewN q1 = w3 at *
          go_wp2_with fail
          refine (get_short bb vb _ dr sp p m _ RB3.out (by omega) hm32 (by omega)).mono ?_
          rintro e w' ⟨rfl, q3, rfl⟩
          have RA4 := Lib.hid (RA3.out.drewN q3)
          have RB4 := Lib.hid (RB3.out.drewN q3)
          have B4 := Lib.hid (B3.out.trans (show Below w.heap.size w3 (w3.drewN q3) from ⟨rfl, rfl, rfl, Nat.le_refl _, fun _ _ => rfl⟩))
          generalize w3.drewN q3 = w4 at *
          have hp4 : 8 * dr ≤ p := by omega
          have hp5 := RB4.out.2.2.2.2
          obtain ⟨n2, hn2⟩ : ∃ n2, n2 = (p) / 8 - dr := ⟨_, rfl⟩
          go_wp2_with fail
          refine (drop_any bb vb _ dr sp _ n2 _ RB4.out (by omega) hsp hn2).mono ?_
          rintro e w7 ⟨rfl, vb7, sp7, hrb7, hsp7, htb7, hob7⟩
          rw [List.drop_drop] at hrb7
          have RB7 := Lib.hid hrb7
          have RA7 := Lib.hid (RA4.out.other htb7 HD.out)
          have HD7 := Lib.hid (foot_kept RA4.out HD.out hob7)
          have HF7 := Lib.hid (foot_above B4.out.size HF.out hob7)
          have B7 := Lib.hid (B4.out.trans (htb7.below B4.out.size HF.out))
          have hdr7 : dr + n2 ≤ (come s.data.toList c true).length := by show dr + n2 ≤ s.data.toList.length; omega
          clear hrb7 htb7 hob7
          go_wp2_with fail
          refine (rat_any _ _ _ _ _ _ w7 RA7.out).mono ?_
          rintro e w' ⟨rfl, rfl⟩
          go_wp2_with fail
          refine (rat_any _ _ _ _ _ _ w7 RB7.out).mono ?_
          rintro e w' ⟨rfl, rfl⟩
          go_wp2_with fail
          go_roundw
          case rel => exact ⟨k + 1, _, _, _, true, _, by omega, by go_num, rfl, hdr7, hsp7, RA7.out, RB7.out, HD7.out, HF7.out, B7.out⟩
          case measure => simp [intOf]; omega
    · obtain rfl : k = 8 * s.size := by omega
      go_wp2_with fail
      refine (five_any _).mono ?_
      rintro e w8 ⟨rfl, hb8⟩
      have H8 := Lib.hid hb8
      clear hb8
      go_wp2_with fail
      go_ret
      exact ⟨rfl, HB.out.trans (H8.out.mono HB.out.size)⟩
end Go.Proofs.Ythkgkhpfahippaa

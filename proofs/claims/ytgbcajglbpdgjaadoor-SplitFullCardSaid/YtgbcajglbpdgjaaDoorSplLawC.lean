/-
  LAYER 19's STATEMENTS: SplitFull.
-/
import Derived.Test.YtgbcajglbpdgjaaDoorSplLawB
namespace Go.Proofs.YtgbcajglbpdgjaaDoor
open Go.RowKit RleM SplM
set_option linter.unusedVariables false
set_option linter.unusedSimpArgs false
theorem first_four (p : Pc) (r : List Pc) (h4 : 4 ≤ p.2) : pack (p :: r) = p.1 :: p.1 :: p.1 :: p.1 :: UInt8.ofNat (p.2 - 4) :: pack r := by
  rw [pack_cons]
  unfold packP
  rw [if_neg (by omega)]
  rfl
theorem first_row {p : Pc} {r : List Pc} (hg : RleM.Good (p :: r)) (h4 : p.2 < 4) : packP p = List.replicate p.2 p.1 ∧ (∀ j, j < p.2 → (pack (p :: r))[j]? = some p.1) ∧ (∀ x, (pack (p :: r))[p.2]? = some x → x ≠ p.1) := by
  have e : packP p = List.replicate p.2 p.1 := by unfold packP; rw [if_pos h4]
  refine ⟨e, fun j hj => ?_, fun x hx => ?_⟩
  · rw [pack_cons, e, List.getElem?_append_left (by simpa using hj)]
    simp [hj]
  · rw [pack_cons, e, List.getElem?_append_right (by simp)] at hx
    simp only [List.length_replicate, Nat.sub_self] at hx
    cases r with
    | nil => simp [pack] at hx
    | cons q r2 =>
      have hq := hg.2.2.1 q rfl
      have hq1 := hg.2.2.2.1
      have hne : q.1 ≠ p.1 := by
        rcases hq with h | h
        · exact h
        · omega
      have hx2 : x = q.1 := by
        rw [pack_cons] at hx
        unfold packP at hx
        by_cases hq4 : q.2 < 4
        · rw [if_pos hq4] at hx
          obtain ⟨m, hm⟩ : ∃ m, q.2 = m + 1 := ⟨q.2 - 1, by omega⟩
          rw [hm, List.replicate_succ] at hx
          simpa using hx.symm
        · rw [if_neg hq4] at hx
          simpa using hx.symm
      rw [hx2]
      exact hne
theorem byte_of {s : ByteArray} {L : List UInt8} (h : s.data.toList = L) {k : Nat} {x : UInt8} (hx : L[k]? = some x) : ∃ hk : k < s.size, s[k] = x := by
  have hk : k < s.size := by
    have := (List.getElem?_eq_some_iff.1 hx).1
    rw [← h] at this
    simpa using this
  refine ⟨hk, ?_⟩
  have e := data_get hk
  rw [h, hx] at e
  exact (Option.some.inj e).symm
theorem some_bytes2 (s : ByteArray) (h : 0 < s.size) : s.toList.isEmpty = false := by
  rw [ByteArray.toList_eq]
  cases e : s.data.toList with
  | nil =>
    have : s.data.toList.length = s.size := rfl
    rw [e] at this
    simp at this
    omega
  | cons a l => rfl
set_option maxRecDepth 100000 in
set_option maxHeartbeats 8000000 in
theorem first19_any (p : Pc) (r : List Pc) (s : ByteArray) (w : World) (hg : RleM.Good (p :: r)) (hs : s.data.toList = pack (p :: r)) (hl : s.size ≤ 1000000) :
    Calls Tryd.prog 22 #[.string s] w fun e w' => e = .returned (.string ⟨(packP p).toArray⟩) ∧ ∃ m, w' = w.drewN m := by
  have hsz : s.size = (pack (p :: r)).length := by rw [← hs]; simp
  by_cases h4 : 4 ≤ p.2
  · have hf := first_four p r h4
    rw [hf] at hs hsz
    obtain ⟨k0, b0⟩ := byte_of hs (k := 0) (x := p.1) rfl
    obtain ⟨k1, b1⟩ := byte_of hs (k := 1) (x := p.1) rfl
    obtain ⟨k2, b2⟩ := byte_of hs (k := 2) (x := p.1) rfl
    obtain ⟨k3, b3⟩ := byte_of hs (k := 3) (x := p.1) rfl
    have h5 : 5 ≤ s.size := by rw [hsz]; simp
    have h5i : (s.size : Int) ≥ 5 := by omega
    have h5j : (5 : Int) ≤ (s.size : Int) := by omega
    have hex : s.extract 0 5 = ⟨(packP p).toArray⟩ := by
      apply ByteArray.ext
      rw [ByteArray.data_extract]
      apply Array.ext'
      rw [Array.toList_extract, hs]
      unfold packP
      rw [if_neg (by omega)]
      rfl
    obtain ⟨P, hP⟩ : ∃ P : ByteArray, (⟨(packP p).toArray⟩ : ByteArray) = P := ⟨_, rfl⟩
    rw [hP] at hex ⊢
    have i0 : (s[0].toNat : Int) = (p.1.toNat : Int) := by rw [b0]
    have i1 : (s[1].toNat : Int) = (p.1.toNat : Int) := by rw [b1]
    have i2 : (s[2].toNat : Int) = (p.1.toNat : Int) := by rw [b2]
    have i3 : (s[3].toNat : Int) = (p.1.toNat : Int) := by rw [b3]
    obtain ⟨c, hc⟩ : ∃ c : Int, (p.1.toNat : Int) = c := ⟨_, rfl⟩
    rw [hc] at i0 i1 i2 i3
    clear hg hs hsz h4 hf b0 b1 b2 b3 hP hc
    go_enter Tryd.func22, Tryd.ntmps22
    go_wp2_with fail
    go_quiet (fail)
    go_wp2_with fail
    go_ret
    exact ⟨rfl, _, rfl⟩
  · obtain ⟨hp, hr, hst⟩ := first_row hg (by omega)
    have hp1 := hg.1
    obtain ⟨k0, b0⟩ := byte_of hs (k := 0) (x := p.1) (hr 0 (by omega))
    have HR : Hid (∀ j, j < p.2 → ∃ hk : j < s.size, s[j] = p.1) := Lib.hid (fun j hj => byte_of hs (hr j hj))
    have HST : Hid (∀ (hk : p.2 < s.size), s[p.2] ≠ p.1) := Lib.hid (fun hk e => by
      have e2 := data_get hk
      rw [hs] at e2
      exact hst _ e2 e)
    have hpl : p.2 ≤ s.size := by
      obtain ⟨hk, _⟩ := HR.out (p.2 - 1) (by omega)
      omega
    have hex : s.extract 0 p.2 = ⟨(packP p).toArray⟩ := by
      apply ByteArray.ext
      rw [ByteArray.data_extract]
      apply Array.ext'
      rw [Array.toList_extract, hs, hp, List.extract_eq_take_drop, Nat.sub_zero, List.drop_zero, pack_cons, hp, List.take_append_of_le_length (by simp), List.take_of_length_le (by simp)]
    obtain ⟨P, hP⟩ : ∃ P : ByteArray, (⟨(packP p).toArray⟩ : ByteArray) = P := ⟨_, rfl⟩
    rw [hP] at hex ⊢
    obtain ⟨q, hq⟩ : ∃ q, p.2 = q := ⟨_, rfl⟩
    obtain ⟨c, hc⟩ : ∃ c : UInt8, p.1 = c := ⟨_, rfl⟩
    rw [hq] at HR HST hpl hex h4 hp1
    rw [hc] at HR HST b0
    have hq4 : q < 4 := by omega
    have hqi : (q : Int) ≤ (s.size : Int) := by omega
    clear hg hs hsz h4 hp hr hst hP hq hc
    have HB0 := Lib.hid b0
    clear b0
    by_cases h5 : 5 ≤ s.size
    · have h5i : (s.size : Int) ≥ 5 := by omega
      have h5j : (5 : Int) ≤ (s.size : Int) := by omega
      have k1 : 1 < s.size := by omega
      have k2 : 2 < s.size := by omega
      have k3 : 3 < s.size := by omega
      have ki1 : (1 : Int) < (s.size : Int) := by omega
      have ki2 : (2 : Int) < (s.size : Int) := by omega
      have ki3 : (3 : Int) < (s.size : Int) := by omega
      have hq3 : q = 1 ∨ q = 2 ∨ q = 3 := by omega
      rcases hq3 with rfl | rfl | rfl
      · have hn : ((s[0].toNat : Int) == (s[1].toNat : Int)) = false := by
          have e := HST.out (by omega)
          obtain ⟨_, e2⟩ := HR.out 0 (by omega)
          exact byte_ne (by rw [e2]; exact fun h => e h.symm)
        go_enter Tryd.func22, Tryd.ntmps22
        go_wp2_with fail
        go_quiet (fail)
        go_wp2_with fail
        go_loopw [3] (fun n wr => ∃ k m : Nat, k ≤ 1 ∧ n = .int .i64 k ∧ wr = w.drewN m) (fun n _ => 255 - (intOf n).toNat)
        case atStart => exact ⟨0, _, Nat.zero_le _, rfl, rfl⟩
        case round =>
          obtain ⟨k, m, hk, rfl, rfl⟩ := hrel
          by_cases hkl : k < 1
          · obtain ⟨hks, hkc⟩ := HR.out k hkl
            have hb : ((s[k].toNat : Int) == (s[0].toNat : Int)) = true := byte_eq (by rw [hkc, HB0.out])
            have hki : (k : Int) < (s.size : Int) := by omega
            clear hkc
            go_wp2_with fail
            go_quiet (fail)
            go_wp2_with fail
            go_roundw
            case rel => exact ⟨k + 1, _, by omega, by go_num, rfl⟩
            case measure => simp [intOf]; omega
          · obtain rfl : k = 1 := by omega
            have hb : ((s[1].toNat : Int) == (s[0].toNat : Int)) = false := byte_ne (by rw [HB0.out]; exact HST.out (by omega))
            go_wp2_with fail
            go_quiet (fail)
            go_wp2_with fail
            go_ret
            exact ⟨rfl, _, rfl⟩
      · have hn : ((s[1].toNat : Int) == (s[2].toNat : Int)) = false := by
          have e := HST.out (by omega)
          obtain ⟨_, e2⟩ := HR.out 1 (by omega)
          exact byte_ne (by rw [e2]; exact fun h => e h.symm)
        have hn0 : ((s[0].toNat : Int) == (s[1].toNat : Int)) = true := by
          obtain ⟨_, e1⟩ := HR.out 0 (by omega)
          obtain ⟨_, e2⟩ := HR.out 1 (by omega)
          exact byte_eq (by rw [e1, e2])
        go_enter Tryd.func22, Tryd.ntmps22
        go_wp2_with fail
        go_quiet (fail)
        go_wp2_with fail
        go_loopw [3] (fun n wr => ∃ k m : Nat, k ≤ 2 ∧ n = .int .i64 k ∧ wr = w.drewN m) (fun n _ => 255 - (intOf n).toNat)
        case atStart => exact ⟨0, _, Nat.zero_le _, rfl, rfl⟩
        case round =>
          obtain ⟨k, m, hk, rfl, rfl⟩ := hrel
          by_cases hkl : k < 2
          · obtain ⟨hks, hkc⟩ := HR.out k hkl
            have hb : ((s[k].toNat : Int) == (s[0].toNat : Int)) = true := byte_eq (by rw [hkc, HB0.out])
            have hki : (k : Int) < (s.size : Int) := by omega
            clear hkc
            go_wp2_with fail
            go_quiet (fail)
            go_wp2_with fail
            go_roundw
            case rel => exact ⟨k + 1, _, by omega, by go_num, rfl⟩
            case measure => simp [intOf]; omega
          · obtain rfl : k = 2 := by omega
            have hb : ((s[2].toNat : Int) == (s[0].toNat : Int)) = false := byte_ne (by rw [HB0.out]; exact HST.out (by omega))
            go_wp2_with fail
            go_quiet (fail)
            go_wp2_with fail
            go_ret
            exact ⟨rfl, _, rfl⟩
      · have hn : ((s[2].toNat : Int) == (s[3].toNat : Int)) = false := by
          have e := HST.out (by omega)
          obtain ⟨_, e2⟩ := HR.out 2 (by omega)
          exact byte_ne (by rw [e2]; exact fun h => e h.symm)
        have hn0 : ((s[0].toNat : Int) == (s[1].toNat : Int)) = true := by
          obtain ⟨_, e1⟩ := HR.out 0 (by omega)
          obtain ⟨_, e2⟩ := HR.out 1 (by omega)
          exact byte_eq (by rw [e1, e2])
        have hn1 : ((s[1].toNat : Int) == (s[2].toNat : Int)) = true := by
          obtain ⟨_, e1⟩ := HR.out 1 (by omega)
          obtain ⟨_, e2⟩ := HR.out 2 (by omega)
          exact byte_eq (by rw [e1, e2])
        go_enter Tryd.func22, Tryd.ntmps22
        go_wp2_with fail
        go_quiet (fail)
        go_wp2_with fail
        go_loopw [3] (fun n wr => ∃ k m : Nat, k ≤ 3 ∧ n = .int .i64 k ∧ wr = w.drewN m) (fun n _ => 255 - (intOf n).toNat)
        case atStart => exact ⟨0, _, Nat.zero_le _, rfl, rfl⟩
        case round =>
          obtain ⟨k, m, hk, rfl, rfl⟩ := hrel
          by_cases hkl : k < 3
          · obtain ⟨hks, hkc⟩ := HR.out k hkl
            have hb : ((s[k].toNat : Int) == (s[0].toNat : Int)) = true := byte_eq (by rw [hkc, HB0.out])
            have hki : (k : Int) < (s.size : Int) := by omega
            clear hkc
            go_wp2_with fail
            go_quiet (fail)
            go_wp2_with fail
            go_roundw
            case rel => exact ⟨k + 1, _, by omega, by go_num, rfl⟩
            case measure => simp [intOf]; omega
          · obtain rfl : k = 3 := by omega
            have hb : ((s[3].toNat : Int) == (s[0].toNat : Int)) = false := byte_ne (by rw [HB0.out]; exact HST.out (by omega))
            go_wp2_with fail
            go_quiet (fail)
            go_wp2_with fail
            go_ret
            exact ⟨rfl, _, rfl⟩
    · have hA1 : decide ((5 : Int) ≤ (s.size : Int)) = false := by simp only [decide_eq_false_iff_not]; omega
      have hA2 : decide (5 ≤ s.size) = false := by simp only [decide_eq_false_iff_not]; omega
      go_enter Tryd.func22, Tryd.ntmps22
      go_wp2_with fail
      go_quiet (fail)
      go_wp2_with fail
      go_loopw [3] (fun n wr => ∃ k m : Nat, k ≤ q ∧ n = .int .i64 k ∧ wr = w.drewN m) (fun n _ => 255 - (intOf n).toNat)
      case atStart => exact ⟨0, _, Nat.zero_le _, rfl, rfl⟩
      case round =>
        obtain ⟨k, m, hk, rfl, rfl⟩ := hrel
        by_cases hkq : k < q
        · obtain ⟨hks, hkc⟩ := HR.out k hkq
          have hb : ((s[k].toNat : Int) == (s[0].toNat : Int)) = true := byte_eq (by rw [hkc, HB0.out])
          have hki : (k : Int) < (s.size : Int) := by omega
          clear hkc
          go_wp2_with fail
          go_quiet (fail)
          go_wp2_with fail
          go_roundw
          case rel => exact ⟨k + 1, _, by omega, by go_num, rfl⟩
          case measure => simp [intOf]; omega
        · obtain rfl : k = q := by omega
          by_cases hks : k < s.size
          · have hb : ((s[k].toNat : Int) == (s[0].toNat : Int)) = false := byte_ne (by rw [HB0.out]; exact HST.out hks)
            have hki : (k : Int) < (s.size : Int) := by omega
            go_wp2_with fail
            go_quiet (fail)
            go_wp2_with fail
            go_ret
            exact ⟨rfl, _, rfl⟩
          · have hd : decide ((k : Int) < (s.size : Int)) = false := by simp only [decide_eq_false_iff_not]; omega
            have hd2 : decide (k < s.size) = false := by simp only [decide_eq_false_iff_not]; omega
            go_wp2_with fail
            go_quiet (fail)
            go_wp2_with fail
            go_ret
            exact ⟨rfl, _, rfl⟩
set_option maxRecDepth 100000 in
set_option maxHeartbeats 8000000 in
theorem splitFull.walk (s : ByteArray) (r : Int) (w : World) (hT : Sizes w) (hs : s.size ≤ maxLen) (hr : (Lit.int .i64 r).wf = true) :
    Calls Tryd.prog 7 #[.string s, .int .i64 r] w fun e w' => e = .returned (.bool true) ∧ Below w.heap.size w w' := by
  have HT := Lib.hid hT
  have HFV : Hid (∀ W, Below w.heap.size w W → Calls Tryd.prog 10 #[] W fun e w' => e = .returned (.bool true) ∧ Below W.heap.size W w') := Lib.hid (fun W hb => five19_any W (hT.below hb hT.lt))
  have HRM := Lib.hid (fun W => rroom19_any r W)
  clear hs hr hT
  by_cases hl : 600 < s.size
  · have hli : (600 : Int) < (s.size : Int) := by omega
    go_enter Tryd.func7, Tryd.ntmps7
    go_wp2_with fail
    refine (HFV.out _ (Below.refl _ _)).mono ?_
    rintro e w1 ⟨rfl, hb⟩
    have HB := Lib.hid hb
    clear hb
    go_wp2_with fail
    go_ret
    exact ⟨rfl, HB.out⟩
  · have hli : ¬ (600 : Int) < (s.size : Int) := by omega
    by_cases hok : 5 ≤ r ∧ r ≤ 900000
    · obtain ⟨R, rfl⟩ : ∃ R : Nat, r = (R : Int) := ⟨r.toNat, by omega⟩
      have h5 : 5 ≤ R := by omega
      have hR : R ≤ 900000 := by omega
      rw [decide_eq_true hok] at HRM
      have HOF := Lib.hid (sof19_any s R w h5 hR (by omega) HT.out)
      obtain ⟨hb1, hb2⟩ := blks_facts R h5 s
      have hnx : ∀ i b p r, (blks R s.data.toList)[i]? = some b → (blks R s.data.toList)[i + 1]? = some (p :: r) → R < (pack b).length + (packP p).length := by
        unfold blks
        exact endS_next (rightS R h5 (pieces s.data.toList))
      obtain ⟨bs, hbs⟩ : ∃ bs, blks R s.data.toList = bs := ⟨_, rfl⟩
      rw [hbs] at HOF hb1 hb2 hnx
      have HF := Lib.hid hb2
      have HNX := Lib.hid hnx
      obtain ⟨L, hL⟩ : ∃ L, bs.length = L := ⟨_, rfl⟩
      have HL := Lib.hid hL
      have hLb : L ≤ 600 := by omega
      clear hok h5 hb1 hb2 hnx hbs hl
      go_enter Tryd.func7, Tryd.ntmps7
      go_wp2_with fail
      refine (HRM.out _).mono ?_
      rintro e w0 ⟨rfl, rfl⟩
      go_wp2_with fail
      refine HOF.out.mono ?_
      rintro e w1 ⟨v, rfl, hO, hb1⟩
      have HO := Lib.hid hO
      have HB1 := Lib.hid hb1
      obtain ⟨a, cap, rfl⟩ := hO.slice
      rw [hL] at HO ⊢
      clear hO hb1 hL
      go_wp2_with fail
      go_loopw [26] (fun vi wr => ∃ i : Nat, vi = .int .i64 (i : Int) ∧ i ≤ L ∧ Below w1.heap.size w1 wr) (fun vi _ => L - (intOf vi).toNat)
      case atStart => exact ⟨0, rfl, Nat.zero_le _, Below.refl _ _⟩
      case round =>
        obtain ⟨i, rfl, hi, hB⟩ := hrel
        have HB := Lib.hid hB
        clear hB
        by_cases hil : i < L
        · have hii : (i : Int) < (L : Int) := by omega
          obtain ⟨b, hb⟩ : ∃ b, bs[i]? = some b := ⟨_, List.getElem?_eq_getElem (by rw [HL.out]; exact hil)⟩
          obtain ⟨g, cp, he, hg, _, c0, c1, c2⟩ := (HO.out.below HB.out).cell hb
          simp only [Value.slice.injEq] at he
          obtain ⟨rfl, hxx, rfl⟩ := he
          clear hxx
          obtain ⟨hfl, hbn, hpk, hgd⟩ := HF.out b (List.mem_of_getElem? hb)
          obtain ⟨p, rr, rfl⟩ : ∃ p rr, b = p :: rr := by
            cases b with
            | nil => exact absurd rfl hbn
            | cons p rr => exact ⟨p, rr, rfl⟩
          obtain ⟨S1, hS1⟩ : ∃ S1 : ByteArray, (⟨(pack (p :: rr)).toArray⟩ : ByteArray) = S1 := ⟨_, rfl⟩
          have hS1l : S1.size = (pack (p :: rr)).length := by rw [← hS1]; exact text_size _
          obtain ⟨P, hP⟩ : ∃ P : ByteArray, (⟨(packP p).toArray⟩ : ByteArray) = P := ⟨_, rfl⟩
          have hPl : P.size = (packP p).length := by rw [← hP]; exact text_size _
          have hPS : (packP p).length ≤ (pack (p :: rr)).length := by rw [pack_cons, List.length_append]; omega
          have hPp : 0 < (packP p).length := by
            have := hgd.1
            unfold packP
            split
            · simp; omega
            · simp
          have HFI : Hid (∀ W, Calls Tryd.prog 22 #[.string S1] W fun e w' => e = .returned (.string P) ∧ Below W.heap.size W w') := Lib.hid (fun W => (first19_any p rr S1 W hgd (by rw [← hS1]) (by omega)).mono (by
            rintro e w' ⟨rfl, m, rfl⟩
            exact ⟨by rw [hP], ⟨rfl, rfl, rfl, Nat.le_refl _, fun _ _ => rfl⟩⟩))
          have hSR : (S1.size : Int) ≤ (R : Int) := by omega
          have hRS : ¬ (R : Int) < (S1.size : Int) := by omega
          have hemp : S1.toList.isEmpty = false := some_bytes2 S1 (by omega)
          have hPb : (P.size : Int) ≤ (R : Int) := by omega
          have hRb : (R : Int) ≤ 900000 := by omega
          obtain ⟨X, hXe⟩ : ∃ X : Nat, (crcL (flat (p :: rr))).toNat = X := ⟨_, rfl⟩
          obtain ⟨N, hN⟩ : ∃ N, (flat (p :: rr)).length = N := ⟨_, rfl⟩
          rw [hXe] at c1
          rw [hN] at c2
          rw [hS1] at c0
          rcases Nat.eq_zero_or_pos i with h0 | h0
          · obtain rfl : i = 0 := h0
            clear hb hfl hbn hpk hgd hS1 hS1l hP hPl hPS hPp hXe hN
            go_upto_region 7 with fail
            have HW5 : Hid (Below w1.heap.size w1 (wr.alloc (.cells #[.string S1, .int .u32 (X : Int), .int .i64 (N : Int)] 40))) := Lib.hid (HB.out.alloc HB.out.size _)
            have q0 : (wr.alloc (.cells #[.string S1, .int .u32 (X : Int), .int .i64 (N : Int)] 40)).cell? ⟨wr.heap.size, 0, none⟩ = some (.string S1) := by rw [cell_of_row _ _ 0 _ _ _ (heap_alloc_new _ _)]; rfl
            have hs5 : (wr.alloc (.cells #[.string S1, .int .u32 (X : Int), .int .i64 (N : Int)] 40)).heap.size = wr.heap.size + 1 := by show (wr.heap.push _).size = _; simp
            clear c0 c1 c2
            obtain ⟨G, hG⟩ : ∃ G, wr.heap.size = G := ⟨_, rfl⟩
            rw [hG] at q0 hs5 hg ⊢
            generalize (wr.alloc (.cells #[.string S1, .int .u32 (X : Int), .int .i64 (N : Int)] 40)) = W5 at *
            have u0 : ∀ sb : Beneath W5.heap.size W5, sb.val.cell? ⟨G, 0, none⟩ = some (.string S1) := fun sb => Beneath.cell q0 (by show G < _; omega) sb
            clear q0 hs5 hG
            refine wp_region_beneath W5.heap.size W5 (Below.refl _ _) (by kernel_rfl) (by kernel_rfl) ?_
            repeat (go_big_quiet_step (first
              | (go_at_call 22; rename_i sb; exact Calls.beneath sb (Nat.le_refl _) (HFI.out _))))
            refine wpQuiet_nil ?_
            rintro _ ⟨sb, rfl⟩
            have HB6 := Lib.hid (HW5.out.trans (sb.is.mono HW5.out.size))
            clear u0  HW5
            generalize sb.val = W6 at *
            go_wp2_with fail
            go_roundw
            case rel => exact ⟨1, by go_num, by omega, HB6.out⟩
            case measure => simp [intOf]; omega
          · obtain ⟨j, rfl⟩ : ∃ j, i = j + 1 := ⟨i - 1, by omega⟩
            obtain ⟨b0, hb0⟩ : ∃ b0, bs[j]? = some b0 := ⟨_, List.getElem?_eq_getElem (by rw [HL.out]; omega)⟩
            obtain ⟨g0, cp0, he0, _, _, d0, _, _⟩ := (HO.out.below HB.out).cell hb0
            simp only [Value.slice.injEq, Option.some.injEq, Addr.mk.injEq, and_true] at he0
            obtain ⟨rfl, _⟩ := he0
            have hnx := HNX.out j b0 p rr hb0 hb
            obtain ⟨_, _, hpk0, _⟩ := HF.out b0 (List.mem_of_getElem? hb0)
            obtain ⟨S0, hS0⟩ : ∃ S0 : ByteArray, (⟨(pack b0).toArray⟩ : ByteArray) = S0 := ⟨_, rfl⟩
            have hS0l : S0.size = (pack b0).length := by rw [← hS0]; exact text_size _
            rw [hS0] at d0
            have hS0R : (S0.size : Int) ≤ 900000 := by omega
            have hno : ¬ (S0.size : Int) + (P.size : Int) ≤ (R : Int) := by omega
            have hjp : (0 : Int) < (j : Int) + 1 := by omega
            have hjL : (j : Int) < (L : Int) := by omega
            have hjc : ((j + 1 : Nat) : Int) = (j : Int) + 1 := by omega
            clear hb hfl hbn hpk hgd hS1 hS1l hP hPl hPS hPp hXe hN hb0 hnx hpk0 hS0 hS0l
            go_upto_region 7 with fail
            have HW5 : Hid (Below w1.heap.size w1 (wr.alloc (.cells #[.string S1, .int .u32 (X : Int), .int .i64 (N : Int)] 40))) := Lib.hid (HB.out.alloc HB.out.size _)
            have q0 : (wr.alloc (.cells #[.string S1, .int .u32 (X : Int), .int .i64 (N : Int)] 40)).cell? ⟨wr.heap.size, 0, none⟩ = some (.string S1) := by rw [cell_of_row _ _ 0 _ _ _ (heap_alloc_new _ _)]; rfl
            have r0 : (wr.alloc (.cells #[.string S1, .int .u32 (X : Int), .int .i64 (N : Int)] 40)).cell? ⟨g, j * 3, none⟩ = some (.string S0) := (World.cell?_alloc_lt _ _ ⟨g, j * 3, none⟩ hg).trans d0
            have hs5 : (wr.alloc (.cells #[.string S1, .int .u32 (X : Int), .int .i64 (N : Int)] 40)).heap.size = wr.heap.size + 1 := by show (wr.heap.push _).size = _; simp
            clear c0 c1 c2 d0
            obtain ⟨G, hG⟩ : ∃ G, wr.heap.size = G := ⟨_, rfl⟩
            rw [hG] at q0 hs5 hg ⊢
            generalize (wr.alloc (.cells #[.string S1, .int .u32 (X : Int), .int .i64 (N : Int)] 40)) = W5 at *
            have u0 : ∀ sb : Beneath W5.heap.size W5, sb.val.cell? ⟨G, 0, none⟩ = some (.string S1) := fun sb => Beneath.cell q0 (by show G < _; omega) sb
            have u3 : ∀ sb : Beneath W5.heap.size W5, sb.val.cell? ⟨g, j * 3, none⟩ = some (.string S0) := fun sb => Beneath.cell r0 (by show g < _; omega) sb
            clear q0 hs5 hG r0
            refine wp_region_beneath W5.heap.size W5 (Below.refl _ _) (by kernel_rfl) (by kernel_rfl) ?_
            repeat (go_big_quiet_step (first
              | (go_at_call 22; rename_i sb; exact Calls.beneath sb (Nat.le_refl _) (HFI.out _))))
            refine wpQuiet_nil ?_
            rintro _ ⟨sb, rfl⟩
            have HB6 := Lib.hid (HW5.out.trans (sb.is.mono HW5.out.size))
            clear u0 u3 HW5
            generalize sb.val = W6 at *
            go_wp2_with fail
            go_roundw
            case rel => exact ⟨j + 1 + 1, by go_num, by omega, HB6.out⟩
            case measure => simp [intOf]; omega
        · have hii : ¬ (i : Int) < (L : Int) := by omega
          have HBA := Lib.hid (HB1.out.trans (HB.out.mono HB1.out.size))
          go_wp2_with fail
          refine (HFV.out _ HBA.out).mono ?_
          rintro e w5 ⟨rfl, hb5⟩
          have HB5 := Lib.hid (HBA.out.trans (hb5.mono HBA.out.size))
          clear hb5
          go_wp2_with fail
          go_ret
          exact ⟨rfl, HB5.out⟩
    · rw [decide_eq_false hok] at HRM
      clear hok
      go_enter Tryd.func7, Tryd.ntmps7
      go_wp2_with fail
      refine (HRM.out _).mono ?_
      rintro e w2 ⟨rfl, rfl⟩
      go_wp2_with fail
      refine (HFV.out _ (Below.refl _ _)).mono ?_
      rintro e w3 ⟨rfl, hb⟩
      have HB := Lib.hid hb
      clear hb
      go_wp2_with fail
      go_ret
      exact ⟨rfl, HB.out⟩
end Go.Proofs.YtgbcajglbpdgjaaDoor

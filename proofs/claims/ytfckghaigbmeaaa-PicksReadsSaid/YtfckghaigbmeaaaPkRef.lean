/-
  THE WALKS OF THE DOCUMENT's ANSWERS OF LAYER 13 (balerref13): May, Bits.
-/
import Derived.Test.YtfckghaigbmeaaaPkB
import Derived.Test.YtfckghaigbmeaaaMtfTouch
namespace Go.Proofs.Ytfckghaigbmeaaa
open Go.RowKit PkM BitM
set_option linter.unusedVariables false
set_option maxRecDepth 100000 in
set_option maxHeartbeats 1000000 in
theorem rmay13_any (v : Value) (zs : List Int) (t : Int) (r : Bool) (w : World) (hv : IsInts w v zs) (hr : r = true ↔ MayI zs t) (hz : zs.length ≤ 9223372036854775807) :
    Calls Try.prog 14 #[v, .int .i64 t] w fun e w' => e = .returned (.bool r) ∧ w' = w := by
  have HV := Lib.hid hv
  have HRR := Lib.hid hr
  obtain ⟨ad, cap, rfl, _⟩ := hv
  clear hr
  by_cases ht1 : t < 2
  · obtain rfl : r = false := by rw [Bool.eq_false_iff, Ne, HRR.out]; exact fun h => by have := h.1; omega
    go_enter Try.func14, Try.ntmps14
    go_wp2_with fail
    go_ret
    exact ⟨rfl, rfl⟩
  by_cases ht2 : (6 : Int) < t
  · obtain rfl : r = false := by rw [Bool.eq_false_iff, Ne, HRR.out]; exact fun h => by have := h.2.1; omega
    go_enter Try.func14, Try.ntmps14
    go_wp2_with fail
    go_ret
    exact ⟨rfl, rfl⟩
  by_cases h0 : zs.length = 0
  · obtain rfl : r = false := by rw [Bool.eq_false_iff, Ne, HRR.out]; exact fun h => by have := h.2.2.1; omega
    have h0b : ((zs.length : Int) == 0) = true := by rw [beq_iff_eq]; omega
    clear h0
    go_enter Try.func14, Try.ntmps14
    go_wp2_with fail
    go_ret
    exact ⟨rfl, rfl⟩
  have h0b : ((zs.length : Int) == 0) = false := by rw [beq_eq_false_iff_ne]; omega
  by_cases h3 : 32767 < zs.length
  · have h3i : (32767 : Int) < (zs.length : Int) := by omega
    obtain rfl : r = false := by rw [Bool.eq_false_iff, Ne, HRR.out]; exact fun h => by have := h.2.2.2.1; omega
    go_enter Try.func14, Try.ntmps14
    go_wp2_with fail
    go_ret
    exact ⟨rfl, rfl⟩
  have h3i : ¬ (32767 : Int) < (zs.length : Int) := by omega
  have HH : Hid ((r = true ↔ ∀ z ∈ zs, 0 ≤ z ∧ z < t)) := Lib.hid (HRR.out.trans ⟨fun h => h.2.2.2.2, fun h => ⟨by omega, by omega, by omega, by omega, h⟩⟩)
  clear h0 HRR
  go_enter Try.func14, Try.ntmps14
  go_wp2_with fail
  go_loopw [25] (fun i wr => ∃ k : Nat, k ≤ zs.length ∧ i = .int .i64 k ∧ wr = w ∧ ∀ j, j < k → 0 ≤ zs.getD j 0 ∧ zs.getD j 0 < t) (fun i _ => zs.length - (intOf i).toNat)
  case atStart => exact ⟨0, by omega, rfl, rfl, fun j hj => by omega⟩
  case round =>
    obtain ⟨k, hk, rfl, rfl, hA⟩ := hrel
    have HA := Lib.hid hA
    clear hA
    by_cases hlk : k < zs.length
    · have hki : (k : Int) < (zs.length : Int) := by omega
      obtain ⟨b1, o1, k1, he1, c1⟩ := HV.out.cell hlk
      simp only [Value.slice.injEq] at he1
      obtain ⟨rfl, _, rfl⟩ := he1
      obtain ⟨x, hx⟩ : ∃ x, zs.getD k 0 = x := ⟨_, rfl⟩
      rw [hx] at c1
      have HX := Lib.hid hx
      clear hx
      by_cases h0 : x < 0
      · have hrf : r = false := by
          rw [Bool.eq_false_iff, Ne, HH.out]
          intro h
          have := h _ (pk_mem hlk)
          rw [HX.out] at this
          omega
        subst hrf
        go_wp2_with fail
        go_ret
        exact ⟨rfl, rfl⟩
      · by_cases h1 : t ≤ x
        · have hrf : r = false := by
            rw [Bool.eq_false_iff, Ne, HH.out]
            intro h
            have := h _ (pk_mem hlk)
            rw [HX.out] at this
            omega
          subst hrf
          go_wp2_with fail
          go_ret
          exact ⟨rfl, rfl⟩
        · go_wp2_with fail
          go_roundw
          case rel => exact ⟨k + 1, by omega, by go_num, (by first | rfl | trivial), fun j hj => by
            by_cases e : j = k
            · subst e; rw [HX.out]; omega
            · exact HA.out j (by omega)⟩
          case measure => simp [intOf]; omega
    · have hki : ¬ (k : Int) < (zs.length : Int) := by omega
      obtain rfl : r = true := HH.out.2 (pk_all (P := fun z => 0 ≤ z ∧ z < t) (fun j hj => HA.out j (by omega)))
      go_wp2_with fail
      go_ret
      exact ⟨rfl, rfl⟩
set_option maxRecDepth 100000 in
theorem let_ix (p : Nat) (hp : p < 6) (W : World) : (Instr.index 9 (.string ⟨#[48, 49, 50, 51, 52, 53]⟩) (.int .i64 (p : Int))).run Try.prog W = .ok (.int .u8 ((48 + p : Nat) : Int)) W := by
  rw [run_index_string W 9 _ .i64 (p : Int) Try.underlying9]
  rcases (by omega : p = 0 ∨ p = 1 ∨ p = 2 ∨ p = 3 ∨ p = 4 ∨ p = 5) with rfl | rfl | rfl | rfl | rfl | rfl <;> rfl
theorem ones_cut (I : Nat) (hI : I < 6) : (⟨#[49, 49, 49, 49, 49, 49]⟩ : ByteArray).extract 0 I = txt (List.replicate I true) := by
  rcases (by omega : I = 0 ∨ I = 1 ∨ I = 2 ∨ I = 3 ∨ I = 4 ∨ I = 5) with rfl | rfl | rfl | rfl | rfl | rfl <;> rfl
theorem let_nat (p : Nat) (hp : p < 6) : (UInt8.ofNat (48 + p)).toNat = 48 + p := by
  rcases (by omega : p = 0 ∨ p = 1 ∨ p = 2 ∨ p = 3 ∨ p = 4 ∨ p = 5) with rfl | rfl | rfl | rfl | rfl | rfl <;> rfl
theorem lets_text (o : List Nat) : (⟨(lets o).toArray⟩ : ByteArray).data.toList = lets o := rfl
set_option maxRecDepth 100000 in
set_option maxHeartbeats 4000000 in
theorem rbits13_any (l : Value) (ps : List Nat) (t : Nat) (w : World) (hv : IsInts w l (toI ps)) (hm : May ps t) :
    Calls Try.prog 16 #[l, .int .i64 (t : Int)] w fun e w' => e = .returned (.string (txt (allB ps t))) ∧ ∃ m, w' = w.drewN m := by
  have HV := Lib.hid hv
  have HM := Lib.hid hm
  have hlz := toI_length ps
  have hn1 := hm.2.2.1
  have hn2 := hm.2.2.2.1
  have ht2 := hm.1
  have ht6 := hm.2.1
  obtain ⟨ad, cap, rfl, _⟩ := hv
  obtain ⟨N, hN⟩ : ∃ N, ps.length = N := ⟨_, rfl⟩
  rw [hlz] at HV ⊢
  rw [hN] at hn1 hn2 hlz HV ⊢
  have HZ := Lib.hid hlz
  have HN := Lib.hid hN
  have HALL : Hid (allB ps t = field t 3 ++ field N 15 ++ encK ps N) := Lib.hid (by unfold allB; rw [hN, encK_all ps N (by omega)])
  have hc1 : IntKind.u32.wrap (t : Int) = (t : Int) := by simp [IntKind.wrap, IntKind.bits, IntKind.signed]; omega
  have hc2 : IntKind.u32.wrap (N : Int) = (N : Int) := by simp [IntKind.wrap, IntKind.bits, IntKind.signed]; omega
  have HF1 := Lib.hid (fun W => fieldTxt_any t 3 W (by omega) (by omega))
  have HF2 := Lib.hid (fun W => fieldTxt_any N 15 W (by omega) (by omega))
  have hs1 : (txt (field t 3)).size = 3 := by rw [txt_size, field_length]
  have hs2 : (txt (field N 15)).size = 15 := by rw [txt_size, field_length]
  have HTT : Hid (txt (field t 3) ++ txt (field N 15) = txt (field t 3 ++ field N 15)) := Lib.hid (txt_append _ _)
  obtain ⟨Q0, hQ0⟩ : ∃ Q0, field t 3 ++ field N 15 = Q0 := ⟨_, rfl⟩
  have HQ0l : Hid (Q0.length = 18) := Lib.hid (by rw [← hQ0, List.length_append, field_length, field_length])
  rw [hQ0] at HTT HALL
  clear hm hlz hN hQ0
  generalize txt (field t 3) = S1 at *
  generalize txt (field N 15) = S2 at *
  go_enter Try.func16, Try.ntmps16
  go_wp2_with fail
  refine (HF1.out _).mono ?_
  rintro e w1 ⟨rfl, rfl⟩
  go_wp2_with fail
  refine (HF2.out _).mono ?_
  rintro e w2 ⟨rfl, rfl⟩
  go_wp2_with fail
  rw [HTT.out]
  clear hs1 hs2 HTT HF1 HF2
  go_loopw [5, 6, 20] (fun vout vord vk wr => ∃ k m : Nat, vk = .int .i64 (k : Int) ∧ k ≤ N ∧ vout = .string (txt (Q0 ++ encK ps k)) ∧ vord = .string ⟨(lets (ordK ps k)).toArray⟩ ∧ wr = w.drewN m) (fun _ _ vk _ => N - (intOf vk).toNat)
  case atStart => exact ⟨0, 0, rfl, by omega, by rw [show encK ps 0 = [] from rfl, List.append_nil], rfl, rfl⟩
  case round =>
    obtain ⟨k, m, rfl, hk, rfl, rfl, rfl⟩ := hrel
    have hkl := encK_len ps HM.out.2.1 HM.out.2.2.2.2 k (by rw [HN.out]; exact hk)
    by_cases hlk : k < N
    · have hki : (k : Int) < (N : Int) := by omega
      have hkp : k < ps.length := by rw [HN.out]; exact hlk
      obtain ⟨b1, o1, k1, he1, c1⟩ := HV.out.cell (k := k) (by rw [HZ.out]; exact hlk)
      rw [HZ.out] at he1
      simp only [Value.slice.injEq] at he1
      obtain ⟨rfl, _, rfl⟩ := he1
      rw [toI_getD] at c1
      have c2 : (w.drewN m).cell? ⟨b1, o1 + k, none⟩ = some (.int .i64 ((ps.getD k 0 : Nat) : Int)) := c1
      have hpm : ps.getD k 0 < t := by
        rw [List.getD_eq_getElem?_getD, List.getElem?_eq_getElem hkp]
        exact HM.out.2.2.2.2 _ (List.getElem_mem _)
      have hO := ordK_ord ps HM.out.2.1 HM.out.2.2.2.2 k (by omega)
      have hpo : ps.getD k 0 ∈ ordK ps k := List.mem_of_mem_take ((hO.1.2 _).1 hpm)
      have hIl := (hO.1.place HM.out.2.1 hpm).1
      have hol := lets_length (ordK ps k)
      rw [hO.1.1] at hol
      have hPL := fun W => place_any ⟨(lets (ordK ps k)).toArray⟩ (UInt8.ofNat (48 + ps.getD k 0)) W (by rw [text_size, hol]; omega)
      rw [lets_text, lets_place hO.2 hpo, let_nat _ (by omega)] at hPL
      have hTC := fun W => rtouch_any (lets (ordK ps k)) ((ordK ps k).idxOf (ps.getD k 0)) W (by rw [hol]; omega) (by rw [hol]; omega)
      rw [lets_tch, ← ordK_next ps hkp] at hTC
      have HEN := Lib.hid (encK_next ps hkp)
      have hix := fun W => let_ix (ps.getD k 0) (by omega) W
      obtain ⟨I, hI⟩ : ∃ I, (ordK ps k).idxOf (ps.getD k 0) = I := ⟨_, rfl⟩
      rw [hI] at HEN hPL hTC hIl
      obtain ⟨x, hx⟩ : ∃ x, ps.getD k 0 = x := ⟨_, rfl⟩
      rw [hx] at c2 hPL hix
      obtain ⟨C, hC⟩ : ∃ C, 48 + x = C := ⟨_, rfl⟩
      rw [hC] at hPL hix
      have HPL := Lib.hid hPL
      have HTC := Lib.hid hTC
      have hI0 : (0 : Int) ≤ (I : Int) := by omega
      have hI6 : (I : Int) ≤ 6 := by omega
      have hcut := ones_cut I (by omega)
      have hS : (txt (Q0 ++ encK ps k)).size ≤ 200000 := by rw [txt_size, List.length_append]; have := HQ0l.out; omega
      have hR : (txt (List.replicate I true)).size ≤ 6 := by rw [txt_size, List.length_replicate]; omega
      have HT : Hid (txt (Q0 ++ encK ps k) ++ txt (List.replicate I true) ++ ⟨#[48]⟩ = txt (Q0 ++ encK ps (k + 1))) := Lib.hid (by
        rw [HEN.out, txt_append, ← List.append_assoc Q0, ← List.append_assoc]
        exact txt_append _ [false])
      generalize txt (Q0 ++ encK ps k) = S at *
      generalize txt (List.replicate I true) = R at *
      have hSR : (S ++ R).size ≤ 200006 := by rw [ByteArray.size_append]; omega
      have hx6 : x < 6 := by omega
      clear hpm hO hpo hI hx hkp hol hPL hTC hC c1 hkl
      go_wp2_with fail
      refine (HPL.out _).mono ?_
      rintro e w3 ⟨rfl, rfl⟩
      go_wp2_with fail
      refine (HTC.out _).mono ?_
      rintro e w4 ⟨rfl, m4, rfl⟩
      go_wp2_with fail
      go_roundw
      case rel => exact ⟨k + 1, _, by go_num, by omega, by rw [← HT.out], rfl, rfl⟩
      case measure => simp [intOf]; omega
    · have hki : ¬ (k : Int) < (N : Int) := by omega
      obtain rfl : k = N := by omega
      go_wp2_with fail
      go_ret
      exact ⟨by rw [HALL.out]; rfl, m, rfl⟩
end Go.Proofs.Ytfckghaigbmeaaa

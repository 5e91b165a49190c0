/-
  THE WALKS OF THE LIBRARY's STABLE SORT (package slices), AT ROWS OF int: blocks, and ever greater ones.
-/
import Derived.Test.YtmlcdfimcabgkaaDoorSortE
import Derived.Test.YtmlcdfimcabgkaaDoorSortF
namespace Go.Proofs.YtmlcdfimcabgkaaDoor
open Go.RowKit SymM
set_option linter.unusedVariables false
namespace SymM
theorem Half.mer {w : Int → Int} {n B t a b : Nat} {d : Row} (h : Half w n B t d) (ha : a = 2 * B * t) (hb : b = min (a + 2 * B) n) (hab : a + B ≤ b) : Srt w d a (a + B) ∧ Srt w d (a + B) b ∧ Low d a (a + B) b := by
  obtain ⟨h1, h2⟩ := h
  have hB : B * (2 * t) = 2 * B * t := by rw [Nat.mul_comm 2 B, Nat.mul_assoc]
  have hB1 : B * (2 * t + 1) = 2 * B * t + B := by rw [Nat.mul_add, Nat.mul_one, hB]
  have k1 := h2 (2 * t) (by omega)
  have k2 := h2 (2 * t + 1) (by omega)
  rw [hB, ← ha] at k1
  rw [hB1, ← ha] at k2
  have e1 : min (a + B) n = a + B := by omega
  have e2 : min (a + B + B) n = b := by omega
  rw [e1] at k1
  rw [e2] at k2
  exact ⟨k1.srt, k2.srt, k1.low k2⟩
end SymM
section
variable {F : FuncId} {caps : Array Value} {g n : Nat} {wt : Int → Int} {I : World → Prop}
theorem sym_any (hC : CmpF F caps g n wt I) (hn : n ≤ 1000000) : ∀ (K a m b : Nat) (d : Row) (w : World), b ≤ a + K → a < m → m < b → b ≤ n → MerP wt g n I d a m b w →
    Calls Tryd.prog 74 #[.slice (some ⟨g, 0, none⟩) n n, .int .i64 (a : Int), .int .i64 (m : Int), .int .i64 (b : Int), .func (.func F) #[] caps] w fun e w' =>
      e = .returned (.tuple #[]) ∧ SrtP wt g n d a b w w' := by
  intro K
  induction K with
  | zero => intro a m b d w h1 h2 h3; omega
  | succ K ih =>
    intro a m b d w hK ham hmb hbn hP
    by_cases hf : m = a + 1
    · have h2 := hP.low
      have h3 := hP.sr
      subst hf
      exact sym_first hC a b d w hP.row hP.inv (by omega) hbn hn hP.rng h3 h2 _ rfl
    · by_cases hl : b = m + 1
      · have h2 := hP.low
        subst hl
        exact sym_last hC a m d w hP.row hP.inv (by omega) hbn hn hP.rng hP.sl h2 _ rfl
      · by_cases hc : (a + b) / 2 < m
        · exact sym_hi hC hn K ih a m b d w hK ham hmb hbn hP hf hl hc
        · exact sym_lo hC hn K ih a m b d w hK ham hmb hbn hP hf hl hc
set_option maxRecDepth 100000 in
set_option maxHeartbeats 4000000 in
theorem stable_any (hC : CmpF F caps g n wt I) (hn : n ≤ 100000) (w : World) (hR : RowD w g n (fun k => (k : Int))) (hI : I w) :
    Calls Tryd.prog 71 #[.slice (some ⟨g, 0, none⟩) n n, .int .i64 (n : Int), .func (.func F) #[] caps] w fun e w' =>
      e = .returned (.tuple #[]) ∧ (∃ D, RowD w' g n D ∧ Blk wt D 0 n) ∧ Touch (· = g) w w' := by
  have he := hC.enter
  have HR0 := Lib.hid hR
  have HI0 := Lib.hid hI
  have HC := Lib.hid hC
  have hr0 : Hid (Rng n (fun k => (k : Int))) := Lib.hid (fun k hk => ⟨Int.natCast_nonneg k, by show (k : Int) < (n : Int); omega⟩)
  clear hR hI hC
  go_enter Tryd.func71, Tryd.ntmps71
  go_wp2_with fail
  go_loopw [7, 8] (fun va vb wr => ∃ (t A B : Nat) (D : Row), va = .int .i64 A ∧ vb = .int .i64 B ∧ A = 20 * t ∧ B = A + 20 ∧ A ≤ n ∧ RowD wr g n D ∧ Ins wt n 20 t D ∧ Rng n D ∧ Touch (· = g) w wr) (fun va _ _ => n + 1 - (intOf va).toNat)
  case atStart => exact ⟨0, 0, 20, _, rfl, rfl, rfl, rfl, Nat.zero_le _, HR0.out, ⟨fun q hq => by omega, fun k _ => rfl⟩, hr0.out, Touch.refl _ w⟩
  case round =>
    obtain ⟨t, A, B, D, rfl, rfl, hA, hB, hAn, hR, hIns, hrn, hT⟩ := hrel
    have HR := Lib.hid hR
    have HIN := Lib.hid hIns
    have HRN := Lib.hid hrn
    have HT := Lib.hid hT
    have HAA := Lib.hid hA
    have HBB := Lib.hid hB
    have hB1 : B ≤ A + 20 := by omega
    have hB2 : A + 20 ≤ B := by omega
    have HIW : Hid (I wr) := Lib.hid (HC.out.keep _ _ HI0.out hT)
    clear hR hIns hrn hT hA hB
    by_cases hlt : B ≤ n
    · have hlt2 : (B : Int) ≤ (n : Int) := by omega
      go_wp2_with fail
      refine (ins_any HC.out A B D wr HR.out HIW.out (by omega) hlt (by omega) HRN.out (fun i j h1 h2 h3 => by
        have := HAA.out
        rw [HIN.out.2 i (by omega), HIN.out.2 j (by omega)]
        omega)).mono ?_
      rintro e w' ⟨rfl, ⟨D2, hR2, hP2, hS2⟩, hT2⟩
      have HR2 := Lib.hid hR2
      have HP2 := Lib.hid hP2
      have HS2 := Lib.hid hS2
      have HT2 := Lib.hid hT2
      clear hR2 hP2 hS2 hT2
      go_wp2_with fail
      go_roundw
      case rel => exact ⟨t + 1, B, B + 20, D2, rfl, by go_num, by have := HAA.out; omega, rfl, hlt, HR2.out, HIN.out.next HAA.out (by omega) HP2.out HS2.out, HRN.out.pm HP2.out hlt, HT.out.trans HT2.out (fun i hi => Or.inl hi)⟩
      case measure => simp [intOf]; omega
    · have hlt2 : ¬ (B : Int) ≤ (n : Int) := by omega
      go_wp2_with fail
      refine (ins_any HC.out A n D wr HR.out HIW.out hAn (Nat.le_refl _) (by omega) HRN.out (fun i j h1 h2 h3 => by
        have := HAA.out
        rw [HIN.out.2 i (by omega), HIN.out.2 j (by omega)]
        omega)).mono ?_
      rintro e w' ⟨rfl, ⟨D2, hR2, hP2, hS2⟩, hT2⟩
      have HR2 := Lib.hid hR2
      have HBL : Hid (Blks wt n 20 D2) := Lib.hid ((HIN.out.next HAA.out (show n = min (A + 20) n by omega) hP2 hS2).end_ (by have := HAA.out; omega))
      have HRN2 : Hid (Rng n D2) := Lib.hid (HRN.out.pm hP2 (Nat.le_refl _))
      have HT2 : Hid (Touch (· = g) w w') := Lib.hid (HT.out.trans hT2 (fun i hi => Or.inl hi))
      clear hR2 hP2 hS2 hT2
      go_wp2_with fail
      go_loopw [6, 7, 8, 9] (fun vs va vb vm wr => ∃ (S : Nat) (D : Row), vs = .int .i64 S ∧ 1 ≤ S ∧ S ≤ 200000 ∧ RowD wr g n D ∧ Blks wt n S D ∧ Rng n D ∧ Touch (· = g) w wr) (fun vs _ _ _ _ => n - (intOf vs).toNat)
      case atStart => exact ⟨20, D2, rfl, by omega, by omega, HR2.out, HBL.out, HRN2.out, HT2.out⟩
      case round =>
        obtain ⟨S, D3, rfl, hS1, hS2, hR3, hB3, hrn3, hT3⟩ := hrel
        have HR3 := Lib.hid hR3
        have HB3 := Lib.hid hB3
        have HRN3 := Lib.hid hrn3
        have HT3 := Lib.hid hT3
        clear hR3 hB3 hrn3 hT3
        by_cases hSn : S < n
        · have hSn2 : (S : Int) < (n : Int) := by omega
          go_wp2_with fail
          go_loopw [7, 8] (fun va vb w3 => ∃ (t A B : Nat) (D : Row), va = .int .i64 A ∧ vb = .int .i64 B ∧ A = 2 * S * t ∧ B ≤ A + 2 * S ∧ A + 2 * S ≤ B ∧ A ≤ n ∧ RowD w3 g n D ∧ Half wt n S t D ∧ Rng n D ∧ Touch (· = g) w w3) (fun va _ _ => n + 1 - (intOf va).toNat)
          case atStart => exact ⟨0, 0, 2 * S, D3, rfl, by go_num, rfl, by omega, by omega, Nat.zero_le _, HR3.out, Half.start HB3.out, HRN3.out, HT3.out⟩
          case round =>
            obtain ⟨t, A, B, D4, rfl, rfl, hA, hB1, hB2, hAn, hR4, hH4, hrn4, hT4⟩ := hrel
            have HR4 := Lib.hid hR4
            have HH4 := Lib.hid hH4
            have HRN4 := Lib.hid hrn4
            have HT4 := Lib.hid hT4
            have HAA := Lib.hid hA
            obtain ⟨M, hM⟩ : ∃ M, A + S = M := ⟨_, rfl⟩
            have hM2 : (A : Int) + (S : Int) = (M : Int) := by omega
            have HM := Lib.hid hM
            have hM3 : A < M := by omega
            have hM4 : M < B := by omega
            have HIW : Hid (I wr) := Lib.hid (HC.out.keep _ _ HI0.out hT4)
            clear hR4 hH4 hrn4 hT4 hA hM
            by_cases hlt : B ≤ n
            · have hlt2 : (B : Int) ≤ (n : Int) := by omega
              go_wp2_with fail
              refine (sym_any HC.out (by omega) B A M B D4 wr (by omega) hM3 hM4 hlt (by
                obtain ⟨q1, q2, q3⟩ := HH4.out.mer HAA.out (show B = min (A + 2 * S) n by omega) (by omega)
                rw [HM.out] at q1 q2 q3
                exact ⟨HR4.out, HIW.out, HRN4.out, q1, q2, q3⟩)).mono ?_
              rintro e w' ⟨rfl, ⟨D5, hR5, hP5, hS5⟩, hT5⟩
              have HR5 := Lib.hid hR5
              have HP5 := Lib.hid hP5
              have HS5 := Lib.hid hS5
              have HT5 := Lib.hid hT5
              clear hR5 hP5 hS5 hT5
              go_wp2_with fail
              go_roundw
              case rel => exact ⟨t + 1, B, B + 2 * S, D5, rfl, by go_num, by have := HAA.out; rw [Nat.mul_add, ← this]; omega, by omega, by omega, hlt, HR5.out, HH4.out.next HAA.out (by omega) (by omega) HP5.out HS5.out, HRN4.out.pm HP5.out hlt, HT4.out.trans HT5.out (fun i hi => Or.inl hi)⟩
              case measure => simp [intOf]; omega
            · have hlt2 : ¬ (B : Int) ≤ (n : Int) := by omega
              by_cases hMn : M < n
              · have hMn2 : (M : Int) < (n : Int) := by omega
                go_wp2_with fail
                refine (sym_any HC.out (by omega) n A M n D4 wr (by omega) hM3 hMn (Nat.le_refl _) (by
                  obtain ⟨q1, q2, q3⟩ := HH4.out.mer HAA.out (show n = min (A + 2 * S) n by omega) (by have := HM.out; omega)
                  rw [HM.out] at q1 q2 q3
                  exact ⟨HR4.out, HIW.out, HRN4.out, q1, q2, q3⟩)).mono ?_
                rintro e w' ⟨rfl, ⟨D5, hR5, hP5, hS5⟩, hT5⟩
                have HR5 := Lib.hid hR5
                have HB5 : Hid (Blks wt n (2 * S) D5) := Lib.hid ((HH4.out.next HAA.out (show n = min (A + 2 * S) n by omega) (by have := HM.out; omega) hP5 hS5).full (a := A + 2 * S) (by have := HAA.out; rw [Nat.mul_add, ← this]; omega) (by omega))
                have HRN5 : Hid (Rng n D5) := Lib.hid (HRN4.out.pm hP5 (Nat.le_refl _))
                have HT5 : Hid (Touch (· = g) w w') := Lib.hid (HT4.out.trans hT5 (fun i hi => Or.inl hi))
                clear hR5 hP5 hS5 hT5
                go_wp2_with fail
                go_roundw
                case rel => exact ⟨2 * S, D5, by go_num, by omega, by omega, HR5.out, HB5.out, HRN5.out, HT5.out⟩
                case measure => simp [intOf]; omega
              · have hMn2 : ¬ (M : Int) < (n : Int) := by omega
                have HB5 : Hid (Blks wt n (2 * S) D4) := Lib.hid (HH4.out.end_ HAA.out (by have := HM.out; omega))
                go_wp2_with fail
                go_roundw
                case rel => exact ⟨2 * S, D4, by go_num, by omega, by omega, HR4.out, HB5.out, HRN4.out, HT4.out⟩
                case measure => simp [intOf]; omega
        · have hSn2 : ¬ (S : Int) < (n : Int) := by omega
          go_wp2_with fail
          go_end0
          exact ⟨rfl, ⟨D3, HR3.out, HB3.out.all (by omega)⟩, HT3.out⟩
theorem sortStable_any (hC : CmpF F caps g n wt I) (hn : n ≤ 100000) (w : World) (hR : RowD w g n (fun k => (k : Int))) (hI : I w) :
    Calls Tryd.prog 68 #[.slice (some ⟨g, 0, none⟩) n n, .func (.func F) #[] caps] w fun e w' =>
      e = .returned (.tuple #[]) ∧ (∃ D, RowD w' g n D ∧ Blk wt D 0 n) ∧ Touch (· = g) w w' := by
  have HR := Lib.hid hR
  have HI := Lib.hid hI
  have HC := Lib.hid hC
  clear hR hI hC
  go_enter Tryd.func68, Tryd.ntmps68
  go_wp2_with fail
  refine (stable_any HC.out hn w HR.out HI.out).mono ?_
  rintro e w' ⟨rfl, h1, h2⟩
  have H1 := Lib.hid h1
  have H2 := Lib.hid h2
  clear h1 h2
  go_wp2_with fail
  go_end0
  exact ⟨rfl, H1.out, H2.out⟩
end
end Go.Proofs.YtmlcdfimcabgkaaDoor

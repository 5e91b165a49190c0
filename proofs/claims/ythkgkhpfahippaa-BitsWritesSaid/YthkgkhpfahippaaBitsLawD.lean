/-
  LAYER 1's STATEMENTS: WHAT PUTS, PADDINGS AND TAKINGS MAKE OF A WRITER (1.1, 1.6).
-/
import Derived.Test.YthkgkhpfahippaaBitsLawC
import Derived.Test.YthkgkhpfahippaaBitsRefB
namespace Go.Proofs.Ythkgkhpfahippaa
open Go.RowKit BitM
set_option linter.unusedVariables false
/-- The bytes that were taken. -/
def took (q : List Bool) (tk : Nat) : ByteArray := ⟨((byts q).take tk).toArray⟩
theorem took_size (q : List Bool) (tk : Nat) (h : tk ≤ q.length / 8) : (took q tk).size = tk := by
  show ((byts q).take tk).toArray.size = tk
  simp [byts_length]; omega
theorem took_more (q f : List Bool) (tk : Nat) (h : tk ≤ q.length / 8) : took (q ++ f) tk = took q tk := by
  unfold took
  rw [byts_append, List.take_append_of_le_length (by rw [byts_length]; exact h)]
theorem took_all (q : List Bool) (tk : Nat) : took q tk ++ ⟨((byts q).drop tk).toArray⟩ = ⟨(byts q).toArray⟩ := by
  apply ByteArray.ext
  simp [took]
theorem took_end (q : List Bool) : took q (q.length / 8) = ⟨(byts q).toArray⟩ := by
  unfold took
  rw [List.take_of_length_le (by rw [byts_length]; exact Nat.le_refl _)]
theorem put_unfit (b : Nat) (o : OpR) (w : World) (hok : o.Ok) (hf : o.fits = false) : Calls Try.prog 22 #[.pointer (some ⟨b, 0, none⟩), .int .u32 (o.V : Int), .int .i64 o.N] w fun e w' => e = .returned (.int .i64 1) ∧ w = w' := by
  refine put_bad b o.V o.N w hok.v hok.n1 hok.n2 ?_
  simp only [OpR.fits, decide_eq_false_iff_not] at hf
  by_cases h1 : o.N < 0
  · exact Or.inl h1
  · by_cases h2 : 32 < o.N
    · exact Or.inr (Or.inl h2)
    · refine Or.inr (Or.inr ⟨o.N.toNat, by omega, by omega, ?_⟩)
      have : ¬ o.V < 2 ^ o.N.toNat := fun h => hf ⟨by omega, by omega, h⟩
      omega
theorem copy_cells0 {w w' : World} {o : OpR} {S : Nat → Prop} {t : TypeId} (h : Touch S (w.alloc (.cells #[.int .i64 o.K, .int .i64 o.N, .int .u32 (o.V : Int), .string o.S] t)) w') (hS : ¬ S w.heap.size) :
    w'.cell? ⟨w.heap.size, 0, none⟩ = some (.int .i64 o.K) ∧ w'.cell? ⟨w.heap.size, 3, none⟩ = some (.string o.S) := by
  have hb : w'.heap[w.heap.size]? = some (.cells #[.int .i64 o.K, .int .i64 o.N, .int .u32 (o.V : Int), .string o.S] t) :=
    (h.block w.heap.size (by show w.heap.size < (w.heap.push _).size; simp) hS).trans (by show (w.heap.push _)[w.heap.size]? = _; simp)
  constructor <;> (rw [cell_of_row _ _ _ _ _ _ hb]; rfl)
theorem fieldTxt_up (o : OpR) (n : Nat) (w : World) (hN : o.N = (n : Int)) (hn : n ≤ 32) (hv : o.V < 4294967296) : Calls Try.prog 24 #[.int .u32 (o.V : Int), .int .i64 o.N] w fun e w' => e = .returned (.string (txt (field o.V n))) ∧ w = w' := by
  rw [hN]
  exact fieldTxt_any o.V n w hn hv
set_option maxRecDepth 100000 in
set_option maxHeartbeats 4000000 in
theorem bitsWrites.walk (a : Option Addr) (len cap : Nat) (l : List OpR) (w : World) (w0 : IsOps w a len l) :
    Calls Try.prog 3 #[.slice a len cap] w fun e w' => e = .returned (.bool true) ∧ Below w.heap.size w w' := by
  have H := Lib.hid w0
  have hmax := w0.2.2
  unfold maxLen at hmax
  clear w0
  go_enter Try.func3, Try.ntmps3
  go_wp2_with fail
  refine (large_any a len cap l w H.out).mono ?_
  rintro e wl ⟨bb, rfl, hbl, hlg⟩
  have HL := Lib.hid hbl
  have HG := Lib.hid hlg
  clear hbl hlg
  cases bb with
  | true =>
    go_wp2_with fail
    refine (five_any wl).mono ?_
    rintro e w2 ⟨rfl, hb⟩
    have H2 := Lib.hid hb
    clear hb
    go_wp2_with fail
    go_ret
    exact ⟨rfl, HL.out.trans (H2.out.mono HL.out.size)⟩
  | false =>
    have h60 := (HG.out rfl).1
    have hll := H.out.1.1
    clear HG
    go_wp2_with fail
    refine (newWriter_any wl).mono ?_
    rintro e w1 ⟨rfl, hw1, hb1⟩
    have W1 := Lib.hid hw1
    have B1 := Lib.hid (HL.out.trans (hb1.mono HL.out.size))
    have hbw := HL.out.size
    clear hw1 hb1
    generalize hBW : wl.heap.size = bw at *
    go_wp2_with fail
    go_loopw [4, 5, 15] (fun al ta i wr => ∃ (k : Nat) (v : Value) (q : List Bool) (tk : Nat), k ≤ len ∧ i = .int .i64 k ∧ al = .string (txt q) ∧ ta = .string (took q tk) ∧ q.length ≤ 40 * k ∧ IsWriter wr bw v q tk ∧ Below w.heap.size w wr) (fun _ _ i _ => len - (intOf i).toNat)
    case atStart => exact ⟨0, _, [], 0, by omega, rfl, rfl, rfl, by simp, W1.out, B1.out⟩
    case round =>
      obtain ⟨k, v, q, tk, hk, rfl, rfl, rfl, hql, hW, hB⟩ := hrel
      have HB := Lib.hid hB
      have HW := Lib.hid hW
      have htk : tk ≤ q.length / 8 := hW.2.1
      have hts := txt_size q
      have hks := took_size q tk htk
      clear hB hW
      by_cases hlt : k < len
      · obtain ⟨o, b, off, ho, hok, rfl, c0, c1, c2, c3⟩ := H.out.at_ HB.out hlt
        have hv := hok.v
        have HOK := Lib.hid hok
        clear ho hok
        by_cases hK1 : o.K = 1
        · rw [hK1] at c0
          go_wp2_with fail
          refine (wpad_any bw v q tk _ (HW.out.other ((Touch.refl (fun _ => False) _).alloc _) (fun _ _ h => h)) (by omega)).mono ?_
          rintro e w2 ⟨rfl, v2, hw2, ht2, _⟩
          have W2 := Lib.hid hw2
          have B2 := Lib.hid ((HB.out.alloc HB.out.size _).trans (ht2.below (Nat.le_trans HB.out.size (by show wr.heap.size ≤ (wr.heap.push _).size; simp)) (fun j hj => Nat.le_trans hbw (HW.out.lt j hj).2)))
          clear hw2 ht2
          go_wp2_with fail
          refine (padded_any q w2 (by omega)).mono ?_
          rintro e w' ⟨rfl, rfl⟩
          have hql2 : (q ++ padding q).length ≤ 40 * (k + 1) := by have := padding_length q; rw [List.length_append]; omega
          have HTM := Lib.hid (took_more q (padding q) tk htk)
          have htk2 : tk ≤ (q ++ padding q).length / 8 := by rw [List.length_append]; omega
          have hts2 := txt_size (q ++ padding q)
          generalize q ++ padding q = q2 at *
          have hH : ((q2.length / 8 - tk : Nat) : Int) = (q2.length : Int) / 8 - (tk : Int) := by omega
          go_wp2_with fail
          refine (wlen_any _ _ _ _ w2 W2.out).mono ?_
          rintro e w' ⟨rfl, rfl⟩
          go_wp2_with fail
          refine (wheld_any _ _ _ _ w2 W2.out).mono ?_
          rintro e w' ⟨rfl, rfl⟩
          go_wp2_with fail
          go_roundw
          case rel => exact ⟨k + 1, _, q2, tk, by omega, by go_num, rfl, by rw [HTM.out], hql2, W2.out, B2.out⟩
          case measure => simp [intOf]; omega
        · by_cases hK2 : o.K = 2
          · rw [hK2] at c0
            go_wp2_with fail
            refine (wtake_any bw v q tk _ (HW.out.other ((Touch.refl (fun _ => False) _).alloc _) (fun _ _ h => h))).mono ?_
            rintro e w2 ⟨rfl, hw2, ht2⟩
            have W2 := Lib.hid hw2
            have B2 := Lib.hid ((HB.out.alloc HB.out.size _).trans (ht2.below (Nat.le_trans HB.out.size (by show wr.heap.size ≤ (wr.heap.push _).size; simp)) (fun j hj => Nat.le_trans hbw (HW.out.lt j hj).2)))
            clear hw2 ht2
            have hdz : (⟨((byts q).drop tk).toArray⟩ : ByteArray).size = q.length / 8 - tk := by show ((byts q).drop tk).toArray.size = _; simp [byts_length]
            have HTA := Lib.hid (took_all q tk)
            generalize hD : (⟨((byts q).drop tk).toArray⟩ : ByteArray) = D at *
            go_wp2_with fail
            rw [HTA.out]
            refine (bytes_any q w2 (by omega)).mono ?_
            rintro e w3 ⟨rfl, hb3⟩
            have W3 := Lib.hid (W2.out.other (Touch.ofBelow (S := fun _ => False) hb3) (fun _ _ h => h))
            have B3 := Lib.hid (B2.out.trans (hb3.mono B2.out.size))
            clear hb3
            have hql2 : q.length ≤ 40 * (k + 1) := by omega
            have hks2 := took_size q (q.length / 8) (Nat.le_refl _)
            rw [← took_end q]
            generalize hTK : took q (q.length / 8) = TK at *
            have hH : ((q.length / 8 - q.length / 8 : Nat) : Int) = (q.length : Int) / 8 - ((q.length / 8 : Nat) : Int) := by omega
            go_wp2_with fail
            refine (wlen_any _ _ _ _ w3 W3.out).mono ?_
            rintro e w' ⟨rfl, rfl⟩
            go_wp2_with fail
            refine (wheld_any _ _ _ _ w3 W3.out).mono ?_
            rintro e w' ⟨rfl, rfl⟩
            go_wp2_with fail
            go_roundw
            case rel => exact ⟨k + 1, _, q, q.length / 8, by omega, by go_num, rfl, by rw [hTK], hql2, W3.out, B3.out⟩
            case measure => simp [intOf]; omega
          · obtain ⟨B, hf⟩ : ∃ B, o.fits = B := ⟨_, rfl⟩
            cases B with
            | false =>
              have HF := Lib.hid hf
              clear hf
              go_wp2_with fail
              refine (put_unfit bw o _ HOK.out HF.out).mono ?_
              rintro e w' ⟨rfl, rfl⟩
              go_wp2_with fail
              refine (fits_any o _ HF.out _ hv).mono ?_
              rintro e w' ⟨rfl, rfl⟩
              have W2 : Hid (IsWriter (wr.alloc (.cells #[.int .i64 o.K, .int .i64 o.N, .int .u32 (o.V : Int), .string o.S] 29)) bw v q tk) := Lib.hid (HW.out.other ((Touch.refl (fun _ => False) _).alloc _) (fun _ _ h => h))
              have B2 := Lib.hid (HB.out.alloc HB.out.size (.cells #[.int .i64 o.K, .int .i64 o.N, .int .u32 (o.V : Int), .string o.S] 29))
              have hql2 : q.length ≤ 40 * (k + 1) := by omega
              have hH : ((q.length / 8 - tk : Nat) : Int) = (q.length : Int) / 8 - (tk : Int) := by omega
              go_wp2_with fail
              refine (wlen_any _ _ _ _ _ W2.out).mono ?_
              rintro e w' ⟨rfl, rfl⟩
              go_wp2_with fail
              refine (wheld_any _ _ _ _ _ W2.out).mono ?_
              rintro e w' ⟨rfl, rfl⟩
              go_wp2_with fail
              go_roundw
              case rel => exact ⟨k + 1, _, q, tk, by omega, by go_num, rfl, rfl, hql2, W2.out, B2.out⟩
              case measure => simp [intOf]; omega
            | true =>
              obtain ⟨n, hn⟩ : ∃ n : Nat, o.N = n := by
                have := hf
                simp only [OpR.fits, decide_eq_true_eq] at this
                exact ⟨o.N.toNat, by omega⟩
              have hf2 := hf
              simp only [OpR.fits, decide_eq_true_eq, hn, Int.toNat_natCast] at hf2
              have hn32 : n ≤ 32 := by omega
              have HX := Lib.hid hf2.2.2
              have HF := Lib.hid hf
              have HN := Lib.hid hn
              clear hf hf2 hn
              go_wp2_with fail
              refine (put_up bw v q tk n o _ (HW.out.other ((Touch.refl (fun _ => False) _).alloc _) (fun _ _ h => h)) HN.out hn32 HX.out (by omega)).mono ?_
              rintro e w2 ⟨rfl, v2, hw2, ht2⟩
              have W2 := Lib.hid hw2
              have HFT := Lib.hid (fun j (hj : foot bw v j) => HW.out.lt j hj)
              have B2 := Lib.hid ((HB.out.alloc HB.out.size _).trans (ht2.below (Nat.le_trans HB.out.size (by show wr.heap.size ≤ (wr.heap.push _).size; simp)) (fun j hj => Nat.le_trans hbw (HFT.out j hj).2)))
              obtain ⟨d1, d2⟩ := copy_cells ht2 (fun hj => Nat.lt_irrefl _ (HFT.out _ hj).1)
              clear hw2 ht2
              go_wp2_with fail
              refine (fits_any o _ HF.out _ hv).mono ?_
              rintro e w' ⟨rfl, rfl⟩
              have hfz : (txt (field o.V n)).size = n := by rw [txt_size, field_length]
              have HTT := Lib.hid (txt_append q (field o.V n))
              go_wp2_with fail
              refine (fieldTxt_up o n w2 HN.out hn32 hv).mono ?_
              rintro e w' ⟨rfl, rfl⟩
              have hql2 : (q ++ field o.V n).length ≤ 40 * (k + 1) := by rw [List.length_append, field_length]; omega
              have HTM := Lib.hid (took_more q (field o.V n) tk htk)
              have htk2 : tk ≤ (q ++ field o.V n).length / 8 := by rw [List.length_append]; omega
              have hts2 := txt_size (q ++ field o.V n)
              have HQ2 : Hid (txt q ++ txt (field o.V n) = txt (q ++ field o.V n)) := HTT
              generalize hq2 : q ++ field o.V n = q2 at *
              have hH : ((q2.length / 8 - tk : Nat) : Int) = (q2.length : Int) / 8 - (tk : Int) := by omega
              go_wp2_with fail
              rw [HQ2.out]
              refine (wlen_any _ _ _ _ w2 W2.out).mono ?_
              rintro e w' ⟨rfl, rfl⟩
              go_wp2_with fail
              refine (wheld_any _ _ _ _ w2 W2.out).mono ?_
              rintro e w' ⟨rfl, rfl⟩
              go_wp2_with fail
              go_roundw
              case rel => exact ⟨k + 1, _, q2, tk, by omega, by go_num, rfl, by rw [HTM.out], hql2, W2.out, B2.out⟩
              case measure => simp [intOf]; omega
      · obtain rfl : k = len := by omega
        go_wp2_with fail
        refine (five_any _).mono ?_
        rintro e w8 ⟨rfl, hb8⟩
        have H8 := Lib.hid hb8
        clear hb8
        go_wp2_with fail
        go_ret
        exact ⟨rfl, HB.out.trans (H8.out.mono HB.out.size)⟩
end Go.Proofs.Ythkgkhpfahippaa

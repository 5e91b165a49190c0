/-
  LAYER 13's STATEMENTS: PicksWrites.
-/
import Derived.Test.YtfckghaigbmeaaaPkLawA
namespace Go.Proofs.Ytfckghaigbmeaaa
open Go.RowKit PkM BitM
set_option linter.unusedVariables false
set_option maxRecDepth 100000 in
set_option maxHeartbeats 2000000 in
theorem picksWrites.bad (l : Option Addr) (llen lcap : Nat) (zs : List Int) (t : Int) (X Y : Nat) (w : World) (hI : IsInts w (.slice l llen lcap) zs) (hlen : zs.length = llen) (hcap : llen ≤ 9223372036854775807) (h : llen ≤ 100 ∨ 32767 < llen) (hf : X < 2 ^ (Y % 9)) (hX : X < 4294967296) (hY : Y < 4294967296) (hmay : ¬ MayI zs t) :
    Calls Try.prog 3 #[.slice l llen lcap, .int .i64 t, .agg #[.int .u32 (X : Int), .int .u32 (Y : Int)]] w fun e w' => e = .returned (.bool true) ∧ Below w.heap.size w w' := by
  have H3 := Lib.hid (fun W => pkThree_any W)
  have HPR := Lib.hid (Pair.boxed w X Y)
  obtain ⟨c0, c1⟩ := HPR.out
  have HBX := (Below.refl w.heap.size w).alloc (Nat.le_refl _) (.cells #[.int .u32 (X : Int), .int .u32 (Y : Int)] 24)
  have HB0 := Lib.hid HBX
  have HSZ := Lib.hid (box_size w (.cells #[.int .u32 (X : Int), .int .u32 (Y : Int)] 24))
  have HI := Lib.hid (hI.below HBX)
  have hn9 : Y % 9 < 9 := Nat.mod_lt _ (by omega)
  have e1 : ((Y : Int).tmod 9) = ((Y % 9 : Nat) : Int) := by rw [Int.tmod_eq_emod_of_nonneg (by omega)]; omega
  have e2 : IntKind.u32.wrap ((Y % 9 : Nat) : Int) = ((Y % 9 : Nat) : Int) := by simp [IntKind.wrap, IntKind.bits, IntKind.signed]; omega
  obtain ⟨n, hn⟩ : ∃ n, Y % 9 = n := ⟨_, rfl⟩
  rw [hn] at e1 e2 hn9 hf
  have HF := Lib.hid (fun W => fits_yes X n W (by omega) hf hX)
  have HFF := Lib.hid hf
  have HMB := Lib.hid hmay
  have HLE := Lib.hid (show zs.length ≤ 9223372036854775807 by omega)
  have hfl : ([] ++ field X n).length = n := by rw [List.nil_append, field_length]
  have HFL := Lib.hid hfl
  clear hI hlen hmay hfl hn HBX hf
  rcases h with h | h
  all_goals
    first
    | have h1i : ¬ (100 : Int) < (llen : Int) := by omega
    | (have h1i : (100 : Int) < (llen : Int) := by omega
       have h2i : ¬ (llen : Int) ≤ 32767 := by omega)
    clear h
    go_enter Try.func3, Try.ntmps3
    go_wp2_with fail
    generalize hw0 : w.alloc (.cells #[.int .u32 (X : Int), .int .u32 (Y : Int)] 24) = w0 at *
    clear hw0
    refine (HF.out _).mono ?_
    rintro e w1 ⟨rfl, rfl⟩
    go_wp2_with fail
    refine (newWriter_any w0).mono ?_
    rintro e w2 ⟨rfl, hw2, hb2⟩
    have HW2 := Lib.hid hw2
    have HB02 := Lib.hid hb2
    obtain ⟨d0, d1⟩ := HPR.out.below hb2 (by have := HSZ.out; omega)
    have HGE : Hid (w.heap.size ≤ w0.heap.size) := Lib.hid (by have := HSZ.out; omega)
    clear hw2 hb2 c0 c1
    go_wp2_with fail
    refine (put_any w0.heap.size _ [] 0 X n w2 HW2.out (by omega) HFF.out (by simp)).mono ?_
    rintro e w3 ⟨rfl, v3, hw3, ht3, _⟩
    have HW3 := Lib.hid hw3
    have HB03 := Lib.hid (HB02.out.trans (ht3.below HB02.out.size (fun i hi => (HW2.out.lt i hi).2)))
    have HI3 := Lib.hid (HI.out.below HB03.out)
    clear hw3 ht3 d0 d1
    go_wp2_with fail
    refine (pwrite_no _ _ zs t w3 HI3.out HMB.out HLE.out).mono ?_
    rintro e w4 ⟨rfl, rfl⟩
    go_wp2_with fail
    refine (pbits_no _ zs t _ HI3.out HMB.out HLE.out).mono ?_
    rintro e w5 ⟨rfl, rfl⟩
    go_wp2_with fail
    refine (rmay13_any _ zs t false _ HI3.out ⟨fun e => (by cases e), fun e => absurd e HMB.out⟩ HLE.out).mono ?_
    rintro e w6 ⟨rfl, rfl⟩
    go_wp2_with fail
    refine (wlen_any _ _ _ _ _ HW3.out).mono ?_
    rintro e w7 ⟨rfl, rfl⟩
    rw [HFL.out]
    go_wp2_with fail
    refine (H3.out _).mono ?_
    rintro e w9 ⟨rfl, hb9⟩
    have HB9 := Lib.hid (HB0.out.trans ((HB03.out.trans (hb9.mono HB03.out.size)).mono HGE.out))
    clear hb9
    go_wp2_with fail
    go_ret
    exact ⟨rfl, HB9.out⟩
set_option maxRecDepth 100000 in
set_option maxHeartbeats 4000000 in
theorem picksWrites.good (l : Option Addr) (llen lcap : Nat) (ps : List Nat) (t X Y : Nat) (w : World) (hI : IsInts w (.slice l llen lcap) (toI ps)) (hlen : (toI ps).length = llen) (h : llen ≤ 100) (hf : X < 2 ^ (Y % 9)) (hX : X < 4294967296) (hY : Y < 4294967296) (hmay : May ps t) :
    Calls Try.prog 3 #[.slice l llen lcap, .int .i64 (t : Int), .agg #[.int .u32 (X : Int), .int .u32 (Y : Int)]] w fun e w' => e = .returned (.bool true) ∧ Below w.heap.size w w' := by
  have H3 := Lib.hid (fun W => pkThree_any W)
  have HPR := Lib.hid (Pair.boxed w X Y)
  obtain ⟨c0, c1⟩ := HPR.out
  have HBX := (Below.refl w.heap.size w).alloc (Nat.le_refl _) (.cells #[.int .u32 (X : Int), .int .u32 (Y : Int)] 24)
  have HB0 := Lib.hid HBX
  have HSZ := Lib.hid (box_size w (.cells #[.int .u32 (X : Int), .int .u32 (Y : Int)] 24))
  have HI := Lib.hid (hI.below HBX)
  have hn9 : Y % 9 < 9 := Nat.mod_lt _ (by omega)
  have e1 : ((Y : Int).tmod 9) = ((Y % 9 : Nat) : Int) := by rw [Int.tmod_eq_emod_of_nonneg (by omega)]; omega
  have e2 : IntKind.u32.wrap ((Y % 9 : Nat) : Int) = ((Y % 9 : Nat) : Int) := by simp [IntKind.wrap, IntKind.bits, IntKind.signed]; omega
  obtain ⟨n, hn⟩ : ∃ n, Y % 9 = n := ⟨_, rfl⟩
  rw [hn] at e1 e2 hn9 hf
  have HF := Lib.hid (fun W => fits_yes X n W (by omega) hf hX)
  have HFT := Lib.hid (fun W => fieldTxt_any X n W (by omega) hX)
  have HFF := Lib.hid hf
  have HMB := Lib.hid hmay
  have hpl : ps.length ≤ 100 := by rw [← toI_length, hlen]; exact h
  have HLE := Lib.hid (show (toI ps).length ≤ 9223372036854775807 by omega)
  have h1i : ¬ (100 : Int) < (llen : Int) := by omega
  have hal : Hid ((allB ps t).length ≤ 1000) := Lib.hid (by
    have h1 := encK_len ps hmay.2.1 hmay.2.2.2.2 ps.length (Nat.le_refl _)
    rw [enc_all]
    omega)
  obtain ⟨Q, hQ⟩ : ∃ Q, field X n ++ allB ps t = Q := ⟨_, rfl⟩
  have HQ := Lib.hid hQ
  have HQL : Hid (Q.length ≤ 2000) := Lib.hid (by rw [← hQ, List.length_append, field_length]; have := hal.out; omega)
  have HPK := Lib.hid (fun W => pack_any Q W (by have := HQL.out; omega))
  have hs1 : (txt (field X n)).size ≤ 40 := by rw [txt_size, field_length]; omega
  have hs2 : (txt (allB ps t)).size ≤ 20000 := by rw [txt_size]; have := hal.out; omega
  have HTT : Hid (txt (field X n) ++ txt (allB ps t) = txt Q) := Lib.hid (by rw [txt_append, hQ])
  have hlb : ((allB ps t).length : Int) = ((txt (allB ps t)).size : Int) := by rw [txt_size]
  have HRB := Lib.hid (fun W (hv : IsInts W (.slice l llen lcap) (toI ps)) => rbits13_any _ ps t W hv hmay)
  have HDB := Lib.hid (fun W (hv : IsInts W (.slice l llen lcap) (toI ps)) => pbits_any _ ps t W hv hmay)
  rw [hlb] at HDB
  clear hI hlen hmay hlb hQ h hpl hn HBX hf
  generalize hS1 : txt (field X n) = S1 at *
  generalize hS2 : txt (allB ps t) = S2 at *
  clear hS1 hS2
  have hcat : ∀ W, (Op.stringOp .add S1 S2).run Try.prog W = .ok (.string (S1 ++ S2)) W := fun W => by
    rw [run_string_add_if, if_neg (by omega)]
  go_enter Try.func3, Try.ntmps3
  go_wp2_with fail
  generalize hw0 : w.alloc (.cells #[.int .u32 (X : Int), .int .u32 (Y : Int)] 24) = w0 at *
  clear hw0
  refine (HF.out _).mono ?_
  rintro e w1 ⟨rfl, rfl⟩
  go_wp2_with fail
  refine (newWriter_any w0).mono ?_
  rintro e w2 ⟨rfl, hw2, hb2⟩
  have HW2 := Lib.hid hw2
  have HB02 := Lib.hid hb2
  obtain ⟨d0, d1⟩ := HPR.out.below hb2 (by have := HSZ.out; omega)
  have HGE : Hid (w.heap.size < w0.heap.size) := Lib.hid (by have := HSZ.out; omega)
  clear hw2 hb2 c0 c1
  go_wp2_with fail
  refine (put_any w0.heap.size _ [] 0 X n w2 HW2.out (by omega) HFF.out (by simp)).mono ?_
  rintro e w3 ⟨rfl, v3, hw3, ht3, _⟩
  have HW3 := Lib.hid hw3
  have HB3 := Lib.hid (HB02.out.trans (ht3.below HB02.out.size (fun i hi => (HW2.out.lt i hi).2)))
  clear hw3 ht3 d0 d1
  go_wp2_with fail
  refine (pwrite_any _ v3 _ ps t _ 0 w3 HW3.out (fun w' ht => HI.out.below (HB3.out.trans (ht.below HB3.out.size (fun i hi => (HW3.out.lt i hi).2)))) HMB.out (by rw [List.nil_append, field_length]; omega)).mono ?_
  rintro e w4 ⟨rfl, v4, hw4, ht4, _⟩
  rw [List.nil_append, HQ.out] at hw4
  have HW4 := Lib.hid hw4
  have HB4 := Lib.hid (HB3.out.trans (ht4.below HB3.out.size (fun i hi => (HW3.out.lt i hi).2)))
  clear hw4 ht4
  go_wp2_with fail
  refine (HDB.out w4 (HI.out.below HB4.out)).mono ?_
  rintro e w5 ⟨rfl, hb5⟩
  have HW5 : Hid (IsWriter w5 w0.heap.size v4 Q 0) := Lib.hid (HW4.out.other (Touch.ofBelow (S := fun _ => False) hb5) (fun _ _ h => h))
  have HB5 : Hid (Below w0.heap.size w0 w5) := Lib.hid (HB4.out.trans (hb5.mono HB4.out.size))
  clear hb5
  go_wp2_with fail
  refine (rmay13_any _ (toI ps) (t : Int) true _ (HI.out.below HB5.out) ⟨fun _ => HMB.out.int, fun _ => rfl⟩ HLE.out).mono ?_
  rintro e w6 ⟨rfl, rfl⟩
  go_wp2_with fail
  refine (HRB.out _ (HI.out.below HB5.out)).mono ?_
  rintro e w7 ⟨rfl, m7, hw7⟩
  have HW7 : Hid (IsWriter w7 w0.heap.size v4 Q 0) := Lib.hid (by rw [hw7]; exact HW5.out.other (touch_drewN (fun _ => False) _ m7) (fun _ _ h => h))
  have HB7 : Hid (Below w0.heap.size w0 w7) := Lib.hid (by rw [hw7]; exact HB5.out.trans ⟨rfl, rfl, rfl, Nat.le_refl _, fun _ _ => rfl⟩)
  clear hw7
  go_wp2_with fail
  refine (wpad_any _ v4 Q 0 _ HW7.out (by have := HQL.out; omega)).mono ?_
  rintro e w8 ⟨rfl, v8, h8a, h8b, h8c⟩
  have HW8 : Hid (IsWriter (w8.drewN 1) w0.heap.size v8 (Q ++ padding Q) 0) := Lib.hid (h8a.other (touch_drewN (fun _ => False) _ 1) (fun _ _ h => h))
  have HB8 : Hid (Below w0.heap.size w0 (w8.drewN 1)) := Lib.hid ((HB7.out.trans (h8b.below HB7.out.size (fun i hi => (HW7.out.lt i hi).2))).trans ⟨rfl, rfl, rfl, Nat.le_refl _, fun _ _ => rfl⟩)
  have HPR8 : Hid (∀ W, Below w0.heap.size w0 W → W.cell? ⟨w.heap.size, 0, none⟩ = some (.int .u32 (X : Int))) := Lib.hid (fun W hb => (HPR.out.below hb HGE.out).1)
  have k8 := HPR8.out _ HB8.out
  clear h8a h8b h8c
  have k80 : w8.cell? ⟨w.heap.size, 0, none⟩ = some (.int .u32 (X : Int)) := k8
  obtain ⟨T, hT⟩ : ∃ T : ByteArray, (⟨(byts (Q ++ padding Q)).toArray⟩ : ByteArray) = T := ⟨_, rfl⟩
  have HT := Lib.hid hT
  rw [hT] at HPK
  clear hT hs1 e1 e2 h1i
  go_wp2_with fail
  go_region_held3 (fun W => W.cell? ⟨w.heap.size, 0, none⟩ = some (.int .u32 (X : Int))) (go_keep)
    (first
      | (go_at_call 18; refine (wtake_any _ v8 _ 0 _ HW8.out).mono ?_; rintro e w9 ⟨rfl, _, h9b⟩; have HB9 := Lib.hid (HB8.out.trans (h9b.below HB8.out.size (fun i hi => (HW8.out.lt i hi).2))); have k9 := HPR8.out _ HB9.out; rw [List.drop_zero, HT.out]; clear h9b)
      | (go_at_call 20; refine (HFT.out _).mono ?_; rintro e w10 ⟨rfl, rfl⟩)
      | (go_at_call 19; rw [HTT.out]; refine (HPK.out _).mono ?_; rintro e w11 ⟨rfl, hb11⟩; have HB11 := Lib.hid (HB9.out.trans (hb11.mono HB9.out.size)); have k11 := HPR8.out _ HB11.out; clear hb11)
      | (go_at_call 9; refine (H3.out _).mono ?_; rintro e w12 ⟨rfl, hb12⟩; have HB12 := Lib.hid (HB11.out.trans (hb12.mono HB11.out.size)); have k12 := HPR8.out _ HB12.out; clear hb12))
  all_goals go_wp2_with fail
  all_goals go_ret
  all_goals exact ⟨rfl, HB0.out.trans (HB12.out.mono (Nat.le_of_lt HGE.out))⟩
theorem picksWrites.walk (l : Option Addr) (llen lcap : Nat) (lz : List Int) (t : Int) (q0 q1 : Int) (w : World) (hl : IsRow .i64 w l llen lcap lz) (ht : (Lit.int .i64 t).wf = true) (hq : (Lit.int .u32 q0).wf = true ∧ (Lit.int .u32 q1).wf = true) :
    Calls Try.prog 3 #[.slice l llen lcap, .int .i64 t, .agg #[.int .u32 q0, .int .u32 q1]] w fun e w' => e = .returned (.bool true) ∧ Below w.heap.size w w' := by
  obtain ⟨hI, hlen⟩ := ints_in hl
  obtain ⟨hl1, hl2⟩ := isRow_len hl
  generalize List.take llen lz = zs at *
  obtain ⟨hq0, hq1⟩ := hq
  simp only [Lit.wf, Bool.and_eq_true, decide_eq_true_eq] at hq0 hq1
  have hv0 : 0 ≤ q0 ∧ q0 ≤ 4294967295 := hq0
  have hv1 : 0 ≤ q1 ∧ q1 ≤ 4294967295 := hq1
  clear hq0 hq1
  obtain ⟨X, rfl⟩ : ∃ X : Nat, q0 = (X : Int) := ⟨q0.toNat, by omega⟩
  obtain ⟨Y, rfl⟩ : ∃ Y : Nat, q1 = (Y : Int) := ⟨q1.toNat, by omega⟩
  by_cases hfar : (100 < llen ∧ llen ≤ 32767) ∨ ¬ Fits X ((Y % 9 : Nat) : Int)
  · exact picksWrites.far l llen lcap t X Y w hfar (by omega) (by omega)
  · have hfit : Fits X ((Y % 9 : Nat) : Int) := Classical.not_not.1 (fun h => hfar (Or.inr h))
    have hr : llen ≤ 100 ∨ 32767 < llen := by
      have : ¬ (100 < llen ∧ llen ≤ 32767) := fun h => hfar (Or.inl h)
      omega
    obtain ⟨m, hm, _, hf⟩ := hfit
    have hm2 : Y % 9 = m := by omega
    rw [← hm2] at hf
    by_cases hmay : MayI zs t
    · have h1 := hmay.2.2.2.1
      obtain ⟨ps, T, rfl, rfl, hp⟩ := hmay.nat
      exact picksWrites.good l llen lcap ps T X Y w hI hlen (by omega) hf (by omega) (by omega) hp
    · exact picksWrites.bad l llen lcap zs t X Y w hI hlen (by omega) hr hf (by omega) (by omega) hmay
end Go.Proofs.Ytfckghaigbmeaaa

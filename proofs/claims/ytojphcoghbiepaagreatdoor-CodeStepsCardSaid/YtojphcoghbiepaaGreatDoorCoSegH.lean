/-
  MERGED by seg.py out of: CodLawA CodLawB CodRef CodLawE MtfTouch PkRef DelRef CanMathD CanRef Strs TextEq CanRefB CanRefC TabM.
-/
import Derived.Test.YtojphcoghbiepaaGreatDoorCoSegG
import Derived.Deep.Cut
namespace Go.Proofs.YtojphcoghbiepaaGreatDoor
open Go.RowKit BitM HufM CanM CodM TabM FreqM
set_option linter.unusedVariables false
theorem May14.rd {zs : List Int} {N : Nat} (h : May14 zs (N : Int)) (hz : zs.length ≤ 1000) (q : List Bool) (most : Nat) : rdC (allC (rnd zs N 4) (pks zs N) zs ++ q) N most = if zs.length ≤ most then .ok zs (allC (rnd zs N 4) (pks zs N) zs).length else .err 2 [] :=
  rdC_all (by have := h.1; omega) (by have := h.2.1; omega) (h.pk hz) (h.whs hz) (h.tbs hz) h.endp h.2.2.1 q
theorem May14.len {zs : List Int} {N : Nat} (h : May14 zs (N : Int)) (hz : zs.length ≤ 1000) : (allC (rnd zs N 4) (pks zs N) zs).length ≤ 300000 := by
  have h3 : 3 ≤ N := by have := h.1; omega
  have h258 : N ≤ 258 := by have := h.2.1; omega
  have hT6 : (rnd zs N 4).length ≤ 6 := (h.pk hz).2.1
  have hpl : (pks zs N).length ≤ 32767 := (h.pk hz).2.2.2.1
  have h1 := gsB_len h3 h258 _ (h.whs hz)
  have h2 := PkM.encK_len (pks zs N) hT6 (fun x hx => pks_lt x hx) _ (Nat.le_refl _)
  have h4 := (symT_ge (h.tbs hz) zs 0 h.2.2.2.1 (by omega)).2
  have h5 := PkM.allB_length (pks zs N) (rnd zs N 4).length
  rw [← PkM.encK_all _ _ (Nat.le_refl _)] at h5
  unfold allC symB
  rw [List.take_length, List.length_append, List.length_append]
  omega
theorem two_may : May14 [0, 2] ((3 : Nat) : Int) := by
  refine ⟨by decide, by decide, by decide, fun x hx => ?_, fun i hi => ?_⟩
  · rcases List.mem_cons.1 hx with rfl | hx
    · decide
    · rcases List.mem_cons.1 hx with rfl | hx
      · decide
      · cases hx
  have h2 : i < 2 := hi
  rcases (by omega : i = 0 ∨ i = 1) with rfl | rfl <;> decide
theorem ints_lit2 (w : World) (x y : Int) : IsInts (w.alloc (.cells #[.int .i64 x, .int .i64 y] 3)) (.slice (some ⟨w.heap.size, 0, none⟩) 2 2) [x, y] := by
  have hg := heap_alloc_new w (.cells #[.int .i64 x, .int .i64 y] 3)
  refine ⟨_, _, rfl, fun i z hz => ⟨w.heap.size, 0, rfl, ?_⟩⟩
  rw [cell_of_row _ _ _ _ _ _ hg]
  rcases i with _ | _ | i
  · simp at hz ⊢; exact hz
  · simp at hz ⊢; exact hz
  · simp at hz
set_option maxRecDepth 100000 in
set_option maxHeartbeats 4000000 in
theorem codTwo_any (w : World) (hB : Bnds w) : Calls Tryz.prog 12 #[] w fun e w' => e = .returned (.bool true) ∧ Below w.heap.size w w' := by
  have HBN := Lib.hid hB
  have HRD := Lib.hid (fun q => two_may.rd (by decide) q 2)
  have hLb := two_may.len (by decide)
  have HQW : Hid (∀ (g : Nat) (v : Value) (a : Option Addr) (W : World), IsWriter W g v [] 0 → IsInts W (.slice a 2 2) [0, 2] → Bnds W → (∀ k, (Value.slice a 2 2).ownBlock = some k → ¬ foot g v k) → Calls Tryz.prog 51 #[.pointer (some ⟨g, 0, none⟩), .slice a 2 2, .int .i64 3] W fun e w' => e = .returned (.int .i64 0) ∧ Wrote W g v 0 (allC (rnd [0, 2] 3 4) (pks [0, 2] 3) [0, 2]) w') := Lib.hid (fun g v a W h1 h2 h3 h4 => by
    have := cwrite_any g v [] 0 a 2 2 [0, 2] 3 W h1 h2 rfl (by decide) (by decide) (by decide) h3 two_may h4 (by decide)
    rw [List.nil_append] at this
    exact this)
  have HQB : Hid (∀ (a : Option Addr) (W : World), IsInts W (.slice a 2 2) [0, 2] → Bnds W → Calls Tryz.prog 52 #[.slice a 2 2, .int .i64 3] W fun e w' => e = .returned (.tuple #[.int .i64 ((allC (rnd [0, 2] 3 4) (pks [0, 2] 3) [0, 2]).length : Int), .int .i64 0]) ∧ Below W.heap.size W w') := Lib.hid (fun a W h2 h3 => cbits_any a 2 2 [0, 2] 3 W h2 rfl (by decide) (by decide) (by decide) h3 two_may)
  obtain ⟨Q, hQ⟩ : ∃ Q, allC (rnd [0, 2] 3 4) (pks [0, 2] 3) [0, 2] = Q := ⟨_, rfl⟩
  rw [hQ] at HRD HQW HQB hLb
  obtain ⟨L, hL⟩ : ∃ L, Q.length = L := ⟨_, rfl⟩
  have HL := Lib.hid hL
  rw [hL] at HRD HQB hLb
  have hTS : (⟨(byts (Q ++ padding Q)).toArray⟩ : ByteArray).size ≤ 40000 := by
    show (byts (Q ++ padding Q)).length ≤ _
    obtain ⟨n, hn1, hn2⟩ := pad_bytes Q
    rw [byts_length]
    omega
  have HTB := Lib.hid (taken_bits Q ⟨#[]⟩)
  obtain ⟨T, hT⟩ : ∃ T : ByteArray, (⟨(byts (Q ++ padding Q)).toArray⟩ : ByteArray) = T := ⟨_, rfl⟩
  have HT := Lib.hid hT
  rw [hT] at hTS HTB
  have HTT : Hid (bitsOf T.data.toList = Q ++ padding Q) := Lib.hid (by
    have h := HTB.out
    rw [app_list, bitsOf_append] at h
    have e : bitsOf (⟨#[]⟩ : ByteArray).data.toList = [] := rfl
    rw [e, List.append_nil, List.append_nil] at h
    exact h)
  have HTL : Hid (T.data.toList.length = T.size) := Lib.hid rfl
  have hLL : ((L : Int) == (L : Int)) = true := by simp
  clear hQ hL hT hB HTB
  go_enter Tryz.func12, Tryz.ntmps12
  go_wp2_with fail
  refine (newWriter_any w).mono ?_
  rintro e w1 ⟨rfl, hw1, hb1⟩
  have W2 : Hid (IsWriter (w1.alloc (.cells #[.int .i64 0, .int .i64 2] 3)) w.heap.size (.slice none 0 0) [] 0) := Lib.hid (hw1.other (Touch.ofBelow (S := fun _ => False) ((Below.refl _ _).alloc (Nat.le_refl _) _)) (fun _ _ h => h))
  have I2 : Hid (IsInts (w1.alloc (.cells #[.int .i64 0, .int .i64 2] 3)) (.slice (some ⟨w1.heap.size, 0, none⟩) 2 2) [0, 2]) := Lib.hid (ints_lit2 w1 0 2)
  have B2 : Hid (Below w.heap.size w (w1.alloc (.cells #[.int .i64 0, .int .i64 2] 3))) := Lib.hid (hb1.alloc hb1.size _)
  have hlt : Hid (w.heap.size < w1.heap.size) := Lib.hid (hw1.lt _ (Or.inl rfl)).1
  clear hw1 hb1
  go_wp2_with fail
  refine (HQW.out w.heap.size _ _ _ W2.out I2.out (HBN.out.below B2.out) (by
    intro k hk hf
    simp [Value.ownBlock] at hk
    subst hk
    rcases hf with h | h
    · have := hlt.out; omega
    · simp [Value.ownBlock] at h)).mono ?_
  rintro e w3 ⟨rfl, v3, hw3, ht3, _⟩
  have B3a := Lib.hid (B2.out.trans (ht3.below B2.out.size (fun i hi => (W2.out.lt i hi).2)))
  have W3 : Hid (IsWriter (w3.alloc (.cells #[.int .i64 0, .int .i64 2] 3)) w.heap.size v3 Q 0) := Lib.hid (hw3.other (Touch.ofBelow (S := fun _ => False) ((Below.refl _ _).alloc (Nat.le_refl _) _)) (fun _ _ h => h))
  have I3 : Hid (IsInts (w3.alloc (.cells #[.int .i64 0, .int .i64 2] 3)) (.slice (some ⟨w3.heap.size, 0, none⟩) 2 2) [0, 2]) := Lib.hid (ints_lit2 w3 0 2)
  have B3 : Hid (Below w.heap.size w (w3.alloc (.cells #[.int .i64 0, .int .i64 2] 3))) := Lib.hid (B3a.out.alloc B3a.out.size _)
  clear hw3 ht3
  go_wp2_with fail
  refine (HQB.out _ _ I3.out (HBN.out.below B3.out)).mono ?_
  rintro e w4 ⟨rfl, hb4⟩
  have W4 := Lib.hid (W3.out.other (Touch.ofBelow (S := fun _ => False) hb4) (fun _ _ h => h))
  have B4 := Lib.hid (B3.out.trans (hb4.mono B3.out.size))
  clear hb4
  go_wp2_with fail
  refine (wlen_any _ _ _ _ w4 W4.out).mono ?_
  rintro e w' ⟨rfl, rfl⟩
  rw [HL.out]
  go_wp2_with fail
  refine (wpad_any _ _ _ _ _ W4.out (by have := HL.out; omega)).mono ?_
  rintro e w5 ⟨rfl, v5, hw5, ht5, _⟩
  have W5 := Lib.hid hw5
  have B5 := Lib.hid (B4.out.trans (ht5.below B4.out.size (fun i hi => (W4.out.lt i hi).2)))
  clear hw5 ht5
  go_wp2_with fail
  refine (wtake_any _ _ _ _ w5 W5.out).mono ?_
  rintro e w6 ⟨rfl, _, ht6⟩
  have B6 := Lib.hid (B5.out.trans (ht6.below B5.out.size (fun i hi => (W5.out.lt i hi).2)))
  rw [List.drop_zero, HT.out]
  clear ht6
  go_wp2_with fail
  refine (newReader_any _ w6 (by unfold maxLen; omega)).mono ?_
  rintro e w7 ⟨b, v7, rfl, hr7, hb7, hf7⟩
  have R7 := Lib.hid hr7
  have B7 := Lib.hid (B6.out.trans (hb7.mono B6.out.size))
  have F7 := Lib.hid (hf7 b (Or.inl rfl))
  have S6 := Lib.hid B6.out.size
  clear hr7 hb7 hf7
  go_wp2_with fail
  refine (cread_any b 3 2 v7 _ 0 0 0 w7 R7.out (by have := HTL.out; omega) (by decide) (by decide) (by have := HTL.out; omega)).mono ?_
  rintro e w8 ⟨u, ls, er, k, rfl, hi8, hp8, hr8, ht8⟩
  have hp9 : RdP14 (bitsOf T.data.toList) 3 2 ls er k := hp8
  unfold RdP14 at hp9
  rw [HTT.out, HRD.out] at hp9
  obtain ⟨rfl, rfl, rfl⟩ : ls = [0, 2] ∧ er = 0 ∧ k = L := hp9
  have HI8 : Hid (IsInts (w8.alloc (.cells #[.int .i64 0, .int .i64 2] 3)) u [0, 2]) := Lib.hid (hi8.alloc _)
  have I8 : Hid (IsInts (w8.alloc (.cells #[.int .i64 0, .int .i64 2] 3)) (.slice (some ⟨w8.heap.size, 0, none⟩) 2 2) [0, 2]) := Lib.hid (ints_lit2 w8 0 2)
  have B8a := Lib.hid (B7.out.trans (ht8.below B7.out.size (fun i hi => by have h1 := F7.out; have h2 : i = b := hi; have h3 := S6.out; omega)))
  have B8 := Lib.hid (B8a.out.alloc B8a.out.size (.cells #[.int .i64 0, .int .i64 2] 3))
  clear hp8 hr8 ht8 hi8
  go_wp2_with fail
  refine (ints_any _ _ [0, 2] [0, 2] true _ HI8.out I8.out ⟨fun _ => rfl, fun _ => rfl⟩ (by simp) (by simp)).mono ?_
  rintro e w9 ⟨rfl, m9, hw9⟩
  have B9 : Hid (Below w.heap.size w w9) := Lib.hid (by rw [hw9]; exact B8.out.trans ⟨rfl, rfl, rfl, Nat.le_refl _, fun _ _ => rfl⟩)
  clear hw9
  go_wp2_with fail
  go_ret
  exact ⟨rfl, B9.out⟩
end Go.Proofs.YtojphcoghbiepaaGreatDoor
namespace Go.Proofs.YtojphcoghbiepaaGreatDoor
open Go.RowKit BitM HufM CanM CodM TabM FreqM
set_option linter.unusedVariables false
def PairI (w : World) (B : Nat) (x y : Int) : Prop := w.cell? ⟨B, 0, none⟩ = some (.int .i64 x) ∧ w.cell? ⟨B, 1, none⟩ = some (.int .i64 y)
theorem PairI.below {w w' : World} {B C : Nat} {x y : Int} (h : PairI w B x y) (hb : Below C w w') (hB : B < C) : PairI w' B x y :=
  ⟨(World.cell?_of_block (w := w) (a := ⟨B, 0, none⟩) (hb.block B hB)).trans h.1, (World.cell?_of_block (w := w) (a := ⟨B, 1, none⟩) (hb.block B hB)).trans h.2⟩
theorem PairI.boxed (w : World) (x y : Int) : PairI (w.alloc (.cells #[.int .i64 x, .int .i64 y] 22)) w.heap.size x y :=
  ⟨by rw [cell_of_row _ _ 0 _ _ _ (heap_alloc_new _ _)]; rfl, by rw [cell_of_row _ _ 1 _ _ _ (heap_alloc_new _ _)]; rfl⟩
end Go.Proofs.YtojphcoghbiepaaGreatDoor
namespace Go.Proofs.YtojphcoghbiepaaGreatDoor
open Go.RowKit BitM HufM CanM CodM TabM FreqM
set_option linter.unusedVariables false
end Go.Proofs.YtojphcoghbiepaaGreatDoor
namespace Go.Proofs.YtojphcoghbiepaaGreatDoor
open Go.RowKit BitM HufM CanM CodM TabM FreqM
set_option linter.unusedVariables false
set_option maxRecDepth 100000 in
set_option maxHeartbeats 4000000 in
theorem codeReads.far (s : ByteArray) (a q0 q1 : Int) (w : World) (hB : Bnds w) (hs : s.size ≤ maxLen) (h : 200 < s.size ∨ a < 0 ∨ 8 * (s.size : Int) < a) :
    Calls Tryz.prog 3 #[.string s, .int .i64 a, .agg #[.int .i64 q0, .int .i64 q1]] w fun e w' => e = .returned (.bool true) ∧ Below w.heap.size w w' := by
  have HBN := Lib.hid hB
  have H2 := Lib.hid (fun W (h : Bnds W) => codTwo_any W h)
  obtain ⟨c0, c1⟩ := PairI.boxed w q0 q1
  have HB0 := Lib.hid ((Below.refl w.heap.size w).alloc (Nat.le_refl _) (.cells #[.int .i64 q0, .int .i64 q1] 22))
  clear hB
  unfold maxLen at hs
  by_cases h1 : 200 < s.size
  · have h1i : (200 : Int) < (s.size : Int) := by omega
    clear h
    go_enter Tryz.func3, Tryz.ntmps3
    go_wp2_with fail
    refine (H2.out _ (HBN.out.below HB0.out)).mono ?_
    rintro e w9 ⟨rfl, hb9⟩
    have HB9 := Lib.hid (HB0.out.trans (hb9.mono HB0.out.size))
    clear hb9
    go_wp2_with fail
    go_ret
    exact ⟨rfl, HB9.out⟩
  have h1i : ¬ (200 : Int) < (s.size : Int) := by omega
  by_cases h2 : a < 0
  · clear h
    go_enter Tryz.func3, Tryz.ntmps3
    go_wp2_with fail
    refine (H2.out _ (HBN.out.below HB0.out)).mono ?_
    rintro e w9 ⟨rfl, hb9⟩
    have HB9 := Lib.hid (HB0.out.trans (hb9.mono HB0.out.size))
    clear hb9
    go_wp2_with fail
    go_ret
    exact ⟨rfl, HB9.out⟩
  · have h3 : 8 * (s.size : Int) < a := by omega
    clear h
    go_enter Tryz.func3, Tryz.ntmps3
    go_wp2_with fail
    refine (H2.out _ (HBN.out.below HB0.out)).mono ?_
    rintro e w9 ⟨rfl, hb9⟩
    have HB9 := Lib.hid (HB0.out.trans (hb9.mono HB0.out.size))
    clear hb9
    go_wp2_with fail
    go_ret
    exact ⟨rfl, HB9.out⟩
set_option maxRecDepth 100000 in
set_option maxHeartbeats 4000000 in
theorem codeReads.arg (s : ByteArray) (a : Nat) (q0 q1 : Int) (w : World) (hB : Bnds w) (hs : s.size ≤ 200) (ha : a ≤ 8 * s.size) (h : ¬ (3 ≤ q0 ∧ q0 ≤ 258) ∨ q1 < 0) :
    Calls Tryz.prog 3 #[.string s, .int .i64 (a : Int), .agg #[.int .i64 q0, .int .i64 q1]] w fun e w' => e = .returned (.bool true) ∧ Below w.heap.size w w' := by
  have HBN := Lib.hid hB
  have H2 := Lib.hid (fun W (h : Bnds W) => codTwo_any W h)
  obtain ⟨c0, c1⟩ := PairI.boxed w q0 q1
  have HB0 := Lib.hid ((Below.refl w.heap.size w).alloc (Nat.le_refl _) (.cells #[.int .i64 q0, .int .i64 q1] 22))
  have hll : s.data.toList.length = s.size := rfl
  have HLL := Lib.hid hll
  have h1 : ¬ (200 : Int) < (s.size : Int) := by omega
  have h2 : ¬ 8 * (s.size : Int) < (a : Int) := by omega
  have HAR := Lib.hid (fun rb W => cread_arg rb q0 q1 W h)
  have HP := Lib.hid h
  have HQ1 : Hid ((3 ≤ q0 ∧ q0 ≤ 258) → q1 < 0) := Lib.hid (fun e => h.resolve_left (fun f => f e))
  clear hB h hll
  go_enter Tryz.func3, Tryz.ntmps3
  go_wp2_with fail
  generalize w.alloc (.cells #[.int .i64 q0, .int .i64 q1] 22) = w0 at *
  refine (newReader_any s w0 (by unfold maxLen; omega)).mono ?_
  rintro e w1 ⟨b, v1, rfl, hr1, hb1, hf1⟩
  have HR1 := Lib.hid hr1
  have HB1 := Lib.hid (HB0.out.trans (hb1.mono HB0.out.size))
  have HF1 : Hid (w.heap.size ≤ b) := Lib.hid (Nat.le_trans HB0.out.size (hf1 b (Or.inl rfl)))
  clear hr1 hb1 hf1 c0 c1
  go_wp2_with fail
  refine (seek_yes b v1 _ 0 0 0 a w1 HR1.out (by have := HLL.out; omega) (by omega) (by have := HLL.out; omega)).mono ?_
  rintro e w2 ⟨rfl, hr2, ht2⟩
  have HR2 := Lib.hid hr2
  have HB2 := Lib.hid (HB1.out.trans (ht2.below HB1.out.size (fun i hi => by have h1 := HF1.out; have h2 : i = b := hi; omega)))
  clear hr2 ht2
  go_wp2_with fail
  refine (HAR.out b w2).mono ?_
  rintro e w3 ⟨rfl, hb3⟩
  have HR3 := Lib.hid (HR2.out.other (Touch.ofBelow (S := fun _ => False) hb3) (fun _ _ h => h))
  have HB3 := Lib.hid (HB2.out.trans (hb3.mono HB2.out.size))
  clear hb3
  go_wp2_with fail
  by_cases hz : 3 ≤ q0 ∧ q0 ≤ 258
  all_goals
    first
    | (have hq1 := HQ1.out hz; have HSZ := Lib.hid (fun W => rSize_any q0 true W ⟨fun _ => hz, fun _ => rfl⟩); clear hz)
    | (have HSZ := Lib.hid (fun W => rSize_any q0 false W ⟨fun e => (by cases e), fun h => absurd h hz⟩); clear hz)
    refine (HSZ.out _).mono ?_
    rintro e w4 ⟨rfl, rfl⟩
    go_wp2_with fail
    refine (rat_any b v1 _ 0 0 a w3 HR3.out).mono ?_
    rintro e w5 ⟨rfl, rfl⟩
    go_wp2_with fail
    refine (H2.out _ (HBN.out.below HB3.out)).mono ?_
    rintro e w9 ⟨rfl, hb9⟩
    have HB9 := Lib.hid (HB3.out.trans (hb9.mono HB3.out.size))
    clear hb9
    go_wp2_with fail
    go_ret
    exact ⟨rfl, HB9.out⟩
end Go.Proofs.YtojphcoghbiepaaGreatDoor
namespace Go.Proofs.YtojphcoghbiepaaGreatDoor
open Go.RowKit UsedM MtfM
set_option linter.unusedVariables false
theorem touch_text (m : List UInt8) (i : Nat) (h : i < m.length) :
    ((⟨m.toArray⟩ : ByteArray).extract i (i + 1) ++ (⟨m.toArray⟩ : ByteArray).extract 0 i) ++ (⟨m.toArray⟩ : ByteArray).extract (i + 1) m.length = ⟨(touch m i).toArray⟩ := by
  apply ByteArray.ext
  apply Array.toList_inj.1
  unfold touch
  simp only [ByteArray.data_append, ByteArray.data_extract, Array.toList_append, List.extract_toArray, List.extract_eq_take_drop]
  simp only [Nat.add_sub_cancel_left, Nat.sub_zero, List.drop_zero]
  rw [List.take_of_length_le (l := m.drop (i + 1)) (by rw [List.length_drop]; exact Nat.le_refl _)]
set_option maxHeartbeats 1000000 in
theorem rtouch_any (m : List UInt8) (i : Nat) (w : World) (hi : i < m.length) (hm : m.length ≤ 256) :
    Calls Tryz.prog 105 #[.string ⟨m.toArray⟩, .int .i64 (i : Int)] w fun e w' => e = .returned (.string ⟨(touch m i).toArray⟩) ∧ ∃ n, w' = w.drewN n := by
  have HT := touch_text m i hi
  have hsz : (⟨m.toArray⟩ : ByteArray).size = m.length := text_size m
  obtain ⟨L, hL⟩ : ∃ L, m.length = L := ⟨_, rfl⟩
  rw [hL] at HT hsz hi hm
  generalize (⟨m.toArray⟩ : ByteArray) = T at *
  obtain ⟨j, hj⟩ : ∃ j, i + 1 = j := ⟨_, rfl⟩
  rw [hj] at HT
  have z1 : (T.extract i j).size = 1 := by rw [ByteArray.size_extract]; omega
  have z2 : (T.extract 0 i).size = i := by rw [ByteArray.size_extract]; omega
  have z3 : (T.extract j L).size = L - j := by rw [ByteArray.size_extract]; omega
  have z4 : (T.extract i j ++ T.extract 0 i).size = j := by rw [ByteArray.size_append]; omega
  have hji : (i : Int) + 1 = (j : Int) := by omega
  have hjw : IntKind.i64.wrap (j : Int) = (j : Int) := IntWalk.i64_in _ (by omega)
  have b1 : (0 : Int) ≤ (i : Int) := by omega
  have b2 : (i : Int) ≤ (j : Int) := by omega
  have b3 : (j : Int) ≤ (L : Int) := by omega
  have b4 : (i : Int) ≤ (L : Int) := by omega
  have b5 : (0 : Int) ≤ (j : Int) := by omega
  have b6 : (L : Int) ≤ 256 := by omega
  have hc1 : ∀ W, (Op.stringOp .add (T.extract i j) (T.extract 0 i)).run Tryz.prog W = .ok (.string (T.extract i j ++ T.extract 0 i)) W := fun W => by
    rw [run_string_add_if, if_neg (by omega)]
  have hc2 : ∀ W, (Op.stringOp .add (T.extract i j ++ T.extract 0 i) (T.extract j L)).run Tryz.prog W = .ok (.string ((T.extract i j ++ T.extract 0 i) ++ T.extract j L)) W := fun W => by
    rw [run_string_add_if, if_neg (by omega)]
  have HTT := Lib.hid HT
  clear HT z1 z2 z3 z4 hL
  go_enter Tryz.func105, Tryz.ntmps105
  go_wp2_with fail
  go_quiet (fail)
  go_wp2_with fail
  go_ret
  rw [HTT.out]
  exact ⟨rfl, _, rfl⟩
end Go.Proofs.YtojphcoghbiepaaGreatDoor
namespace Go.Proofs.YtojphcoghbiepaaGreatDoor
open Go.RowKit PkM BitM
set_option linter.unusedVariables false
theorem let_nat (p : Nat) (hp : p < 6) : (UInt8.ofNat (48 + p)).toNat = 48 + p := by
  rcases (by omega : p = 0 ∨ p = 1 ∨ p = 2 ∨ p = 3 ∨ p = 4 ∨ p = 5) with rfl | rfl | rfl | rfl | rfl | rfl <;> rfl
end Go.Proofs.YtojphcoghbiepaaGreatDoor
namespace Go.Proofs.YtojphcoghbiepaaGreatDoor
open Go.RowKit DelM BitM
set_option linter.unusedVariables false
end Go.Proofs.YtojphcoghbiepaaGreatDoor
namespace Go.Proofs.YtojphcoghbiepaaGreatDoor
namespace CanM
open Go.RowKit HufM BitM
set_option linter.unusedVariables false
/-- One more, and whether all bits were 1. -/
def nxtL : List Bool → List Bool × Bool
  | [] => ([], true)
  | b :: t => ((b != (nxtL t).2) :: (nxtL t).1, (nxtL t).2 && b)
theorem nxtL_length : ∀ t, (nxtL t).1.length = t.length
  | [] => rfl
  | b :: t => by simp only [nxtL, List.length_cons, nxtL_length t]
theorem num_cons (b : Bool) (t : List Bool) : num (b :: t) = bn b * 2 ^ t.length + num t := by
  have := num_append [b] t
  rw [List.singleton_append] at this
  rw [this, show num [b] = bn b from Nat.zero_add _]
theorem nxtL_is : ∀ t, num (nxtL t).1 + bn (nxtL t).2 * 2 ^ t.length = num t + 1
  | [] => rfl
  | b :: t => by
    have ih := nxtL_is t
    have h1 := num_lt t
    have h2 := num_lt (nxtL t).1
    rw [nxtL_length] at h2
    simp only [nxtL, List.length_cons]
    rw [num_cons, num_cons, nxtL_length, Nat.pow_succ]
    generalize num (nxtL t).1 = A at *
    generalize num t = T at *
    generalize 2 ^ t.length = P at *
    generalize (nxtL t).2 = c at *
    cases b <;> cases c <;> simp [bn] at * <;> omega
/-- The next code of a length. -/
def nxtC (C : List Bool) (n : Nat) : List Bool := (nxtL C).1 ++ List.replicate (n - C.length) false
theorem nxtC_is {C : List Bool} {n X : Nat} (hm : C.length ≤ n) (hX : (num C + 1) * 2 ^ (n - C.length) = X) (hlt : X < 2 ^ n) : nxtC C n = field X n := by
  have h1 := nxtL_is C
  have hl := nxtL_length C
  have hp : 0 < 2 ^ (n - C.length) := Nat.pow_pos (by decide)
  have hn : 2 ^ n = 2 ^ C.length * 2 ^ (n - C.length) := by rw [← Nat.pow_add]; congr 1; omega
  have h2 : num C + 1 < 2 ^ C.length := by
    rw [← hX, hn] at hlt
    exact Nat.lt_of_mul_lt_mul_right hlt
  have h3 : num (nxtL C).1 = num C + 1 := by
    cases h : (nxtL C).2
    · rw [h] at h1; simp [bn] at h1; exact h1
    · rw [h] at h1
      simp only [bn, if_true, Nat.one_mul] at h1
      omega
  apply num_inj
  · unfold nxtC
    rw [List.length_append, List.length_replicate, hl, field_length]
    omega
  · unfold nxtC
    rw [num_zeros, h3, hX, field_num, Nat.mod_eq_of_lt hlt]
theorem field_zero (n : Nat) : field 0 n = List.replicate n false := by
  apply num_inj
  · rw [field_length, List.length_replicate]
  · rw [field_num, Nat.zero_mod]
    have := num_zeros [] n
    rw [List.nil_append] at this
    rw [this]
    simp [num]
/-- The number of the next code of n bits: behind the symbols of fewer bits, and those of n bits below i. -/
def nxtX (l : List Int) (n i : Nat) : Nat := fcod l n + rank l n i
theorem nxtX_skip {l : List Int} {n i : Nat} (h : ¬ ln l i = n) : nxtX l n (i + 1) = nxtX l n i := by
  unfold nxtX
  rw [rank_succ, if_neg (show ¬ (l.getD i 0).toNat = n from h)]
  rfl
theorem nxtX_take {l : List Int} {n i : Nat} (h : ln l i = n) : nxtX l n (i + 1) = nxtX l n i + 1 := by
  unfold nxtX
  rw [rank_succ, if_pos (show (l.getD i 0).toNat = n from h)]
  omega
theorem nxtX_next {l : List Int} {n : Nat} (h : n < 20) : nxtX l (n + 1) 0 = 2 * nxtX l n l.length := by
  unfold nxtX
  rw [fcod_succ l h]
  show _ + 0 = _
  rfl
theorem nxtX_cod {l : List Int} {n i : Nat} (hi : i < l.length) (h : ln l i = n) : nxtX l n i = cod l (ln l i, i) := by
  rw [h, cod_rank hi n h]
  rfl
/-- What the last code says of the next one. -/
def CodeAt (C : List Bool) (n X : Nat) : Prop := (C = [] ∧ X = 0) ∨ (C ≠ [] ∧ C.length ≤ n ∧ (num C + 1) * 2 ^ (n - C.length) = X)
theorem CodeAt.next {C : List Bool} {n X : Nat} (h : CodeAt C n X) : CodeAt C (n + 1) (2 * X) := by
  rcases h with ⟨h1, h2⟩ | ⟨h1, h2, h3⟩
  · exact Or.inl ⟨h1, by rw [h2]⟩
  · refine Or.inr ⟨h1, by omega, ?_⟩
    rw [← h3, show n + 1 - C.length = n - C.length + 1 by omega, Nat.pow_succ, ← Nat.mul_assoc, Nat.mul_comm]
theorem CodeAt.took {n X : Nat} (h1 : 1 ≤ n) (hX : X < 2 ^ n) : CodeAt (field X n) n (X + 1) := by
  refine Or.inr ⟨?_, by rw [field_length]; exact Nat.le_refl _, ?_⟩
  · intro h
    have := field_length X n
    rw [h] at this
    simp at this
    omega
  · rw [field_length, field_num, Nat.mod_eq_of_lt hX, Nat.sub_self, Nat.pow_zero, Nat.mul_one]
end CanM
end Go.Proofs.YtojphcoghbiepaaGreatDoor
namespace Go.Proofs.YtojphcoghbiepaaGreatDoor
open Go.RowKit CanM HufM BitM
set_option linter.unusedVariables false
theorem txt_get1 (q : List Bool) (k : Nat) (hk : k < q.length) (h : k < (txt q).size) : (txt q)[k] = chr q[k] := by
  have h2 : (txt q).data[k]'(by simpa [txt] using hk) = chr q[k] := by simp [txt]
  exact h2
theorem txt_one (b : Bool) (q : List Bool) : txt [b] ++ txt q = txt (b :: q) := txt_append [b] q
set_option maxRecDepth 100000 in
set_option maxHeartbeats 2000000 in
theorem next_any (C : List Bool) (n : Nat) (w : World) (hC : C.length ≤ n) (hn : n ≤ 20) :
    Calls Tryz.prog 169 #[.string (txt C), .int .i64 (n : Int)] w fun e w' => e = .returned (.string (txt (nxtC C n))) ∧ w' = w := by
  obtain ⟨m, hm⟩ : ∃ m, C.length = m := ⟨_, rfl⟩
  have hsz : (txt C).size = m := by rw [txt_size, hm]
  have HM := Lib.hid hm
  rw [hm] at hC
  clear hm
  go_enter Tryz.func169, Tryz.ntmps169
  go_wp2_with fail
  go_loopw [5, 6, 7] (fun vo vc vi wr => ∃ t : Nat, vi = .int .i64 ((t : Int) - 1) ∧ t ≤ m ∧ vo = .string (txt (nxtL (C.drop t)).1) ∧ vc = .bool (nxtL (C.drop t)).2 ∧ wr = w) (fun _ _ vi _ => (intOf vi + 1).toNat)
  case atStart =>
    have e : C.drop m = [] := List.drop_of_length_le (by rw [HM.out]; exact Nat.le_refl _)
    exact ⟨m, rfl, Nat.le_refl _, by rw [e]; rfl, by rw [e]; rfl, rfl⟩
  case round =>
    obtain ⟨t, rfl, ht, rfl, rfl, rfl⟩ := hrel
    have hol : (nxtL (C.drop t)).1.length ≤ 20 := by rw [nxtL_length, List.length_drop, HM.out]; omega
    by_cases ht0 : 0 < t
    · obtain ⟨s, rfl⟩ : ∃ s, t = s + 1 := ⟨t - 1, by omega⟩
      have hi : (((s + 1 : Nat) : Int) - 1) = (s : Int) := by omega
      rw [hi]
      have hsC : s < C.length := by rw [HM.out]; omega
      have hsm : (s : Int) < (m : Int) := by omega
      have hdrop : C.drop s = C[s] :: C.drop (s + 1) := List.drop_eq_getElem_cons hsC
      obtain ⟨b, hb⟩ : ∃ b, C[s] = b := ⟨_, rfl⟩
      have hidx : ∀ h : s < (txt C).size, (((txt C)[s]'h).toNat : Int) = ((chr b).toNat : Int) := fun h => by rw [txt_get1 C s hsC h, hb]
      rw [hb] at hdrop
      have HN : Hid ((nxtL (C.drop s)).1 = (b != (nxtL (C.drop (s + 1))).2) :: (nxtL (C.drop (s + 1))).1 ∧ (nxtL (C.drop s)).2 = ((nxtL (C.drop (s + 1))).2 && b)) := Lib.hid (by rw [hdrop]; exact ⟨rfl, rfl⟩)
      obtain ⟨o, ho⟩ : ∃ o, (nxtL (C.drop (s + 1))).1 = o := ⟨_, rfl⟩
      obtain ⟨cc, hcc⟩ : ∃ cc, (nxtL (C.drop (s + 1))).2 = cc := ⟨_, rfl⟩
      rw [ho, hcc] at HN
      rw [ho] at hol
      rw [ho, hcc]
      have hos : (txt o).size ≤ 20 := by rw [txt_size]; exact hol
      clear hdrop hb ho hcc hi hol hsC
      cases b
      · have hidx0 : ∀ h : s < (txt C).size, (((txt C)[s]'h).toNat : Int) = 48 := hidx
        clear hidx
        cases cc
        · go_wp2_with fail
          go_roundw
          case rel => exact ⟨s, by go_num, by omega, by rw [HN.out.1]; exact congrArg Value.string (txt_one false o), by rw [HN.out.2]; rfl, by first | rfl | trivial⟩
          case measure => first | (simp [intOf]; done) | (simp [intOf]; omega)
        · go_wp2_with fail
          go_roundw
          case rel => exact ⟨s, by go_num, by omega, by rw [HN.out.1]; exact congrArg Value.string (txt_one true o), by rw [HN.out.2]; rfl, by first | rfl | trivial⟩
          case measure => first | (simp [intOf]; done) | (simp [intOf]; omega)
      · have hidx0 : ∀ h : s < (txt C).size, (((txt C)[s]'h).toNat : Int) = 49 := hidx
        clear hidx
        cases cc
        · go_wp2_with fail
          go_roundw
          case rel => exact ⟨s, by go_num, by omega, by rw [HN.out.1]; exact congrArg Value.string (txt_one true o), by rw [HN.out.2]; rfl, by first | rfl | trivial⟩
          case measure => first | (simp [intOf]; done) | (simp [intOf]; omega)
        · go_wp2_with fail
          go_roundw
          case rel => exact ⟨s, by go_num, by omega, by rw [HN.out.1]; exact congrArg Value.string (txt_one false o), by rw [HN.out.2]; rfl, by first | rfl | trivial⟩
          case measure => first | (simp [intOf]; done) | (simp [intOf]; omega)
    · obtain rfl : t = 0 := by omega
      rw [List.drop_zero] at hol ⊢
      obtain ⟨o, ho⟩ : ∃ o, (nxtL C).1 = o := ⟨_, rfl⟩
      obtain ⟨cc, hcc⟩ : ∃ cc, (nxtL C).2 = cc := ⟨_, rfl⟩
      have HOL : Hid (o.length = m) := Lib.hid (by rw [← ho, nxtL_length, HM.out])
      have HRES : Hid (nxtC C n = o ++ List.replicate (n - m) false) := Lib.hid (by unfold nxtC; rw [ho, HM.out])
      rw [ho, hcc]
      clear ho hcc hol
      go_wp2_with fail
      obtain ⟨wz, hwz⟩ : ∃ wz : World, wz = wr := ⟨_, rfl⟩
      subst hwz
      go_loopw [5] (fun vo wr => ∃ e : Nat, m + e ≤ n ∧ vo = .string (txt (o ++ List.replicate e false)) ∧ wr = wz) (fun vo _ => n - (match vo with | .string s => s.size | _ => 0))
      case atStart => exact ⟨0, by omega, by simp, rfl⟩
      case round =>
        obtain ⟨e, he, rfl, rfl⟩ := hrel
        have hs1 : (txt (o ++ List.replicate e false)).size = m + e := by rw [txt_size, List.length_append, List.length_replicate, HOL.out]
        have HT : Hid (txt (o ++ List.replicate e false) ++ txt [false] = txt (o ++ List.replicate (e + 1) false)) := Lib.hid (by rw [txt_append, List.append_assoc, List.replicate_succ'])
        have hs2 : Hid ((txt (o ++ List.replicate (e + 1) false)).size = m + (e + 1)) := Lib.hid (by rw [txt_size, List.length_append, List.length_replicate, HOL.out])
        by_cases hen : m + e < n
        · have heni : ((m + e : Nat) : Int) < (n : Int) := by omega
          generalize txt (o ++ List.replicate e false) = T at *
          go_wp2_with fail
          go_roundw
          case rel => exact ⟨e + 1, by omega, congrArg Value.string HT.out, by first | rfl | trivial⟩
          case measure => 
            have h2 := hs2.out
            rw [← HT.out] at h2
            have h3 : (T ++ (⟨#[48]⟩ : ByteArray)).size = m + (e + 1) := h2
            simp only [h3, hs1]
            omega
        · have heni : ¬ ((m + e : Nat) : Int) < (n : Int) := by omega
          have HE : Hid (nxtC C n = o ++ List.replicate e false) := Lib.hid (by rw [HRES.out, show n - m = e by omega])
          go_wp2_with fail
          go_ret
          rw [HE.out]
          exact ⟨rfl, rfl⟩
end Go.Proofs.YtojphcoghbiepaaGreatDoor
namespace Go.Proofs.YtojphcoghbiepaaGreatDoor
open Go.RowKit
set_option linter.unusedVariables false
/-- Block g is the N texts F. -/
def RowS (w : World) (g N : Nat) (F : Nat → ByteArray) : Prop := w.heap[g]? = some (.cells (cellsF N (fun i => .string (F i))) 9 (0, 0))
theorem RowS.lt {w : World} {g N : Nat} {F : Nat → ByteArray} (h : RowS w g N F) : g < w.heap.size := (Array.getElem?_eq_some_iff.1 h).1
theorem RowS.below {w w' : World} {g N : Nat} {F : Nat → ByteArray} (h : RowS w g N F) (hb : Below w.heap.size w w') : RowS w' g N F := (hb.block g h.lt).trans h
theorem RowS.other {w w' : World} {g N : Nat} {F : Nat → ByteArray} (h : RowS w g N F) {S : Nat → Prop} (ht : Touch S w w') (hS : ¬ S g) : RowS w' g N F := (ht.block g h.lt hS).trans h
theorem RowS.drewN {w : World} {g N : Nat} {F : Nat → ByteArray} (h : RowS w g N F) (n : Nat) : RowS (w.drewN n) g N F := h
theorem cellsF_ext {M : Nat} {F G : Nat → Value} (h : ∀ i, i < M → F i = G i) : cellsF M F = cellsF M G := by
  unfold cellsF
  congr 1
  exact List.map_congr_left fun i hi => h i (List.mem_range.1 hi)
theorem RowS.ext {w : World} {g N : Nat} {F G : Nat → ByteArray} (h : RowS w g N F) (he : ∀ i, i < N → F i = G i) : RowS w g N G := by
  unfold RowS at h ⊢
  rw [h, cellsF_ext (G := fun i => .string (G i)) (fun i hi => by rw [he i hi])]
theorem RowS.cell {w : World} {g N : Nat} {F : Nat → ByteArray} (h : RowS w g N F) {i : Nat} (hi : i < N) : w.cell? ⟨g, i, none⟩ = some (.string (F i)) ∧ w.frozen? ⟨g, i, none⟩ = false ∧
    ∀ x : ByteArray, RowS (w.setCell ⟨g, i, none⟩ (.string x)) g N (fun k => if k = i then x else F k) := by
  refine ⟨(cell_of_row _ _ _ _ _ _ h).trans (cellsF_get N _ hi), frozen_of_row _ _ _ _ _ h, fun x => ?_⟩
  have := heap_setCell_same w g i _ _ (.string x) h
  rw [cellsF_set] at this
  unfold RowS
  rw [this, cellsF_ext (G := fun k => .string (if k = i then x else F k))]
  intro j _
  unfold upd
  split <;> rfl
theorem RowS.made (w : World) (n : Nat) : RowS (w.alloc (.cells (madeCells #[Value.string ⟨#[]⟩] n) 9)) w.heap.size n (fun _ => ⟨#[]⟩) := by
  have e : madeCells #[Value.string ⟨#[]⟩] n = cellsF n (fun _ => .string ⟨#[]⟩) := by
    apply Array.toList_inj.1
    rw [toList_madeCells_one]
    unfold cellsF
    show List.replicate n _ = (List.range n).map fun _ => _
    rw [List.map_const', List.length_range]
  unfold RowS
  rw [← e]
  exact heap_alloc_new _ _
set_option maxHeartbeats 1000000 in
theorem make_strs (n : Nat) (hn : n ≤ 1000000) (W : World) : (Instr.makeSlice 93 (.int .i64 (n : Int)) (.int .i64 (n : Int))).run Tryz.prog W = .ok (.slice (some ⟨W.heap.size, 0, none⟩) n n) (W.alloc (.cells (madeCells #[Value.string ⟨#[]⟩] n) 9)) := by
  obtain ⟨i0, hi, hz0, hz1, hz2⟩ := info_parts (show (Tryz.prog.info? 9).map (fun i => (i.zero, i.size, i.bytes)) = some (some (.string ⟨#[]⟩), 1, 16) by kernel_rfl)
  have := run_make (P := Tryz.prog) W 93 9 i0 (.string ⟨#[]⟩) Tryz.underlying93 hi hz0 .i64 .i64 (n : Int) (n : Int) (by omega) (by omega) (by rw [hz2]; omega) (by omega)
  rw [hz1] at this
  simpa [Value.cells] using this
end Go.Proofs.YtojphcoghbiepaaGreatDoor
namespace Go.Proofs.YtojphcoghbiepaaGreatDoor
theorem list_eq_test (a b : ByteArray) (r : Bool) (h : r = true ↔ a = b) : (a.toList == b.toList) = r := by
  rw [Bool.eq_iff_iff, beq_iff_eq, ByteArray.toList_eq, ByteArray.toList_eq, h]
  constructor
  · intro h
    apply ByteArray.ext
    exact Array.toList_inj.1 h
  · rintro rfl
    rfl
end Go.Proofs.YtojphcoghbiepaaGreatDoor
namespace Go.Proofs.YtojphcoghbiepaaGreatDoor
open Go.RowKit CanM HufM BitM
set_option linter.unusedVariables false
theorem txt_inj {p q : List Bool} (h : txt p = txt q) : p = q := by
  have h1 : (p.map chr).toArray = (q.map chr).toArray := congrArg ByteArray.data h
  have h2 : p.map chr = q.map chr := by simpa using congrArg Array.toList h1
  exact (List.map_inj_right (fun a b hab => by cases a <;> cases b <;> first | rfl | exact absurd hab (by decide))).1 h2
theorem txt_test (p q : List Bool) (r : Bool) (h : r = true ↔ p = q) : ((txt p).toList == (txt q).toList) = r := list_eq_test _ _ r (h.trans ⟨fun e => by rw [e], txt_inj⟩)
theorem txt_empty (q : List Bool) (r : Bool) (h : r = true ↔ q = []) : (txt q).toList.isEmpty = r := by
  rw [Bool.eq_iff_iff, h, ByteArray.toList_eq, List.isEmpty_iff]
  constructor
  · intro e
    cases q with
    | nil => rfl
    | cons a t => cases e
  · rintro rfl
    rfl
/-- The symbols so far have their codes. -/
def CodesAt (zs : List Int) (n i : Nat) (F : Nat → ByteArray) : Prop := ∀ j, j < zs.length → (ln zs j < n ∨ (ln zs j = n ∧ j < i)) → F j = txt (code zs j)
theorem CodesAt.skip {zs : List Int} {n i : Nat} {F : Nat → ByteArray} (h : CodesAt zs n i F) (hn : ¬ ln zs i = n) : CodesAt zs n (i + 1) F := fun j hj hc => h j hj (by
  rcases hc with h1 | ⟨h1, h2⟩
  · exact Or.inl h1
  · refine Or.inr ⟨h1, ?_⟩
    rcases Nat.lt_succ_iff_lt_or_eq.1 h2 with h3 | h3
    · exact h3
    · exact absurd (h3 ▸ h1) hn)
theorem CodesAt.take {zs : List Int} {n i : Nat} {F : Nat → ByteArray} (h : CodesAt zs n i F) (x : ByteArray) (hx : x = txt (code zs i)) : CodesAt zs n (i + 1) (fun k => if k = i then x else F k) := fun j hj hc => by
  show (if j = i then x else F j) = _
  by_cases e : j = i
  · rw [if_pos e, hx, e]
  · rw [if_neg e]
    exact h j hj (by omega)
theorem CodesAt.next {zs : List Int} {n : Nat} {F : Nat → ByteArray} (h : CodesAt zs n zs.length F) : CodesAt zs (n + 1) 0 F := fun j hj hc => h j hj (by omega)
set_option maxRecDepth 100000 in
set_option maxHeartbeats 2000000 in
theorem codes_any (v : Value) (zs : List Int) (w : World) (hv : IsInts w v zs) (h258 : zs.length ≤ 258) (hwh : WholeP zs) :
    Calls Tryz.prog 108 #[v] w fun e w' => e = .returned (.slice (some ⟨w.heap.size, 0, none⟩) zs.length zs.length) ∧ RowS w' w.heap.size zs.length (fun j => txt (code zs j)) ∧ Below w.heap.size w w' := by
  have HV := Lib.hid hv
  have HW := Lib.hid hwh
  obtain ⟨a, cap, rfl, _⟩ := hv
  obtain ⟨N, hN⟩ : ∃ N, zs.length = N := ⟨_, rfl⟩
  have HN := Lib.hid hN
  rw [hN] at h258 ⊢
  have hmk := make_strs N (by omega) w
  have HR0 := Lib.hid (RowS.made w N)
  have HB0 := Lib.hid ((Below.refl w.heap.size w).alloc (Nat.le_refl _) (.cells (madeCells #[Value.string ⟨#[]⟩] N) 9))
  generalize hw1 : w.alloc (.cells (madeCells #[Value.string ⟨#[]⟩] N) 9) = w1 at *
  clear hw1 hwh hN
  go_enter Tryz.func108, Tryz.ntmps108
  go_wp2_with fail
  generalize hg : w.heap.size = g at *
  have HG := Lib.hid hg
  clear hg
  go_loopw [4, 5] (fun vc vn wr => ∃ (n : Nat) (C : List Bool) (F : Nat → ByteArray), vn = .int .i64 (n : Int) ∧ 1 ≤ n ∧ n ≤ 21 ∧ vc = .string (txt C) ∧ C.length ≤ 20 ∧ (n ≤ 20 → CodeAt C n (nxtX zs n 0)) ∧ CodesAt zs n 0 F ∧ RowS wr g N F ∧ Below g w wr) (fun _ vn _ => 21 - (intOf vn).toNat)
  case atStart => exact ⟨1, [], _, rfl, by omega, by omega, rfl, by simp, fun _ => Or.inl ⟨rfl, by
    unfold nxtX
    rw [fcod_succ zs (by decide : 0 < 20), fcod_zero, rank_zero (fun z hz => (HW.out.1 z hz).1)]
    rfl⟩, fun j hj hc => by have := (ln_bd (fun z hz => HW.out.1 z hz) hj).1; omega, HR0.out, HB0.out⟩
  case round =>
    clear HR0 HB0 hmk
    obtain ⟨n, C, F, rfl, hn1, hn21, rfl, hCl, hCA, hCs, hR, hB⟩ := hrel
    have HCA := Lib.hid hCA
    have HCS := Lib.hid hCs
    have HR := Lib.hid hR
    have HB := Lib.hid hB
    have HCL := Lib.hid hCl
    clear hCA hCs hR hB hCl
    by_cases hn20 : n ≤ 20
    · have hni : (n : Int) ≤ 20 := by omega
      have HCA0 := Lib.hid (HCA.out hn20)
      clear HCA
      go_wp2_with fail
      try rw [HN.out]
      go_loopw [4, 17] (fun vc vi wr2 => ∃ (i : Nat) (C : List Bool) (F : Nat → ByteArray), vi = .int .i64 (i : Int) ∧ i ≤ N ∧ vc = .string (txt C) ∧ C.length ≤ n ∧ CodeAt C n (nxtX zs n i) ∧ CodesAt zs n i F ∧ RowS wr2 g N F ∧ Below g w wr2) (fun _ vi _ => N - (intOf vi).toNat)
      case atStart => exact ⟨0, C, F, rfl, by omega, rfl, by rcases HCA0.out with h | h; · rw [h.1]; exact Nat.zero_le _
                                                             · exact h.2.1, HCA0.out, HCS.out, HR.out, HB.out⟩
      case round =>
        clear HCA0 HCS HR HB HCL
        obtain ⟨i, C, F, rfl, hi, rfl, hCl, hCA, hCs, hR, hB⟩ := hrel
        have HCA := Lib.hid hCA
        have HCS := Lib.hid hCs
        have HR := Lib.hid hR
        have HB := Lib.hid hB
        clear hCA hCs hR hB
        by_cases hlk : i < N
        · have hki : (i : Int) < (N : Int) := by omega
          have hlz : i < zs.length := by rw [HN.out]; exact hlk
          have HV2 := Lib.hid (HV.out.below (HG.out ▸ HB.out))
          obtain ⟨b1, o1, k1, he1, c1⟩ := HV2.out.cell hlz
          simp only [Value.slice.injEq] at he1
          obtain ⟨rfl, _, rfl⟩ := he1
          obtain ⟨x, hx⟩ : ∃ x, zs.getD i 0 = x := ⟨_, rfl⟩
          have hxr := HW.out.1 x (by rw [← hx]; exact getD_mem hlz)
          have hln : Hid (ln zs i = x.toNat) := Lib.hid (by unfold ln; rw [hx])
          rw [hx] at c1
          clear hx
          by_cases hxn : x = (n : Int)
          · subst hxn
            have hlnn : Hid (ln zs i = n) := Lib.hid (by rw [hln.out]; omega)
            have hXc := nxtX_cod hlz hlnn.out
            have hcl := cod_lt (x := (ln zs i, i)) (ent_of hlz) HW.out.2 (by show ln zs i ≤ 20; rw [hlnn.out]; exact hn20)
            have hcode : code zs i = field (nxtX zs n i) n := by
              unfold code
              rw [← hXc, hlnn.out]
            rw [← hXc] at hcl
            have hcl : nxtX zs n i < 2 ^ n := by
              have h2 : nxtX zs n i < 2 ^ ln zs i := hcl
              rw [hlnn.out] at h2
              exact h2
            have HNX : Hid (CodeAt (field (nxtX zs n i) n) n (nxtX zs n (i + 1))) := Lib.hid (by
              rw [nxtX_take hlnn.out]
              exact CodeAt.took hn1 hcl)
            have HCODE := Lib.hid hcode
            have HCLT := Lib.hid hcl
            obtain ⟨d0, d1, d2⟩ := HR.out.cell (i := i) hlk
            have HD2 := Lib.hid (d2 (txt (code zs i)))
            have HB2 := Lib.hid (HB.out.setCell (p := ⟨g, i, none⟩) (Nat.le_refl _) (.string (txt (code zs i))))
            clear hXc hcl hcode d2
            by_cases hCe : C = []
            · subst hCe
              have hz : nxtX zs n i = 0 := by
                rcases HCA.out with h | h
                · exact h.2
                · exact absurd rfl h.1
              have HFZ : Hid (code zs i = List.replicate n false) := Lib.hid (by rw [HCODE.out, hz, field_zero])
              have hte := txt_empty [] true ⟨fun _ => rfl, fun _ => rfl⟩
              clear hz
              go_wp2_with fail
              obtain ⟨wz, hwz⟩ : ∃ wz : World, wz = wr := ⟨_, rfl⟩
              subst hwz
              go_loopw [4, 28] (fun vc vk wr3 => ∃ k : Nat, vk = .int .i64 (k : Int) ∧ k ≤ n ∧ vc = .string (txt (List.replicate k false)) ∧ wr3 = wz) (fun _ vk _ => n - (intOf vk).toNat)
              case atStart => exact ⟨0, rfl, by omega, rfl, rfl⟩
              case round =>
                obtain ⟨k, rfl, hk, rfl, rfl⟩ := hrel
                by_cases hkn : k < n
                · have hkni : (k : Int) < (n : Int) := by omega
                  have hs1 : (txt (List.replicate k false)).size ≤ 20 := by rw [txt_size, List.length_replicate]; omega
                  have HT : Hid (txt (List.replicate k false) ++ txt [false] = txt (List.replicate (k + 1) false)) := Lib.hid (by rw [txt_append, List.replicate_succ'])
                  generalize txt (List.replicate k false) = T at *
                  go_wp2_with fail
                  go_roundw
                  case rel => exact ⟨k + 1, by go_num, by omega, congrArg Value.string HT.out, by first | rfl | trivial⟩
                  case measure => simp [intOf]; omega
                · obtain rfl : k = n := by omega
                  rw [← HFZ.out]
                  go_wp2_with fail
                  go_roundw
                  case rel => exact ⟨i + 1, code zs i, _, by go_num, by omega, rfl, by rw [code_length, hlnn.out]; exact Nat.le_refl _, by rw [HCODE.out]; exact HNX.out, HCS.out.take _ rfl, HD2.out, HB2.out⟩
                  case measure => simp [intOf]; omega
            · have hte := txt_empty C false ⟨fun h => (by cases h), fun h => absurd h hCe⟩
              have HNE : Hid (nxtC C n = code zs i) := Lib.hid (by
                rcases HCA.out with h | h
                · exact absurd h.1 hCe
                · rw [HCODE.out]
                  exact nxtC_is h.2.1 h.2.2 HCLT.out)
              clear hCe
              go_wp2_with fail
              refine (next_any C n _ hCl hn20).mono ?_
              rintro e w3 ⟨rfl, rfl⟩
              rw [HNE.out]
              go_wp2_with fail
              go_roundw
              case rel => exact ⟨i + 1, code zs i, _, by go_num, by omega, rfl, by rw [code_length, hlnn.out]; exact Nat.le_refl _, by rw [HCODE.out]; exact HNX.out, HCS.out.take _ rfl, HD2.out, HB2.out⟩
              case measure => simp [intOf]; omega
          · have hxn2 : (x == (n : Int)) = false := by rw [beq_eq_false_iff_ne]; exact hxn
            have hlnn : Hid (¬ ln zs i = n) := Lib.hid (by rw [hln.out]; omega)
            go_wp2_with fail
            go_roundw
            case rel => exact ⟨i + 1, C, F, by go_num, by omega, rfl, hCl, by rw [nxtX_skip hlnn.out]; exact HCA.out, HCS.out.skip hlnn.out, HR.out, HB.out⟩
            case measure => simp [intOf]; omega
        · obtain rfl : i = N := by omega
          go_wp2_with fail
          go_roundw
          case rel => exact ⟨n + 1, C, F, by go_num, by omega, by omega, rfl, by omega, fun h => by rw [nxtX_next (by omega), HN.out]; exact HCA.out.next, CodesAt.next (by rw [HN.out]; exact HCS.out), HR.out, HB.out⟩
          case measure => simp [intOf]; omega
    · obtain rfl : n = 21 := by omega
      go_wp2_with fail
      go_ret
      rw [HG.out]
      exact ⟨rfl, HR.out.ext (fun j hj => HCS.out j (by rw [HN.out]; exact hj) (Or.inl (by have := (ln_bd (fun z hz => HW.out.1 z hz) (show j < zs.length by rw [HN.out]; exact hj)).2; omega))), HB.out⟩
end Go.Proofs.YtojphcoghbiepaaGreatDoor
namespace Go.Proofs.YtojphcoghbiepaaGreatDoor
open Go.RowKit CanM HufM BitM
set_option linter.unusedVariables false
theorem begins_iff {zs : List Int} (hwh : WholeP zs) {i : Nat} (hi : i < zs.length) (q : List Bool) : CanM.Begins zs (ln zs i, i) q ↔ (code zs i).length ≤ q.length ∧ q.take (code zs i).length = code zs i := by
  rw [code_length]
  unfold CanM.Begins
  refine and_congr_right fun hl => ?_
  have hc : cod zs (ln zs i, i) < 2 ^ ln zs i := cod_lt (x := (ln zs i, i)) (ent_of hi) hwh.2 (ln_bd (fun z hz => hwh.1 z hz) hi).2
  have hlen : (q.take (ln zs i)).length = ln zs i := by rw [List.length_take]; exact Nat.min_eq_left hl
  constructor
  · intro h
    have h2 := field_of (q.take (ln zs i))
    rw [hlen, h] at h2
    exact h2.symm
  · intro h
    show num (q.take (ln zs i)) = _
    rw [h]
    unfold code
    rw [field_num, Nat.mod_eq_of_lt hc]
set_option maxHeartbeats 1000000 in
theorem begins_any (q C : List Bool) (r : Bool) (w : World) (hq : q.length ≤ 1099511627776) (hr : r = true ↔ C.length ≤ q.length ∧ q.take C.length = C) :
    Calls Tryz.prog 109 #[.string (txt q), .string (txt C)] w fun e w' => e = .returned (.bool r) ∧ w' = w := by
  have hsq := txt_size q
  have hsc := txt_size C
  by_cases hl : C.length ≤ q.length
  · have hb := txt_test (q.take C.length) C r (by rw [hr]; exact ⟨fun h => h.2, fun h => ⟨hl, h⟩⟩)
    rw [← txt_take q C.length hl, ← hsc] at hb
    have hli : ((txt C).size : Int) ≤ (txt q).size := by omega
    have hqb : (txt q).size ≤ 1099511627776 := by omega
    clear hr hl hsq hsc
    generalize txt q = S at *
    generalize txt C = T at *
    go_enter Tryz.func109, Tryz.ntmps109
    go_wp2_with fail
    go_ret
    exact ⟨rfl, rfl⟩
  · obtain rfl : r = false := by rw [Bool.eq_false_iff, Ne, hr]; exact fun h => hl h.1
    have hli : ¬ ((txt C).size : Int) ≤ (txt q).size := by omega
    have hqb : (txt q).size ≤ 1099511627776 := by omega
    clear hr hl hsq hsc
    generalize txt q = S at *
    generalize txt C = T at *
    go_enter Tryz.func109, Tryz.ntmps109
    go_wp2_with fail
    go_ret
    exact ⟨rfl, rfl⟩
/-- The symbol with which bits begin. -/
def GetR (zs : List Int) (q : List Bool) (x : Int) : Prop := (∃ i, i < zs.length ∧ CanM.Begins zs (ln zs i, i) q ∧ x = (i : Int)) ∨ ((∀ i, i < zs.length → ¬ CanM.Begins zs (ln zs i, i) q) ∧ x = -1)
set_option maxRecDepth 100000 in
set_option maxHeartbeats 1000000 in
theorem rget_any (g N : Nat) (zs : List Int) (q : List Bool) (w : World) (hN : zs.length = N) (h258 : N ≤ 258) (hwh : WholeP zs) (hR : RowS w g N (fun j => txt (code zs j))) (hq : q.length ≤ 1099511627776) :
    Calls Tryz.prog 57 #[.slice (some ⟨g, 0, none⟩) N N, .string (txt q)] w fun e w' => ∃ x : Int, e = .returned (.int .i64 x) ∧ GetR zs q x ∧ w' = w := by
  have HN := Lib.hid hN
  have HW := Lib.hid hwh
  have HR := Lib.hid hR
  clear hN hwh hR
  have hqs : (txt q).size ≤ 1099511627776 := by rw [txt_size]; exact hq
  go_enter Tryz.func57, Tryz.ntmps57
  go_wp2_with fail
  go_loopw [9] (fun vi wr => ∃ i : Nat, vi = .int .i64 (i : Int) ∧ i ≤ N ∧ (∀ j, j < i → ¬ CanM.Begins zs (ln zs j, j) q) ∧ wr = w) (fun vi _ => N - (intOf vi).toNat)
  case atStart => exact ⟨0, rfl, by omega, fun j hj => by omega, rfl⟩
  case round =>
    obtain ⟨i, rfl, hi, hno, rfl⟩ := hrel
    have HNO := Lib.hid hno
    clear hno
    by_cases hlk : i < N
    · have hki : (i : Int) < (N : Int) := by omega
      have hlz : i < zs.length := by rw [HN.out]; exact hlk
      obtain ⟨d0, _, _⟩ := HR.out.cell (i := i) hlk
      have hcl : (code zs i).length ≤ 20 := by rw [code_length]; exact (ln_bd (fun z hz => HW.out.1 z hz) hlz).2
      obtain ⟨C, hC⟩ : ∃ C, code zs i = C := ⟨_, rfl⟩
      rw [hC] at d0
      have HC := Lib.hid hC
      have hcs : (txt C).size ≤ 20 := by rw [txt_size, ← hC]; exact hcl
      clear hC hcl
      by_cases hb : CanM.Begins zs (ln zs i, i) q
      · have HB := Lib.hid hb
        have HBG := Lib.hid (begins_any q C true wr hq ⟨fun _ => by rw [← HC.out]; exact (begins_iff HW.out hlz q).1 hb, fun _ => rfl⟩)
        clear hb
        go_wp2_with fail
        refine HBG.out.mono ?_
        rintro e w2 ⟨rfl, rfl⟩
        go_wp2_with fail
        go_ret
        exact ⟨(i : Int), rfl, Or.inl ⟨i, hlz, HB.out, rfl⟩, rfl⟩
      · have HNX : Hid (∀ j, j < i + 1 → ¬ CanM.Begins zs (ln zs j, j) q) := Lib.hid (fun j hj => by
          rcases Nat.lt_succ_iff_lt_or_eq.1 hj with h | h
          · exact HNO.out j h
          · rw [h]; exact hb)
        have HBG := Lib.hid (begins_any q C false wr hq ⟨fun h => (by cases h), fun h => absurd ((begins_iff HW.out hlz q).2 (by rw [HC.out]; exact h)) hb⟩)
        clear hb
        go_wp2_with fail
        refine HBG.out.mono ?_
        rintro e w2 ⟨rfl, rfl⟩
        go_wp2_with fail
        go_roundw
        case rel => exact ⟨i + 1, by go_num, by omega, HNX.out, by first | rfl | trivial⟩
        case measure => simp [intOf]; omega
    · obtain rfl : i = N := by omega
      go_wp2_with fail
      go_ret
      exact ⟨-1, rfl, Or.inr ⟨fun j hj => HNO.out j (by rw [← HN.out]; exact hj), rfl⟩, rfl⟩
end Go.Proofs.YtojphcoghbiepaaGreatDoor
namespace Go.Proofs.YtojphcoghbiepaaGreatDoor
open Go.RowKit TabM FreqM HufM
set_option linter.unusedVariables false
end Go.Proofs.YtojphcoghbiepaaGreatDoor

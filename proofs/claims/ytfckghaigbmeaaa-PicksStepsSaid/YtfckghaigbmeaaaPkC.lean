/-
  THE WALKS OF LAYER 13's CODE (package picks): Write.
-/
import Derived.Test.YtfckghaigbmeaaaPkB
namespace Go.Proofs.Ytfckghaigbmeaaa
open Go.RowKit PkM BitM
set_option linter.unusedVariables false
/-- As Wrote, and the block B beside it is not the writer's. -/
def WroteB (w : World) (g : Nat) (v : Value) (tk : Nat) (q : List Bool) (B : Nat) (w' : World) : Prop :=
  ∃ v1, IsWriter w' g v1 q tk ∧ Touch (foot g v) w w' ∧ (∀ k, v1.ownBlock = some k → v.ownBlock = some k ∨ w.heap.size ≤ k) ∧ v1.ownBlock ≠ some B ∧ g ≠ B ∧ B < w'.heap.size ∧ w.heap.size ≤ B
theorem WroteB.put {w w' : World} {g : Nat} {v : Value} {tk : Nat} {q : List Bool} {B : Nat} (h : WroteB w g v tk q B w') (X n : Nat) (hn : n ≤ 32) (hX : X < 2 ^ n) (hq : q.length ≤ 1099511627776) :
    Calls Try.prog 11 #[.pointer (some ⟨g, 0, none⟩), .int .u32 (X : Int), .int .i64 (n : Int)] w' fun e w2 => e = .returned (.int .i64 0) ∧ WroteB w g v tk (q ++ field X n) B w2 ∧ Touch (fun k => k ≠ B) w' w2 := by
  obtain ⟨v1, h1, h2, h3, h4, h5, h6, h7⟩ := h
  refine (put_any g v1 q tk X n w' h1 hn hX hq).mono ?_
  rintro e w2 ⟨rfl, v2, k1, k2, k3⟩
  refine ⟨rfl, ⟨v2, k1, h2.trans k2 (fun j hj => ?_), fun k hk => ?_, fun hb => ?_, h5, Nat.lt_of_lt_of_le h6 k2.size, h7⟩, k2.mono (fun k hk => ?_)⟩
  · rcases hj with hj | hj
    · exact Or.inl (Or.inl hj)
    · rcases h3 j hj with h | h
      · exact Or.inl (Or.inr h)
      · exact Or.inr h
  · rcases k3 k hk with h | h
    · exact h3 k h
    · exact Or.inr (Nat.le_trans h2.size h)
  · rcases k3 B hb with h | h
    · exact h4 h
    · omega
  · rcases hk with rfl | hk
    · exact h5
    · rintro rfl
      exact h4 hk
theorem WroteB.box {w w' w2 : World} {g : Nat} {v : Value} {tk : Nat} {q : List Bool} {B : Nat} (h : WroteB w g v tk q B w') (ht : Touch (· = B) w' w2) : WroteB w g v tk q B w2 := by
  obtain ⟨v1, h1, h2, h3, h4, h5, h6, h7⟩ := h
  refine ⟨v1, h1.other ht (fun k hk hh => ?_), h2.trans ht (fun i hi => Or.inr (by have : i = B := hi; omega)), h3, h4, h5, Nat.lt_of_lt_of_le h6 ht.size, h7⟩
  have hh : k = B := hh
  subst hh
  rcases hk with h | h
  · exact h5 h.symm
  · exact h4 h
theorem WroteB.out {w w' : World} {g : Nat} {v : Value} {tk : Nat} {q : List Bool} {B : Nat} (h : WroteB w g v tk q B w') : Wrote w g v tk q w' := by
  obtain ⟨v1, h1, h2, h3, _⟩ := h
  exact ⟨v1, h1, h2, h3⟩
theorem Wrote.below {w w' w2 : World} {g : Nat} {v : Value} {tk : Nat} {q : List Bool} (h : Wrote w g v tk q w') (hb : Below w'.heap.size w' w2) : Wrote w g v tk q w2 := by
  obtain ⟨v1, h1, h2, h3⟩ := h
  exact ⟨v1, h1.other (Touch.ofBelow (S := fun _ => False) hb) (fun _ _ h => h), h2.trans (Touch.ofBelow (S := fun _ => False) hb) (fun _ hi => absurd hi id), h3⟩
/-- A box is made beside it. -/
theorem Wrote.beside {w w' w2 : World} {g : Nat} {v : Value} {tk : Nat} {q : List Bool} (h : Wrote w g v tk q w') (hb : Below w'.heap.size w' w2) (B : Nat) (hB : w'.heap.size ≤ B) (hB2 : B < w2.heap.size) (hg : ∀ k, foot g v k → k < w.heap.size) : WroteB w g v tk q B w2 := by
  obtain ⟨v1, h1, h2, h3⟩ := h
  have hs := h2.size
  have hlt := fun k hk => (h1.lt k hk).1
  have hg2 := hg g (Or.inl rfl)
  refine ⟨v1, h1.other (Touch.ofBelow (S := fun _ => False) hb) (fun _ _ h => h), h2.trans (Touch.ofBelow (S := fun _ => False) hb) (fun _ hi => absurd hi id), h3, fun hh => ?_, by omega, hB2, by omega⟩
  have := hlt B (Or.inr hh)
  omega
theorem field_one : field 1 1 = [true] := rfl
theorem field_zero1 : field 0 1 = [false] := rfl
set_option maxRecDepth 100000 in
set_option maxHeartbeats 4000000 in
theorem pwrite_any (g : Nat) (v l : Value) (ps : List Nat) (t : Nat) (q : List Bool) (tk : Nat) (w : World) (hw : IsWriter w g v q tk) (hst : ∀ w', Touch (foot g v) w w' → IsInts w' l (toI ps)) (hm : May ps t) (hq : q.length ≤ 1099511000000) :
    Calls Try.prog 12 #[.pointer (some ⟨g, 0, none⟩), l, .int .i64 (t : Int)] w fun e w' => e = .returned (.int .i64 0) ∧ Wrote w g v tk (q ++ allB ps t) w' := by
  have hv := hst w (Touch.refl _ _)
  have HV := Lib.hid hv
  have HST := Lib.hid hst
  have HM := Lib.hid hm
  have HW0 := Lib.hid hw
  have HS := Lib.hid (Wrote.start hw)
  have hlz := toI_length ps
  have HMAY := Lib.hid (pmay_any l (toI ps) (t : Int) true w hv ⟨fun _ => hm.int, fun _ => rfl⟩ (by have := hm.2.2.2.1; omega))
  have hn1 := hm.2.2.1
  have hn2 := hm.2.2.2.1
  have ht2 := hm.1
  have ht6 := hm.2.1
  obtain ⟨ad, cap, rfl, _⟩ := hv
  obtain ⟨N, hN⟩ : ∃ N, ps.length = N := ⟨_, rfl⟩
  have HALL : Hid (allB ps t = field t 3 ++ field N 15 ++ encK ps N) := Lib.hid (by unfold allB; rw [hN, encK_all ps N (by omega)])
  rw [hlz] at HMAY HST ⊢
  rw [hN] at hn1 hn2 hlz HMAY HST ⊢
  have HZ := Lib.hid hlz
  have HN := Lib.hid hN
  have HP1 := Lib.hid (fun W (hh : Wrote w g v tk q W) => hh.put t 3 (by omega) (show t < 8 by omega) (by omega))
  have HP2 := Lib.hid (fun W (hh : Wrote w g v tk (q ++ field t 3) W) => hh.put N 15 (by omega) (show N < 32768 by omega) (by rw [List.length_append, field_length]; omega))
  have hc1 : IntKind.u32.wrap (t : Int) = (t : Int) := by simp [IntKind.wrap, IntKind.bits, IntKind.signed]; omega
  have hc2 : IntKind.u32.wrap (N : Int) = (N : Int) := by simp [IntKind.wrap, IntKind.bits, IntKind.signed]; omega
  clear hst hm hw hlz hN
  go_enter Try.func12, Try.ntmps12
  go_wp2_with fail
  refine HMAY.out.mono ?_
  rintro e w' ⟨rfl, rfl⟩
  go_wp2_with fail
  refine (HP1.out _ HS.out).mono ?_
  rintro e w1 ⟨rfl, hW1⟩
  have HW1 := Lib.hid hW1
  clear hW1 HP1
  go_wp2_with fail
  refine (HP2.out _ HW1.out).mono ?_
  rintro e w2 ⟨rfl, hW2⟩
  have HW2 := Lib.hid hW2
  clear hW2 HP2 HW1
  go_wp2_with fail
  refine (inOrder_any w2).mono ?_
  rintro e w3 ⟨rfl, hb3⟩
  have hg1 := heap_alloc_new w3 (.cells #[.int .i64 0, .int .i64 0, .int .i64 0, .int .i64 0, .int .i64 0, .int .i64 0] 63)
  have HBX : Hid (LstAt 6 63 (boxed w3) w3.heap.size 0 (ordF O6) O6) := Lib.hid (boxed_lst w3)
  have HWB : Hid (WroteB w' g v tk (q ++ field t 3 ++ field N 15) w3.heap.size (boxed w3)) := Lib.hid (HW2.out.beside (hb3.trans ((boxed_below w3).mono hb3.size)) _ hb3.size (boxed_lst w3).1.lt (fun k hk => (HW0.out.lt k hk).1))
  clear hb3
  go_wp2_with (refine wpList_store_row rfl 63 _ _ rfl w3.heap.size (ordA O6) rfl rfl 63 _ hg1 info_list six_size (ordA_one O6) ?_)
  change Code.wp _ _ _ _ (boxed w3)
  obtain ⟨B, hB⟩ : ∃ B, w3.heap.size = B := ⟨_, rfl⟩
  rw [hB] at HBX HWB
  simp only [hB]
  clear hg1 hB
  generalize boxed w3 = w4 at *
  obtain ⟨Q0, hQ0⟩ : ∃ Q0, q ++ field t 3 ++ field N 15 = Q0 := ⟨_, rfl⟩
  have HQ0 := Lib.hid hQ0
  have hQ0l : Q0.length ≤ 1099511100000 := by rw [← hQ0, List.length_append, List.length_append, field_length, field_length]; omega
  rw [hQ0] at HWB
  clear hQ0
  go_loopw [28] (fun vk wr => ∃ k : Nat, vk = .int .i64 (k : Int) ∧ k ≤ N ∧ WroteB w' g v tk (Q0 ++ encK ps k) B wr ∧ ∃ F, LstAt 6 63 wr B 0 F (ordK ps k)) (fun vk _ => N - (intOf vk).toNat)
  case atStart => exact ⟨0, rfl, by omega, by rw [show encK ps 0 = [] from rfl, List.append_nil]; exact HWB.out, _, HBX.out⟩
  case round =>
    clear HBX HWB
    obtain ⟨k, rfl, hk, hW, F, hL⟩ := hrel
    have HW := Lib.hid hW
    have HL := Lib.hid hL
    clear hW hL
    have hkl := encK_len ps HM.out.2.1 HM.out.2.2.2.2 k (by rw [HN.out]; exact hk)
    by_cases hlk : k < N
    · have hki : (k : Int) < (N : Int) := by omega
      have hkp : k < ps.length := by rw [HN.out]; exact hlk
      have HVk := Lib.hid (HST.out wr HW.out.out.touch)
      obtain ⟨b1, o1, k1, he1, c1⟩ := HVk.out.cell (k := k) (by rw [HZ.out]; exact hlk)
      rw [HZ.out] at he1
      simp only [Value.slice.injEq] at he1
      obtain ⟨rfl, _, rfl⟩ := he1
      rw [toI_getD] at c1
      have hpm : ps.getD k 0 < t := by
        rw [List.getD_eq_getElem?_getD, List.getElem?_eq_getElem hkp]
        exact HM.out.2.2.2.2 _ (List.getElem_mem _)
      have hO := ordK_ord ps HM.out.2.1 HM.out.2.2.2.2 k (by omega)
      have hpo : ps.getD k 0 ∈ ordK ps k := List.mem_of_mem_take ((hO.1.2 _).1 hpm)
      have hIl := (hO.1.place HM.out.2.1 hpm).1
      have HEN := Lib.hid (encK_next ps hkp)
      have HON := Lib.hid (ordK_next ps hkp)
      have HPL := Lib.hid (pplace_any 6 63 B 0 (ps.getD k 0) F (ordK ps k) wr HL.out hpo)
      obtain ⟨I, hI⟩ : ∃ I, (ordK ps k).idxOf (ps.getD k 0) = I := ⟨_, rfl⟩
      rw [hI] at HEN HON HPL hIl
      obtain ⟨x, hx⟩ : ∃ x, ps.getD k 0 = x := ⟨_, rfl⟩
      rw [hx] at c1 HPL
      obtain ⟨Q, hQ⟩ : ∃ Q, Q0 ++ encK ps k = Q := ⟨_, rfl⟩
      have HQ := Lib.hid hQ
      have hQl : Q.length ≤ 1099511400000 := by rw [← hQ, List.length_append]; omega
      rw [hQ] at HW
      clear hpm hO hpo hI hx HVk hkp hQ hkl
      go_wp2_with fail
      refine HPL.out.mono ?_
      rintro e w5 ⟨rfl, ⟨F2, hL2, _⟩, hT2⟩
      have HL2 := Lib.hid hL2
      have HW5 := Lib.hid (HW.out.box hT2)
      clear hL2 hT2 HW HL HPL
      go_wp2_with fail
      obtain ⟨wa, rfl⟩ : ∃ wa : World, wa = wr := ⟨_, rfl⟩
      go_loopw [34] (fun vj wr2 => ∃ j : Nat, j ≤ I ∧ vj = .int .i64 (j : Int) ∧ WroteB w' g v tk (Q ++ List.replicate j true) B wr2 ∧ LstAt 6 63 wr2 B 0 F2 (tch (ordK ps k) I)) (fun vj _ => I - (intOf vj).toNat)
      case atStart => exact ⟨0, by omega, rfl, by rw [List.replicate_zero, List.append_nil]; exact HW5.out, HL2.out⟩
      case round =>
        clear HW5 HL2
        obtain ⟨j, hj, rfl, hWj, hLj⟩ := hrel
        have HWj := Lib.hid hWj
        have HLj := Lib.hid hLj
        clear hWj hLj
        have hl2 : (Q ++ List.replicate j true).length ≤ 1099511627776 := by rw [List.length_append, List.length_replicate]; omega
        by_cases hlt : j < I
        · have hlti : (j : Int) < (I : Int) := by omega
          have HPP := Lib.hid (HWj.out.put 1 1 (by omega) (by decide) hl2)
          clear hl2
          go_wp2_with fail
          refine HPP.out.mono ?_
          rintro e w6 ⟨rfl, hW6, hT6⟩
          have HW6 : Hid (WroteB w' g v tk (Q ++ List.replicate (j + 1) true) B w6) := Lib.hid (by rw [List.replicate_succ', ← List.append_assoc]; exact hW6)
          have HL6 : Hid (LstAt 6 63 w6 B 0 F2 (tch (ordK ps k) I)) := Lib.hid ⟨HLj.out.1.other hT6 (fun h => h rfl), HLj.out.2⟩
          clear hW6 hT6
          go_wp2_with fail
          go_roundw
          case rel => exact ⟨j + 1, by omega, by go_num, HW6.out, HL6.out⟩
          case measure => simp [intOf]; omega
        · have hlti : ¬ (j : Int) < (I : Int) := by omega
          obtain rfl : j = I := by omega
          have HPP := Lib.hid (HWj.out.put 0 1 (by omega) (by decide) hl2)
          clear hl2
          go_wp2_with fail
          refine HPP.out.mono ?_
          rintro e w6 ⟨rfl, hW6, hT6⟩
          have HW6 : Hid (WroteB w' g v tk (Q0 ++ encK ps (k + 1)) B w6) := Lib.hid (by rw [HEN.out, ← List.append_assoc, HQ.out, ← List.append_assoc]; exact hW6)
          have HL6 : Hid (LstAt 6 63 w6 B 0 F2 (ordK ps (k + 1))) := Lib.hid (by rw [HON.out]; exact ⟨HLj.out.1.other hT6 (fun h => h rfl), HLj.out.2⟩)
          clear hW6 hT6
          go_wp2_with fail
          go_roundw
          case rel => exact ⟨k + 1, by go_num, by omega, HW6.out, F2, HL6.out⟩
          case measure => simp [intOf]; omega
    · have hki : ¬ (k : Int) < (N : Int) := by omega
      obtain rfl : k = N := by omega
      go_wp2_with fail
      go_ret
      exact ⟨rfl, by rw [HALL.out, ← List.append_assoc, ← List.append_assoc, HQ0.out]; exact HW.out.out⟩
end Go.Proofs.Ytfckghaigbmeaaa

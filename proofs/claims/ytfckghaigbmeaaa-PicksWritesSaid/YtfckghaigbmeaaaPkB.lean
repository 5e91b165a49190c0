/-
  THE WALKS OF LAYER 13's CODE (package picks): place, Bits, Write.
-/
import Derived.Test.YtfckghaigbmeaaaPk
namespace Go.Proofs.Ytfckghaigbmeaaa
open Go.RowKit PkM BitM
set_option linter.unusedVariables false
set_option maxRecDepth 100000 in
theorem sl_all (W : World) (b off : Nat) : (Instr.sliceAt 63 (.pointer (some ⟨b, off, none⟩)) none none none).run Try.prog W = .ok (.slice (some ⟨b, off, none⟩) 6 6) W := by rfl
theorem idx_six {o : List Nat} {p : Nat} (hp : p ∈ o) : IdxP (toI o) (p : Int) ((o.idxOf p : Nat) : Int) := by
  have hi : o.idxOf p < o.length := List.idxOf_lt_length_of_mem hp
  refine Or.inl ⟨_, rfl, by rw [toI_length]; exact hi, ?_, fun j hj h => ?_⟩
  · rw [toI_getD, List.getD_eq_getElem?_getD, List.getElem?_eq_getElem hi, List.getElem_idxOf]
    rfl
  · rw [toI_getD] at h
    have hj2 : j < o.length := by omega
    refine idx_first hj ?_
    rw [List.getD_eq_getElem?_getD, List.getElem?_eq_getElem hj2] at h
    rw [List.getElem?_eq_getElem hj2]
    congr 1
    have h2 : ((o[j] : Nat) : Int) = (p : Int) := h
    omega
set_option maxRecDepth 100000 in
set_option maxHeartbeats 1000000 in
theorem pplace_any (n : Nat) (T : TypeId) (b off p : Nat) (F : Nat → Value) (o : List Nat) (w : World) (h : LstAt n T w b off F o) (hp : p ∈ o) :
    Calls Try.prog 37 #[.pointer (some ⟨b, off, none⟩), .int .i64 (p : Int)] w fun e w' => e = .returned (.int .i64 ((o.idxOf p : Nat) : Int)) ∧ (∃ F', LstAt n T w' b off F' (tch o (o.idxOf p)) ∧ ∀ k, (k < off ∨ off + 6 ≤ k) → F' k = F k) ∧ Touch (· = b) w w' := by
  have H := Lib.hid h
  have hi : o.idxOf p < o.length := List.idxOf_lt_length_of_mem hp
  rw [h.2.1] at hi
  have hI := h.ints 6 6 (by omega)
  rw [List.take_of_length_le (by rw [h.2.1]; exact Nat.le_refl _)] at hI
  have HIX := Lib.hid (fun (R : Int) (hR : R = ((o.idxOf p : Nat) : Int)) => sindex_any _ (toI o) (p : Int) R w hI (by rw [hR]; exact idx_six hp) (by rw [toI_length, h.2.1]; omega))
  have hs := fun W => sl_all W b off
  obtain ⟨I, hII⟩ : ∃ I, o.idxOf p = I := ⟨_, rfl⟩
  rw [hII] at hi HIX ⊢
  clear h hp hI hII
  go_enter Try.func37, Try.ntmps37
  go_wp2_with fail
  refine (HIX.out _ rfl).mono ?_
  rintro e w' ⟨rfl, rfl⟩
  go_wp2_with fail
  refine (ptake_any n T b off I F o _ H.out hi).mono ?_
  rintro e w1 ⟨rfl, hL, hT⟩
  have HL := Lib.hid hL
  have HT := Lib.hid hT
  clear hL hT
  go_wp2_with fail
  go_ret
  exact ⟨rfl, HL.out, HT.out⟩
/-- A box that holds a list in order. -/
def boxed (w : World) : World := (w.alloc (.cells #[.int .i64 0, .int .i64 0, .int .i64 0, .int .i64 0, .int .i64 0, .int .i64 0] 63)).setRow w.heap.size (ordA O6)
theorem boxed_lst (w : World) : LstAt 6 63 (boxed w) w.heap.size 0 (ordF O6) O6 := by
  refine ⟨?_, rfl, Nat.le_refl _, fun j hj => by rw [Nat.zero_add]⟩
  exact setRow_heap _ _ _ _ _ _ (heap_alloc_new w _)
theorem boxed_below (w : World) : Below w.heap.size w (boxed w) := below_setRow ((Below.refl _ _).alloc (Nat.le_refl _) _) (Nat.le_refl _) _
set_option maxHeartbeats 1000000 in
theorem pbits_no (l : Value) (zs : List Int) (t : Int) (w : World) (hv : IsInts w l zs) (hm : ¬ MayI zs t) (hz : zs.length ≤ 9223372036854775807) :
    Calls Try.prog 13 #[l, .int .i64 t] w fun e w' => e = .returned (.tuple #[.int .i64 0, .int .i64 1]) ∧ w' = w := by
  have HMAY := Lib.hid (pmay_any l zs t false w hv ⟨fun e => (by cases e), fun e => absurd e hm⟩ hz)
  clear hm
  go_enter Try.func13, Try.ntmps13
  go_wp2_with fail
  refine HMAY.out.mono ?_
  rintro e w' ⟨rfl, rfl⟩
  go_wp2_with fail
  go_ret2
  exact ⟨rfl, rfl⟩
set_option maxHeartbeats 1000000 in
theorem pwrite_no (g : Nat) (l : Value) (zs : List Int) (t : Int) (w : World) (hv : IsInts w l zs) (hm : ¬ MayI zs t) (hz : zs.length ≤ 9223372036854775807) :
    Calls Try.prog 12 #[.pointer (some ⟨g, 0, none⟩), l, .int .i64 t] w fun e w' => e = .returned (.int .i64 1) ∧ w' = w := by
  have HMAY := Lib.hid (pmay_any l zs t false w hv ⟨fun e => (by cases e), fun e => absurd e hm⟩ hz)
  clear hm
  go_enter Try.func12, Try.ntmps12
  go_wp2_with fail
  refine HMAY.out.mono ?_
  rintro e w' ⟨rfl, rfl⟩
  go_wp2_with fail
  go_ret
  exact ⟨rfl, rfl⟩
set_option maxHeartbeats 1000000 in
theorem pwrite_nil (l t : Value) (w : World) :
    Calls Try.prog 12 #[.pointer none, l, t] w fun e w' => e = .returned (.int .i64 7) ∧ w' = w := by
  go_enter Try.func12, Try.ntmps12
  go_wp2_with fail
  go_ret
  exact ⟨rfl, rfl⟩
theorem enc_all {ps : List Nat} {t : Nat} : (allB ps t).length = 18 + (encK ps ps.length).length := by rw [allB_length, encK_all ps _ (Nat.le_refl _)]
theorem info_list : (Try.prog.info? 63).map (·.size) = some (ordA O6).size := by rw [ordA_size]; kernel_rfl
theorem six_size : (#[.int .i64 0, .int .i64 0, .int .i64 0, .int .i64 0, .int .i64 0, .int .i64 0] : Array Value).size = (ordA O6).size := by rw [ordA_size]; rfl
set_option maxRecDepth 100000 in
set_option maxHeartbeats 4000000 in
theorem pbits_any (l : Value) (ps : List Nat) (t : Nat) (w : World) (hv : IsInts w l (toI ps)) (hm : May ps t) :
    Calls Try.prog 13 #[l, .int .i64 (t : Int)] w fun e w' => e = .returned (.tuple #[.int .i64 ((allB ps t).length : Int), .int .i64 0]) ∧ Below w.heap.size w w' := by
  have HV := Lib.hid hv
  have HM := Lib.hid hm
  have hlz := toI_length ps
  have HMAY := Lib.hid (pmay_any l (toI ps) (t : Int) true w hv ⟨fun _ => hm.int, fun _ => rfl⟩ (by have := hm.2.2.2.1; omega))
  have hn1 := hm.2.2.1
  have hn2 := hm.2.2.2.1
  obtain ⟨ad, cap, rfl, _⟩ := hv
  obtain ⟨N, hN⟩ : ∃ N, ps.length = N := ⟨_, rfl⟩
  rw [hlz] at HV HMAY ⊢
  rw [hN] at hn1 hn2 hlz HV HMAY ⊢
  have HZ := Lib.hid hlz
  have HN := Lib.hid hN
  have HALL : Hid ((allB ps t).length = 18 + (encK ps N).length) := Lib.hid (by rw [enc_all, hN])
  clear hm hlz hN
  go_enter Try.func13, Try.ntmps13
  go_wp2_with fail
  refine HMAY.out.mono ?_
  rintro e w' ⟨rfl, rfl⟩
  go_wp2_with fail
  refine (inOrder_any w').mono ?_
  rintro e w1 ⟨rfl, hb1⟩
  have HB1 := Lib.hid hb1
  have hg1 := heap_alloc_new w1 (.cells #[.int .i64 0, .int .i64 0, .int .i64 0, .int .i64 0, .int .i64 0, .int .i64 0] 63)
  have HBX : Hid (LstAt 6 63 (boxed w1) w1.heap.size 0 (ordF O6) O6) := Lib.hid (boxed_lst w1)
  have HBB : Hid (Below w'.heap.size w' (boxed w1)) := Lib.hid (hb1.trans ((boxed_below w1).mono hb1.size))
  have HBS := Lib.hid hb1.size
  clear hb1
  go_wp2_with (refine wpList_store_row rfl 63 _ _ rfl w1.heap.size (ordA O6) rfl rfl 63 _ hg1 info_list six_size (ordA_one O6) ?_)
  change Code.wp _ _ _ _ (boxed w1)
  obtain ⟨B, hB⟩ : ∃ B, w1.heap.size = B := ⟨_, rfl⟩
  rw [hB] at HBX HBS
  simp only [hB]
  clear hg1 hB
  generalize boxed w1 = w2 at *
  go_loopw [6, 17] (fun vn vk wr => ∃ k : Nat, vk = .int .i64 (k : Int) ∧ k ≤ N ∧ vn = .int .i64 ((18 + (encK ps k).length : Nat) : Int) ∧ Below w'.heap.size w' wr ∧ ∃ F, LstAt 6 63 wr B 0 F (ordK ps k)) (fun _ vk _ => N - (intOf vk).toNat)
  case atStart => exact ⟨0, rfl, by omega, rfl, HBB.out, _, HBX.out⟩
  case round =>
    clear HBX HBB HB1
    obtain ⟨k, rfl, hk, rfl, hb, F, hL⟩ := hrel
    have HB := Lib.hid hb
    have HL := Lib.hid hL
    clear hb hL
    have hkl := encK_len ps HM.out.2.1 HM.out.2.2.2.2 k (by rw [HN.out]; exact hk)
    by_cases hlk : k < N
    · have hki : (k : Int) < (N : Int) := by omega
      have hkp : k < ps.length := by rw [HN.out]; exact hlk
      have HVk := Lib.hid (HV.out.below (zs := toI ps) HB.out)
      obtain ⟨b1, o1, k1, he1, c1⟩ := HVk.out.cell (k := k) (by rw [HZ.out]; exact hlk)
      rw [HZ.out] at he1
      simp only [Value.slice.injEq] at he1
      obtain ⟨rfl, _, rfl⟩ := he1
      rw [toI_getD] at c1
      have hpm : ps.getD k 0 < t := by
        rw [List.getD_eq_getElem?_getD, List.getElem?_eq_getElem hkp]
        exact HM.out.2.2.2.2 _ (List.getElem_mem _)
      have hO := ordK_ord ps HM.out.2.1 HM.out.2.2.2.2 k (by omega)
      have hpo : ps.getD k 0 ∈ ordK ps k := List.mem_of_mem_take ((hO.1.2 _).1 hpm)
      have hIl := (hO.1.place HM.out.2.1 hpm).1
      have ht6 := HM.out.2.1
      have HEN := Lib.hid (encK_next ps hkp)
      have HON := Lib.hid (ordK_next ps hkp)
      have HPL := Lib.hid (pplace_any 6 63 B 0 (ps.getD k 0) F (ordK ps k) wr HL.out hpo)
      obtain ⟨I, hI⟩ : ∃ I, (ordK ps k).idxOf (ps.getD k 0) = I := ⟨_, rfl⟩
      rw [hI] at HEN HON HPL hIl
      obtain ⟨E, hE⟩ : ∃ E, (encK ps k).length = E := ⟨_, rfl⟩
      have HE2 : Hid ((encK ps (k + 1)).length = E + (I + 1)) := Lib.hid (by rw [HEN.out, List.length_append, List.length_append, List.length_replicate, hE]; rfl)
      rw [hE] at hkl ⊢
      obtain ⟨x, hx⟩ : ∃ x, ps.getD k 0 = x := ⟨_, rfl⟩
      rw [hx] at c1 HPL
      clear hpm hO hpo hI hE hx HEN HVk hkp
      go_wp2_with fail
      refine HPL.out.mono ?_
      rintro e w3 ⟨rfl, ⟨F2, hL2, _⟩, hT2⟩
      have HL2 := Lib.hid hL2
      have HB2 : Hid (Below w'.heap.size w' w3) := Lib.hid (HB.out.trans (hT2.below HB.out.size (fun i hi => by have : i = B := hi; have := HBS.out; omega)))
      clear hL2 hT2
      go_wp2_with fail
      go_roundw
      case rel => exact ⟨k + 1, by go_num, by omega, iv (by have := HE2.out; omega), HB2.out, F2, by rw [HON.out]; exact HL2.out⟩
      case measure => simp [intOf]; omega
    · have hki : ¬ (k : Int) < (N : Int) := by omega
      obtain rfl : k = N := by omega
      go_wp2_with fail
      go_ret2
      refine ⟨?_, HB.out⟩
      show Ending.returned (.tuple #[.int .i64 (18 + ((encK ps k).length : Int)), .int .i64 0]) = _
      rw [HALL.out]
      simp
end Go.Proofs.Ytfckghaigbmeaaa

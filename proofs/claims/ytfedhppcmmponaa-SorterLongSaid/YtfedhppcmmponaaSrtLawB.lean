/-
  LAYER 16's STATEMENTS: SorterLong.
-/
import Derived.Test.YtfedhppcmmponaaSrtLawA
namespace Go.Proofs.Ytfedhppcmmponaa
open Go.RowKit BwtM SrtM PkM
set_option linter.unusedVariables false
set_option linter.unusedSimpArgs false
/-- A row of bytes: a whole block. -/
def RowB (w : World) (g : Nat) (l : List UInt8) : Prop := w.heap[g]? = some (.cells (l.map u8v).toArray 5 (0, 0))
theorem RowB.cell {w : World} {g : Nat} {l : List UInt8} (h : RowB w g l) {i : Nat} (hi : i < l.length) : w.cell? ⟨g, i, none⟩ = some (u8v (l.getD i 0)) ∧ w.frozen? ⟨g, i, none⟩ = false ∧
    ∀ x : UInt8, RowB (w.setCell ⟨g, i, none⟩ (u8v x)) g (l.set i x) := by
  refine ⟨?_, frozen_of_row _ _ _ _ _ h, fun x => ?_⟩
  · rw [cell_of_row _ _ _ _ _ _ h]
    simp [List.getD_eq_getElem?_getD, hi]
  · unfold RowB
    rw [heap_setCell_same w g i _ _ _ h]
    congr 2
    apply Array.toList_inj.1
    simp [List.map_set]
theorem RowB.conv {w : World} {g k cap : Nat} {l : List UInt8} (h : RowB w g l) (hk : k = l.length) : (convert 40 9 (.slice (some ⟨g, 0, none⟩) k cap)).run Try.prog w = .ok (.string ⟨l.toArray⟩) w :=
  bytes_conv w g cap l k hk (fun j x hj => by
    have hl : j < l.length := (List.getElem?_eq_some_iff.1 hj).1
    rw [(h.cell hl).1, List.getD_eq_getElem?_getD, hj]
    rfl)
theorem RowB.below {w w' : World} {g : Nat} {l : List UInt8} (h : RowB w g l) (hb : Below w.heap.size w w') : RowB w' g l := (hb.block g (Array.getElem?_eq_some_iff.1 h).1).trans h
set_option maxHeartbeats 1000000 in
theorem make_bytes (n : Nat) (hn : n ≤ 1000000) (W : World) : (Instr.makeSlice 40 (.int .i64 (n : Int)) (.int .i64 (n : Int))).run Try.prog W = .ok (.slice (some ⟨W.heap.size, 0, none⟩) n n) (W.alloc (.cells (madeCells #[Value.int .u8 0] n) 5)) := by
  obtain ⟨i0, hi, hz0, hz1, hz2⟩ := info_parts (show (Try.prog.info? 5).map (fun i => (i.zero, i.size, i.bytes)) = some (some (.int .u8 0), 1, 1) by kernel_rfl)
  have := run_make (P := Try.prog) W 40 5 i0 (.int .u8 0) Try.underlying40 hi hz0 .i64 .i64 (n : Int) (n : Int) (by omega) (by omega) (by rw [hz2]; omega) (by omega)
  rw [hz1] at this
  simpa [Value.cells] using this
theorem RowB.made (w : World) (n : Nat) : RowB (w.alloc (.cells (madeCells #[Value.int .u8 0] n) 5)) w.heap.size (List.replicate n 0) := by
  unfold RowB
  rw [heap_alloc_new]
  congr 2
  apply Array.toList_inj.1
  rw [toList_madeCells_one]
  simp [u8v]
def fillB (c : UInt8) (k j : Nat) : List UInt8 := List.replicate j c ++ List.replicate (k - j) 0
theorem fillB_next (c : UInt8) {k j : Nat} (h : j < k) : (fillB c k j).set j c = fillB c k (j + 1) := by
  unfold fillB
  rw [List.set_append_right _ _ (by rw [List.length_replicate]; exact Nat.le_refl _), List.length_replicate, Nat.sub_self, show k - j = (k - (j + 1)) + 1 by omega, List.replicate_succ, List.set_cons_zero, List.replicate_succ', List.append_assoc]
  rfl
theorem fillB_len (c : UInt8) {k j : Nat} (h : j ≤ k) : (fillB c k j).length = k := by unfold fillB; simp; omega
theorem fillB_zero (c : UInt8) (k : Nat) : fillB c k 0 = List.replicate k 0 := by simp [fillB]
theorem StepsOf.two {T : List UInt8} {R : Nat} (h : StepsOf T R) : (R == 0) = decide (T.length < 2) := by
  rcases h with ⟨h1, rfl⟩ | ⟨h1, m, _, rfl⟩
  · simp [h1]
  · have : 0 < each T.length * (m + 1) := Nat.mul_pos (by unfold each; have := passS_pos T.length; omega) (by omega)
    rw [Bool.eq_iff_iff, beq_iff_eq, decide_eq_true_eq]
    omega
set_option maxRecDepth 100000 in
set_option maxHeartbeats 8000000 in
theorem sorterLong.walk (n c : Int) (w : World) (hn : (Lit.int .u32 n).wf = true) (hc : (Lit.int .u8 c).wf = true) :
    Calls Try.prog 6 #[.int .u32 n, .int .u8 c] w fun e w' => e = .returned (.bool true) ∧ Below w.heap.size w w' := by
  have hn2 : 0 ≤ n ∧ n ≤ 4294967295 := by simpa [Lit.wf, IntKind.min, IntKind.max, IntKind.signed, IntKind.bits] using hn
  have hc2 : 0 ≤ c ∧ c ≤ 255 := by simpa [Lit.wf, IntKind.min, IntKind.max, IntKind.signed, IntKind.bits] using hc
  have HBA := Lib.hid (fun W => banana16_any W)
  obtain ⟨c8, hc8⟩ : ∃ c8 : UInt8, c = (c8.toNat : Int) := ⟨UInt8.ofNat c.toNat, by
    rw [UInt8.toNat_ofNat']
    omega⟩
  subst hc8
  obtain ⟨k, hk⟩ : ∃ k : Nat, n % 900100 = (k : Int) := ⟨(n % 900100).toNat, by omega⟩
  have hkt : n.tmod 900100 = (k : Int) := by rw [Int.tmod_eq_emod_of_nonneg hn2.1]; exact hk
  have hku : IntKind.u32.wrap (k : Int) = (k : Int) := by simp [IntKind.wrap, IntKind.bits, IntKind.signed]; omega
  have hki : IntKind.i64.wrap (k : Int) = (k : Int) := IntWalk.i64_in _ (by omega)
  have hkb : k < 900100 := by omega
  have hmk := make_bytes k (by omega)
  clear hn hc hc2
  by_cases hmid : 3000 < k ∧ k ≤ 900000
  · have h1 : (3000 : Int) < (k : Int) := by omega
    have h2 : (k : Int) ≤ 900000 := by omega
    clear hmid hmk
    go_enter Try.func6, Try.ntmps6
    go_wp2_with fail
    refine (HBA.out _).mono ?_
    rintro e w1 ⟨rfl, hb1⟩
    have HB1 := Lib.hid hb1
    clear hb1
    go_wp2_with fail
    go_ret
    exact ⟨rfl, HB1.out⟩
  · go_enter Try.func6, Try.ntmps6
    have HB0 : Hid (Below w.heap.size w (w.alloc (.cells (madeCells #[Value.int .u8 0] k) 5))) := Lib.hid ((Below.refl _ _).alloc (Nat.le_refl _) _)
    have HR0 : Hid (RowB (w.alloc (.cells (madeCells #[Value.int .u8 0] k) 5)) w.heap.size (fillB c8 k 0)) := Lib.hid (by rw [fillB_zero]; exact RowB.made w k)
    by_cases h3 : 3000 < k
    · have h1 : (3000 : Int) < (k : Int) := by omega
      have h2 : ¬ (k : Int) ≤ 900000 := by omega
      have h2g : (900000 : Int) < (k : Int) := by omega
      clear hmid
      go_wp2_with fail
      go_loopw [26, 7] (fun vj _ wr => ∃ j : Nat, vj = .int .i64 (j : Int) ∧ j ≤ k ∧ RowB wr w.heap.size (fillB c8 k j) ∧ Below w.heap.size w wr) (fun vj _ _ => k - (intOf vj).toNat)
      case atStart => exact ⟨0, rfl, Nat.zero_le _, HR0.out, HB0.out⟩
      case round =>
        clear HR0 HB0
        obtain ⟨j, rfl, hj, hR, hB⟩ := hrel
        have HR := Lib.hid hR
        have HB := Lib.hid hB
        have HLT : Hid (w.heap.size < wr.heap.size) := Lib.hid (Array.getElem?_eq_some_iff.1 hR).1
        clear hR hB
        by_cases hjk : j < k
        · have hji : (j : Int) < (k : Int) := by omega
          have cJ := (HR.out.cell (i := j) (by rw [fillB_len c8 hj]; exact hjk)).1
          have fJ := (HR.out.cell (i := j) (by rw [fillB_len c8 hj]; exact hjk)).2.1
          unfold u8v at cJ
          have HR2 : Hid (RowB (wr.setCell ⟨w.heap.size, j, none⟩ (.int .u8 (c8.toNat : Int))) w.heap.size (fillB c8 k (j + 1))) := Lib.hid (by
            have := (HR.out.cell (i := j) (by rw [fillB_len c8 hj]; exact hjk)).2.2 c8
            rw [fillB_next c8 hjk] at this
            exact this)
          have HB2 : Hid (Below w.heap.size w (wr.setCell ⟨w.heap.size, j, none⟩ (.int .u8 (c8.toNat : Int)))) := Lib.hid (HB.out.setCell (p := ⟨w.heap.size, j, none⟩) (Nat.le_refl _) _)
          go_wp2_with fail
          go_roundw
          case rel => exact ⟨j + 1, by go_num, by omega, HR2.out, HB2.out⟩
          case measure => simp [intOf]; omega
        · have hji : ¬ (j : Int) < (k : Int) := by omega
          have hjE : j = k := by omega
          have hcv := HR.out.conv (k := k) (cap := k) (by rw [fillB_len c8 hj])
          obtain ⟨t, ht⟩ : ∃ t : ByteArray, (⟨(fillB c8 k j).toArray⟩ : ByteArray) = t := ⟨_, rfl⟩
          rw [ht] at hcv
          have hts : t.size = k := by rw [← ht, text_size, fillB_len c8 hj]
          clear ht
          have HC1 := Lib.hid (fun W => snew_long t W (by omega) (by omega))
          have HC2 := Lib.hid (fun W => sof_long t W (by omega) (by omega))
          go_wp2_with fail
          refine (HC1.out _).mono ?_
          rintro e w1 ⟨rfl, rfl⟩
          go_wp2_with fail
          refine (HC2.out _).mono ?_
          rintro e w1 ⟨rfl, rfl⟩
          go_wp2_with fail
          refine (HBA.out _).mono ?_
          rintro e w2 ⟨rfl, hb2⟩
          have HB2 := Lib.hid (HB.out.trans (hb2.mono HB.out.size))
          clear hb2
          go_wp2_with fail
          go_ret
          exact ⟨rfl, HB2.out⟩
    · have h1 : ¬ (3000 : Int) < (k : Int) := by omega
      have h2g : ¬ (900000 : Int) < (k : Int) := by omega
      clear hmid
      go_wp2_with fail
      go_loopw [26, 7] (fun vj _ wr => ∃ j : Nat, vj = .int .i64 (j : Int) ∧ j ≤ k ∧ RowB wr w.heap.size (fillB c8 k j) ∧ Below w.heap.size w wr) (fun vj _ _ => k - (intOf vj).toNat)
      case atStart => exact ⟨0, rfl, Nat.zero_le _, HR0.out, HB0.out⟩
      case round =>
        clear HR0 HB0
        obtain ⟨j, rfl, hj, hR, hB⟩ := hrel
        have HR := Lib.hid hR
        have HB := Lib.hid hB
        have HLT : Hid (w.heap.size < wr.heap.size) := Lib.hid (Array.getElem?_eq_some_iff.1 hR).1
        clear hR hB
        by_cases hjk : j < k
        · have hji : (j : Int) < (k : Int) := by omega
          have cJ := (HR.out.cell (i := j) (by rw [fillB_len c8 hj]; exact hjk)).1
          have fJ := (HR.out.cell (i := j) (by rw [fillB_len c8 hj]; exact hjk)).2.1
          unfold u8v at cJ
          have HR2 : Hid (RowB (wr.setCell ⟨w.heap.size, j, none⟩ (.int .u8 (c8.toNat : Int))) w.heap.size (fillB c8 k (j + 1))) := Lib.hid (by
            have := (HR.out.cell (i := j) (by rw [fillB_len c8 hj]; exact hjk)).2.2 c8
            rw [fillB_next c8 hjk] at this
            exact this)
          have HB2 : Hid (Below w.heap.size w (wr.setCell ⟨w.heap.size, j, none⟩ (.int .u8 (c8.toNat : Int)))) := Lib.hid (HB.out.setCell (p := ⟨w.heap.size, j, none⟩) (Nat.le_refl _) _)
          go_wp2_with fail
          go_roundw
          case rel => exact ⟨j + 1, by go_num, by omega, HR2.out, HB2.out⟩
          case measure => simp [intOf]; omega
        · have hji : ¬ (j : Int) < (k : Int) := by omega
          have hjE : j = k := by omega
          have hcv := HR.out.conv (k := k) (cap := k) (by rw [fillB_len c8 hj])
          obtain ⟨t, ht⟩ : ∃ t : ByteArray, (⟨(fillB c8 k j).toArray⟩ : ByteArray) = t := ⟨_, rfl⟩
          rw [ht] at hcv
          have hts : t.size = k := by rw [← ht, text_size, fillB_len c8 hj]
          clear ht
          have HC1 := Lib.hid (fun W => snew_any t k W hts (by omega))
          have HTL : Hid (t.data.toList.length = k) := Lib.hid ((txt_len t).trans hts)
          obtain ⟨k3, hk3⟩ : ∃ k3, 3 * k = k3 := ⟨_, rfl⟩
          have hk3i : (3 : Int) * (k : Int) = (k3 : Int) := by omega
          have hk3w : IntKind.i64.wrap (k3 : Int) = (k3 : Int) := IntWalk.i64_in _ (by omega)
          go_wp2_with fail
          refine (HC1.out _).mono ?_
          rintro e w2 ⟨b, R, rfl, hS, hSt, hB2⟩
          have HH : Hid (Calls Try.prog 24 #[.pointer (some ⟨b, 0, none⟩)] w2 fun e w' => e = .returned (.int .i64 (k3 : Int)) ∧ ∃ m, w' = w2.drewN m) := Lib.hid (by
            have := hS.held (by omega)
            rw [hk3] at this
            exact this)
          have HSS := Lib.hid (fun m => (hS.below (below_drewN w2 m)).stepsC)
          have HDD := Lib.hid (fun m => (hS.below (below_drewN w2 m)).done HTL.out)
          rw [hSt.two, HTL.out] at HDD
          have HB2 := Lib.hid (HB.out.trans (hB2.mono HB.out.size))
          clear hS hSt hB2 hk3
          obtain ⟨d, hd⟩ : ∃ d, decide (k < 2) = d := ⟨_, rfl⟩
          rw [hd] at HDD
          have hdi : decide ((k : Int) < 2) = d := by rw [← hd]; exact decide_eq_decide.2 (by omega)
          go_wp2_with fail
          refine HH.out.mono ?_
          rintro e w3 ⟨rfl, m, rfl⟩
          go_wp2_with fail
          refine (HSS.out m).mono ?_
          rintro e w4 ⟨rfl, rfl⟩
          go_wp2_with fail
          refine (HDD.out m).mono ?_
          rintro e w5 ⟨rfl, rfl⟩
          have HB3 := Lib.hid (HB2.out.trans (belowB_drewN w.heap.size w2 m))
          cases d with
          | true =>
            have hk2 : (k : Int) < 2 := of_decide_eq_true hdi
            clear hdi
            go_wp2_with fail
            refine (HBA.out _).mono ?_
            rintro e w6 ⟨rfl, hb6⟩
            have HB4 := Lib.hid (HB3.out.trans (hb6.mono HB3.out.size))
            clear hb6
            go_wp2_with fail
            go_ret
            exact ⟨rfl, HB4.out⟩
          | false =>
            go_wp2_with fail
            refine (HBA.out _).mono ?_
            rintro e w6 ⟨rfl, hb6⟩
            have HB4 := Lib.hid (HB3.out.trans (hb6.mono HB3.out.size))
            clear hb6
            go_wp2_with fail
            go_ret
            exact ⟨rfl, HB4.out⟩
end Go.Proofs.Ytfedhppcmmponaa

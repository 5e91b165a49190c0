/-
  THE WALKS OF LAYER 5's CODE (package used): Write; two arrays held against one another.
-/
import Derived.Test.YthpgddodfnjmbaaUsedB
import Derived.Test.YthpgddodfnjmbaaBitsRC
import Derived.ChangeKeysEq
namespace Go.Proofs.Ythpgddodfnjmbaa
open Go.RowKit BitM UsedM
set_option linter.unusedVariables false

theorem part_arr (S : Nat → Bool) (i : Nat) (hi : i < 16) (W : World) : (part 28 (arr S) i).run Try.prog W = .ok (.int .u32 (fld S i : Int)) W := by
  have ha := Try.isAgg28
  have hg := arr_get S i hi
  simp [part, go_sem, hg]
theorem eqItems_arr (S T : Nat → Bool) (d : Nat) (W : World) : ∀ (is : List Nat), (∀ i ∈ is, i < 16) →
    (Op.eqItems (d + 1) 28 1 (arr S) (arr T) is).run Try.prog W = .ok (is.all fun i => fld S i == fld T i) W
  | [], _ => by simp [Op.eqItems]
  | i :: is, h => by
    have hu := Try.underlying28
    have hi := h i (by simp)
    have ih := eqItems_arr S T d W is (fun j hj => h j (by simp [hj]))
    have hq := run_equalIn_int (P := Try.prog) W d 28 .u32 .u32 (fld S i : Int) (fld T i : Int) hu
    have he : ((fld S i : Int) == (fld T i : Int)) = (fld S i == fld T i) := by
      rw [Bool.eq_iff_iff]; simp only [beq_iff_eq]; omega
    simp only [Op.eqItems, Sem.run_bind, Nat.mul_one, part_arr S i hi W, part_arr T i hi W, Result.andThen_ok, hq, he]
    cases hc : (fld S i == fld T i)
    · simp [hc]
    · simp [hc, ih]
theorem arr_eql (S T : Nat → Bool) (r : Bool) (hr : ((List.range 16).all fun i => fld S i == fld T i) = r) (W : World) : (binOp .eql 73 (.agg (arr S)) (.agg (arr T))).run Try.prog W = .ok (.bool r) W := by
  subst hr
  have hu := Try.underlying73
  obtain ⟨i, hi, hs⟩ := Option.map_eq_some_iff.1 (show (Try.prog.info? 28).map (fun i => i.size) = some 1 by kernel_rfl)
  have hc : Try.prog.cellsOf 28 = 1 := by kernel_rfl
  rw [run_eql_struct, run_equalIn_array W 9999 (arr S) (arr T) hu hi, hc, eqItems_arr S T 9998 W (List.range 16) (fun j hj => List.mem_range.1 hj)]
  rfl
theorem all_zero (S : Nat → Bool) (hS : ∀ b, 256 ≤ b → S b = false) : ((List.range 16).all fun i => fld S i == fld (fun _ => false) i) = decide (syms S 256 = []) := by
  rw [Bool.eq_iff_iff, List.all_eq_true]
  simp only [decide_eq_true_eq, fld_empty, beq_iff_eq, List.mem_range]
  rw [syms_nil]
  constructor
  · intro h b hb
    have h1 := (fld_zero S (b / 16)).1 (h (b / 16) (by omega))
    have h2 := some_false S (b / 16) h1 (b % 16) (by omega)
    rwa [show 16 * (b / 16) + b % 16 = b by omega] at h2
  · intro h i hi
    rw [fld_zero]
    unfold some_ row
    rw [List.any_eq_false]
    intro x hx
    obtain ⟨k, hk, rfl⟩ := List.mem_map.1 hx
    have hk := List.mem_range.1 hk
    rw [h (16 * i + k) (by omega)]
    simp

set_option maxHeartbeats 1000000 in
theorem write_nil (s : Value) (w : World) : Calls Try.prog 25 #[.pointer none, s] w fun e w' => e = .returned (.int .i64 7) ∧ w = w' := by
  go_enter Try.func25, Try.ntmps25
  go_wp2_with fail
  go_ret
  exact ⟨rfl, rfl⟩
set_option maxHeartbeats 1000000 in
theorem write_no (b : Nat) (s : ByteArray) (w : World) (hs : s.size ≤ 9223372036854775807) (h : ¬ IsSyms s.data.toList) :
    Calls Try.prog 25 #[.pointer (some ⟨b, 0, none⟩), .string s] w fun e w' => e = .returned (.int .i64 1) ∧ ∃ n, w' = w.drewN n := by
  go_enter Try.func25, Try.ntmps25
  go_wp2_with fail
  refine (is_no s w hs h).mono ?_
  rintro e w' ⟨rfl, n, rfl⟩
  go_wp2_with fail
  go_ret
  exact ⟨rfl, n, rfl⟩
/-- What a writer is, behind the writing of symbols. -/
def Wrote (w w' : World) (b : Nat) (v : Value) (q : List Bool) (tk : Nat) (f : List Bool) : Prop :=
  ∃ v1, IsWriter w' b v1 (q ++ f) tk ∧ Touch (foot b v) w w' ∧ (∀ k, v1.ownBlock = some k → v.ownBlock = some k ∨ w.heap.size ≤ k)
theorem Wrote.put {w w1 w2 : World} {b : Nat} {v v1 v2 : Value} {q f g : List Bool} {tk : Nat} (h1 : IsWriter w1 b v1 (q ++ f) tk) (h2 : Touch (foot b v) w w1) (h3 : ∀ k, v1.ownBlock = some k → v.ownBlock = some k ∨ w.heap.size ≤ k)
    (k1 : IsWriter w2 b v2 ((q ++ f) ++ g) tk) (k2 : Touch (foot b v1) w1 w2) (k3 : ∀ k, v2.ownBlock = some k → v1.ownBlock = some k ∨ w1.heap.size ≤ k) : Wrote w w2 b v q tk (f ++ g) :=
  ⟨v2, by rwa [← List.append_assoc], h2.trans k2 (fun i hi => by
    rcases hi with rfl | hi
    · exact Or.inl (Or.inl rfl)
    · rcases h3 i hi with h | h
      · exact Or.inl (Or.inr h)
      · exact Or.inr h), fun k hk => by
    rcases k3 k hk with h | h
    · exact h3 k h
    · have := h2.size; exact Or.inr (by omega)⟩
theorem Wrote.other {w w1 w2 : World} {b : Nat} {v : Value} {q f : List Bool} {tk : Nat} (h : Wrote w w1 b v q tk f) (hb : Below w1.heap.size w1 w2) : Wrote w w2 b v q tk f := by
  obtain ⟨v1, h1, h2, h3⟩ := h
  refine ⟨v1, h1.other (Touch.ofBelow (S := fun _ => False) hb) (fun _ _ h => h), h2.trans (Touch.ofBelow (S := fun _ => False) hb) (fun i hi => hi.elim), h3⟩
theorem row_zero (S : Nat → Bool) (w : World) (g : Nat) (A : Array Value) (h : w.heap[g]? = some (.cells A 73 (0, 0))) (w' : World) (hb : Below w.heap.size w w') : w'.heap[g]? = some (.cells A 73 (0, 0)) :=
  (hb.block g (Array.getElem?_eq_some_iff.1 h).1).trans h
set_option maxRecDepth 100000 in
set_option maxHeartbeats 1000000 in
theorem write_yes (b : Nat) (v : Value) (q : List Bool) (tk : Nat) (s : ByteArray) (w : World) (h : IsWriter w b v q tk) (hs : s.size ≤ maxLen) (hy : IsSyms s.data.toList) (hq : q.length ≤ 1000000) :
    Calls Try.prog 25 #[.pointer (some ⟨b, 0, none⟩), .string s] w fun e w' => e = .returned (.int .i64 0) ∧ Wrote w w' b v q tk (ubits (has s.data.toList)) := by
  have hs2 : s.size ≤ 9223372036854775807 := by unfold maxLen at hs; omega
  have H := Lib.hid h
  clear h
  go_enter Try.func25, Try.ntmps25
  go_wp2_with fail
  refine (is_yes s w hs2 hy).mono ?_
  rintro e w' ⟨rfl, n, rfl⟩
  go_wp2_with fail
  refine (of_any s _ hs).mono ?_
  rintro e w1 ⟨rfl, hb⟩
  have HB := Lib.hid ((below_drewN w n).trans hb)
  clear hb
  generalize hS : has s.data.toList = S at *
  have HX := Lib.hid (fun k (hk : k < 16) F (hF : fld S k = F) => arr_index S k F hk hF)
  have HW := Lib.hid (fun w => which_any S w)
  have hi := info73 S
  have hac := arr_cells S
  have h16 := arr_size S
  obtain ⟨A, hA⟩ : ∃ A, arr S = A := ⟨_, rfl⟩
  simp only [hA] at HX HW hi hac h16 ⊢
  have hg0 : (w1.alloc (.cells #[.int .u32 0, .int .u32 0, .int .u32 0, .int .u32 0, .int .u32 0, .int .u32 0, .int .u32 0, .int .u32 0, .int .u32 0, .int .u32 0, .int .u32 0, .int .u32 0, .int .u32 0, .int .u32 0, .int .u32 0, .int .u32 0] 73)).heap[w1.heap.size]? = some (.cells #[.int .u32 0, .int .u32 0, .int .u32 0, .int .u32 0, .int .u32 0, .int .u32 0, .int .u32 0, .int .u32 0, .int .u32 0, .int .u32 0, .int .u32 0, .int .u32 0, .int .u32 0, .int .u32 0, .int .u32 0, .int .u32 0] 73 (0, 0)) := heap_alloc_new _ _
  have hg1 := setRow_heap _ _ _ A _ _ hg0
  have HB1 := Lib.hid (below_setRow (B := w.heap.size) (HB.out.alloc HB.out.size (.cells #[.int .u32 0, .int .u32 0, .int .u32 0, .int .u32 0, .int .u32 0, .int .u32 0, .int .u32 0, .int .u32 0, .int .u32 0, .int .u32 0, .int .u32 0, .int .u32 0, .int .u32 0, .int .u32 0, .int .u32 0, .int .u32 0] 73)) (by exact HB.out.size) A)
  have hsz1 : ((w1.alloc (.cells #[.int .u32 0, .int .u32 0, .int .u32 0, .int .u32 0, .int .u32 0, .int .u32 0, .int .u32 0, .int .u32 0, .int .u32 0, .int .u32 0, .int .u32 0, .int .u32 0, .int .u32 0, .int .u32 0, .int .u32 0, .int .u32 0] 73)).setRow w1.heap.size A).heap.size = w1.heap.size + 1 := by rw [setRow_size]; simp
  have hold : (#[.int .u32 0, .int .u32 0, .int .u32 0, .int .u32 0, .int .u32 0, .int .u32 0, .int .u32 0, .int .u32 0, .int .u32 0, .int .u32 0, .int .u32 0, .int .u32 0, .int .u32 0, .int .u32 0, .int .u32 0, .int .u32 0] : Array Value).size = A.size := h16.symm
  generalize hW2 : (w1.alloc (.cells #[.int .u32 0, .int .u32 0, .int .u32 0, .int .u32 0, .int .u32 0, .int .u32 0, .int .u32 0, .int .u32 0, .int .u32 0, .int .u32 0, .int .u32 0, .int .u32 0, .int .u32 0, .int .u32 0, .int .u32 0, .int .u32 0] 73)).setRow w1.heap.size A = w2 at *
  go_wp2_with (first | (refine wpList_load_row rfl 73 _ rfl w1.heap.size rfl 73 A (0, 0) _ (by exact hg1) Try.underlying73 rfl hi ?_) | (refine wpList_store_row rfl 73 _ _ rfl w1.heap.size A rfl rfl 73 _ hg0 hi hold hac ?_; rw [hW2]))
  refine (HW.out w2).mono ?_
  rintro e w3 ⟨rfl, hb3⟩
  have hg3 := row_zero S w2 _ A hg1 w3 hb3
  have HB3 := Lib.hid (HB1.out.trans (hb3.mono (by have := HB.out.size; omega)))
  have hw3 := hb3.size
  have HW3 := Lib.hid (H.out.other (Touch.ofBelow (S := fun _ => False) HB3.out) (fun _ _ h => h))
  have HN := Lib.hid (num_lt (which S))
  have HFW := Lib.hid (field_which S)
  clear hb3 hg1
  go_wp2_with fail
  refine (put_any b v q tk (num (which S)) 16 w3 HW3.out (by omega) (by have := HN.out; rwa [which_length] at this) (by omega)).mono ?_
  rintro e w4 ⟨rfl, v4, hp1, hp2, hp3⟩
  rw [HFW.out] at hp1
  have hg4 : w4.heap[w1.heap.size]? = some (.cells A 73 (0, 0)) := (hp2.block _ (by omega) (fun hf => by have := (H.out.lt _ hf).1; have := HB.out.size; omega)).trans hg3
  have HWR := Lib.hid (show Wrote w w4 b v q tk (which S ++ rows S 0) from ⟨v4, by rw [rows_zero, List.append_nil]; exact hp1, (Touch.ofBelow HB3.out).trans hp2 (fun i hi => Or.inl hi), fun k hk => (hp3 k hk).imp id (fun h => by have := HB3.out.size; omega)⟩)
  clear hp1 hp2 hp3 hg3
  go_wp2_with (refine wpList_load_row rfl 73 _ rfl w1.heap.size rfl 73 A (0, 0) _ (by exact hg4) Try.underlying73 rfl hi ?_)
  go_loopw [20] (fun i wr => ∃ k : Nat, k ≤ 16 ∧ i = .int .i64 k ∧ Wrote w wr b v q tk (which S ++ rows S k)) (fun i _ => 16 - (intOf i).toNat)
  case atStart => exact ⟨0, by omega, rfl, HWR.out⟩
  case round =>
    clear hg0 hsz1 hw3 hg4
    obtain ⟨k, hk, rfl, hWr⟩ := hrel
    have HWk := Lib.hid hWr
    clear hWr
    by_cases hlt : k < 16
    · have hk2 : (k : Int) < 16 := by omega
      have hxk := HX.out k hlt _ rfl
      have HR := Lib.hid (rows_succ S k)
      have hrl := rows_length S k
      have hcl := cnt_le S k
      have HFR := Lib.hid (field_row S k)
      have hfl := fld_lt S k
      by_cases hsome : some_ S k = true
      · have hne : ((fld S k : Int) != 0) = true := by
          rw [bne_iff_ne]
          intro e
          rw [(fld_zero S k).1 (by omega)] at hsome
          cases hsome
        have HR2 := HR.out
        rw [if_pos hsome] at HR2
        have HR3 := Lib.hid HR2
        clear hsome HR2
        generalize fld S k = F at *
        go_wp2_with fail
        obtain ⟨v5, h1, h2, h3⟩ := HWk.out
        refine (put_any b v5 _ tk F 16 wr h1 (by omega) (by omega) (by rw [List.length_append, List.length_append, which_length, hrl]; omega)).mono ?_
        rintro e w5 ⟨rfl, v6, hp1, hp2, hp3⟩
        rw [HFR.out] at hp1
        have HN5 := Lib.hid (Wrote.put h1 h2 h3 hp1 hp2 hp3)
        clear h1 h2 h3 hp1 hp2 hp3
        go_wp2_with fail
        go_roundw
        case rel => exact ⟨k + 1, by omega, by go_num, by rw [HR3.out, ← List.append_assoc]; exact HN5.out⟩
        case measure => simp [intOf]; omega
      · have hsf : some_ S k = false := by simpa using hsome
        have hz : (fld S k : Int) = 0 := by rw [(fld_zero S k).2 hsf]; rfl
        have HR2 := HR.out
        rw [hsf] at HR2
        have HR3 := Lib.hid HR2
        rw [hz] at hxk
        clear hz hsome hsf HR2
        go_wp2_with fail
        go_roundw
        case rel => exact ⟨k + 1, by omega, by go_num, by rw [HR3.out]; exact HWk.out⟩
        case measure => simp [intOf]; omega
    · obtain rfl : k = 16 := by omega
      go_wp2_with fail
      go_ret
      rw [hS]
      exact ⟨rfl, HWk.out⟩
end Go.Proofs.Ythpgddodfnjmbaa

/-
  THE WALKS OF LAYER 13's CODE (package picks): how many tables there may be, may picks be written; the list: in order, take, place; slices.Index.
-/
import Derived.Test.YtfckghaigbmeaaaObjF
import Derived.Test.YtfckghaigbmeaaaPkMathB
import Derived.Test.YtfckghaigbmeaaaWrote
import Derived.Laws.StandIn
import Derived.Laws.CopyRow
import Derived.StillTailTactics
namespace Go.Proofs.Ytfckghaigbmeaaa
open Go.RowKit PkM BitM
set_option linter.unusedVariables false
theorem pnum_any (n : Int) (r : Bool) (w : World) (hr : r = true ↔ 2 ≤ n ∧ n ≤ 6) : Calls Try.prog 49 #[.int .i64 n] w fun e w' => e = .returned (.bool r) ∧ w' = w := by
  by_cases h1 : 2 ≤ n
  · by_cases h2 : n ≤ 6
    · obtain rfl : r = true := hr.2 ⟨h1, h2⟩
      clear hr
      go_enter Try.func49, Try.ntmps49
      go_wp2_with fail
      go_ret
      exact ⟨rfl, rfl⟩
    · obtain rfl : r = false := by rw [Bool.eq_false_iff]; intro h; exact h2 (hr.1 h).2
      clear hr
      go_enter Try.func49, Try.ntmps49
      go_wp2_with fail
      go_ret
      exact ⟨rfl, rfl⟩
  · obtain rfl : r = false := by rw [Bool.eq_false_iff]; intro h; exact h1 (hr.1 h).1
    clear hr
    go_enter Try.func49, Try.ntmps49
    go_wp2_with fail
    go_ret
    exact ⟨rfl, rfl⟩
theorem pk_mem {l : List Int} {k : Nat} (h : k < l.length) : l.getD k 0 ∈ l := by
  rw [List.getD_eq_getElem?_getD, List.getElem?_eq_getElem h]
  exact List.getElem_mem h
theorem pk_all {zs : List Int} {P : Int → Prop} (h : ∀ j, j < zs.length → P (zs.getD j 0)) : ∀ z ∈ zs, P z := by
  intro z hz
  obtain ⟨i, hi, rfl⟩ := List.mem_iff_getElem.1 hz
  have := h i hi
  rwa [List.getD_eq_getElem?_getD, List.getElem?_eq_getElem hi] at this
set_option maxRecDepth 100000 in
set_option maxHeartbeats 1000000 in
theorem pmay_any (v : Value) (zs : List Int) (t : Int) (r : Bool) (w : World) (hv : IsInts w v zs) (hr : r = true ↔ MayI zs t) (hz : zs.length ≤ 9223372036854775807) :
    Calls Try.prog 35 #[v, .int .i64 t] w fun e w' => e = .returned (.bool r) ∧ w' = w := by
  have HV := Lib.hid hv
  have HRR := Lib.hid hr
  obtain ⟨ad, cap, rfl, _⟩ := hv
  clear hr
  go_enter Try.func35, Try.ntmps35
  go_wp2_with fail
  go_loopw [9] (fun i wr => ∃ k : Nat, k ≤ zs.length ∧ i = .int .i64 k ∧ wr = w ∧ ∀ j, j < k → 0 ≤ zs.getD j 0 ∧ zs.getD j 0 < t) (fun i _ => zs.length - (intOf i).toNat)
  case atStart => exact ⟨0, by omega, rfl, rfl, fun j hj => by omega⟩
  case round =>
    obtain ⟨k, hk, rfl, rfl, hA⟩ := hrel
    have HA := Lib.hid hA
    clear hA
    by_cases hlk : k < zs.length
    · have hki : (k : Int) < (zs.length : Int) := by omega
      obtain ⟨b1, o1, k1, he1, c1⟩ := HV.out.cell hlk
      simp only [Value.slice.injEq] at he1
      obtain ⟨rfl, _, rfl⟩ := he1
      obtain ⟨x, hx⟩ : ∃ x, zs.getD k 0 = x := ⟨_, rfl⟩
      rw [hx] at c1
      have HX := Lib.hid hx
      clear hx
      by_cases h0 : x < 0
      · have hrf : r = false := by
          rw [Bool.eq_false_iff, Ne, HRR.out]
          intro h
          have := h.2.2.2.2 _ (pk_mem hlk)
          rw [HX.out] at this
          omega
        subst hrf
        go_wp2_with fail
        go_ret
        exact ⟨rfl, rfl⟩
      · by_cases h1 : t ≤ x
        · have hrf : r = false := by
            rw [Bool.eq_false_iff, Ne, HRR.out]
            intro h
            have := h.2.2.2.2 _ (pk_mem hlk)
            rw [HX.out] at this
            omega
          subst hrf
          go_wp2_with fail
          go_ret
          exact ⟨rfl, rfl⟩
        · go_wp2_with fail
          go_roundw
          case rel => exact ⟨k + 1, by omega, by go_num, (by first | rfl | trivial), fun j hj => by
            by_cases e : j = k
            · subst e; rw [HX.out]; omega
            · exact HA.out j (by omega)⟩
          case measure => simp [intOf]; omega
    · have hki : ¬ (k : Int) < (zs.length : Int) := by omega
      have hw : Hid (∀ z ∈ zs, 0 ≤ z ∧ z < t) := Lib.hid (pk_all (P := fun z => 0 ≤ z ∧ z < t) (fun j hj => HA.out j (by omega)))
      by_cases ht : 2 ≤ t ∧ t ≤ 6
      · have HL := Lib.hid (fun W => pnum_any t true W ⟨fun _ => ht, fun _ => rfl⟩)
        by_cases h1 : 1 ≤ zs.length
        · have h1i : (1 : Int) ≤ (zs.length : Int) := by omega
          by_cases h2 : zs.length ≤ 32767
          · have h2i : (zs.length : Int) ≤ 32767 := by omega
            obtain rfl : r = true := HRR.out.2 ⟨ht.1, ht.2, h1, h2, hw.out⟩
            go_wp2_with fail
            refine (HL.out _).mono ?_
            rintro e w' ⟨rfl, rfl⟩
            go_wp2_with fail
            go_ret
            exact ⟨rfl, rfl⟩
          · have h2i : ¬ (zs.length : Int) ≤ 32767 := by omega
            obtain rfl : r = false := by rw [Bool.eq_false_iff, Ne, HRR.out]; exact fun h => h2 h.2.2.2.1
            go_wp2_with fail
            refine (HL.out _).mono ?_
            rintro e w' ⟨rfl, rfl⟩
            go_wp2_with fail
            go_ret
            refine ⟨?_, rfl⟩
            show Ending.returned (.bool (decide ((zs.length : Int) ≤ 32767))) = _
            rw [decide_eq_false (by omega)]
        · have h1i : ¬ (1 : Int) ≤ (zs.length : Int) := by omega
          obtain rfl : r = false := by rw [Bool.eq_false_iff, Ne, HRR.out]; exact fun h => h1 h.2.2.1
          go_wp2_with fail
          refine (HL.out _).mono ?_
          rintro e w' ⟨rfl, rfl⟩
          go_wp2_with fail
          go_ret
          exact ⟨rfl, rfl⟩
      · obtain rfl : r = false := by rw [Bool.eq_false_iff, Ne, HRR.out]; exact fun h => ht ⟨h.1, h.2.1⟩
        have HL := Lib.hid (fun W => pnum_any t false W ⟨fun e => (by cases e), fun e => absurd e ht⟩)
        clear ht
        go_wp2_with fail
        refine (HL.out _).mono ?_
        rintro e w' ⟨rfl, rfl⟩
        go_wp2_with fail
        go_ret
        exact ⟨rfl, rfl⟩
/-! ### slices.Index -/
def IdxP (zs : List Int) (x R : Int) : Prop := (∃ k : Nat, R = (k : Int) ∧ k < zs.length ∧ zs.getD k 0 = x ∧ ∀ j, j < k → zs.getD j 0 ≠ x) ∨ (R = -1 ∧ ∀ j, j < zs.length → zs.getD j 0 ≠ x)
theorem IdxP.there {zs : List Int} {x R : Int} (h : IdxP zs x R) {k : Nat} (hk : k < zs.length) (hx : zs.getD k 0 = x) (hn : ∀ j, j < k → zs.getD j 0 ≠ x) : R = (k : Int) := by
  rcases h with ⟨k2, rfl, h1, h2, h3⟩ | ⟨rfl, h⟩
  · rcases Nat.lt_trichotomy k2 k with h | h | h
    · exact absurd h2 (hn k2 h)
    · rw [h]
    · exact absurd hx (h3 k h)
  · exact absurd hx (h k hk)
theorem IdxP.none {zs : List Int} {x R : Int} (h : IdxP zs x R) (hn : ∀ j, j < zs.length → zs.getD j 0 ≠ x) : R = -1 := by
  rcases h with ⟨k2, rfl, h1, h2, h3⟩ | ⟨rfl, h⟩
  · exact absurd h2 (hn k2 h1)
  · rfl
set_option maxRecDepth 100000 in
set_option maxHeartbeats 1000000 in
theorem sindex_any (v : Value) (zs : List Int) (x R : Int) (w : World) (hv : IsInts w v zs) (hR : IdxP zs x R) (hz : zs.length ≤ 9223372036854775807) :
    Calls Try.prog 50 #[v, .int .i64 x] w fun e w' => e = .returned (.int .i64 R) ∧ w' = w := by
  have HV := Lib.hid hv
  have HRR := Lib.hid hR
  obtain ⟨ad, cap, rfl, _⟩ := hv
  clear hR
  go_enter Try.func50, Try.ntmps50
  go_wp2_with fail
  go_loopw [8] (fun i wr => ∃ k : Nat, k ≤ zs.length ∧ i = .int .i64 k ∧ wr = w ∧ ∀ j, j < k → zs.getD j 0 ≠ x) (fun i _ => zs.length - (intOf i).toNat)
  case atStart => exact ⟨0, by omega, rfl, rfl, fun j hj => by omega⟩
  case round =>
    obtain ⟨k, hk, rfl, rfl, hA⟩ := hrel
    have HA := Lib.hid hA
    clear hA
    by_cases hlk : k < zs.length
    · have hki : (k : Int) < (zs.length : Int) := by omega
      obtain ⟨b1, o1, k1, he1, c1⟩ := HV.out.cell hlk
      simp only [Value.slice.injEq] at he1
      obtain ⟨rfl, _, rfl⟩ := he1
      obtain ⟨y, hy⟩ : ∃ y, zs.getD k 0 = y := ⟨_, rfl⟩
      rw [hy] at c1
      have HY := Lib.hid hy
      clear hy
      by_cases he : x = y
      · have hd : (x == y) = true := by rw [he]; exact beq_self_eq_true _
        have hR := HRR.out.there hlk (HY.out.trans he.symm) HA.out
        subst hR
        clear he
        go_wp2_with fail
        go_ret
        exact ⟨rfl, rfl⟩
      · have hd : (x == y) = false := by rw [beq_eq_false_iff_ne]; exact he
        have HE := Lib.hid he
        clear he
        go_wp2_with fail
        go_roundw
        case rel => exact ⟨k + 1, by omega, by go_num, (by first | rfl | trivial), fun j hj => by
          by_cases e : j = k
          · subst e; rw [HY.out]; exact fun h => HE.out h.symm
          · exact HA.out j (by omega)⟩
        case measure => simp [intOf]; omega
    · have hki : ¬ (k : Int) < (zs.length : Int) := by omega
      have hR := HRR.out.none (fun j hj => HA.out j (by omega))
      subst hR
      go_wp2_with fail
      go_ret
      exact ⟨rfl, rfl⟩
/-! ### The list -/
def ordF (o : List Nat) (k : Nat) : Value := .int .i64 ((o.getD k 0 : Nat) : Int)
def ordA (o : List Nat) : Array Value := cellsF 6 (ordF o)
theorem ordA_size (o : List Nat) : (ordA o).size = 6 := cellsF_size 6 _
theorem ordA_one (o : List Nat) : (ordA o).all (·.oneCell') = true := by
  rw [Array.all_eq_true]
  intro i hi
  have h1 : (ordA o)[i]? = some (ordF o i) := cellsF_get 6 _ (by rw [ordA_size] at hi; exact hi)
  rw [Array.getElem?_eq_getElem hi] at h1
  rw [Option.some.inj h1]
  rfl
def zsix : Nat → Value := fun _ => .int .i64 0
theorem zsix_is : (#[.int .i64 0, .int .i64 0, .int .i64 0, .int .i64 0, .int .i64 0, .int .i64 0] : Array Value) = cellsF 6 zsix := rfl
/-- What is known while a list is laid out. -/
def InO (w wr : World) (k : Nat) : Prop :=
  Below w.heap.size w wr ∧ ObjF 6 63 wr w.heap.size zsix ∧ ObjF 6 63 wr (w.heap.size + 1) (fun j => if j < k then .int .i64 (j : Int) else .int .i64 0)
set_option maxRecDepth 100000 in
set_option maxHeartbeats 1000000 in
theorem inOrder_any (w : World) : Calls Try.prog 36 #[] w fun e w' => e = .returned (.agg (ordA O6)) ∧ Below w.heap.size w w' := by
  have hb1 := (Below.refl w.heap.size w).alloc (Nat.le_refl _) (.cells #[.int .i64 0, .int .i64 0, .int .i64 0, .int .i64 0, .int .i64 0, .int .i64 0] 63)
  have hg1 := heap_alloc_new w (.cells #[.int .i64 0, .int .i64 0, .int .i64 0, .int .i64 0, .int .i64 0, .int .i64 0] 63)
  have hs1 : (w.alloc (.cells #[.int .i64 0, .int .i64 0, .int .i64 0, .int .i64 0, .int .i64 0, .int .i64 0] 63)).heap.size = w.heap.size + 1 := by show (w.heap.push _).size = _; simp
  have HI : Hid (InO w ((w.alloc (.cells #[.int .i64 0, .int .i64 0, .int .i64 0, .int .i64 0, .int .i64 0, .int .i64 0] 63)).alloc (.cells #[.int .i64 0, .int .i64 0, .int .i64 0, .int .i64 0, .int .i64 0, .int .i64 0] 63)) 0) := Lib.hid (by
    refine ⟨hb1.alloc hb1.size _, ?_, ?_⟩
    · exact (alloc_old (by rw [hs1]; omega)).trans hg1
    · have := heap_alloc_new (w.alloc (.cells #[.int .i64 0, .int .i64 0, .int .i64 0, .int .i64 0, .int .i64 0, .int .i64 0] 63)) (.cells #[.int .i64 0, .int .i64 0, .int .i64 0, .int .i64 0, .int .i64 0, .int .i64 0] 63)
      rw [hs1] at this
      exact this)
  clear hb1 hg1 hs1
  go_enter Try.func36, Try.ntmps36
  go_wp2_with fail
  go_loopw [3] (fun i wr => ∃ k : Nat, k ≤ 6 ∧ i = .int .i64 k ∧ InO w wr k) (fun i _ => 6 - (intOf i).toNat)
  case atStart => exact ⟨0, by omega, rfl, HI.out⟩
  case round =>
    clear HI
    obtain ⟨k, hk, rfl, hI⟩ := hrel
    have HI := Lib.hid hI
    clear hI
    by_cases hlt : k < 6
    · have hki : (k : Int) < 6 := by omega
      have hk0 : (0 : Int) ≤ (k : Int) := by omega
      obtain ⟨c0, f0⟩ := HI.out.2.2.cell hlt
      have HS : Hid (InO w (wr.setCell ⟨w.heap.size + 1, k, none⟩ (.int .i64 (k : Int))) (k + 1)) := Lib.hid (by
        obtain ⟨h1, h2, h3⟩ := HI.out
        refine ⟨h1.trans (touch_cell (b := w.heap.size + 1) (Touch.refl _ _) |>.below h1.size (fun i hi => by have : i = w.heap.size + 1 := hi; omega)), h2.other (touch_cell (b := w.heap.size + 1) (Touch.refl _ _)) (by show ¬ w.heap.size = w.heap.size + 1; omega), (h3.set k _).ext (fun j hj => ?_)⟩
        unfold upd
        by_cases e : j = k
        · subst e
          rw [if_pos rfl, if_pos (by omega)]
        · rw [if_neg e]
          show (if j < k then _ else _) = _
          by_cases e2 : j < k
          · rw [if_pos e2, if_pos (by omega)]
          · rw [if_neg e2, if_neg (by omega)])
      rw [if_neg (by omega)] at c0
      obtain ⟨N, hN⟩ : ∃ N, w.heap.size + 1 = N := ⟨_, rfl⟩
      rw [hN] at c0 f0 HS
      simp only [hN]
      go_wp2_with fail
      go_roundw
      case rel => exact ⟨k + 1, by omega, by go_num, HS.out⟩
      case measure => simp [intOf]; omega
    · obtain rfl : k = 6 := by omega
      obtain ⟨hb, h0, hc⟩ := HI.out
      have hA : cellsF 6 (fun j => if j < 6 then Value.int .i64 (j : Int) else .int .i64 0) = ordA O6 := by
        refine cellsF_congr (fun j hj => ?_)
        rcases (by omega : j = 0 ∨ j = 1 ∨ j = 2 ∨ j = 3 ∨ j = 4 ∨ j = 5) with rfl | rfl | rfl | rfl | rfl | rfl <;> rfl
      unfold ObjF at h0 hc
      rw [hA] at hc
      have hi : (Try.prog.info? 63).map (·.size) = some (ordA O6).size := by rw [ordA_size]; kernel_rfl
      have ha := ordA_one O6
      have h16 : (cellsF 6 zsix).size = (ordA O6).size := by rw [ordA_size]; rfl
      obtain ⟨A, hA2⟩ : ∃ A, ordA O6 = A := ⟨_, rfl⟩
      have HA2 := Lib.hid hA2
      rw [hA2] at hc hi ha h16
      generalize cellsF 6 zsix = Z0 at *
      clear HI hA hA2
      go_wp2_with (first | (refine wpList_load_row rfl 63 _ rfl (w.heap.size + 1) rfl 63 A (0, 0) _ hc Try.underlying63 rfl hi ?_) | (refine wpList_store_row rfl 63 _ _ rfl w.heap.size A rfl rfl 63 Z0 h0 hi h16 ha ?_))
      refine bodyPost_ret (v := .agg A) (results_cell_row rfl _ _ w.heap.size 63 A (0, 0) _ rfl (setRow_heap wr _ Z0 A 63 _ h0) Try.underlying63 rfl hi) rfl ⟨by rw [HA2.out], ?_⟩
      exact hb.trans ⟨rfl, rfl, rfl, by simp [World.setRow], fun j hj => setRow_other wr _ j _ (by omega)⟩
/-- From the cell off on, block b holds a list in this order. -/
def LstAt (n : Nat) (T : TypeId) (w : World) (b off : Nat) (F : Nat → Value) (o : List Nat) : Prop := ObjF n T w b F ∧ o.length = 6 ∧ off + 6 ≤ n ∧ ∀ j, j < 6 → F (off + j) = ordF o j
theorem LstAt.ints {n : Nat} {T : TypeId} {w : World} {b off : Nat} {F : Nat → Value} {o : List Nat} (h : LstAt n T w b off F o) (k c : Nat) (hk : k ≤ 6) : IsInts w (.slice (some ⟨b, off, none⟩) k c) (toI (o.take k)) := by
  obtain ⟨h1, h2, h3, h4⟩ := h
  refine ⟨_, c, by rw [toI_length, List.length_take, h2, Nat.min_eq_left hk], fun i x hx => ⟨b, off, rfl, ?_⟩⟩
  obtain ⟨hi, hx2⟩ := List.getElem?_eq_some_iff.1 hx
  rw [toI_length, List.length_take] at hi
  rw [(h1.cell (i := off + i) (by omega)).1, h4 i (by omega)]
  unfold ordF
  have h5 := toI_getD (o.take k) i
  rw [List.getD_eq_getElem?_getD, hx] at h5
  have h6 : (o.take k).getD i 0 = o.getD i 0 := by
    rw [List.getD_eq_getElem?_getD, List.getD_eq_getElem?_getD, List.getElem?_take, if_pos (by omega)]
  rw [h6] at h5
  rw [← h5]
  rfl
theorem tch_getD (o : List Nat) (i j : Nat) (hi : i < o.length) (hj : j < o.length) : (tch o i).getD j 0 = if j = 0 then o.getD i 0 else if j ≤ i then o.getD (j - 1) 0 else o.getD j 0 := by
  rw [tch_cons o i hi]
  cases j with
  | zero =>
    rw [if_pos rfl, List.getD_cons_zero, List.getD_eq_getElem?_getD, List.getElem?_eq_getElem hi]
    rfl
  | succ m =>
    rw [if_neg (by omega), List.getD_cons_succ, List.getD_eq_getElem?_getD]
    by_cases h : m + 1 ≤ i
    · rw [if_pos h, List.getElem?_append_left (by rw [List.length_take]; omega), List.getElem?_take, if_pos (by omega), List.getD_eq_getElem?_getD]
      rfl
    · rw [if_neg h, List.getElem?_append_right (by rw [List.length_take]; omega), List.length_take, Nat.min_eq_left (by omega), List.getElem?_drop, List.getD_eq_getElem?_getD]
      congr 2
      omega
/-- The cells behind the copying. -/
def cpF (F : Nat → Value) (off i : Nat) (o : List Nat) : Nat → Value :=
  fun k => if k < off + 1 then F k else if k < off + 1 + ((toI (o.take i)).map iv64).length then ((toI (o.take i)).map iv64).getD (k - (off + 1)) (F k) else F k
theorem cpF_at {n : Nat} {T : TypeId} {w : World} {b off : Nat} {F : Nat → Value} {o : List Nat} (h : LstAt n T w b off F o) {i : Nat} (hi : i < 6) (j : Nat) (hj : j < 6) :
    upd (cpF F off i o) off (ordF o i) (off + j) = ordF (tch o i) j := by
  obtain ⟨h1, h2, h3, h4⟩ := h
  have hl : ((toI (o.take i)).map iv64).length = i := by rw [List.length_map, toI_length, List.length_take]; omega
  unfold ordF
  rw [tch_getD o i j (by omega) (by omega)]
  by_cases e : j = 0
  · subst e
    rw [Nat.add_zero, upd_same, if_pos rfl]
  · rw [upd_ne _ _ (by omega), if_neg e]
    unfold cpF
    rw [if_neg (by omega), hl]
    by_cases c : j ≤ i
    · rw [if_pos (by omega), if_pos c]
      obtain ⟨m, rfl⟩ : ∃ m, j = m + 1 := ⟨j - 1, by omega⟩
      rw [show off + (m + 1) - (off + 1) = m by omega, Nat.add_sub_cancel, List.getD_eq_getElem?_getD, List.getElem?_map]
      have h5 := toI_getD (o.take i) m
      have h6 : (o.take i).getD m 0 = o.getD m 0 := by
        rw [List.getD_eq_getElem?_getD, List.getD_eq_getElem?_getD, List.getElem?_take, if_pos (by omega)]
      rw [h6, List.getD_eq_getElem?_getD, List.getElem?_eq_getElem (by rw [toI_length, List.length_take]; omega)] at h5
      rw [List.getElem?_eq_getElem (by rw [toI_length, List.length_take]; omega)]
      show iv64 _ = _
      unfold iv64
      rw [← h5]
      rfl
    · rw [if_neg (by omega), if_neg c, h4 j hj]
      rfl
theorem cpF_far (F : Nat → Value) (off i : Nat) (o : List Nat) (x : Value) (hi : i < 6) (k : Nat) (hk : k < off ∨ off + 6 ≤ k) : upd (cpF F off i o) off x k = F k := by
  have hl : ((toI (o.take i)).map iv64).length ≤ i := by rw [List.length_map, toI_length, List.length_take]; omega
  rw [upd_ne _ _ (by omega)]
  unfold cpF
  rcases hk with hk | hk
  · rw [if_pos (by omega)]
  · rw [if_neg (by omega), if_neg (by omega)]
theorem copy_pk {n : Nat} {T : TypeId} {w : World} {b off : Nat} {F : Nat → Value} {o : List Nat} (h : LstAt n T w b off F o) (i ty : Nat) (hi : i < 6) :
    (Builtin.copy_ #[22, 22] ty #[.slice (some ⟨b, off + 1, none⟩) 5 5, .slice (some ⟨b, off, none⟩) i 6]).run Try.prog w = .ok (goInt i) (w.setRow b (cellsF n (cpF F off i o))) := by
  obtain ⟨h1, h2, h3, h4⟩ := id h
  have hl : ((toI (o.take i)).map iv64).length = i := by rw [List.length_map, toI_length, List.length_take]; omega
  have hm : Nat.min i 5 = i := Nat.min_eq_left (by omega)
  have hI := h.ints i 6 (by omega)
  have := run_copy_row (P := Try.prog) w 22 22 ty 3 b (off + 1) 5 5 ⟨b, off, none⟩ i 6 (cellsF n F) T ((toI (o.take i)).map iv64) Try.underlying22 (by kernel_rfl) h1 (by rw [hl, hm]) (fun j v hj => by
    rw [List.getElem?_map] at hj
    obtain ⟨x, hx, rfl⟩ := Option.map_eq_some_iff.1 hj
    obtain ⟨a, cap, he, hc⟩ := hI
    obtain ⟨b2, off2, ha, hb⟩ := hc j x hx
    simp only [Value.slice.injEq] at he
    rw [← he.1] at ha
    simp only [Option.some.injEq, Addr.mk.injEq, and_true] at ha
    obtain ⟨rfl, rfl⟩ := ha
    rw [Addr.add_lit]
    exact hb) (by rw [hl, cellsF_size]; omega) (fun v hv => by
    obtain ⟨x, _, rfl⟩ := List.mem_map.1 hv
    rfl)
  rw [cellsF_part n F (off + 1) _ (by rw [hl]; omega), hl] at this
  unfold cpF
  rw [hl]
  exact this
/-- A builtin copy whose run is known. -/
theorem wpList_copyRunP {P : Program} {ops : Array Oper} {rest : List Oper} {o : Oper} {a : Act} {w : World} {Q : Exit → Act → World → Prop} (hgd : o.guard = none) (d s : Operand) (t t' : TypeId)
    (ho : o.op = .call { callee := .builtin .copy, args := #[d, s], argTypes := #[t, t'] }) (v u : Value) (hd : a.eval d = v) (hs : a.eval s = u) {v' : Value} {w' : World}
    (hr : (Builtin.copy_ #[t, t'] o.type #[v, u]).run P w = .ok v' w') (h : wpList P ops Q rest (a.put o.dst v') w') : wpList P ops Q (o :: rest) a w :=
  wpList_plain hgd fun K hK => by
    unfold Oper.wp execOp
    simp only [ho, resolve, invoke, builtin, Sem.run_bind, Sem.run_pure, Result.andThen_ok, List.map_toArray, List.map_cons, List.map_nil, hd, hs, hr]
    exact hK _ _ h
set_option maxRecDepth 100000 in
theorem sl_from1 (W : World) (b off : Nat) : (Instr.sliceAt 63 (.pointer (some ⟨b, off, none⟩)) (some (.int .i64 1)) none none).run Try.prog W = .ok (.slice (some ⟨b, off + 1, none⟩) 5 5) W := by
  have e : Try.prog.arrayLen 63 = 6 := by kernel_rfl
  have hs : (sizeOf (Try.prog.elem 63)).run Try.prog W = .ok 1 W := by kernel_rfl
  rfl
set_option maxRecDepth 100000 in
theorem sl_to (W : World) (b off i : Nat) (hi : i ≤ 6) : (Instr.sliceAt 63 (.pointer (some ⟨b, off, none⟩)) none (some (.int .i64 (i : Int))) none).run Try.prog W = .ok (.slice (some ⟨b, off, none⟩) i 6) W := by
  have e : Try.prog.arrayLen 63 = 6 := by kernel_rfl
  have hs : (sizeOf (Try.prog.elem 63)).run Try.prog W = .ok 1 W := by kernel_rfl
  rw [run_sliceAt_array_h W _ ⟨b, off, none⟩ (by kernel_rfl) .i64 (i : Int) (by omega) (by rw [e]; omega), hs]
  simp [Result.andThen, slicedAt, e, Addr.add]
set_option maxRecDepth 100000 in
set_option maxHeartbeats 1000000 in
theorem ptake_any (n : Nat) (T : TypeId) (b off i : Nat) (F : Nat → Value) (o : List Nat) (w : World) (h : LstAt n T w b off F o) (hi : i < 6) :
    Calls Try.prog 51 #[.pointer (some ⟨b, off, none⟩), .int .i64 (i : Int)] w fun e w' => e = .returned (ordF o i) ∧ (∃ F', LstAt n T w' b off F' (tch o i) ∧ ∀ k, (k < off ∨ off + 6 ≤ k) → F' k = F k) ∧ Touch (· = b) w w' := by
  have H := Lib.hid h
  have hi2 : (i : Int) < 6 := by omega
  have hi0 : (0 : Int) ≤ (i : Int) := by omega
  have hs1 := fun W => sl_from1 W b off
  have hs2 := fun W => sl_to W b off i (by omega)
  have hoff := h.2.2.1
  have c0 : w.cell? ⟨b, off + i, none⟩ = some (ordF o i) := by rw [(h.1.cell (i := off + i) (by omega)).1, h.2.2.2 i hi]
  have HCP := Lib.hid (fun (ty : Nat) => copy_pk (w := w.drewN 1) (T := T) (F := F) (o := o) ⟨h.1.drewN 1, h.2⟩ i ty hi)
  have HAT := Lib.hid (fun j hj => cpF_at h hi j hj)
  obtain ⟨X, hX⟩ : ∃ X, ordF o i = .int .i64 X := ⟨_, rfl⟩
  rw [hX] at c0 HAT ⊢
  clear h hX
  generalize hG : cpF F off i o = G at *
  have HG := Lib.hid hG
  clear hG
  go_enter Try.func51, Try.ntmps51
  go_wp2_with fail
  go_still_tail 7, (by kernel_rfl)
  refine wpList_copyRunP rfl _ _ 22 22 rfl _ _ rfl rfl (HCP.out _) ?_
  have hset : ((w.drewN 1).setRow b (cellsF n G)).heap[b]? = some (.cells (cellsF n G) T (0, 0)) := setRow_heap _ _ _ _ _ _ (H.out.1.drewN 1)
  have hT1 : Touch (· = b) w ((w.drewN 1).setRow b (cellsF n G)) := ⟨rfl, rfl, rfl, by simp [World.setRow, World.drewN], fun j _ hj => setRow_other (w.drewN 1) b j _ hj⟩
  generalize (w.drewN 1).setRow b (cellsF n G) = W1 at *
  have HO : Hid (ObjF n T W1 b G) := Lib.hid hset
  have HT1 := Lib.hid hT1
  obtain ⟨d0, d1⟩ := HO.out.cell (i := off) (by omega)
  clear hset hT1 HCP hs1 hs2
  go_wp2_with fail
  go_ret
  refine ⟨rfl, ⟨_, ⟨HO.out.set off _, ?_, H.out.2.2.1, HAT.out⟩, ?_⟩, touch_cell HT1.out⟩
  · rw [tch_length o i (by rw [H.out.2.1]; exact hi)]
    exact H.out.2.1
  · intro k hk
    rw [← HG.out]
    exact cpF_far F off i o _ hi k hk
end Go.Proofs.Ytfckghaigbmeaaa

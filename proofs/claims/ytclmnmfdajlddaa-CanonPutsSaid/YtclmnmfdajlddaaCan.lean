/-
  THE WALKS OF LAYER 10's CODE (package canon): a code's object, filled.
-/
import Derived.Test.YtclmnmfdajlddaaCanMathB
import Derived.Test.YtclmnmfdajlddaaInts
import Derived.BigRegion
import Derived.BigQuiet
namespace Go.Proofs.Ytclmnmfdajlddaa
open Go.RowKit CanM HufM
set_option linter.unusedVariables false
/-- One place told anew. -/
def upd (F : Nat → Value) (i : Nat) (v : Value) : Nat → Value := fun k => if k = i then v else F k
theorem upd_same (F : Nat → Value) (i : Nat) (v : Value) : upd F i v i = v := if_pos rfl
theorem upd_ne (F : Nat → Value) {i k : Nat} (v : Value) (h : k ≠ i) : upd F i v k = F k := if_neg h
def cellsF (M : Nat) (F : Nat → Value) : Array Value := ((List.range M).map F).toArray
theorem cellsF_get (M : Nat) (F : Nat → Value) {i : Nat} (hi : i < M) : (cellsF M F)[i]? = some (F i) := by
  unfold cellsF
  rw [List.getElem?_toArray, List.getElem?_map, List.getElem?_range hi]
  rfl
theorem cellsF_set (M : Nat) (F : Nat → Value) (i : Nat) (x : Value) : (cellsF M F).setIfInBounds i x = cellsF M (upd F i x) := by
  apply Array.toList_inj.1
  rw [Array.toList_setIfInBounds]
  show ((List.range M).map F).set i x = (List.range M).map (fun k => if k = i then x else F k)
  apply List.ext_getElem
  · simp
  · intro j h1 h2
    rw [List.getElem_set]
    by_cases e : i = j
    · subst e; simp
    · rw [if_neg e]
      have : ¬ j = i := fun h => e h.symm
      simp [this]
/-- Block b is a code's object, its cells told by F. -/
def Obj838 (w : World) (b : Nat) (F : Nat → Value) : Prop := w.heap[b]? = some (.cells (cellsF 838 F) 68 (0, 0))
theorem Obj838.cell {w : World} {b : Nat} {F : Nat → Value} (h : Obj838 w b F) {i : Nat} (hi : i < 838) : w.cell? ⟨b, i, none⟩ = some (F i) ∧ w.frozen? ⟨b, i, none⟩ = false :=
  ⟨(cell_of_row _ _ _ _ _ _ h).trans (cellsF_get 838 F hi), frozen_of_row _ _ _ _ _ h⟩
theorem Obj838.set {w : World} {b : Nat} {F : Nat → Value} (h : Obj838 w b F) (i : Nat) (x : Value) : Obj838 (w.setCell ⟨b, i, none⟩ x) b (upd F i x) := by
  have := heap_setCell_same w b i _ _ x h
  rw [cellsF_set] at this
  exact this
theorem Obj838.other {w w' : World} {b : Nat} {F : Nat → Value} (h : Obj838 w b F) {S : Nat → Prop} (ht : Touch S w w') (hS : ¬ S b) : Obj838 w' b F :=
  (ht.block b (Array.getElem?_eq_some_iff.1 h).1 hS).trans h
theorem Obj838.drewN {w : World} {b : Nat} {F : Nat → Value} (h : Obj838 w b F) (n : Nat) : Obj838 (w.drewN n) b F := h
/-- How far a code is filled: symbols of fewer than n bits, and of n bits those below i; first codes below k1; ends below k2. -/
structure CF (zs : List Int) (F : Nat → Value) (n i k1 k2 : Nat) : Prop where
  size : F 0 = .int .i64 (zs.length : Int)
  sym : ∀ j, j < zs.length → (ln zs j < n ∨ (ln zs j = n ∧ j < i)) → F (1 + j) = .int .i64 (ln zs j : Int) ∧ F (259 + j) = .int .u32 ((fcod zs (ln zs j) + rank zs (ln zs j) j : Nat) : Int) ∧ F (517 + plc zs j) = .int .i64 (j : Int)
  fst : ∀ m, 1 ≤ m → m < k1 → F (775 + m) = .int .u32 (fcod zs m : Int) ∧ F (796 + m) = .int .i64 (cl zs m : Int)
  end_ : ∀ m, 1 ≤ m → m < k2 → F (817 + m) = .int .u32 (((fcod zs m + rank zs m zs.length) * sz m : Nat) : Int)
theorem CF.first {zs : List Int} {F : Nat → Value} {n k2 : Nat} (h : CF zs F n 0 n k2) (hz : zs.length ≤ 258) (h1 : 1 ≤ n) (h20 : n ≤ 20) (hk2 : k2 ≤ 21) :
    CF zs (upd (upd F (775 + n) (.int .u32 (fcod zs n : Int))) (796 + n) (.int .i64 (cl zs n : Int))) n 0 (n + 1) k2 := by
  obtain ⟨a, b, c, d⟩ := h
  refine ⟨?_, fun j hj hh => ?_, fun m hm hmk => ?_, fun m hm hmk => ?_⟩
  · rw [upd_ne _ _ (by omega), upd_ne _ _ (by omega)]; exact a
  · have hp := plc_bound zs hj
    obtain ⟨b1, b2, b3⟩ := b j hj hh
    rw [upd_ne _ _ (by omega), upd_ne _ _ (by omega), upd_ne _ _ (by omega), upd_ne _ _ (by omega), upd_ne _ _ (by omega), upd_ne _ _ (by omega)]
    exact ⟨b1, b2, b3⟩
  · by_cases e : m = n
    · subst e
      rw [upd_same, upd_ne _ _ (by omega), upd_same]
      exact ⟨rfl, rfl⟩
    · rw [upd_ne _ _ (by omega), upd_ne _ _ (by omega), upd_ne _ _ (by omega), upd_ne _ _ (by omega)]
      exact c m hm (by omega)
  · rw [upd_ne _ _ (by omega), upd_ne _ _ (by omega)]; exact d m hm hmk
theorem CF.push {zs : List Int} {F : Nat → Value} {n i k1 k2 : Nat} (h : CF zs F n i k1 k2) (hz : zs.length ≤ 258) (hi : i < zs.length) (hn : ln zs i = n) (C P : Nat) (hC : C = fcod zs n + rank zs n i) (hP : P = cl zs n + rank zs n i) :
    CF zs (upd (upd (upd F (1 + i) (.int .i64 (n : Int))) (259 + i) (.int .u32 (C : Int))) (517 + P) (.int .i64 (i : Int))) n (i + 1) k1 k2 := by
  obtain ⟨a, b, c, d⟩ := h
  have hPp : P = plc zs i := by unfold plc; rw [hn]; exact hP
  have hpi := plc_bound zs hi
  refine ⟨?_, fun j hj hh => ?_, fun m hm hmk => ?_, fun m hm hmk => ?_⟩
  · rw [upd_ne _ _ (by omega), upd_ne _ _ (by omega), upd_ne _ _ (by omega)]; exact a
  · have hp := plc_bound zs hj
    by_cases e : j = i
    · subst e
      refine ⟨?_, ?_, ?_⟩
      · rw [upd_ne _ _ (by omega), upd_ne _ _ (by omega), upd_same, hn]
      · rw [upd_ne _ _ (by omega), upd_same, hn, hC]
      · rw [hPp, upd_same]
    · obtain ⟨b1, b2, b3⟩ := b j hj (by omega)
      have hne := plc_ne zs hj hi e
      rw [upd_ne _ _ (by omega), upd_ne _ _ (by omega), upd_ne _ _ (by omega), upd_ne _ _ (by omega), upd_ne _ _ (by omega), upd_ne _ _ (by omega), upd_ne _ _ (by omega), upd_ne _ _ (by omega), upd_ne _ _ (by omega)]
      exact ⟨b1, b2, b3⟩
  · rw [upd_ne _ _ (by omega), upd_ne _ _ (by omega), upd_ne _ _ (by omega), upd_ne _ _ (by omega), upd_ne _ _ (by omega), upd_ne _ _ (by omega)]
    exact c m hm hmk
  · rw [upd_ne _ _ (by omega), upd_ne _ _ (by omega), upd_ne _ _ (by omega)]
    exact d m hm hmk
theorem CF.skip {zs : List Int} {F : Nat → Value} {n i k1 k2 : Nat} (h : CF zs F n i k1 k2) (hn : ¬ ln zs i = n) : CF zs F n (i + 1) k1 k2 :=
  ⟨h.size, fun j hj hh => h.sym j hj (by
    rcases hh with h1 | ⟨h1, h2⟩
    · exact Or.inl h1
    · by_cases e : j = i
      · subst e; exact absurd h1 hn
      · exact Or.inr ⟨h1, by omega⟩), h.fst, h.end_⟩
theorem CF.last {zs : List Int} {F : Nat → Value} {n k1 : Nat} (h : CF zs F n zs.length k1 n) (hz : zs.length ≤ 258) (h1 : 1 ≤ n) (h20 : n ≤ 20) (hk1 : k1 ≤ 21) (V : Nat) (hV : V = (fcod zs n + rank zs n zs.length) * sz n) :
    CF zs (upd F (817 + n) (.int .u32 (V : Int))) (n + 1) 0 k1 (n + 1) := by
  obtain ⟨a, b, c, d⟩ := h
  refine ⟨?_, fun j hj hh => ?_, fun m hm hmk => ?_, fun m hm hmk => ?_⟩
  · rw [upd_ne _ _ (by omega)]; exact a
  · have hp := plc_bound zs hj
    obtain ⟨b1, b2, b3⟩ := b j hj (by omega)
    rw [upd_ne _ _ (by omega), upd_ne _ _ (by omega), upd_ne _ _ (by omega)]
    exact ⟨b1, b2, b3⟩
  · rw [upd_ne _ _ (by omega), upd_ne _ _ (by omega)]; exact c m hm hmk
  · by_cases e : m = n
    · subst e; rw [upd_same, hV]
    · rw [upd_ne _ _ (by omega)]; exact d m hm (by omega)
/-- v is the code of a whole code's lengths. -/
def IsCode (w : World) (b : Nat) (zs : List Int) : Prop := ∃ F, Obj838 w b F ∧ CF zs F 21 0 21 21
theorem IsCode.other {w w' : World} {b : Nat} {zs : List Int} (h : IsCode w b zs) {S : Nat → Prop} (ht : Touch S w w') (hS : ¬ S b) : IsCode w' b zs := by
  obtain ⟨F, h1, h2⟩ := h
  exact ⟨F, h1.other ht hS, h2⟩
theorem sz_le (n : Nat) : sz n ≤ 1048576 := Nat.pow_le_pow_right (by decide) (show 20 - n ≤ 20 by omega)
theorem code_le {zs : List Int} (hs : shr zs = 1048576) {n : Nat} (hn : n ≤ 20) : fcod zs n + rank zs n zs.length ≤ 1048576 := by
  have h1 := fcod_bound zs n hn
  have h2 := sz_pos n
  rw [hs] at h1
  exact Nat.le_trans (Nat.le_mul_of_pos_right _ h2) h1
set_option maxRecDepth 100000 in
set_option maxHeartbeats 4000000 in
theorem fill_any (b : Nat) (v : Value) (zs : List Int) (w0 w : World) (F0 : Nat → Value) (hF : Obj838 w b F0) (h0 : F0 0 = .int .i64 (zs.length : Int)) (hv : IsInts w0 v zs) (hb0 : w0.heap.size ≤ b) (hB : Below w0.heap.size w0 w)
    (hz : zs.length ≤ 258) (hw : ∀ z ∈ zs, 1 ≤ z ∧ z ≤ 20) (hs : shr zs = 1048576) :
    Calls Try.prog 53 #[.pointer (some ⟨b, 0, none⟩), v] w fun e w' => e = .returned (.tuple #[]) ∧ IsCode w' b zs ∧ Touch (· = b) w w' := by
  have HV := Lib.hid hv
  have HB0 := Lib.hid hB
  have HW := Lib.hid hw
  have HS := Lib.hid hs
  have HF0 := Lib.hid hF
  obtain ⟨a, cap, rfl, _⟩ := hv
  obtain ⟨N, hN⟩ : ∃ N, zs.length = N := ⟨_, rfl⟩
  have HN := Lib.hid hN
  have hstart : Hid (CF zs F0 1 0 1 1) := Lib.hid ⟨h0, fun j hj hh => by
    have h3 := hw (zs.getD j 0) (by rw [List.getD_eq_getElem?_getD, List.getElem?_eq_getElem hj]; exact List.getElem_mem hj)
    unfold ln at hh
    omega, fun m h1 h2 => by omega, fun m h1 h2 => by omega⟩
  have hc0 : Hid (fcod zs 0 + rank zs 0 zs.length = 0 ∧ cl zs 1 = 0) := Lib.hid ⟨by rw [fcod_zero, rank_zero (fun z h => (hw z h).1)], cl_one (fun z h => (hw z h).1)⟩
  rw [hN] at hz ⊢
  have hgb : Hid (w0.heap.size ≤ b) := Lib.hid hb0
  clear hB hw hs hF h0 hN hb0
  go_enter Try.func53, Try.ntmps53
  go_wp2_with fail
  go_loopw [4, 5, 6] (fun vp vc vn wr => ∃ (n P C : Nat) (F : Nat → Value), vn = .int .i64 (n : Int) ∧ vp = .int .i64 (P : Int) ∧ vc = .int .u32 (C : Int) ∧ 1 ≤ n ∧ n ≤ 21 ∧ P = cl zs n ∧ C = fcod zs (n - 1) + rank zs (n - 1) N ∧ Obj838 wr b F ∧ CF zs F n 0 n n ∧ Touch (· = b) w wr) (fun _ _ vn _ => 21 - (intOf vn).toNat)
  case atStart => exact ⟨1, 0, 0, F0, rfl, rfl, rfl, by omega, by omega, hc0.out.2.symm, by have := hc0.out.1; rw [HN.out] at this; exact this.symm, HF0.out, hstart.out, Touch.refl _ _⟩
  case round =>
    obtain ⟨n, P, C, F, rfl, rfl, rfl, hn1, hn2, hP, hC, hO, hF, hT⟩ := hrel
    have HO := Lib.hid hO
    have HF := Lib.hid hF
    have HT := Lib.hid hT
    have HP := Lib.hid hP
    have HC := Lib.hid hC
    have hPb : P ≤ 258 := by have := cl_le zs n; rw [HN.out] at this; omega
    have hCb : C ≤ 1048576 := by
      have := code_le HS.out (n := n - 1) (by omega)
      rw [HN.out] at this
      omega
    clear hO hF hT hP hC
    by_cases hn : n ≤ 20
    · have hni : (n : Int) ≤ 20 := by omega
      obtain ⟨A1, hA1⟩ : ∃ A1, 775 + n = A1 := ⟨_, rfl⟩
      obtain ⟨A2, hA2⟩ : ∃ A2, 796 + n = A2 := ⟨_, rfl⟩
      have hn21 : (n : Int) < 21 := by omega
      obtain ⟨c1, f1⟩ := HO.out.cell (i := A1) (by omega)
      obtain ⟨c2, f2⟩ := HO.out.cell (i := A2) (by omega)
      have c3 := fun v => ((HO.out.set A1 v).cell (i := A2) (by omega)).1
      have f3 := fun v => ((HO.out.set A1 v).cell (i := A2) (by omega)).2
      obtain ⟨C2, hC2⟩ : ∃ C2, C * 2 = C2 := ⟨_, rfl⟩
      have hC2I : (C : Int) * 2 = (C2 : Int) := by omega
      have HFC : Hid (C2 = fcod zs n) := Lib.hid (by
        have h1 := fcod_succ zs (n := n - 1) (by omega)
        rw [show n - 1 + 1 = n by omega, HN.out, ← HC.out] at h1
        omega)
      have HO5 : Hid (Obj838 (((wr.setCell ⟨b, A1, none⟩ (.int .u32 (C2 : Int))).setCell ⟨b, A2, none⟩ (.int .i64 (P : Int))).drew) b (upd (upd F A1 (.int .u32 (C2 : Int))) A2 (.int .i64 (P : Int)))) := Lib.hid (((HO.out.set _ _).set _ _).drewN 1)
      have HF5 : Hid (CF zs (upd (upd F A1 (.int .u32 (C2 : Int))) A2 (.int .i64 (P : Int))) n 0 (n + 1) n) := Lib.hid (by
        have := HF.out.first (by rw [HN.out]; exact hz) hn1 hn (by omega)
        rw [hA1, hA2, ← HFC.out, ← HP.out] at this
        exact this)
      have HT5 : Hid (Touch (· = b) w (((wr.setCell ⟨b, A1, none⟩ (.int .u32 (C2 : Int))).setCell ⟨b, A2, none⟩ (.int .i64 (P : Int))).drew)) := Lib.hid (touch_cell (touch_cell HT.out)).drew
      have HA1 := Lib.hid hA1
      have HA2 := Lib.hid hA2
      have hC2b : C2 ≤ 1048576 := by
        have h1 := code_le HS.out (n := n) hn
        have h2 := HFC.out
        omega
      clear hC2
      go_wp2_with fail
      go_region
      generalize (((wr.setCell ⟨b, A1, none⟩ (.int .u32 (C2 : Int))).setCell ⟨b, A2, none⟩ (.int .i64 (P : Int))).drew) = w5 at *
      generalize upd (upd F A1 (.int .u32 (C2 : Int))) A2 (.int .i64 (P : Int)) = F5 at *
      clear c1 f1 c2 f2 c3 f3 hA1 hA2
      go_wp2_with fail
      go_loopw [4, 5, 29] (fun vp vc vj w6 => ∃ (j P' C' : Nat) (F' : Nat → Value), vj = .int .i64 (j : Int) ∧ vp = .int .i64 (P' : Int) ∧ vc = .int .u32 (C' : Int) ∧ j ≤ N ∧ P' = cl zs n + rank zs n j ∧ C' = fcod zs n + rank zs n j ∧ Obj838 w6 b F' ∧ CF zs F' n j (n + 1) n ∧ Touch (· = b) w w6) (fun _ _ vj _ => N - (intOf vj).toNat)
      case atStart => exact ⟨0, P, C2, F5, rfl, rfl, rfl, by omega, by have h1 := HP.out; have : rank zs n 0 = 0 := rfl; omega, by have h1 := HFC.out; have : rank zs n 0 = 0 := rfl; omega, HO5.out, HF5.out, HT5.out⟩
      case round =>
        obtain ⟨j, P', C', F', rfl, rfl, rfl, hj, hP', hC', hO', hF', hT'⟩ := hrel
        have HO' := Lib.hid hO'
        have HF' := Lib.hid hF'
        have HT' := Lib.hid hT'
        have HP' := Lib.hid hP'
        have HC' := Lib.hid hC'
        have hrk := rank_mono zs n j (N - j)
        rw [show j + (N - j) = N by omega] at hrk
        have hcn := cl_succ zs n
        have hcl := cl_le zs (n + 1)
        rw [HN.out] at hcn hcl
        have hPb' : P' ≤ 258 := by omega
        have hCb' : C' ≤ 1048576 := by
          have h1 := code_le HS.out (n := n) hn
          rw [HN.out] at h1
          omega
        clear hO' hF' hT' hP' hC' hrk hcn hcl
        by_cases hlj : j < N
        · have hji : (j : Int) < (N : Int) := by omega
          have hlz : j < zs.length := by rw [HN.out]; exact hlj
          obtain ⟨b1, o1, k1, he1, c1⟩ := HV.out.cell hlz
          rw [HN.out] at he1
          simp only [Value.slice.injEq] at he1
          obtain ⟨rfl, _, rfl⟩ := he1
          have hB6 : Below w0.heap.size w0 wr := HB0.out.trans (HT'.out.below (B := w0.heap.size) HB0.out.size (fun i hi => by have e : i = b := hi; have := hgb.out; omega))
          have c1 := (hB6.cell (cell_lt c1)).trans c1
          have hx2 := HW.out (zs.getD j 0) (by rw [List.getD_eq_getElem?_getD, List.getElem?_eq_getElem hlz]; exact List.getElem_mem hlz)
          obtain ⟨X, hX⟩ : ∃ X, ln zs j = X := ⟨_, rfl⟩
          have hXI : zs.getD j 0 = (X : Int) := by unfold ln at hX; omega
          rw [hXI] at c1
          have HX := Lib.hid hX
          clear hB6 hXI hX
          by_cases hxn : X = n
          · have hxe : ((X : Int) == (n : Int)) = true := by rw [beq_iff_eq]; omega
            have HXN := Lib.hid hxn
            have hxa : X ≤ n := by omega
            have hxb : n ≤ X := by omega
            have hj258 : (j : Int) < 258 := by omega
            have hPlt : P' < 258 := by
              have h1 := plc_bound zs hlz
              unfold plc at h1
              rw [HX.out, hxn, ← HP'.out, HN.out] at h1
              omega
            have hPi : (P' : Int) < 258 := by omega
            obtain ⟨B1, hB1⟩ : ∃ B1, 1 + j = B1 := ⟨_, rfl⟩
            obtain ⟨B2, hB2⟩ : ∃ B2, 259 + j = B2 := ⟨_, rfl⟩
            obtain ⟨B3, hB3⟩ : ∃ B3, 517 + P' = B3 := ⟨_, rfl⟩
            obtain ⟨d1, g1⟩ := HO'.out.cell (i := B1) (by omega)
            obtain ⟨d2, g2⟩ := HO'.out.cell (i := B2) (by omega)
            obtain ⟨d3, g3⟩ := HO'.out.cell (i := B3) (by omega)
            have d4 := fun v => ((HO'.out.set B1 v).cell (i := B2) (by omega)).1
            have g4 := fun v => ((HO'.out.set B1 v).cell (i := B2) (by omega)).2
            have d5 := fun v u => (((HO'.out.set B1 v).set B2 u).cell (i := B3) (by omega)).1
            have g5 := fun v u => (((HO'.out.set B1 v).set B2 u).cell (i := B3) (by omega)).2
            have HB1 := Lib.hid hB1
            have HB2 := Lib.hid hB2
            have HB3 := Lib.hid hB3
            have HO7 : Hid (Obj838 ((((wr.setCell ⟨b, B1, none⟩ (.int .i64 (n : Int))).setCell ⟨b, B2, none⟩ (.int .u32 (C' : Int))).setCell ⟨b, B3, none⟩ (.int .i64 (j : Int))).drew) b (upd (upd (upd F' B1 (.int .i64 (n : Int))) B2 (.int .u32 (C' : Int))) B3 (.int .i64 (j : Int)))) := Lib.hid ((((HO'.out.set _ _).set _ _).set _ _).drewN 1)
            have HT7 : Hid (Touch (· = b) w ((((wr.setCell ⟨b, B1, none⟩ (.int .i64 (n : Int))).setCell ⟨b, B2, none⟩ (.int .u32 (C' : Int))).setCell ⟨b, B3, none⟩ (.int .i64 (j : Int))).drew)) := Lib.hid (touch_cell (touch_cell (touch_cell HT'.out))).drew
            have HF7 : Hid (CF zs (upd (upd (upd F' B1 (.int .i64 (n : Int))) B2 (.int .u32 (C' : Int))) B3 (.int .i64 (j : Int))) n (j + 1) (n + 1) n) := Lib.hid (by
              rw [← hB1, ← hB2, ← hB3]
              exact HF'.out.push (by rw [HN.out]; exact hz) hlz (by rw [HX.out, hxn]) C' P' HC'.out HP'.out)
            have hrs : Hid (rank zs n (j + 1) = rank zs n j + 1) := Lib.hid (by
              have := rank_succ zs n j
              rw [if_pos (show (zs.getD j 0).toNat = n by have := HX.out; unfold ln at this; omega)] at this
              exact this)
            clear hxn
            go_wp2_with fail
            go_region
            generalize ((((wr.setCell ⟨b, B1, none⟩ (.int .i64 (n : Int))).setCell ⟨b, B2, none⟩ (.int .u32 (C' : Int))).setCell ⟨b, B3, none⟩ (.int .i64 (j : Int))).drew) = w7 at *
            generalize upd (upd (upd F' B1 (.int .i64 (n : Int))) B2 (.int .u32 (C' : Int))) B3 (.int .i64 (j : Int)) = F7 at *
            clear d1 g1 d2 g2 d3 g3 d4 g4 d5 g5 hB1 hB2 hB3
            go_wp2_with fail
            go_roundw
            case rel => exact ⟨j + 1, P' + 1, C' + 1, F7, by go_num, by go_num, by go_num, by omega, by have h1 := HP'.out; have h2 := hrs.out; omega, by have h1 := HC'.out; have h2 := hrs.out; omega, HO7.out, HF7.out, HT7.out⟩
            case measure => simp [intOf]; omega
          · have hxe : ((X : Int) == (n : Int)) = false := by rw [beq_eq_false_iff_ne]; omega
            have HF7 : Hid (CF zs F' n (j + 1) (n + 1) n) := Lib.hid (HF'.out.skip (by rw [HX.out]; exact hxn))
            have hrs : Hid (rank zs n (j + 1) = rank zs n j) := Lib.hid (by
              have := rank_succ zs n j
              rw [if_neg (show ¬ (zs.getD j 0).toNat = n by have := HX.out; unfold ln at this; omega)] at this
              exact this)
            go_wp2_with fail
            go_roundw
            case rel => exact ⟨j + 1, P', C', F', by go_num, rfl, rfl, by omega, by have h1 := HP'.out; have h2 := hrs.out; omega, by have h1 := HC'.out; have h2 := hrs.out; omega, HO'.out, HF7.out, HT'.out⟩
            case measure => simp [intOf]; omega
        · have hji : ¬ (j : Int) < (N : Int) := by omega
          obtain rfl : N = j := by omega
          obtain ⟨D1, hD1⟩ : ∃ D1, 817 + n = D1 := ⟨_, rfl⟩
          obtain ⟨d1, g1⟩ := HO'.out.cell (i := D1) (by omega)
          obtain ⟨S, hS⟩ : ∃ S : Nat, 20 - n = S := ⟨_, rfl⟩
          have hSI : (20 : Int) - (n : Int) = (S : Int) := by omega
          have hS0 : ¬ (20 : Int) - (n : Int) < 0 := by omega
          have hSb : S ≤ 20 := by omega
          obtain ⟨V, hV⟩ : ∃ V, C' * 2 ^ S = V := ⟨_, rfl⟩
          have hVb : V ≤ 1048576 := by
            have h1 := fcod_bound zs n hn
            rw [HS.out, HN.out, ← HC'.out] at h1
            unfold sz at h1
            rw [hS, hV] at h1
            exact h1
          have HVV : Hid (V = (fcod zs n + rank zs n zs.length) * sz n) := Lib.hid (by
            rw [HN.out, ← HC'.out]
            unfold sz
            rw [hS, hV])
          have HV2 : Hid ((C' : Int) * 2 ^ S = (V : Int)) := Lib.hid (by rw [← hV]; rw [Int.natCast_mul, Int.natCast_pow]; rfl)
          have HF8 : Hid (CF zs (upd F' D1 (.int .u32 (V : Int))) (n + 1) 0 (n + 1) (n + 1)) := Lib.hid (by
            rw [← hD1]
            have h1 := HF'.out
            rw [← HN.out] at h1
            exact h1.last (by rw [HN.out]; exact hz) hn1 hn (by omega) V HVV.out)
          have hcl : Hid (P' = cl zs (n + 1)) := Lib.hid (by rw [cl_succ, HN.out]; exact HP'.out)
          have HD1 := Lib.hid hD1
          have HVm : (C' : Int) * 2 ^ S % 4294967296 = (V : Int) := by rw [HV2.out]; omega
          have HO8 : Hid (Obj838 ((wr.setCell ⟨b, D1, none⟩ (.int .u32 (V : Int))).drew) b (upd F' D1 (.int .u32 (V : Int)))) := Lib.hid ((HO'.out.set _ _).drewN 1)
          have HT8 : Hid (Touch (· = b) w ((wr.setCell ⟨b, D1, none⟩ (.int .u32 (V : Int))).drew)) := Lib.hid (touch_cell HT'.out).drew
          clear hS hV
          go_wp2_with fail
          go_region
          generalize ((wr.setCell ⟨b, D1, none⟩ (.int .u32 (V : Int))).drew) = w8 at *
          generalize upd F' D1 (.int .u32 (V : Int)) = F8 at *
          clear HVm hD1
          go_wp2_with fail
          go_roundw
          case rel => exact ⟨n + 1, P', C', F8, by go_num, rfl, rfl, by omega, by omega, hcl.out, by rw [Nat.add_sub_cancel]; exact HC'.out, HO8.out, HF8.out, HT8.out⟩
          case measure => simp [intOf]; omega
    · have hni : ¬ (n : Int) ≤ 20 := by omega
      obtain rfl : n = 21 := by omega
      go_wp2_with fail
      go_end0
      exact ⟨rfl, ⟨F, HO.out, HF.out⟩, HT.out⟩
end Go.Proofs.Ytclmnmfdajlddaa

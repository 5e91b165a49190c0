/-
  THE WALKS OF THE DOCUMENT's ANSWERS OF LAYER 7 (balerref07): Put of a code of a row.
-/
import Derived.Test.YthfdmmlamomlkaaZerRefC
namespace Go.Proofs.Ythfdmmlamomlkaa
open Go.RowKit ZerM
set_option linter.unusedVariables false
theorem PutW.init (w : World) (n : Int) (most : Nat) (told : Int) (u : Value) : PutW w n most told u (((w.alloc (.cells (rdc n most told u false) 39)).alloc (.cells (stc 0 0 0 (.slice none 0 0) false 0 0 0) 43)).alloc (.cells (rdc n most told u false) 39)) told u false := by
  obtain ⟨h0, h1, h2, h3⟩ := heap_three w (.cells (rdc n most told u false) 39) (.cells (stc 0 0 0 (.slice none 0 0) false 0 0 0) 43) (.cells (rdc n most told u false) 39)
  exact ⟨h0, h1, h2, by omega, (((Below.refl _ _).alloc (Nat.le_refl _) _).alloc (by simp) _).alloc (by simp; omega) _⟩
theorem PutW.cells {w W : World} {n : Int} {most : Nat} {told : Int} {u : Value} {told' : Int} {u' : Value} {d' : Bool} (h : PutW w n most told u W told' u' d') :
    W.cell? ⟨w.heap.size, 0, none⟩ = some (.int .i64 n) ∧ W.cell? ⟨w.heap.size, 1, none⟩ = some (.int .i64 (most : Int)) ∧ W.cell? ⟨w.heap.size, 2, none⟩ = some (.int .i64 told) ∧ W.cell? ⟨w.heap.size, 3, none⟩ = some u ∧ W.cell? ⟨w.heap.size, 4, none⟩ = some (.bool false) ∧
    W.cell? ⟨w.heap.size + 1 + 1, 0, none⟩ = some (.int .i64 n) ∧ W.cell? ⟨w.heap.size + 1 + 1, 1, none⟩ = some (.int .i64 (most : Int)) ∧ W.cell? ⟨w.heap.size + 1 + 1, 2, none⟩ = some (.int .i64 told') ∧ W.cell? ⟨w.heap.size + 1 + 1, 3, none⟩ = some u' ∧ W.cell? ⟨w.heap.size + 1 + 1, 4, none⟩ = some (.bool d') ∧
    W.frozen? ⟨w.heap.size + 1 + 1, 2, none⟩ = false ∧ W.frozen? ⟨w.heap.size + 1 + 1, 3, none⟩ = false ∧ W.frozen? ⟨w.heap.size + 1 + 1, 4, none⟩ = false := by
  obtain ⟨h0, h1, h2, _⟩ := h
  refine ⟨?_, ?_, ?_, ?_, ?_, ?_, ?_, ?_, ?_, ?_, frozen_of_row _ _ _ _ _ h2, frozen_of_row _ _ _ _ _ h2, frozen_of_row _ _ _ _ _ h2⟩
  iterate 5 (first | (rw [cell_of_row _ _ _ _ _ _ h0]; rfl) | skip)
  all_goals first | (rw [cell_of_row _ _ _ _ _ _ h0]; rfl) | (rw [cell_of_row _ _ _ _ _ _ h2]; rfl)
theorem PutW.set {w W : World} {n : Int} {most : Nat} {told : Int} {u : Value} {told' : Int} {u' : Value} {d' : Bool} (h : PutW w n most told u W told' u' d') (i : Nat) (x : Value) (told'' : Int) (u'' : Value) (d'' : Bool)
    (he : (rdc n most told' u' d').setIfInBounds i x = rdc n most told'' u'' d'') : PutW w n most told u (W.setCell ⟨w.heap.size + 1 + 1, i, none⟩ x) told'' u'' d'' := by
  obtain ⟨h0, h1, h2, h3, h4⟩ := h
  refine ⟨?_, ?_, ?_, by simpa [World.setCell] using h3, h4.setCell (by show w.heap.size ≤ w.heap.size + 1 + 1; omega) _⟩
  · exact (heap_setCell_other W _ _ _ (by show w.heap.size ≠ w.heap.size + 1 + 1; omega)).trans h0
  · exact (heap_setCell_other W _ _ _ (by show w.heap.size + 1 ≠ w.heap.size + 1 + 1; omega)).trans h1
  · rw [← he]
    exact heap_setCell_same W _ i _ _ x h2
theorem PutW.told {w W : World} {n : Int} {most : Nat} {told : Int} {u : Value} {told' : Int} {u' : Value} {d' : Bool} (h : PutW w n most told u W told' u' d') (cs : Array Value) (hB : Below w.heap.size w W) :
    (W.setRow (w.heap.size + 1) cs).heap[w.heap.size + 1]? = some (.cells cs 43 (0, 0)) ∧ Below w.heap.size w (W.setRow (w.heap.size + 1) cs) :=
  ⟨setRow_heap W _ _ cs _ (0, 0) h.2.1, below_setRow hB (by omega) cs⟩
set_option maxRecDepth 100000 in
set_option maxHeartbeats 4000000 in
theorem rput_part (n : Int) (most : Nat) (s : St) (c : Int) (u : Value) (w : World) (hu : OwnI w 0 u s.rc) (h1 : 1 ≤ n) (h2 : n ≤ 256) (hok : Ok most s) (hm : most ≤ 1099511627776) (hd : s.done = false) (hc0 : 0 ≤ c) (hc2 : c < 2) :
    Calls Try.prog 25 #[.agg #[.int .i64 n, .int .i64 (most : Int), .int .i64 (s.out.length : Int), u, .bool s.done], .int .i64 c] w (RPutP n most s c u w) := by
  have HU := Lib.hid hu
  have hL := hok.len hm
  have hcl := hok.le
  have hcnt : cnt (putS n s c) = cnt s + (1 + c.toNat) * 2 ^ s.rc.length := cnt_part hc2
  have hXl : (1 + c.toNat) * 2 ^ s.rc.length ≤ 2199023255552 := by
    have hp : 2 ^ s.rc.length ≤ 2 ^ 40 := Nat.pow_le_pow_right (by omega) hL
    simp at hp
    rcases (show c = 0 ∨ c = 1 by omega) with rfl | rfl <;> (simp; omega)
  have hcv : cnt s = s.out.length + val s.rc := rfl
  have hcv2 : cnt (putS n s c) = s.out.length + val (s.rc ++ [c]) := by rw [putS_part hc2]; rfl
  obtain ⟨C, hC⟩ : ∃ C, cnt (putS n s c) = C := ⟨_, rfl⟩
  have hCb : C ≤ 3298534883328 := by omega
  have HCO := Lib.hid (fun W u' (h : OwnI W 0 u' (s.rc ++ [c])) => rcount_any n most ⟨s.out, s.rc ++ [c], false⟩ u' C W h (hok.bin.snoc (by omega)) (by simp; omega) (by show val (s.rc ++ [c]) ≤ _; omega) (by show s.out.length ≤ _; omega) (by rw [← hC, putS_part hc2]))
  have HPS := Lib.hid (show putS n s c = ⟨s.out, s.rc ++ [c], false⟩ from putS_part hc2)
  have HZ : Hid (putZ s c = 0) := Lib.hid (by unfold putZ; rw [if_pos hc2])
  have HP : Hid (putP n c = -1) := Lib.hid (by unfold putP; rw [if_pos (Or.inl hc2)])
  have HE : Hid (putE n most s c = if most < C then 2 else 0) := Lib.hid (by
    unfold putE; rw [if_neg (by simp [hd]), if_neg (by omega), hC])
  have hw1 : IntKind.i64.wrap (n + 1) = n + 1 := IntWalk.i64_in _ (by omega)
  have hn1c : ¬ n + 1 < c := by omega
  have HD := Lib.hid hd
  obtain ⟨a, cap, hus⟩ := hu.slice
  have hlen : s.rc.length + 1 ≤ 17592186044416 := by omega
  rw [hd]
  clear hu hXl hcnt hcv hcv2 hok hd hcl hC
  have HI := Lib.hid (PutW.init w n most (s.out.length : Int) u)
  have HSRC : Hid (OwnI (((w.alloc (.cells (rdc n most (s.out.length : Int) u false) 39)).alloc (.cells (stc 0 0 0 (.slice none 0 0) false 0 0 0) 43)).alloc (.cells (rdc n most (s.out.length : Int) u false) 39)) 0 u s.rc) := Lib.hid (((HU.out.alloc _).alloc _).alloc _)
  have hsz : (((w.alloc (.cells (rdc n most (s.out.length : Int) u false) 39)).alloc (.cells (stc 0 0 0 (.slice none 0 0) false 0 0 0) 43)).alloc (.cells (rdc n most (s.out.length : Int) u false) 39)).heap.size = w.heap.size + 3 := by simp
  subst hus
  go_enter Try.func25, Try.ntmps25
  go_wp2_with (at_builtin; go_loud (refine push_own _ rfl _ _ rfl (w.heap.size + 3) _ [] 0 _ s.rc (OwnI.nil _ _) (by exact HSRC.out) rfl rfl (by simp; omega) (by exact Nat.le_of_eq hsz.symm) ?_))
  intro v1 w1 hO1 hB1
  have HO1 := Lib.hid hO1
  have HI1 := Lib.hid (HI.out.below hB1 (Nat.le_refl _))
  have hs1 : w.heap.size + 3 ≤ w1.heap.size := HI1.out.2.2.2.1
  clear hO1 hB1 HI HSRC hsz
  go_wp2_with (at_builtin; go_loud (refine push_int w1 rfl _ _ rfl (w.heap.size + 3) _ ([] ++ s.rc) c HO1.out rfl rfl (by simpa using hlen) hs1 ?_))
  intro v2 w2 hO2 hB2
  obtain ⟨a2, N, cap2, rfl⟩ : ∃ a2 N cap2, v2 = .slice a2 N cap2 := by
    obtain ⟨a2, cap2, h⟩ := hO2.slice
    exact ⟨a2, _, cap2, h⟩
  have HI2 := Lib.hid (HI1.out.below hB2 (Nat.le_refl _))
  obtain ⟨d0, d1, d2, d3, d4, e0, e1, e2, e3, e4, f2, f3, f4⟩ := HI2.out.cells
  have HI3 := Lib.hid (HI2.out.set 3 (.slice a2 N cap2) (s.out.length : Int) (.slice a2 N cap2) false rfl)
  have HO3 : Hid (OwnI (w2.setCell ⟨w.heap.size + 1 + 1, 3, none⟩ (.slice a2 N cap2)) (w.heap.size + 3) (.slice a2 N cap2) (s.rc ++ [c])) := Lib.hid (by
    have h := ownsRow_far hO2 (w.heap.size + 1 + 1) (by omega) 3 (.slice a2 N cap2)
    unfold OwnI
    simpa using h)
  clear hO2 hB2 HI1 HO1
  go_wp2_with fail
  generalize w2.setCell ⟨w.heap.size + 1 + 1, 3, none⟩ (.slice a2 N cap2) = W3 at *
  clear d0 d1 d2 d3 d4 e0 e1 e2 e3 e4 f2 f3 f4 HI2
  obtain ⟨d0, d1, d2, d3, d4, e0, e1, e2, e3, e4, f2, f3, f4⟩ := HI3.out.cells
  have hG : w.heap.size + 3 ≤ W3.heap.size := HI3.out.2.2.2.1
  have q1 : ∀ sb : Beneath W3.heap.size W3, sb.val.cell? ⟨w.heap.size, 1, none⟩ = some (.int .i64 (most : Int)) := fun sb => Beneath.cell d1 (by show w.heap.size < _; omega) sb
  have r0 : ∀ sb : Beneath W3.heap.size W3, sb.val.cell? ⟨w.heap.size + 1 + 1, 0, none⟩ = some (.int .i64 n) := fun sb => Beneath.cell e0 (by show w.heap.size + 1 + 1 < _; omega) sb
  have r1 : ∀ sb : Beneath W3.heap.size W3, sb.val.cell? ⟨w.heap.size + 1 + 1, 1, none⟩ = some (.int .i64 (most : Int)) := fun sb => Beneath.cell e1 (by show w.heap.size + 1 + 1 < _; omega) sb
  have r2 : ∀ sb : Beneath W3.heap.size W3, sb.val.cell? ⟨w.heap.size + 1 + 1, 2, none⟩ = some (.int .i64 (s.out.length : Int)) := fun sb => Beneath.cell e2 (by show w.heap.size + 1 + 1 < _; omega) sb
  have r3 : ∀ sb : Beneath W3.heap.size W3, sb.val.cell? ⟨w.heap.size + 1 + 1, 3, none⟩ = some (.slice a2 N cap2) := fun sb => Beneath.cell e3 (by show w.heap.size + 1 + 1 < _; omega) sb
  have r4 : ∀ sb : Beneath W3.heap.size W3, sb.val.cell? ⟨w.heap.size + 1 + 1, 4, none⟩ = some (.bool false) := fun sb => Beneath.cell e4 (by show w.heap.size + 1 + 1 < _; omega) sb
  have HOB : Hid (∀ sb : Beneath W3.heap.size W3, OwnI sb.val (w.heap.size + 3) (.slice a2 N cap2) (s.rc ++ [c])) := Lib.hid (fun sb => HO3.out.below sb.is)
  refine wp_region_beneath W3.heap.size W3 (Below.refl _ _) (by kernel_rfl) (by kernel_rfl) ?_
  repeat (go_big_quiet_step (first
    | (go_at_call 28; rename_i sb; exact Calls.beneath sb (Nat.le_refl _) (HCO.out _ _ (HOB.out sb).weak))))
  refine wpQuiet_nil ?_
  rintro _ ⟨sb, rfl⟩
  have HI4 := Lib.hid (HI3.out.below sb.is hG)
  have HO4 := Lib.hid (HOB.out sb)
  clear d0 d1 d2 d3 d4 e0 e1 e2 e3 e4 f2 f3 f4 q1 r0 r1 r2 r3 r4 HOB HI3 HO3
  generalize sb.val = W4 at *
  have hx0 := HI4.out.1
  have hx1 := HI4.out.2.1
  have hx2 := HI4.out.2.2.1
  have HX0 := Lib.hid hx0
  have HX1 := Lib.hid hx1
  have HX2 := Lib.hid hx2
  have HBW := Lib.hid HI4.out.2.2.2.2
  clear hx0 hx1 hx2
  by_cases hov : most < C
  · have hovI : (most : Int) < (C : Int) := by omega
    have HE2 : Hid (putE n most s c = 2) := Lib.hid (by rw [HE.out, if_pos hov])
    clear hov HE
    go_wp2_with (first | (refine wpList_load_row rfl 39 _ rfl w.heap.size rfl 39 (rdc n most (s.out.length : Int) (.slice a s.rc.length cap) false) (0, 0) _ HX0.out Try.underlying39 rfl info_rd ?_; simp only [rdc]) | (refine wpList_store_row rfl 43 _ _ rfl (w.heap.size + 1) (stc n most (s.out.length : Int) (.slice a s.rc.length cap) false 0 0 2) rfl rfl 43 _ HX1.out info_st rfl (stc_all ..) ?_))
    obtain ⟨g1, g2⟩ := HI4.out.told (stc n most (s.out.length : Int) (.slice a s.rc.length cap) false 0 0 2) HBW.out
    refine bodyPost_ret (v := .agg (stc n most (s.out.length : Int) (.slice a s.rc.length cap) false 0 0 2)) (results_cell_row rfl _ _ (w.heap.size + 1) 43 _ (0, 0) _ rfl g1 Try.underlying43 rfl info_st) rfl ?_
    exact ⟨g2, Or.inr ⟨by rw [HE2.out]; decide, by rw [HE2.out, HD.out]; rfl⟩⟩
  · have hovI : ¬ (most : Int) < (C : Int) := by omega
    have HE2 : Hid (putE n most s c = 0) := Lib.hid (by rw [HE.out, if_neg hov])
    clear hov HE
    go_wp2_with (first | (refine wpList_load_row rfl 39 _ rfl (w.heap.size + 1 + 1) rfl 39 (rdc n most (s.out.length : Int) (.slice a2 N cap2) false) (0, 0) _ HX2.out Try.underlying39 rfl info_rd ?_; simp only [rdc]) | (refine wpList_store_row rfl 43 _ _ rfl (w.heap.size + 1) (stc n most (s.out.length : Int) (.slice a2 N cap2) false 0 (-1) 0) rfl rfl 43 _ HX1.out info_st rfl (stc_all ..) ?_))
    obtain ⟨g1, g2⟩ := HI4.out.told (stc n most (s.out.length : Int) (.slice a2 N cap2) false 0 (-1) 0) HBW.out
    refine bodyPost_ret (v := .agg (stc n most (s.out.length : Int) (.slice a2 N cap2) false 0 (-1) 0)) (results_cell_row rfl _ _ (w.heap.size + 1) 43 _ (0, 0) _ rfl g1 Try.underlying43 rfl info_st) rfl ?_
    refine ⟨g2, Or.inl ⟨HE2.out, .slice a2 N cap2, ?_, by rw [HPS.out, HZ.out, HP.out]; rfl⟩⟩
    rw [HPS.out]
    exact OwnI.lower (OwnI.setRow HO4.out _ _ (by omega)) (by omega)
end Go.Proofs.Ythfdmmlamomlkaa

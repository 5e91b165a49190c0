/-
  THE WALKS OF THE DOCUMENT's ANSWERS OF LAYER 7 (balerref07): Put of another place; Put.
-/
import Derived.Test.YthfdmmlamomlkaaZerRefE
namespace Go.Proofs.Ythfdmmlamomlkaa
open Go.RowKit ZerM
set_option linter.unusedVariables false
set_option maxRecDepth 100000 in
set_option maxHeartbeats 4000000 in
theorem rput_one (n : Int) (most : Nat) (s : St) (c : Int) (u : Value) (w : World) (hu : OwnI w 0 u s.rc) (h1 : 1 ≤ n) (h2 : n ≤ 256) (hok : Ok most s) (hm : most ≤ 1099511627776) (hd : s.done = false) (hc0 : 2 ≤ c) (hcn : c ≤ n) :
    Calls Try.prog 25 #[.agg #[.int .i64 n, .int .i64 (most : Int), .int .i64 (s.out.length : Int), u, .bool s.done], .int .i64 c] w (RPutP n most s c u w) := by
  have HU := Lib.hid hu
  have hL := hok.len hm
  have hcl := hok.le
  have hcv : cnt s = s.out.length + val s.rc := rfl
  have hn2 : ¬ c < 2 := by omega
  have hn3 : c ≠ n + 1 := by omega
  have hcnt : cnt (putS n s c) = cnt s + 1 := cnt_one hn2 hn3
  have HVA := Lib.hid (fun W (h : IsInts W u s.rc) => rvalue_any u s.rc W h hok.bin (by omega) (by omega))
  have HO2 : Hid (((putS n s c).out.length : Int) = (s.out.length : Int) + (val s.rc : Int) + 1) := Lib.hid (by rw [putS_one hn2 hn3]; simp; omega)
  have HR2 : Hid ((putS n s c).rc = []) := Lib.hid (by rw [putS_one hn2 hn3])
  have HD2 : Hid ((putS n s c).done = false) := Lib.hid (by rw [putS_one hn2 hn3])
  have HZ : Hid (putZ s c = val s.rc) := Lib.hid (by unfold putZ; rw [if_neg hn2])
  have HP : Hid (putP n c = c - 1) := Lib.hid (by unfold putP; rw [if_neg (by omega)])
  have HE : Hid (putE n most s c = if most < s.out.length + val s.rc + 1 then 2 else 0) := Lib.hid (by
    unfold putE; rw [if_neg (by simp [hd]), if_neg (by omega), hcnt, hcv])
  have hw1 : IntKind.i64.wrap (n + 1) = n + 1 := IntWalk.i64_in _ (by omega)
  have hw2 : IntKind.i64.wrap ((s.out.length : Int) + (val s.rc : Int)) = (s.out.length : Int) + (val s.rc : Int) := IntWalk.i64_in _ (by omega)
  have hw3 : IntKind.i64.wrap ((s.out.length : Int) + (val s.rc : Int) + 1) = (s.out.length : Int) + (val s.rc : Int) + 1 := IntWalk.i64_in _ (by omega)
  have hw4 : IntKind.i64.wrap (c - 1) = c - 1 := IntWalk.i64_in _ (by omega)
  have hc1 : ¬ c < 0 := by omega
  have hc3 : c ≤ n + 1 := by omega
  have hc4 : (c == n + 1) = false := by rw [beq_eq_false_iff_ne]; exact hn3
  obtain ⟨a, cap, hus⟩ := hu.slice
  rw [hd]
  have HD := Lib.hid hd
  clear hu hcnt hok hd
  have HI := Lib.hid (PutW.init w n most (s.out.length : Int) u)
  have HSRC : Hid (IsInts (((w.alloc (.cells (rdc n most (s.out.length : Int) u false) 39)).alloc (.cells (stc 0 0 0 (.slice none 0 0) false 0 0 0) 43)).alloc (.cells (rdc n most (s.out.length : Int) u false) 39)) u s.rc) := Lib.hid (((HU.out.alloc _).alloc _).alloc _).ints
  have hsz : (((w.alloc (.cells (rdc n most (s.out.length : Int) u false) 39)).alloc (.cells (stc 0 0 0 (.slice none 0 0) false 0 0 0) 43)).alloc (.cells (rdc n most (s.out.length : Int) u false) 39)).heap.size = w.heap.size + 3 := by simp
  subst hus
  generalize val s.rc = V at *
  generalize hT : s.out.length = T at *
  have HT := Lib.hid hT
  clear hT
  by_cases hov : most < T + V + 1
  · have hovI : (most : Int) < (T : Int) + (V : Int) + 1 := by omega
    have HE2 : Hid (putE n most s c = 2) := Lib.hid (by rw [HE.out, if_pos hov])
    clear hov HE
    go_enter Try.func25, Try.ntmps25
    go_wp2_with fail
    refine (HVA.out _ (by exact HSRC.out)).mono ?_
    rintro e w1 ⟨rfl, k, hk⟩
    have HI1 : Hid (PutW w n most (T : Int) (.slice a s.rc.length cap) w1 (T : Int) (.slice a s.rc.length cap) false) := Lib.hid (by
      rw [hk]
      exact HI.out.below (below_drewN _ k) (Nat.le_of_eq hsz.symm))
    clear hk HI HSRC hsz HVA
    obtain ⟨d0, d1, d2, d3, d4, e0, e1, e2, e3, e4, f2, f3, f4⟩ := HI1.out.cells
    have HI2 := Lib.hid (HI1.out.set 2 (.int .i64 ((T : Int) + (V : Int))) ((T : Int) + (V : Int)) (.slice a s.rc.length cap) false rfl)
    have HI3 := Lib.hid (HI2.out.set 3 (.slice none 0 0) ((T : Int) + (V : Int)) (.slice none 0 0) false rfl)
    have HI4 := Lib.hid (HI3.out.set 2 (.int .i64 ((T : Int) + (V : Int) + 1)) ((T : Int) + (V : Int) + 1) (.slice none 0 0) false rfl)
    clear HI1 HI2 HI3
    have HX0 := Lib.hid HI4.out.1
    have HX1 := Lib.hid HI4.out.2.1
    have HBW := Lib.hid HI4.out.2.2.2.2
    go_upto_region 22 with fail
    generalize ((w1.setCell ⟨w.heap.size + 1 + 1, 2, none⟩ (.int .i64 ((T : Int) + (V : Int)))).setCell ⟨w.heap.size + 1 + 1, 3, none⟩ (.slice none 0 0)).setCell ⟨w.heap.size + 1 + 1, 2, none⟩ (.int .i64 ((T : Int) + (V : Int) + 1)) = W4 at *
    go_wp2_with (first | (refine wpList_load_row rfl 39 _ rfl w.heap.size rfl 39 (rdc n most (T : Int) (.slice a s.rc.length cap) false) (0, 0) _ HX0.out Try.underlying39 rfl info_rd ?_; simp only [rdc]) | (refine wpList_store_row rfl 43 _ _ rfl (w.heap.size + 1) (stc n most (T : Int) (.slice a s.rc.length cap) false 0 0 2) rfl rfl 43 _ HX1.out info_st rfl (stc_all ..) ?_))
    obtain ⟨g1, g2⟩ := HI4.out.told (stc n most (T : Int) (.slice a s.rc.length cap) false 0 0 2) HBW.out
    refine bodyPost_ret (v := .agg (stc n most (T : Int) (.slice a s.rc.length cap) false 0 0 2)) (results_cell_row rfl _ _ (w.heap.size + 1) 43 _ (0, 0) _ rfl g1 Try.underlying43 rfl info_st) rfl ?_
    exact ⟨g2, Or.inr ⟨by rw [HE2.out]; decide, by rw [HE2.out, HD.out, HT.out]; rfl⟩⟩
  · have hovI : ¬ (most : Int) < (T : Int) + (V : Int) + 1 := by omega
    have HE2 : Hid (putE n most s c = 0) := Lib.hid (by rw [HE.out, if_neg hov])
    clear hov HE
    go_enter Try.func25, Try.ntmps25
    go_wp2_with fail
    refine (HVA.out _ (by exact HSRC.out)).mono ?_
    rintro e w1 ⟨rfl, k, hk⟩
    have HI1 : Hid (PutW w n most (T : Int) (.slice a s.rc.length cap) w1 (T : Int) (.slice a s.rc.length cap) false) := Lib.hid (by
      rw [hk]
      exact HI.out.below (below_drewN _ k) (Nat.le_of_eq hsz.symm))
    clear hk HI HSRC hsz HVA
    obtain ⟨d0, d1, d2, d3, d4, e0, e1, e2, e3, e4, f2, f3, f4⟩ := HI1.out.cells
    have HI2 := Lib.hid (HI1.out.set 2 (.int .i64 ((T : Int) + (V : Int))) ((T : Int) + (V : Int)) (.slice a s.rc.length cap) false rfl)
    have HI3 := Lib.hid (HI2.out.set 3 (.slice none 0 0) ((T : Int) + (V : Int)) (.slice none 0 0) false rfl)
    have HI4 := Lib.hid (HI3.out.set 2 (.int .i64 ((T : Int) + (V : Int) + 1)) ((T : Int) + (V : Int) + 1) (.slice none 0 0) false rfl)
    clear HI1 HI2 HI3
    have HX1 := Lib.hid HI4.out.2.1
    have HX2 := Lib.hid HI4.out.2.2.1
    have HBW := Lib.hid HI4.out.2.2.2.2
    go_upto_region 23 with fail
    generalize ((w1.setCell ⟨w.heap.size + 1 + 1, 2, none⟩ (.int .i64 ((T : Int) + (V : Int)))).setCell ⟨w.heap.size + 1 + 1, 3, none⟩ (.slice none 0 0)).setCell ⟨w.heap.size + 1 + 1, 2, none⟩ (.int .i64 ((T : Int) + (V : Int) + 1)) = W4 at *
    go_wp2_with (first | (refine wpList_load_row rfl 39 _ rfl (w.heap.size + 1 + 1) rfl 39 (rdc n most ((T : Int) + (V : Int) + 1) (.slice none 0 0) false) (0, 0) _ HX2.out Try.underlying39 rfl info_rd ?_; simp only [rdc]) | (refine wpList_store_row rfl 43 _ _ rfl (w.heap.size + 1) (stc n most ((T : Int) + (V : Int) + 1) (.slice none 0 0) false (V : Int) (c - 1) 0) rfl rfl 43 _ HX1.out info_st rfl (stc_all ..) ?_))
    obtain ⟨g1, g2⟩ := HI4.out.told (stc n most ((T : Int) + (V : Int) + 1) (.slice none 0 0) false (V : Int) (c - 1) 0) HBW.out
    refine bodyPost_ret (v := .agg (stc n most ((T : Int) + (V : Int) + 1) (.slice none 0 0) false (V : Int) (c - 1) 0)) (results_cell_row rfl _ _ (w.heap.size + 1) 43 _ (0, 0) _ rfl g1 Try.underlying43 rfl info_st) rfl ?_
    exact ⟨g2, Or.inl ⟨HE2.out, .slice none 0 0, by rw [HR2.out]; exact OwnI.nil _ _, by rw [HO2.out, HD2.out, HZ.out, HP.out]⟩⟩
theorem rput_any (n : Int) (most : Nat) (s : St) (c : Int) (u : Value) (w : World) (hu : OwnI w 0 u s.rc) (h1 : 1 ≤ n) (h2 : n ≤ 256) (hok : Ok most s) (hm : most ≤ 1099511627776) :
    Calls Try.prog 25 #[.agg #[.int .i64 n, .int .i64 (most : Int), .int .i64 (s.out.length : Int), u, .bool s.done], .int .i64 c] w (RPutP n most s c u w) := by
  by_cases hs : s.done = true ∨ c < 0 ∨ n + 1 < c
  · exact rput_stop n most s c u w hu h1 h2 hs
  · have hd : s.done = false := by
      rw [Bool.eq_false_iff]; exact fun e => hs (Or.inl e)
    by_cases hc2 : c < 2
    · exact rput_part n most s c u w hu h1 h2 hok hm hd (by omega) hc2
    · by_cases hc3 : c = n + 1
      · subst hc3; exact rput_end n most s u w hu h1 h2 hok hm hd
      · exact rput_one n most s c u w hu h1 h2 hok hm hd (by omega) (by omega)
end Go.Proofs.Ythfdmmlamomlkaa

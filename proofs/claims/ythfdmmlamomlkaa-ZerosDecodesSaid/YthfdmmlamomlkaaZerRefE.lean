/-
  THE WALKS OF THE DOCUMENT's ANSWERS OF LAYER 7 (balerref07): Put of the end and of another place.
-/
import Derived.Test.YthfdmmlamomlkaaZerRefD
import Derived.Deep.Cut
namespace Go.Proofs.Ythfdmmlamomlkaa
open Go.RowKit ZerM
set_option linter.unusedVariables false
set_option maxRecDepth 100000 in
set_option maxHeartbeats 4000000 in
theorem rput_end (n : Int) (most : Nat) (s : St) (u : Value) (w : World) (hu : OwnI w 0 u s.rc) (h1 : 1 ≤ n) (h2 : n ≤ 256) (hok : Ok most s) (hm : most ≤ 1099511627776) (hd : s.done = false) :
    Calls Try.prog 25 #[.agg #[.int .i64 n, .int .i64 (most : Int), .int .i64 (s.out.length : Int), u, .bool s.done], .int .i64 (n + 1)] w (RPutP n most s (n + 1) u w) := by
  have HU := Lib.hid hu
  have hL := hok.len hm
  have hcl := hok.le
  have hcv : cnt s = s.out.length + val s.rc := rfl
  have hn2 : ¬ n + 1 < 2 := by omega
  have hcnt : cnt (putS n s (n + 1)) = cnt s := cnt_end hn2 rfl
  have HVA := Lib.hid (fun W (h : IsInts W u s.rc) => rvalue_any u s.rc W h hok.bin (by omega) (by omega))
  have HO2 : Hid (((putS n s (n + 1)).out.length : Int) = (s.out.length : Int) + (val s.rc : Int)) := Lib.hid (by rw [putS_end hn2 rfl]; simp)
  have HR2 : Hid ((putS n s (n + 1)).rc = []) := Lib.hid (by rw [putS_end hn2 rfl])
  have HD2 : Hid ((putS n s (n + 1)).done = true) := Lib.hid (by rw [putS_end hn2 rfl])
  have HZ : Hid (putZ s (n + 1) = val s.rc) := Lib.hid (by unfold putZ; rw [if_neg hn2])
  have HP : Hid (putP n (n + 1) = -1) := Lib.hid (by unfold putP; rw [if_pos (Or.inr rfl)])
  have HE : Hid (putE n most s (n + 1) = 0) := Lib.hid (putE_zero hd (by omega) (by omega) (by omega))
  have hw1 : IntKind.i64.wrap (n + 1) = n + 1 := IntWalk.i64_in _ (by omega)
  have hw2 : IntKind.i64.wrap ((s.out.length : Int) + (val s.rc : Int)) = (s.out.length : Int) + (val s.rc : Int) := IntWalk.i64_in _ (by omega)
  obtain ⟨c, hc⟩ : ∃ c, n + 1 = c := ⟨_, rfl⟩
  rw [hc] at hn2 HO2 HR2 HD2 HZ HP HE
  rw [hc]
  have hc1 : ¬ c < 0 := by omega
  have hc2 : n + 1 ≤ c := by omega
  have hc3 : c ≤ n + 1 := by omega
  have hc4 : (c == n + 1) = true := by rw [← hc]; exact beq_self_eq_true _
  obtain ⟨a, cap, hus⟩ := hu.slice
  rw [hd]
  clear hu hcnt hcv hok hd hcl
  have HI := Lib.hid (PutW.init w n most (s.out.length : Int) u)
  have HSRC : Hid (IsInts (((w.alloc (.cells (rdc n most (s.out.length : Int) u false) 39)).alloc (.cells (stc 0 0 0 (.slice none 0 0) false 0 0 0) 43)).alloc (.cells (rdc n most (s.out.length : Int) u false) 39)) u s.rc) := Lib.hid (((HU.out.alloc _).alloc _).alloc _).ints
  have hsz : (((w.alloc (.cells (rdc n most (s.out.length : Int) u false) 39)).alloc (.cells (stc 0 0 0 (.slice none 0 0) false 0 0 0) 43)).alloc (.cells (rdc n most (s.out.length : Int) u false) 39)).heap.size = w.heap.size + 3 := by simp
  subst hus
  generalize val s.rc = V at *
  have HC := Lib.hid hc
  clear hc
  go_enter Try.func25, Try.ntmps25
  go_wp2_with fail
  refine (HVA.out _ (by exact HSRC.out)).mono ?_
  rintro e w1 ⟨rfl, k, hk⟩
  have HI1 : Hid (PutW w n most (s.out.length : Int) (.slice a s.rc.length cap) w1 (s.out.length : Int) (.slice a s.rc.length cap) false) := Lib.hid (by
    rw [hk]
    exact HI.out.below (below_drewN _ k) (Nat.le_of_eq hsz.symm))
  clear hk HI HSRC hsz HVA
  obtain ⟨d0, d1, d2, d3, d4, e0, e1, e2, e3, e4, f2, f3, f4⟩ := HI1.out.cells
  have HI2 := Lib.hid (HI1.out.set 2 (.int .i64 ((s.out.length : Int) + (V : Int))) ((s.out.length : Int) + (V : Int)) (.slice a s.rc.length cap) false rfl)
  have HI3 := Lib.hid (HI2.out.set 3 (.slice none 0 0) ((s.out.length : Int) + (V : Int)) (.slice none 0 0) false rfl)
  have HI4 := Lib.hid (HI3.out.set 4 (.bool true) ((s.out.length : Int) + (V : Int)) (.slice none 0 0) true rfl)
  clear HI1 HI2 HI3
  have HX1 := Lib.hid HI4.out.2.1
  have HX2 := Lib.hid HI4.out.2.2.1
  have HBW := Lib.hid HI4.out.2.2.2.2
  go_upto_region 19 with fail
  generalize ((w1.setCell ⟨w.heap.size + 1 + 1, 2, none⟩ (.int .i64 ((s.out.length : Int) + (V : Int)))).setCell ⟨w.heap.size + 1 + 1, 3, none⟩ (.slice none 0 0)).setCell ⟨w.heap.size + 1 + 1, 4, none⟩ (.bool true) = W4 at *
  go_wp2_with (first | (refine wpList_load_row rfl 39 _ rfl (w.heap.size + 1 + 1) rfl 39 (rdc n most ((s.out.length : Int) + (V : Int)) (.slice none 0 0) true) (0, 0) _ HX2.out Try.underlying39 rfl info_rd ?_; simp only [rdc]) | (refine wpList_store_row rfl 43 _ _ rfl (w.heap.size + 1) (stc n most ((s.out.length : Int) + (V : Int)) (.slice none 0 0) true (V : Int) (-1) 0) rfl rfl 43 _ HX1.out info_st rfl (stc_all ..) ?_))
  obtain ⟨g1, g2⟩ := HI4.out.told (stc n most ((s.out.length : Int) + (V : Int)) (.slice none 0 0) true (V : Int) (-1) 0) HBW.out
  refine bodyPost_ret (v := .agg (stc n most ((s.out.length : Int) + (V : Int)) (.slice none 0 0) true (V : Int) (-1) 0)) (results_cell_row rfl _ _ (w.heap.size + 1) 43 _ (0, 0) _ rfl g1 Try.underlying43 rfl info_st) rfl ?_
  exact ⟨g2, Or.inl ⟨HE.out, .slice none 0 0, by rw [HR2.out]; exact OwnI.nil _ _, by rw [HO2.out, HD2.out, HZ.out, HP.out]⟩⟩
end Go.Proofs.Ythfdmmlamomlkaa

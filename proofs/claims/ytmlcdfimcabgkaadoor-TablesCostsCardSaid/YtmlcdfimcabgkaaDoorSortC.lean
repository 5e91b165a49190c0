/-
  THE WALKS OF THE LIBRARY's STABLE SORT (package slices), AT ROWS OF int: two parts side by side, where one of them is one place.
-/
import Derived.Test.YtmlcdfimcabgkaaDoorSortB
namespace Go.Proofs.YtmlcdfimcabgkaaDoor
open Go.RowKit SymM
set_option linter.unusedVariables false
section
variable {F : FuncId} {caps : Array Value} {g n : Nat} {wt : Int → Int} {I : World → Prop}
/-- What a sort from a up to b leaves. -/
def SrtP (wt : Int → Int) (g n : Nat) (d : Row) (a b : Nat) (w w' : World) : Prop := (∃ D, RowD w' g n D ∧ Pm d D a b ∧ Srt wt D a b) ∧ Touch (· = g) w w'
set_option maxRecDepth 100000 in
set_option maxHeartbeats 2000000 in
theorem sym_first (hC : CmpF F caps g n wt I) (a b : Nat) (d : Row) (w : World) (hR : RowD w g n d) (hI : I w) (hab : a + 1 < b) (hb : b ≤ n) (hn : n ≤ 1000000) (hr : Rng n d) (hs : Srt wt d (a + 1) b) (hl : Low d a (a + 1) b) (m : Nat) (hm : m = a + 1) :
    Calls Tryd.prog 74 #[.slice (some ⟨g, 0, none⟩) n n, .int .i64 (a : Int), .int .i64 (m : Int), .int .i64 (b : Int), .func (.func F) #[] caps] w fun e w' =>
      e = .returned (.tuple #[]) ∧ SrtP wt g n d a b w w' := by
  have he := hC.enter
  have HR := Lib.hid hR
  have HI0 := Lib.hid hI
  have HC := Lib.hid hC
  have HRN := Lib.hid hr
  have HS := Lib.hid hs
  have HL := Lib.hid hl
  have HM := Lib.hid hm
  have hma1 : a + 1 ≤ m := by omega
  have hma2 : m ≤ a + 1 := by omega
  have hone : ((m : Int) - (a : Int) == 1) = true := by rw [beq_iff_eq]; omega
  have han : a < n := by omega
  have han2 : (a : Int) < (n : Int) := by omega
  obtain ⟨y, hy⟩ : ∃ y, d a = y := ⟨_, rfl⟩
  have HY := Lib.hid hy
  clear hR hI hC hr hs hl hm hy
  go_enter Tryd.func74, Tryd.ntmps74
  go_wp2_with fail
  go_loopw [10, 11] (fun vi vj wr => ∃ i j q : Nat, vi = .int .i64 i ∧ vj = .int .i64 j ∧ m ≤ i ∧ i ≤ j ∧ j ≤ b ∧ (i = m ∨ wt (d (i - 1)) < wt (d a)) ∧ (j = b ∨ wt (d a) ≤ wt (d j)) ∧ wr = w.drewN q) (fun vi vj _ => (intOf vj).toNat - (intOf vi).toNat)
  case atStart => exact ⟨m, b, 0, rfl, rfl, by omega, by omega, by omega, Or.inl rfl, Or.inl rfl, rfl⟩
  case round =>
    obtain ⟨i, j, q, rfl, rfl, hmi, hij, hjb, h1, h2, hw⟩ := hrel
    have HRW : Hid (RowD wr g n d) := Lib.hid (by rw [hw]; exact HR.out.drewN q)
    have HIW : Hid (I wr) := Lib.hid (by rw [hw]; exact HC.out.keep _ _ HI0.out (touch_drewN _ w q))
    have HW := Lib.hid hw
    clear hw
    have H1 := Lib.hid h1
    have H2 := Lib.hid h2
    clear h1 h2
    by_cases hlt : i < j
    · have hlt2 : (i : Int) < (j : Int) := by omega
      obtain ⟨c, hc⟩ : ∃ c, (i + j) / 2 = c := ⟨_, rfl⟩
      have hcI : ((i : Int) + (j : Int)) / 2 = (c : Int) := by omega
      have hcn : c < n := by omega
      have hcn2 : (c : Int) < (n : Int) := by omega
      have hci : i ≤ c := by omega
      have hcj : c < j := by omega
      have HCC := Lib.hid hc
      obtain ⟨c1, f1⟩ := HRW.out.cell hcn
      obtain ⟨c2, f2⟩ := HRW.out.cell han
      obtain ⟨x, hx⟩ : ∃ x, d c = x := ⟨_, rfl⟩
      rw [hx] at c1
      rw [HY.out] at c2
      obtain ⟨z, hz, hz1, hz2, hcall⟩ := HC.out.at HIW.out HRN.out hcn han x y hx HY.out
      have HX := Lib.hid hx
      have HCALL := Lib.hid hcall
      have HZ := Lib.hid hz
      clear hx hcall hz hc
      by_cases hz0 : z < 0
      · go_wp2_with fail
        go_quiet ((exact Calls.quiet_of (HCALL.out _)))
        go_wp2_with fail
        go_roundw
        case rel => exact ⟨c + 1, j, _, by go_num, rfl, by omega, by omega, hjb, Or.inr (by rw [Nat.add_sub_cancel, HX.out, HY.out]; have := HZ.out; omega), H2.out, by rw [HW.out]; exact World.drewN_drewN ..⟩
        case measure => simp [intOf]; omega
      · go_wp2_with fail
        go_quiet ((exact Calls.quiet_of (HCALL.out _)))
        go_wp2_with fail
        go_roundw
        case rel => exact ⟨i, c, _, rfl, by go_num, hmi, hci, by omega, H1.out, Or.inr (by rw [HX.out, HY.out]; have := HZ.out; omega), by rw [HW.out]; exact World.drewN_drewN ..⟩
        case measure => simp [intOf]; omega
    · have hlt2 : ¬ (i : Int) < (j : Int) := by omega
      obtain rfl : j = i := by omega
      have hsrt : Hid (Srt wt (rot d a (a + 1) j) a b) := Lib.hid (by
        have hm := HM.out
        refine cut_first HS.out HL.out (by omega) hjb ?_ ?_
        · rcases H1.out with e | e
          · exact Or.inl (by omega)
          · exact Or.inr e
        · rcases H2.out with e | e
          · exact Or.inl e
          · exact Or.inr (by omega))
      obtain ⟨p, hp⟩ : ∃ p, j = p + 1 := ⟨j - 1, by omega⟩
      have hp2 : (j : Int) - 1 = (p : Int) := by omega
      have hap : a ≤ p := by omega
      have hpn : p < n := by omega
      have hpn2 : (p : Int) < (n : Int) := by omega
      have HT1 : Hid (Touch (· = g) w wr) := Lib.hid (by rw [HW.out]; exact touch_drewN _ w q)
      have HP := Lib.hid hp
      clear hp
      go_wp2_with fail
      go_loopw [13] (fun vk w2 => ∃ k : Nat, vk = .int .i64 k ∧ a ≤ k ∧ k ≤ p ∧ RowD w2 g n (rot d a (a + 1) (k + 1)) ∧ Touch (· = g) w w2) (fun vk _ => p - (intOf vk).toNat)
      case atStart => exact ⟨a, rfl, Nat.le_refl _, hap, by rw [rot_none]; exact HRW.out, HT1.out⟩
      case round =>
        obtain ⟨k, rfl, hak, hkp, hR2, hT2⟩ := hrel
        have HR2 := Lib.hid hR2
        have HT2 := Lib.hid hT2
        clear hR2 hT2
        by_cases hkl : k < p
        · have hkl2 : (k : Int) < (p : Int) := by omega
          obtain ⟨l, hl⟩ : ∃ l, k + 1 = l := ⟨_, rfl⟩
          have hl2 : (k : Int) + 1 = (l : Int) := by omega
          have hkn : k < n := by omega
          have hkn2 : (k : Int) < (n : Int) := by omega
          have hln : l < n := by omega
          have hln2 : (l : Int) < (n : Int) := by omega
          obtain ⟨c1, f1⟩ := HR2.out.cell hkn
          obtain ⟨c2, f2⟩ := HR2.out.cell hln
          obtain ⟨x, hx⟩ : ∃ x, rot d a (a + 1) (k + 1) k = x := ⟨_, rfl⟩
          obtain ⟨y, hy⟩ : ∃ y, rot d a (a + 1) (k + 1) l = y := ⟨_, rfl⟩
          rw [hx] at c1
          rw [hy] at c2
          have HX := Lib.hid hx
          have HY := Lib.hid hy
          have HLL := Lib.hid hl
          clear hx hy hl
          go_wp2_with fail
          go_region
          go_wp2_with fail
          go_roundw
          case rel => exact ⟨l, rfl, by have := HLL.out; omega, by have := HLL.out; omega, by
            have := HLL.out
            subst this
            rw [← rot_up d hak]
            exact (HR2.out.drewN _).swap hkn hln _ _ HY.out.symm HX.out.symm, touch_swap (touch_drew HT2.out _) _ _⟩
          case measure => have := HLL.out; simp [intOf]; omega
        · have hkl2 : ¬ (k : Int) < (p : Int) := by omega
          obtain rfl : p = k := by omega
          go_wp2_with fail

          refine bodyPost_ret (results_none rfl _ _ _) rfl ?_
          have e := HP.out
          subst e
          exact ⟨rfl, ⟨_, HR2.out, (rot_pm d (by omega) (by omega)).wide (Nat.le_refl _) (by omega) hjb, hsrt.out⟩, HT2.out⟩
set_option maxRecDepth 100000 in
set_option maxHeartbeats 2000000 in
theorem sym_last (hC : CmpF F caps g n wt I) (a m : Nat) (d : Row) (w : World) (hR : RowD w g n d) (hI : I w) (ham : a + 1 < m) (hb : m + 1 ≤ n) (hn : n ≤ 1000000) (hr : Rng n d) (hs : Srt wt d a m) (hl : Low d a m (m + 1)) (b : Nat) (hbm : b = m + 1) :
    Calls Tryd.prog 74 #[.slice (some ⟨g, 0, none⟩) n n, .int .i64 (a : Int), .int .i64 (m : Int), .int .i64 (b : Int), .func (.func F) #[] caps] w fun e w' =>
      e = .returned (.tuple #[]) ∧ SrtP wt g n d a b w w' := by
  have he := hC.enter
  have HR := Lib.hid hR
  have HI0 := Lib.hid hI
  have HC := Lib.hid hC
  have HRN := Lib.hid hr
  have HS := Lib.hid hs
  have HL := Lib.hid hl
  have HB := Lib.hid hbm
  have hone0 : ((m : Int) - (a : Int) == 1) = false := by rw [beq_eq_false_iff_ne]; omega
  have hone : ((b : Int) - (m : Int) == 1) = true := by rw [beq_iff_eq]; omega
  have hmn : m < n := by omega
  have hmn2 : (m : Int) < (n : Int) := by omega
  have hbn : b ≤ n := by omega
  obtain ⟨x, hx⟩ : ∃ x, d m = x := ⟨_, rfl⟩
  have HX := Lib.hid hx
  clear hR hI hC hr hs hl hbm hx
  go_enter Tryd.func74, Tryd.ntmps74
  go_wp2_with fail
  go_loopw [14, 15] (fun vi vj wr => ∃ i j q : Nat, vi = .int .i64 i ∧ vj = .int .i64 j ∧ a ≤ i ∧ i ≤ j ∧ j ≤ m ∧ (i = a ∨ wt (d (i - 1)) ≤ wt (d m)) ∧ (j = m ∨ wt (d m) < wt (d j)) ∧ wr = w.drewN q) (fun vi vj _ => (intOf vj).toNat - (intOf vi).toNat)
  case atStart => exact ⟨a, m, 0, rfl, rfl, by omega, by omega, by omega, Or.inl rfl, Or.inl rfl, rfl⟩
  case round =>
    obtain ⟨i, j, q, rfl, rfl, hmi, hij, hjb, h1, h2, hw⟩ := hrel
    have HRW : Hid (RowD wr g n d) := Lib.hid (by rw [hw]; exact HR.out.drewN q)
    have HIW : Hid (I wr) := Lib.hid (by rw [hw]; exact HC.out.keep _ _ HI0.out (touch_drewN _ w q))
    have HW := Lib.hid hw
    have H1 := Lib.hid h1
    have H2 := Lib.hid h2
    clear hw h1 h2
    by_cases hlt : i < j
    · have hlt2 : (i : Int) < (j : Int) := by omega
      obtain ⟨c, hc⟩ : ∃ c, (i + j) / 2 = c := ⟨_, rfl⟩
      have hcI : ((i : Int) + (j : Int)) / 2 = (c : Int) := by omega
      have hcn : c < n := by omega
      have hcn2 : (c : Int) < (n : Int) := by omega
      have hci : i ≤ c := by omega
      have hcj : c < j := by omega
      have HCC := Lib.hid hc
      obtain ⟨c1, f1⟩ := HRW.out.cell hcn
      obtain ⟨c2, f2⟩ := HRW.out.cell hmn
      obtain ⟨y, hy⟩ : ∃ y, d c = y := ⟨_, rfl⟩
      rw [hy] at c1
      rw [HX.out] at c2
      obtain ⟨z, hz, hz1, hz2, hcall⟩ := HC.out.at HIW.out HRN.out hmn hcn x y HX.out hy
      have HY := Lib.hid hy
      have HCALL := Lib.hid hcall
      have HZ := Lib.hid hz
      clear hy hcall hz hc
      by_cases hz0 : z < 0
      · have hz3 : (!decide (z < 0)) = false := by simp; omega
        go_wp2_with fail
        go_quiet ((exact Calls.quiet_of (HCALL.out _)))
        go_wp2_with fail
        go_roundw
        case rel => exact ⟨i, c, _, rfl, by go_num, hmi, hci, by omega, H1.out, Or.inr (by rw [HX.out, HY.out]; have := HZ.out; omega), by rw [HW.out]; exact World.drewN_drewN ..⟩
        case measure => simp [intOf]; omega
      · have hz3 : (!decide (z < 0)) = true := by simp; omega
        go_wp2_with fail
        go_quiet ((exact Calls.quiet_of (HCALL.out _)))
        go_wp2_with fail
        go_roundw
        case rel => exact ⟨c + 1, j, _, by go_num, rfl, by omega, by omega, hjb, Or.inr (by rw [Nat.add_sub_cancel, HX.out, HY.out]; have := HZ.out; omega), H2.out, by rw [HW.out]; exact World.drewN_drewN ..⟩
        case measure => simp [intOf]; omega
    · have hlt2 : ¬ (i : Int) < (j : Int) := by omega
      obtain rfl : j = i := by omega
      have hsrt : Hid (Srt wt (rot d j m (m + 1)) a (m + 1)) := Lib.hid (by
        refine cut_last HS.out HL.out hmi hjb ?_ ?_
        · rcases H1.out with e | e
          · exact Or.inl (by omega)
          · exact Or.inr (by omega)
        · rcases H2.out with e | e
          · exact Or.inl e
          · exact Or.inr (by omega))
      have HT1 : Hid (Touch (· = g) w wr) := Lib.hid (by rw [HW.out]; exact touch_drewN _ w q)
      go_wp2_with fail
      go_loopw [17] (fun vk w2 => ∃ k : Nat, vk = .int .i64 k ∧ j ≤ k ∧ k ≤ m ∧ RowD w2 g n (rot d k m (m + 1)) ∧ Touch (· = g) w w2) (fun vk _ => (intOf vk).toNat)
      case atStart => exact ⟨m, rfl, hjb, Nat.le_refl _, by rw [rot_none']; exact HRW.out, HT1.out⟩
      case round =>
        obtain ⟨k, rfl, hak, hkp, hR2, hT2⟩ := hrel
        have HR2 := Lib.hid hR2
        have HT2 := Lib.hid hT2
        clear hR2 hT2
        by_cases hkl : j < k
        · have hkl2 : (j : Int) < (k : Int) := by omega
          obtain ⟨l, hl⟩ : ∃ l, k = l + 1 := ⟨k - 1, by omega⟩
          have hl2 : (k : Int) - 1 = (l : Int) := by omega
          have hkn : k < n := by omega
          have hkn2 : (k : Int) < (n : Int) := by omega
          have hln : l < n := by omega
          have hln2 : (l : Int) < (n : Int) := by omega
          obtain ⟨c1, f1⟩ := HR2.out.cell hkn
          obtain ⟨c2, f2⟩ := HR2.out.cell hln
          obtain ⟨X, hx⟩ : ∃ x, rot d k m (m + 1) k = x := ⟨_, rfl⟩
          obtain ⟨Y, hy⟩ : ∃ y, rot d k m (m + 1) l = y := ⟨_, rfl⟩
          rw [hx] at c1
          rw [hy] at c2
          have HX := Lib.hid hx
          have HY := Lib.hid hy
          have HLL := Lib.hid hl
          clear hx hy hl
          go_wp2_with fail
          go_region
          go_wp2_with fail
          go_roundw
          case rel => exact ⟨l, by go_num, by have := HLL.out; omega, by have := HLL.out; omega, by
            have := HLL.out
            subst this
            rw [← rot_down d (show l < m by omega)]
            exact (HR2.out.drewN _).swap hkn hln _ _ HY.out.symm HX.out.symm, touch_swap (touch_drew HT2.out _) _ _⟩
          case measure => have := HLL.out; simp [intOf]; omega
        · have hkl2 : ¬ (j : Int) < (k : Int) := by omega
          obtain rfl : k = j := by omega
          go_wp2_with fail

          refine bodyPost_ret (results_none rfl _ _ _) rfl ?_
          have e := HB.out
          subst e
          exact ⟨rfl, ⟨_, HR2.out, (rot_pm d hkp (by omega)).wide (by omega) (by omega) (Nat.le_refl _), hsrt.out⟩, HT2.out⟩
end
end Go.Proofs.YtmlcdfimcabgkaaDoor

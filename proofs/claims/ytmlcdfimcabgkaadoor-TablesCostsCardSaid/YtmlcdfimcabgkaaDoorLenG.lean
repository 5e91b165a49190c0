/-
  THE WALKS OF LAYER 9's CODE (package lens): halves, the greatest length, the share.
-/
import Derived.Test.YtmlcdfimcabgkaaDoorLenF
import Derived.Test.YtmlcdfimcabgkaaDoorLenMath
import Derived.IntWalk
namespace Go.Proofs.YtmlcdfimcabgkaaDoor
open Go.RowKit HufM
set_option linter.unusedVariables false
set_option maxRecDepth 100000 in
set_option maxHeartbeats 2000000 in
theorem halved_any (v : Value) (zs : List Int) (w : World) (hv : IsInts w v zs) (hz : zs.length ≤ 1000000) (hb : ∀ z ∈ zs, z ≤ 9223372036854775807) :
    Calls Tryd.prog 58 #[v] w fun e w' => ∃ r, e = .returned r ∧ IsInts w' r (hvs zs) ∧ Below w.heap.size w w' := by
  have HV := Lib.hid hv
  have HBD := Lib.hid hb
  obtain ⟨a, cap, rfl, _⟩ := hv
  obtain ⟨N, hN⟩ : ∃ N, zs.length = N := ⟨_, rfl⟩
  have HN := Lib.hid hN
  have hmk := make_ints N (by omega) w
  have HR0 := Lib.hid (RowI.made w N)
  have hb0 : Hid (Below w.heap.size w (w.alloc (.cells (madeCells #[Value.int .i64 0] N) 3))) := Lib.hid ((Below.refl _ w).alloc (Nat.le_refl _) _)
  obtain ⟨g, hg⟩ : ∃ g, w.heap.size = g := ⟨_, rfl⟩
  have HG := Lib.hid hg
  rw [hg] at hmk HR0
  rw [hN] at hz ⊢
  clear hb hg hN
  go_enter Tryd.func58, Tryd.ntmps58
  go_wp2_with fail
  generalize w.alloc (.cells (madeCells #[Value.int .i64 0] N) 3) = w1 at *
  go_wp2_with fail
  go_loopw [11] (fun i wr => ∃ k : Nat, k ≤ N ∧ i = .int .i64 k ∧ RowI wr g ((zs.take k).map hv ++ List.replicate (N - k) 0) ∧ Below w.heap.size w wr) (fun i _ => N - (intOf i).toNat)
  case atStart => exact ⟨0, Nat.zero_le _, rfl, by simpa using HR0.out, hb0.out⟩
  case round =>
    obtain ⟨k, hk, rfl, hR, hB⟩ := hrel
    have HR := Lib.hid hR
    have HB := Lib.hid hB
    have hlen : ((zs.take k).map hv).length = k := by rw [List.length_map, List.length_take, HN.out]; omega
    by_cases hlk : k < N
    · have hki : (k : Int) < (N : Int) := by omega
      obtain ⟨b1, o1, k1, he1, c1⟩ := HV.out.cell (show k < zs.length by rw [HN.out]; exact hlk)
      simp only [Value.slice.injEq] at he1
      obtain ⟨rfl, _, rfl⟩ := he1
      have c1 := (HB.out.cell (cell_lt c1)).trans c1
      obtain ⟨x, hx⟩ : ∃ x, zs.getD k 0 = x := ⟨_, rfl⟩
      rw [hx] at c1
      have hxb : x ≤ 9223372036854775807 := by rw [← hx]; exact HBD.out _ (getD_mem (by rw [HN.out]; exact hlk))
      obtain ⟨c2, f2, hset⟩ := RowI.cell hR (i := k) (by rw [List.length_append, hlen, List.length_replicate]; omega)
      generalize ((zs.take k).map hv ++ List.replicate (N - k) 0).getD k 0 = y at c2
      obtain ⟨M, hM⟩ : ∃ M, (if x < 0 then 0 else x) = M := ⟨_, rfl⟩
      have hM0 : 0 ≤ M := by rw [← hM]; split <;> omega
      have hMb : M ≤ 9223372036854775807 := by rw [← hM]; split <;> omega
      have hq : IntKind.i64.wrap (M / 2) = M / 2 := IntWalk.i64_in _ (by omega)
      have hnext : Hid (RowI (wr.setCell ⟨g, k, none⟩ (.int .i64 (M / 2 + 1))) g ((zs.take (k + 1)).map hv ++ List.replicate (N - (k + 1)) 0)) := Lib.hid (by
        have h1 := hset (M / 2 + 1)
        have h2 := set_next ((zs.take k).map hv) (N - (k + 1)) (M / 2 + 1)
        rw [hlen, show N - (k + 1) + 1 = N - k by omega] at h2
        rw [h2] at h1
        have h3 : (zs.take (k + 1)).map hv = (zs.take k).map hv ++ [M / 2 + 1] := by
          rw [List.take_add_one, List.map_append, List.getElem?_eq_getElem (show k < zs.length by rw [HN.out]; exact hlk)]
          congr 1
          have hx2 : zs[k]'(by rw [HN.out]; exact hlk) = x := by rw [← hx, List.getD_eq_getElem?_getD, List.getElem?_eq_getElem (show k < zs.length by rw [HN.out]; exact hlk)]; rfl
          simp only [Option.toList_some, List.map_cons, List.map_nil, hx2]
          unfold hv
          rw [hM]
        rw [h3]
        exact h1)
      have hbn : Hid (Below w.heap.size w (wr.setCell ⟨g, k, none⟩ (.int .i64 (M / 2 + 1)))) := Lib.hid (HB.out.setCell (p := ⟨g, k, none⟩) (by rw [HG.out]; exact Nat.le_refl g) _)
      have HM := Lib.hid hM
      clear hR hB hset hx hM hlen
      go_wp2_with fail
      go_roundw
      case rel => exact ⟨k + 1, by omega, by go_num, by rw [HM.out]; exact hnext.out, by rw [HM.out]; exact hbn.out⟩
      case measure => simp [intOf]; omega
    · have hki : ¬ (k : Int) < (N : Int) := by omega
      obtain rfl : N = k := by omega
      go_wp2_with fail
      go_ret
      have h := HR.out.ints N N (by rw [List.length_append, hlen]; simp)
      have e : (zs.take N).map hv ++ List.replicate (N - N) 0 = hvs zs := by
        rw [Nat.sub_self, List.replicate_zero, List.append_nil, List.take_of_length_le (Nat.le_of_eq HN.out)]
        rfl
      rw [e] at h
      exact ⟨_, rfl, h, HB.out⟩
/-- The greatest one, and 0 at least. -/
def lg (zs : List Int) : Int := zs.foldl (fun m x => if m < x then x else m) 0
theorem lg_take (zs : List Int) {k : Nat} (h : k < zs.length) : lg (zs.take (k + 1)) = if lg (zs.take k) < zs.getD k 0 then zs.getD k 0 else lg (zs.take k) := by
  unfold lg
  rw [List.take_add_one, List.foldl_append, List.getD_eq_getElem?_getD, List.getElem?_eq_getElem h]
  rfl
theorem foldl_mono (zs : List Int) : ∀ m : Int, m ≤ zs.foldl (fun m x => if m < x then x else m) m ∧ (∀ z ∈ zs, z ≤ zs.foldl (fun m x => if m < x then x else m) m) ∧ (zs.foldl (fun m x => if m < x then x else m) m = m ∨ zs.foldl (fun m x => if m < x then x else m) m ∈ zs) := by
  induction zs with
  | nil => intro m; exact ⟨Int.le_refl _, fun z h => (by cases h), Or.inl rfl⟩
  | cons x t ih =>
    intro m
    obtain ⟨h1, h2, h3⟩ := ih (if m < x then x else m)
    simp only [List.foldl_cons]
    have hm : m ≤ (if m < x then x else m) ∧ x ≤ (if m < x then x else m) := by split <;> omega
    refine ⟨by omega, fun z hz => ?_, ?_⟩
    · rcases List.mem_cons.1 hz with rfl | hz
      · omega
      · exact h2 z hz
    · rcases h3 with h | h
      · rw [h]
        split
        · exact Or.inr (List.mem_cons_self ..)
        · exact Or.inl rfl
      · exact Or.inr (List.mem_cons_of_mem _ h)
theorem lg_le {zs : List Int} {b : Int} (h0 : 0 ≤ b) : lg zs ≤ b ↔ ∀ z ∈ zs, z ≤ b := by
  obtain ⟨h1, h2, h3⟩ := foldl_mono zs 0
  constructor
  · intro h z hz
    exact Int.le_trans (h2 z hz) h
  · intro h
    rcases h3 with e | e
    · unfold lg; rw [e]; exact h0
    · exact h _ e
set_option maxRecDepth 100000 in
set_option maxHeartbeats 1000000 in
theorem longest_any (v : Value) (zs : List Int) (w : World) (hv : IsInts w v zs) (hz : zs.length ≤ 9223372036854775807) :
    Calls Tryd.prog 57 #[v] w fun e w' => e = .returned (.int .i64 (lg zs)) ∧ w' = w := by
  have HV := Lib.hid hv
  obtain ⟨ad, cap, rfl, _⟩ := hv
  go_enter Tryd.func57, Tryd.ntmps57
  go_wp2_with fail
  go_loopw [3, 8] (fun m i wr => ∃ k : Nat, k ≤ zs.length ∧ i = .int .i64 k ∧ m = .int .i64 (lg (zs.take k)) ∧ wr = w) (fun _ i _ => zs.length - (intOf i).toNat)
  case atStart => exact ⟨0, by omega, rfl, rfl, rfl⟩
  case round =>
    obtain ⟨k, hk, rfl, rfl, rfl⟩ := hrel
    by_cases hlk : k < zs.length
    · have hki : (k : Int) < (zs.length : Int) := by omega
      obtain ⟨b1, o1, k1, he1, c1⟩ := HV.out.cell hlk
      simp only [Value.slice.injEq] at he1
      obtain ⟨rfl, _, rfl⟩ := he1
      have ht := lg_take zs hlk
      obtain ⟨x, hx⟩ : ∃ x, zs.getD k 0 = x := ⟨_, rfl⟩
      rw [hx] at c1 ht
      have HT := Lib.hid ht
      obtain ⟨m, hm⟩ : ∃ m, lg (zs.take k) = m := ⟨_, rfl⟩
      rw [hm] at ht
      have HT2 := Lib.hid ht
      rw [hm]
      clear hx ht HT
      go_wp2_with fail
      go_roundw
      case rel => exact ⟨k + 1, by omega, by go_num, by rw [HT2.out], (by first | rfl | trivial)⟩
      case measure => simp [intOf]; omega
    · have hki : ¬ (k : Int) < (zs.length : Int) := by omega
      have e : zs.take k = zs := List.take_of_length_le (by omega)
      rw [e]
      clear e
      go_wp2_with fail
      go_ret
      exact ⟨rfl, rfl⟩
theorem shr_take (zs : List Int) {k : Nat} (h : k < zs.length) : shr (zs.take (k + 1)) = shr (zs.take k) + 2 ^ (20 - (zs.getD k 0).toNat) := by
  unfold shr
  rw [List.take_add_one, sumN_append, List.getD_eq_getElem?_getD, List.getElem?_eq_getElem h]
  simp [sumN]
theorem shr_bound (zs : List Int) : shr zs ≤ 1048576 * zs.length := sumN_le (fun x _ => Nat.pow_le_pow_right (by decide) (show 20 - x.toNat ≤ 20 by omega))
/-- What the share is, or why there is none. -/
def ShareP (zs : List Int) (n : Int) (err : Nat) : Prop := (¬ (zs.length ≤ 258 ∧ Within 0 20 zs) ∧ n = 0 ∧ err = 1) ∨ ((zs.length ≤ 258 ∧ Within 0 20 zs) ∧ n = (shr zs : Int) ∧ err = 0)
end Go.Proofs.YtmlcdfimcabgkaaDoor

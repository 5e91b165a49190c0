/-
  slices.Repeat OF ONE NUMBER; a builtin copy whose run is known.
-/
import Derived.Test.YthkiaddmgggbpaaInts
import Derived.Laws.CopyRow
import Derived.Laws.BitsAllLaws
import Derived.StillTailTactics
import Derived.Deep.RegionHeld3
namespace Go.Proofs.Ythkiaddmgggbpaa
open Go.RowKit
set_option linter.unusedVariables false
/-- A builtin copy whose run is known. -/
theorem wpList_copyRun {P : Program} {ops : Array Oper} {rest : List Oper} {o : Oper} {a : Act} {w : World} {Q : Exit → Act → World → Prop} (hgd : o.guard = none) (d s : Operand) (t t' : TypeId)
    (ho : o.op = .call { callee := .builtin .copy, args := #[d, s], argTypes := #[t, t'] }) (v u : Value) (hd : a.eval d = v) (hs : a.eval s = u) {v' : Value} {w' : World}
    (hr : (Builtin.copy_ #[t, t'] o.type #[v, u]).run P w = .ok v' w') (h : wpList P ops Q rest (a.put o.dst v') w') : wpList P ops Q (o :: rest) a w :=
  wpList_plain hgd fun K hK => by
    unfold Oper.wp execOp
    simp only [ho, resolve, invoke, builtin, Sem.run_bind, Sem.run_pure, Result.andThen_ok, List.map_toArray, List.map_cons, List.map_nil, hd, hs, hr]
    exact hK _ _ h
set_option maxHeartbeats 1000000 in
theorem mul64_any (n : Nat) (w : World) (hn : n ≤ 1000000) : Calls Try.prog 68 #[.int .u64 1, .int .u64 (n : Int)] w fun e w' => e = .returned (.tuple #[.int .u64 0, .int .u64 (n : Int)]) ∧ w' = w := by
  have h1 : bits BinOp.and IntKind.u64 1 4294967295 = 1 := by decide
  have h2 : bits BinOp.and IntKind.u64 (n : Int) 4294967295 = (n : Int) := by
    have h := u64_and_nat n 4294967295 (by omega) (by omega)
    have e : n &&& 4294967295 = n := by
      have := Nat.and_two_pow_sub_one_eq_mod n 32
      have h3 : (2 ^ 32 - 1 : Nat) = 4294967295 := by decide
      rw [h3] at this
      rw [this, Nat.mod_eq_of_lt (by omega)]
    rw [e] at h
    exact h
  have h3 : bits BinOp.and IntKind.u64 0 4294967295 = 0 := by decide
  have h4 : (n : Int) / 2 ^ 32 = 0 := Int.ediv_eq_zero_of_lt (by omega) (by omega)
  have h5 : (n : Int) / 4294967296 = 0 := Int.ediv_eq_zero_of_lt (by omega) (by omega)
  have hu : ∀ x : Int, 0 ≤ x → x ≤ 1000000 → IntKind.u64.wrap x = x := fun x hx hx2 => by simp [IntKind.wrap, IntKind.bits, IntKind.signed]; omega
  have hw := hu (n : Int) (by omega) (by omega)
  clear hu
  go_enter Try.func68, Try.ntmps68
  go_wp2_with fail
  go_ret2
  exact ⟨rfl, rfl⟩
set_option maxHeartbeats 1000000 in
theorem mul_any (n : Nat) (w : World) (hn : n ≤ 1000000) : Calls Try.prog 64 #[.int .u64 1, .int .u64 (n : Int)] w fun e w' => e = .returned (.tuple #[.int .u64 0, .int .u64 (n : Int)]) ∧ w' = w := by
  go_enter Try.func64, Try.ntmps64
  go_wp2_with fail
  refine (mul64_any n _ hn).mono ?_
  rintro e w' ⟨rfl, rfl⟩
  go_wp2_with fail
  go_ret2
  exact ⟨rfl, rfl⟩
/-! ### slices.Repeat -/
def fill (x : Int) (n k : Nat) : List Int := List.replicate k x ++ List.replicate (n - k) 0
theorem fill_len (x : Int) (n k : Nat) (h : k ≤ n) : (fill x n k).length = n := by unfold fill; simp; omega
theorem fill_get (x : Int) (n k j : Nat) (h : j < k) : (fill x n k)[j]? = some x := by
  unfold fill
  rw [List.getElem?_append_left (by simp; exact h)]
  simp [h]
theorem fill_zero (x : Int) (n : Nat) : fill x n 0 = List.replicate n 0 := by simp [fill]
theorem fill_all (x : Int) (n : Nat) : fill x n n = List.replicate n x := by simp [fill]
theorem fill_step (x : Int) (n k m : Nat) (h : k + m ≤ n) : (fill x n k).take k ++ List.replicate m x ++ (fill x n k).drop (k + m) = fill x n (k + m) := by
  unfold fill
  rw [List.take_append_of_le_length (by simp), List.take_of_length_le (by simp), List.drop_append, List.length_replicate, List.drop_of_length_le (by simp)]
  rw [show k + m - k = m by omega, List.drop_replicate, List.nil_append, List.replicate_append_replicate, show n - k - m = n - (k + m) by omega]
set_option maxRecDepth 100000 in
theorem copy_fill (W : World) (ty g n k : Nat) (x : Int) (sb so sl sc m : Nat) (hR : RowI W g (fill x n k)) (hk : k ≤ n) (hm : m = min sl (n - k)) (hs : ∀ j, j < m → W.cell? ⟨sb, so + j, none⟩ = some (.int .i64 x)) :
    ∃ cs, (Builtin.copy_ #[33, 33] ty #[.slice (some ⟨g, k, none⟩) (n - k) (n - k), .slice (some ⟨sb, so, none⟩) sl sc]).run Try.prog W = .ok (.int .i64 (m : Int)) (W.setRow g cs) ∧ RowI (W.setRow g cs) g (fill x n (k + m)) := by
  have h := run_copy_row (P := Try.prog) W 33 33 ty 3 g k (n - k) (n - k) ⟨sb, so, none⟩ sl sc _ 3 (List.replicate m (iv64 x)) Try.underlying33 (by kernel_rfl) hR (by rw [List.length_replicate, hm]) (fun j v hj => by
    rw [List.getElem?_replicate] at hj
    split at hj
    · cases hj
      rename_i hjm
      rw [Addr.add_lit]
      exact hs j hjm
    · cases hj) (by rw [List.length_replicate]; simp [fill]; omega) (fun v hv => by rw [List.eq_of_mem_replicate hv]; rfl)
  rw [List.length_replicate] at h
  refine ⟨_, h, ?_⟩
  have h2 := setRow_heap W g _ (((fill x n k).map iv64).toArray.toList.take k ++ List.replicate m (iv64 x) ++ ((fill x n k).map iv64).toArray.toList.drop (k + m)).toArray 3 (0, 0) hR
  unfold RowI
  rw [h2]
  congr 2
  apply Array.toList_inj.1
  show ((fill x n k).map iv64).take k ++ List.replicate m (iv64 x) ++ ((fill x n k).map iv64).drop (k + m) = (fill x n (k + m)).map iv64
  rw [← fill_step x n k m (by omega), List.map_append, List.map_append, List.map_take, List.map_drop, List.map_replicate]
set_option maxRecDepth 100000 in
set_option maxHeartbeats 2000000 in
theorem repeat_any (v : Value) (x : Int) (n : Nat) (w : World) (hv : IsInts w v [x]) (h1 : 1 ≤ n) (hn : n ≤ 1000) :
    Calls Try.prog 51 #[v, .int .i64 (n : Int)] w fun e w' => e = .returned (.slice (some ⟨w.heap.size, 0, none⟩) n n) ∧ RowI w' w.heap.size (List.replicate n x) ∧ Below w.heap.size w w' := by
  obtain ⟨b, off, cap, rfl, c0⟩ := hv.cell (k := 0) (by simp)
  have hcl := cell_lt c0
  have HMU := Lib.hid (mul_any n w (by omega))
  have hmk := make_ints n (by omega) w
  have HR0 : Hid (RowI (w.alloc (.cells (madeCells #[Value.int .i64 0] n) 3)) w.heap.size (fill x n 0)) := Lib.hid (by rw [fill_zero]; exact RowI.made w n)
  have hB0 := (Below.refl w.heap.size w).alloc (Nat.le_refl _) (.cells (madeCells #[Value.int .i64 0] n) 3)
  have HB0 := Lib.hid hB0
  have c1 := (hB0.cell (p := ⟨b, off + 0, none⟩) hcl).trans c0
  clear hv hB0
  generalize hg : w.heap.size = g at *
  generalize hw1 : w.alloc (.cells (madeCells #[Value.int .i64 0] n) 3) = w1 at *
  have HG := Lib.hid hg
  have hc1 := fun ty => copy_fill w1 ty g n 0 x b off [x].length cap 1 HR0.out (by omega) (by simp; omega) (fun j hj => by
    obtain rfl : j = 0 := by omega
    exact c1)
  have HC1 := Lib.hid hc1
  clear hg hw1 c0 c1 hcl hc1
  go_enter Try.func51, Try.ntmps51
  go_wp2_with fail
  refine HMU.out.mono ?_
  rintro e w' ⟨rfl, rfl⟩
  obtain ⟨cs, hr, hR1⟩ := HC1.out 3
  have HR1 := Lib.hid hR1
  have HB1 : Hid (Below g w' (w1.setRow g cs)) := Lib.hid (below_setRow HB0.out (Nat.le_refl _) cs)
  have hr2 : (Builtin.copy_ #[33, 33] 3 #[.slice (some ⟨g, 0, none⟩) n n, .slice (some ⟨b, off, none⟩) 1 cap]).run Try.prog w1 = .ok (.int .i64 1) (w1.setRow g cs) := hr
  clear hr hR1
  go_wp2_with fail
  generalize w1.setRow g cs = w2 at *
  clear hr2
  go_loopw [8] (fun vk wr => ∃ k : Nat, vk = .int .i64 (k : Int) ∧ 1 ≤ k ∧ k ≤ n ∧ RowI wr g (fill x n k) ∧ Below g w' wr) (fun vk _ => n - (intOf vk).toNat)
  case atStart => exact ⟨1, rfl, by omega, h1, HR1.out, HB1.out⟩
  case round =>
    clear HR1 HB1
    obtain ⟨k, rfl, hk1, hk, hR, hB⟩ := hrel
    have HR := Lib.hid hR
    have HB := Lib.hid hB
    clear hR hB
    by_cases hkn : k < n
    · have hki : (k : Int) < (n : Int) := by omega
      have hk0 : (0 : Int) ≤ (k : Int) := by omega
      have hki2 : (k : Int) ≤ (n : Int) := by omega
      obtain ⟨m, hm⟩ : ∃ m, min k (n - k) = m := ⟨_, rfl⟩
      have hc := fun W (hRW : RowI W g (fill x n k)) => copy_fill W 3 g n k x g 0 k n m hRW hk hm.symm (fun j hj => by
        have h1 := (hRW.cell (i := j) (by rw [fill_len x n k hk]; omega)).1
        rw [Nat.zero_add, h1, List.getD_eq_getElem?_getD, fill_get x n k j (by omega)]
        rfl)
      obtain ⟨cs2, hr3, hR3⟩ := hc (wr.drewN 1) HR.out
      obtain ⟨d, hd⟩ : ∃ d, n - k = d := ⟨_, rfl⟩
      have hdi : (n : Int) - (k : Int) = (d : Int) := by omega
      rw [hd] at hr3
      have HR3 : Hid (RowI (wr.drew.setRow g cs2) g (fill x n (k + m))) := Lib.hid hR3
      have HB3 : Hid (Below g w' (wr.drew.setRow g cs2)) := Lib.hid (below_setRow HB.out.drew (Nat.le_refl _) cs2)
      have hmb : 1 ≤ m ∧ k + m ≤ n := by omega
      have hm1 := hmb.1
      have hm2 := hmb.2
      have HWR : Hid (IntKind.i64.wrap ((k : Int) + (m : Int)) = ((k + m : Nat) : Int)) := Lib.hid (by rw [IntWalk.i64_in _ (by omega)]; simp)
      clear hc hm hR3 hmb
      have hr4 : (Builtin.copy_ #[33, 33] 3 #[.slice (some ⟨g, k, none⟩) d d, .slice (some ⟨g, 0, none⟩) k n]).run Try.prog wr.drew = .ok (.int .i64 (m : Int)) (wr.drew.setRow g cs2) := hr3
      clear hr3
      go_wp2_with fail
      go_region_held3 (fun W => True) (trivial) (fail)
      rw [HWR.out]
      generalize wr.drew.setRow g cs2 = w5 at *
      clear hr4
      go_wp2_with fail
      go_roundw
      case rel => exact ⟨k + m, rfl, by omega, by omega, HR3.out, HB3.out⟩
      case measure => simp [intOf]; omega
    · obtain rfl : k = n := by omega
      go_wp2_with fail
      go_ret
      exact ⟨rfl, by rw [← fill_all]; exact HR.out, HB.out⟩
end Go.Proofs.Ythkiaddmgggbpaa

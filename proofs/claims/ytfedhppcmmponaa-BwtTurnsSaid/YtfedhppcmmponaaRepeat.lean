/-
  slices.Repeat OF ONE NUMBER; a builtin copy whose run is known.
-/
import Derived.Test.YtfedhppcmmponaaInts
import Derived.Laws.CopyRow
import Derived.Laws.BitsAllLaws
import Derived.StillTailTactics
import Derived.Deep.RegionHeld3
namespace Go.Proofs.Ytfedhppcmmponaa
open Go.RowKit
set_option linter.unusedVariables false
/-- A builtin copy whose run is known. -/
theorem wpList_copyRun {P : Program} {ops : Array Oper} {rest : List Oper} {o : Oper} {a : Act} {w : World} {Q : Exit → Act → World → Prop} (hgd : o.guard = none) (d s : Operand) (t t' : TypeId)
    (ho : o.op = .call { callee := .builtin .copy, args := #[d, s], argTypes := #[t, t'] }) (v u : Value) (hd : a.eval d = v) (hs : a.eval s = u) {v' : Value} {w' : World}
    (hr : (Builtin.copy_ #[t, t'] o.type #[v, u]).run P w = .ok v' w') (h : wpList P ops Q rest (a.put o.dst v') w') : wpList P ops Q (o :: rest) a w :=
  wpList_plain hgd fun K hK => by
    unfold Oper.wp execOp
    simp only [ho, resolve, invoke, builtin, Sem.run_bind, Sem.run_pure, Result.andThen_ok, List.map_toArray, List.map_cons, List.map_nil, hd, hs, hr]
    exact hK _ _ h
/-! ### slices.Repeat -/
def fill (x : Int) (n k : Nat) : List Int := List.replicate k x ++ List.replicate (n - k) 0
theorem fill_len (x : Int) (n k : Nat) (h : k ≤ n) : (fill x n k).length = n := by unfold fill; simp; omega
theorem fill_get (x : Int) (n k j : Nat) (h : j < k) : (fill x n k)[j]? = some x := by
  unfold fill
  rw [List.getElem?_append_left (by simp; exact h)]
  simp [h]
theorem fill_zero (x : Int) (n : Nat) : fill x n 0 = List.replicate n 0 := by simp [fill]
theorem fill_all (x : Int) (n : Nat) : fill x n n = List.replicate n x := by simp [fill]
theorem fill_step (x : Int) (n k m : Nat) (h : k + m ≤ n) : (fill x n k).take k ++ List.replicate m x ++ (fill x n k).drop (k + m) = fill x n (k + m) := by
  unfold fill
  rw [List.take_append_of_le_length (by simp), List.take_of_length_le (by simp), List.drop_append, List.length_replicate, List.drop_of_length_le (by simp)]
  rw [show k + m - k = m by omega, List.drop_replicate, List.nil_append, List.replicate_append_replicate, show n - k - m = n - (k + m) by omega]
set_option maxRecDepth 100000 in
theorem copy_fill (W : World) (ty g n k : Nat) (x : Int) (sb so sl sc m : Nat) (hR : RowI W g (fill x n k)) (hk : k ≤ n) (hm : m = min sl (n - k)) (hs : ∀ j, j < m → W.cell? ⟨sb, so + j, none⟩ = some (.int .i64 x)) :
    ∃ cs, (Builtin.copy_ #[23, 23] ty #[.slice (some ⟨g, k, none⟩) (n - k) (n - k), .slice (some ⟨sb, so, none⟩) sl sc]).run Try.prog W = .ok (.int .i64 (m : Int)) (W.setRow g cs) ∧ RowI (W.setRow g cs) g (fill x n (k + m)) := by
  have h := run_copy_row (P := Try.prog) W 23 23 ty 3 g k (n - k) (n - k) ⟨sb, so, none⟩ sl sc _ 3 (List.replicate m (iv64 x)) Try.underlying23 (by kernel_rfl) hR (by rw [List.length_replicate, hm]) (fun j v hj => by
    rw [List.getElem?_replicate] at hj
    split at hj
    · cases hj
      rename_i hjm
      rw [Addr.add_lit]
      exact hs j hjm
    · cases hj) (by rw [List.length_replicate]; simp [fill]; omega) (fun v hv => by rw [List.eq_of_mem_replicate hv]; rfl)
  rw [List.length_replicate] at h
  refine ⟨_, h, ?_⟩
  have h2 := setRow_heap W g _ (((fill x n k).map iv64).toArray.toList.take k ++ List.replicate m (iv64 x) ++ ((fill x n k).map iv64).toArray.toList.drop (k + m)).toArray 3 (0, 0) hR
  unfold RowI
  rw [h2]
  congr 2
  apply Array.toList_inj.1
  show ((fill x n k).map iv64).take k ++ List.replicate m (iv64 x) ++ ((fill x n k).map iv64).drop (k + m) = (fill x n (k + m)).map iv64
  rw [← fill_step x n k m (by omega), List.map_append, List.map_append, List.map_take, List.map_drop, List.map_replicate]
end Go.Proofs.Ytfedhppcmmponaa

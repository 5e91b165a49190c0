/-
  LAYER 1's STATEMENTS: a reader, by definition (1.2, 1.3).
-/
import Derived.Test.YthkgkhpfahippaaBitsRC
namespace Go.Proofs.Ythkgkhpfahippaa
open Go.RowKit BitM
set_option linter.unusedVariables false
/-- A state by value. -/
def stv (A : ByteArray) (p dr : Nat) : Value := .agg #[.string A, .int .i64 (p : Int), .int .i64 (dr : Int)]
theorem info_state : (Try.prog.info? 40).map (·.size) = some 3 := by kernel_rfl
theorem on_any (A : ByteArray) (p dr : Nat) (q : Int) (w : World) : Calls Try.prog 58 #[.agg #[.string A, .int .i64 (p : Int), .int .i64 (dr : Int)], .int .i64 q] w fun e w' => e = .returned (.agg #[.string A, .int .i64 q, .int .i64 (dr : Int)]) ∧ Below w.heap.size w w' := by
  go_enter Try.func58, Try.ntmps58
  go_wp2_with fail
  refine bodyPost_ret (v := .agg #[.string A, .int .i64 q, .int .i64 (dr : Int)]) (results_cell_row rfl _ _ (w.heap.size + 1) 40 #[.string A, .int .i64 q, .int .i64 (dr : Int)] (0, 0) _ rfl (heap_alloc2_new _ _ _) Try.underlying40 rfl info_state) rfl ⟨rfl, ?_⟩
  exact (((Below.refl _ _).alloc (Nat.le_refl _) _).alloc (by simp) _)
theorem rat_quiet (b : Nat) (v : Value) (l : List UInt8) (dr sp p : Nat) (w : World) (h : IsReader w b v l dr sp p) : Calls Try.prog 32 #[.pointer (some ⟨b, 0, none⟩)] w fun e w' => e = .returned (.int .i64 (p : Int)) ∧ ∃ n, w' = w.drewN n :=
  (rat_any b v l dr sp p w h).mono fun _ _ ⟨e, h⟩ => ⟨e, 0, h.symm⟩
theorem rheld_quiet (b : Nat) (v : Value) (l : List UInt8) (dr sp p : Nat) (w : World) (h : IsReader w b v l dr sp p) : Calls Try.prog 38 #[.pointer (some ⟨b, 0, none⟩)] w fun e w' => e = .returned (.int .i64 (l.length : Int)) ∧ ∃ n, w' = w.drewN n :=
  (rheld_any b v l dr sp p w h).mono fun _ _ ⟨e, h⟩ => ⟨e, 0, h.symm⟩
set_option maxRecDepth 100000 in
set_option maxHeartbeats 1000000 in
theorem fit_any (A : ByteArray) (b : Nat) (v : Value) (l : List UInt8) (dr sp p : Nat) (w : World) (h : IsReader w b v l dr sp p) (hs : dr + l.length ≤ 1099511627776) (hA : A.size = 8 * (dr + l.length)) :
    Calls Try.prog 30 #[.agg #[.string A, .int .i64 (p : Int), .int .i64 (dr : Int)], .pointer (some ⟨b, 0, none⟩)] w fun e w' => e = .returned (.bool true) ∧ Below w.heap.size w w' := by
  obtain ⟨L, hL⟩ : ∃ L, 8 * (dr + l.length) - p = L := ⟨_, rfl⟩
  have hp2 := h.2.2.2.2
  have hAL : (A.size : Int) - (p : Int) = (L : Int) := by omega
  have hAH : (A.size : Int) / 8 - (dr : Int) = (l.length : Int) := by omega
  have hpb : (p : Int) ≤ 8796093022208 := by omega
  have hAb : (A.size : Int) ≤ 8796093022208 := by omega
  have hA8 : (A.size : Int) / 8 ≤ 8796093022208 := by omega
  have hA80 : (0 : Int) ≤ (A.size : Int) / 8 := by omega
  have hdb : (dr : Int) ≤ 8796093022208 := by omega
  have HLL := Lib.hid hL
  have W1 := Lib.hid (h.other ((Touch.refl (fun _ => False) w).alloc (.cells #[.string A, .int .i64 (p : Int), .int .i64 (dr : Int)] 40)) (fun _ _ h => h))
  clear h hL hA hp2
  go_enter Try.func30, Try.ntmps30
  go_wp2_with fail
  go_quiet ((first
    | (go_at_call 32; exact Calls.quiet_of (rat_quiet b v l dr sp p _ (W1.out.drewN _)))
    | (go_at_call 33; exact Calls.quiet_of (rleft_any b v l dr sp p L _ (W1.out.drewN _) hs HLL.out))
    | (go_at_call 38; exact Calls.quiet_of (rheld_quiet b v l dr sp p _ (W1.out.drewN _)))))
  go_wp2_with fail
  go_ret
  exact ⟨rfl, ((Below.refl _ _).alloc (Nat.le_refl _) _).trans ⟨rfl, rfl, rfl, Nat.le_refl _, fun _ _ => rfl⟩⟩
end Go.Proofs.Ythkgkhpfahippaa

/-
  THE WALKS OF LAYER 7's CODE (package zeros): a Reader; what a code is.
-/
import Derived.Test.YthfdmmlamomlkaaZerB
import Derived.BigQuiet
namespace Go.Proofs.Ythfdmmlamomlkaa
open Go.RowKit ZerM
set_option linter.unusedVariables false
/-- Block b is a reader of n symbols, that has s. -/
def IsZR (w : World) (b : Nat) (n : Int) (most : Nat) (s : St) : Prop :=
  w.heap[b]? = some (.cells #[.int .i64 n, .int .i64 (most : Int), .int .i64 (cnt s : Int), .int .i64 (val s.rc : Int), .int .i64 (s.rc.length : Int), .bool s.done] 60 (0, 0))
theorem IsZR.cells {w : World} {b : Nat} {n : Int} {most : Nat} {s : St} (h : IsZR w b n most s) :
    w.cell? ⟨b, 0, none⟩ = some (.int .i64 n) ∧ w.cell? ⟨b, 1, none⟩ = some (.int .i64 (most : Int)) ∧ w.cell? ⟨b, 2, none⟩ = some (.int .i64 (cnt s : Int)) ∧ w.cell? ⟨b, 3, none⟩ = some (.int .i64 (val s.rc : Int)) ∧
    w.cell? ⟨b, 4, none⟩ = some (.int .i64 (s.rc.length : Int)) ∧ w.cell? ⟨b, 5, none⟩ = some (.bool s.done) ∧
    w.frozen? ⟨b, 2, none⟩ = false ∧ w.frozen? ⟨b, 3, none⟩ = false ∧ w.frozen? ⟨b, 4, none⟩ = false ∧ w.frozen? ⟨b, 5, none⟩ = false := by
  refine ⟨?_, ?_, ?_, ?_, ?_, ?_, frozen_of_row _ _ _ _ _ h, frozen_of_row _ _ _ _ _ h, frozen_of_row _ _ _ _ _ h, frozen_of_row _ _ _ _ _ h⟩ <;> (rw [cell_of_row _ _ _ _ _ _ h]; rfl)
theorem IsZR.lt {w : World} {b : Nat} {n : Int} {most : Nat} {s : St} (h : IsZR w b n most s) : b < w.heap.size := (Array.getElem?_eq_some_iff.1 h).1
theorem IsZR.below {w w' : World} {b : Nat} {n : Int} {most : Nat} {s : St} (h : IsZR w b n most s) (hb : Below w.heap.size w w') : IsZR w' b n most s := (hb.block b h.lt).trans h
theorem IsZR.other {w w' : World} {b : Nat} {n : Int} {most : Nat} {s : St} (h : IsZR w b n most s) {S : Nat → Prop} (ht : Touch S w w') (hS : ¬ S b) : IsZR w' b n most s := (ht.block b h.lt hS).trans h
theorem IsZR.drewN {w : World} {b : Nat} {n : Int} {most : Nat} {s : St} (h : IsZR w b n most s) (m : Nat) : IsZR (w.drewN m) b n most s := h
set_option maxHeartbeats 400000 in
theorem zdone_any (b : Nat) (n : Int) (most : Nat) (s : St) (w : World) (h : IsZR w b n most s) : Calls Try.prog 26 #[.pointer (some ⟨b, 0, none⟩)] w fun e w' => e = .returned (.bool s.done) ∧ w = w' := by
  obtain ⟨c0, c1, c2, c3, c4, c5, _⟩ := h.cells
  clear h
  go_enter Try.func26, Try.ntmps26
  go_wp2_with fail
  go_ret
  exact ⟨rfl, rfl⟩
theorem zdone_nil (w : World) : Calls Try.prog 26 #[.pointer none] w fun e w' => e = .returned (.bool false) ∧ w = w' := by
  go_enter Try.func26, Try.ntmps26
  go_wp2_with fail
  go_ret
  exact ⟨rfl, rfl⟩
set_option maxHeartbeats 400000 in
theorem zcount_any (b : Nat) (n : Int) (most : Nat) (s : St) (w : World) (h : IsZR w b n most s) : Calls Try.prog 27 #[.pointer (some ⟨b, 0, none⟩)] w fun e w' => e = .returned (.int .i64 (cnt s : Int)) ∧ w = w' := by
  obtain ⟨c0, c1, c2, c3, c4, c5, _⟩ := h.cells
  clear h
  go_enter Try.func27, Try.ntmps27
  go_wp2_with fail
  go_ret
  exact ⟨rfl, rfl⟩
theorem zcount_nil (w : World) : Calls Try.prog 27 #[.pointer none] w fun e w' => e = .returned (.int .i64 0) ∧ w = w' := by
  go_enter Try.func27, Try.ntmps27
  go_wp2_with fail
  go_ret
  exact ⟨rfl, rfl⟩
theorem zput_nil (c : Int) (w : World) : Calls Try.prog 24 #[.pointer none, .int .i64 c] w fun e w' => e = .returned (.tuple #[.int .i64 0, .int .i64 0, .int .i64 7]) ∧ w = w' := by
  go_enter Try.func24, Try.ntmps24
  go_wp2_with fail
  go_ret3
  exact ⟨rfl, rfl⟩
/-! ### What a code is -/
set_option maxHeartbeats 400000 in
theorem kind_none (c n : Int) (w : World) (h1 : 1 ≤ n) (h2 : n ≤ 256) (h : c < 0 ∨ n + 1 < c) : Calls Try.prog 49 #[.int .i64 c, .int .i64 n] w fun e w' => e = .returned (.int .i64 0) ∧ w = w' := by
  have hw : IntKind.i64.wrap (n + 1) = n + 1 := IntWalk.i64_in _ (by omega)
  by_cases h0 : c < 0
  · go_enter Try.func49, Try.ntmps49
    go_wp2_with fail
    go_ret
    exact ⟨rfl, rfl⟩
  · have h3 : n + 1 < c := by omega
    clear h
    go_enter Try.func49, Try.ntmps49
    go_wp2_with fail
    go_ret
    exact ⟨rfl, rfl⟩
set_option maxHeartbeats 400000 in
theorem kind_part (c n : Int) (w : World) (h1 : 1 ≤ n) (h2 : n ≤ 256) (h3 : 0 ≤ c) (h4 : c < 2) : Calls Try.prog 49 #[.int .i64 c, .int .i64 n] w fun e w' => e = .returned (.int .i64 1) ∧ w = w' := by
  have hw : IntKind.i64.wrap (n + 1) = n + 1 := IntWalk.i64_in _ (by omega)
  have h5 : c ≤ n + 1 := by omega
  have h6 : c ≤ 1 := by omega
  go_enter Try.func49, Try.ntmps49
  go_wp2_with fail
  go_ret
  exact ⟨rfl, rfl⟩
set_option maxHeartbeats 400000 in
theorem kind_one (c n : Int) (w : World) (h1 : 1 ≤ n) (h2 : n ≤ 256) (h3 : 2 ≤ c) (h4 : c ≤ n) : Calls Try.prog 49 #[.int .i64 c, .int .i64 n] w fun e w' => e = .returned (.int .i64 2) ∧ w = w' := by
  have hw : IntKind.i64.wrap (n + 1) = n + 1 := IntWalk.i64_in _ (by omega)
  have h5 : c ≤ n + 1 := by omega
  have h6 : 1 < c := by omega
  have h7 : ¬ c < 0 := by omega
  go_enter Try.func49, Try.ntmps49
  go_wp2_with fail
  go_ret
  exact ⟨rfl, rfl⟩
set_option maxHeartbeats 400000 in
theorem kind_end (n : Int) (w : World) (h1 : 1 ≤ n) (h2 : n ≤ 256) : Calls Try.prog 49 #[.int .i64 (n + 1), .int .i64 n] w fun e w' => e = .returned (.int .i64 3) ∧ w = w' := by
  obtain ⟨c, hc⟩ : ∃ c, n + 1 = c := ⟨_, rfl⟩
  rw [hc]
  have hw : IntKind.i64.wrap (n + 1) = c := by rw [hc]; exact IntWalk.i64_in _ (by omega)
  have h6 : 1 < c := by omega
  have h7 : ¬ c < 0 := by omega
  have h8 : n < c := by omega
  clear hc
  go_enter Try.func49, Try.ntmps49
  go_wp2_with fail
  go_ret
  exact ⟨rfl, rfl⟩
set_option maxHeartbeats 400000 in
theorem further_part (b : Nat) (n : Int) (most : Nat) (s : St) (c : Int) (X : Nat) (w : World) (h : IsZR w b n most s) (hc : c = 0 ∨ c = 1) (hL : s.rc.length ≤ 40) (hX : (1 + c.toNat) * 2 ^ s.rc.length = X) :
    Calls Try.prog 50 #[.pointer (some ⟨b, 0, none⟩), .int .i64 1, .int .i64 c] w fun e w' => e = .returned (.int .i64 (X : Int)) ∧ w = w' := by
  obtain ⟨c0, c1, c2, c3, c4, c5, _⟩ := h.cells
  clear h
  generalize s.rc.length = L at *
  have hp : 2 ^ L ≤ 2 ^ 40 := Nat.pow_le_pow_right (by omega) hL
  obtain ⟨P, hP⟩ : ∃ P, 2 ^ L = P := ⟨_, rfl⟩
  have hPI : (2 : Int) ^ L = (P : Int) := by rw [← hP]; simp
  rw [hP] at hp hX
  simp at hp
  have hLI : (L : Int) ≤ 40 := by omega
  have ht : (L : Int).toNat = L := by simp
  clear hP
  rcases hc with rfl | rfl
  · obtain rfl : P = X := by simpa using hX
    have hw : IntKind.i64.wrap (P : Int) = (P : Int) := IntWalk.i64_in _ (by omega)
    clear hX
    go_enter Try.func50, Try.ntmps50
    go_wp2_with fail
    go_ret
    exact ⟨rfl, rfl⟩
  · have hX2 : (2 : Int) * (P : Int) = (X : Int) := by simp at hX; omega
    have hw : IntKind.i64.wrap (X : Int) = (X : Int) := IntWalk.i64_in _ (by omega)
    clear hX
    go_enter Try.func50, Try.ntmps50
    go_wp2_with fail
    go_ret
    exact ⟨rfl, rfl⟩
set_option maxHeartbeats 400000 in
theorem further_one (v c : Value) (w : World) : Calls Try.prog 50 #[v, .int .i64 2, c] w fun e w' => e = .returned (.int .i64 1) ∧ w = w' := by
  go_enter Try.func50, Try.ntmps50
  go_wp2_with fail
  go_ret
  exact ⟨rfl, rfl⟩
set_option maxHeartbeats 400000 in
theorem further_end (v c : Value) (w : World) : Calls Try.prog 50 #[v, .int .i64 3, c] w fun e w' => e = .returned (.int .i64 0) ∧ w = w' := by
  go_enter Try.func50, Try.ntmps50
  go_wp2_with fail
  go_ret
  exact ⟨rfl, rfl⟩
end Go.Proofs.Ythfdmmlamomlkaa

/-
  OPENING A ROW OF OPERATIONS.
-/
import Derived.Test.YthkgkhpfahippaaBitsLawB
import Derived.Test.YthkgkhpfahippaaOpen
namespace Go.Proofs.Ythkgkhpfahippaa
open Go.ChangeShapes Go.WideShapes Go.ChangeAt Go.RowKit Go.Deep
theorem open_ops {H : Type} {enc : TypeId × Value → H} {P : Program} {W : World} {base : Nat} {t e : TypeId} {v : Value} {d : DataW H} {p : List MemPlace}
    (ht : P.underlying t = some (.slice e)) (hk : Opn.kinds P 2 e = some [.int .i64, .int .i64, .int .u32, .str]) (hm : P.cellsOf e = 4)
    (hv : Value.okWide P W .any base t v) (h : DataW.Trod enc P W 0 (fun _ => true) true t v d p) : ∃ a len cap l, v = .slice a len cap ∧ IsOps W a len l := by
  refine Opn.open_elems 4 2 _ OpR.cells OpR.Ok ht hk hm (by omega) (fun vs hall => ?_) hv h
  have hl := hall.length
  obtain ⟨x0, x1, x2, x3, rfl⟩ : ∃ x0 x1 x2 x3, vs = [x0, x1, x2, x3] := by
    rcases vs with _ | ⟨x0, _ | ⟨x1, _ | ⟨x2, _ | ⟨x3, _ | ⟨x4, r⟩⟩⟩⟩⟩
    · cases hl
    · cases hl
    · cases hl
    · cases hl
    · exact ⟨_, _, _, _, rfl⟩
    · simp at hl
  obtain ⟨⟨q0, e0, h0⟩, ⟨q1, e1, h1⟩, ⟨q2, e2, h2⟩, ⟨s, e3, h3⟩, _⟩ := hall
  have w1 : -9223372036854775808 ≤ q1 ∧ q1 ≤ 9223372036854775807 := by
    simp only [Lit.wf, Bool.and_eq_true, decide_eq_true_eq] at h1; exact h1
  have w2 : 0 ≤ q2 ∧ q2 ≤ 4294967295 := by
    simp only [Lit.wf, Bool.and_eq_true, decide_eq_true_eq] at h2; exact h2
  refine ⟨⟨q0, q1, q2.toNat, s⟩, ?_, w1.1, w1.2, by show q2.toNat < _; omega, h3⟩
  rw [e0, e1, e2, e3]
  show _ = [Value.int .i64 q0, .int .i64 q1, .int .u32 ((q2.toNat : Nat) : Int), .string s]
  rw [Int.toNat_of_nonneg w2.1]
end Go.Proofs.Ythkgkhpfahippaa

/-
  OPENING AN 'Op' (three numbers and a text) AND A ROW OF THEM.
-/
import Derived.Test.YthkgkhpfahippaaOpen
namespace Go.Proofs.Ythkgkhpfahippaa
namespace Opn
open Go.ChangeShapes Go.WideShapes Go.ChangeAt Go.RowKit Go.Deep
section
variable {H : Type} {enc : TypeId × Value → H} {P : Program}
/-- THREE NUMBERS AND A TEXT BY VALUE. -/
theorem open_op {W : World} {base : Nat} {t : TypeId} {v : Value} {d : DataW H} {p : List MemPlace} (hk : kinds P 2 t = some [.int .i64, .int .i64, .int .u32, .str]) (hu : (match P.underlying t with | some (.struct _) | some (.array _ _) => true | _ => false) = true)
    (hv : Value.okWide P W .any base t v) (h : DataW.Trod enc P W 0 (fun _ => true) true t v d p) :
    ∃ K N V S, v = .agg #[.int .i64 K, .int .i64 N, .int .u32 V, .string S] ∧ ((Lit.int .i64 K).wf = true ∧ (Lit.int .i64 N).wf = true ∧ (Lit.int .u32 V).wf = true ∧ S.size ≤ maxLen) := by
  obtain ⟨cs, rfl, hall⟩ := open_flat 2 _ hk hu hv h
  clear h hv
  have e : cs = cs.toList.toArray := by simp
  rw [e]
  clear e
  revert hall
  generalize cs.toList = l
  intro hall
  have hl := hall.length
  obtain ⟨x0, x1, x2, x3, rfl⟩ : ∃ x0 x1 x2 x3, l = [x0, x1, x2, x3] := by
    rcases l with _ | ⟨x0, _ | ⟨x1, _ | ⟨x2, _ | ⟨x3, _ | ⟨x4, r⟩⟩⟩⟩⟩
    · cases hl
    · cases hl
    · cases hl
    · cases hl
    · exact ⟨_, _, _, _, rfl⟩
    · simp at hl
  obtain ⟨⟨q0, e0, h0⟩, ⟨q1, e1, h1⟩, ⟨q2, e2, h2⟩, ⟨s, e3, h3⟩, _⟩ := hall
  exact ⟨q0, q1, q2, s, by rw [e0, e1, e2, e3], h0, h1, h2, h3⟩
end
end Opn
end Go.Proofs.Ythkgkhpfahippaa

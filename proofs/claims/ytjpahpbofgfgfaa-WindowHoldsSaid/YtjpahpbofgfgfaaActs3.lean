/-
  ROWS OF ACTS OF THREE CELLS (a bool and two numbers), as an argument.
-/
import Derived.Test.YtjpahpbofgfgfaaOpen
namespace Go.Proofs.Ytjpahpbofgfgfaa
open Go.ChangeShapes Go.WideShapes Go.ChangeAt Go.RowKit Go.Deep
set_option linter.unusedVariables false
structure Act3 where
  R : Bool
  T : Int
  Z : Int
def Act3.cells (o : Act3) : List Value := [.bool o.R, .int .i64 o.T, .int .i64 o.Z]
structure Act3.Ok (o : Act3) : Prop where
  t1 : -9223372036854775808 ≤ o.T
  t2 : o.T ≤ 9223372036854775807
  n1 : -9223372036854775808 ≤ o.Z
  n2 : o.Z ≤ 9223372036854775807
def IsActs3 (w : World) (a : Option Addr) (len : Nat) (l : List Act3) : Prop := Opn.IsElems w a len 3 Act3.cells l ∧ (∀ x ∈ l, Act3.Ok x) ∧ len ≤ maxLen
theorem IsActs3.at_ {w w' : World} {a : Option Addr} {len : Nat} {l : List Act3} (h : IsActs3 w a len l) (hb : Below w.heap.size w w') {k : Nat} (hk : k < len) : ∃ o b off, l[k]? = some o ∧ Act3.Ok o ∧ a = some ⟨b, off, none⟩ ∧ b < w.heap.size ∧
    w'.cell? ⟨b, off + k * 3, none⟩ = some (.bool o.R) ∧ w'.cell? ⟨b, off + k * 3 + 1, none⟩ = some (.int .i64 o.T) ∧ w'.cell? ⟨b, off + k * 3 + 2, none⟩ = some (.int .i64 o.Z) := by
  obtain ⟨⟨hl, he⟩, hok, _⟩ := h
  have hx : l[k]? = some (l[k]'(by omega)) := List.getElem?_eq_getElem _
  obtain ⟨b, off, ha, hlt, hc⟩ := he k _ hx
  refine ⟨_, b, off, hx, hok _ (List.getElem_mem _), ha, hlt, ?_, ?_, ?_⟩
  · exact (hb.cell (p := ⟨b, off + k * 3, none⟩) hlt).trans (hc 0 _ rfl)
  · exact (hb.cell (p := ⟨b, off + k * 3 + 1, none⟩) hlt).trans (hc 1 _ rfl)
  · exact (hb.cell (p := ⟨b, off + k * 3 + 2, none⟩) hlt).trans (hc 2 _ rfl)
theorem open_acts3 {H : Type} {enc : TypeId × Value → H} {P : Program} {W : World} {base : Nat} {t e : TypeId} {v : Value} {d : DataW H} {p : List MemPlace}
    (ht : P.underlying t = some (.slice e)) (hk : Opn.kinds P 2 e = some [.bool, .int .i64, .int .i64]) (hm : P.cellsOf e = 3)
    (hv : Value.okWide P W .any base t v) (h : DataW.Trod enc P W 0 (fun _ => true) true t v d p) : ∃ a len cap l, v = .slice a len cap ∧ IsActs3 W a len l := by
  refine Opn.open_elems 3 2 _ Act3.cells Act3.Ok ht hk hm (by omega) (fun vs hall => ?_) hv h
  have hl := hall.length
  obtain ⟨x0, x1, x2, rfl⟩ : ∃ x0 x1 x2, vs = [x0, x1, x2] := by
    rcases vs with _ | ⟨x0, _ | ⟨x1, _ | ⟨x2, _ | ⟨x3, r⟩⟩⟩⟩
    · cases hl
    · cases hl
    · cases hl
    · exact ⟨_, _, _, rfl⟩
    · simp at hl
  obtain ⟨⟨q0, e0⟩, ⟨q1, e1, h1⟩, ⟨q2, e2, h2⟩, _⟩ := hall
  have w1 : -9223372036854775808 ≤ q1 ∧ q1 ≤ 9223372036854775807 := by
    simp only [Lit.wf, Bool.and_eq_true, decide_eq_true_eq] at h1; exact h1
  have w2 : -9223372036854775808 ≤ q2 ∧ q2 ≤ 9223372036854775807 := by
    simp only [Lit.wf, Bool.and_eq_true, decide_eq_true_eq] at h2; exact h2
  exact ⟨⟨q0, q1, q2⟩, by rw [e0, e1, e2]; rfl, w1.1, w1.2, w2.1, w2.2⟩
theorem wf_int64 {q : Int} (h : (Lit.int .i64 q).wf = true) : -9223372036854775808 ≤ q ∧ q ≤ 9223372036854775807 := by
  simp only [Lit.wf, Bool.and_eq_true, decide_eq_true_eq] at h; exact h
end Go.Proofs.Ytjpahpbofgfgfaa

/-
  THE WALKS OF LAYER 1's CODE (package bits): the writer's other ways, and the reader.
-/
import Derived.Test.YtgbcajglbpdgjaaDoorBits
import Derived.BigQuiet
namespace Go.Proofs.YtgbcajglbpdgjaaDoor
open Go.RowKit BitM
set_option linter.unusedVariables false

/-! ### The writer: what is refused; Pad; nil -/
/-- Bits 0 up to a whole byte. -/
def padding (q : List Bool) : List Bool := field 0 ((8 - q.length % 8) % 8)
/-! ### The reader -/
/-- v is a row of bytes l, with room behind it that may be written. -/
def IsRowB (w : World) (v : Value) (l : List UInt8) : Prop :=
  (v = .slice none 0 0 ∧ l = []) ∨ ∃ g off cap, v = .slice (some ⟨g, off, none⟩) l.length cap ∧ g < w.heap.size ∧ l.length ≤ cap ∧ cap ≤ maxLen ∧
    (∀ (i : Nat) (x : UInt8), l[i]? = some x → w.cell? ⟨g, off + i, none⟩ = some (u8v x)) ∧ (∀ i, i < cap → ∃ n, w.cell? ⟨g, off + i, none⟩ = some (.int .u8 n)) ∧ (∀ i, i < cap → w.frozen? ⟨g, off + i, none⟩ = false)
theorem IsRowB.slice {w : World} {v : Value} {l : List UInt8} (h : IsRowB w v l) : ∃ a cap, v = .slice a l.length cap ∧ l.length ≤ cap ∧ cap ≤ maxLen := by
  rcases h with ⟨rfl, rfl⟩ | ⟨g, off, cap, rfl, _, h1, h2, _⟩
  · exact ⟨none, 0, rfl, Nat.le_refl _, by decide⟩
  · exact ⟨_, cap, rfl, h1, h2⟩
theorem IsRowB.cell {w : World} {v : Value} {l : List UInt8} (h : IsRowB w v l) {i : Nat} {x : UInt8} (hx : l[i]? = some x) : ∃ g off cap, v = .slice (some ⟨g, off, none⟩) l.length cap ∧ w.cell? ⟨g, off + i, none⟩ = some (.int .u8 (x.toNat : Int)) := by
  rcases h with ⟨rfl, rfl⟩ | ⟨g, off, cap, rfl, hg, h1, h2, hc, _⟩
  · simp at hx
  · exact ⟨g, off, cap, rfl, hc i x hx⟩
theorem IsRowB.other {w w' : World} {v : Value} {l : List UInt8} (h : IsRowB w v l) (he : ∀ k, v.ownBlock = some k → w'.heap[k]? = w.heap[k]?) : IsRowB w' v l := by
  rcases h with h | ⟨g, off, cap, rfl, hg, h1, h2, hc, ha, hf⟩
  · exact Or.inl h
  · have e := he g rfl
    refine Or.inr ⟨g, off, cap, rfl, (Array.getElem?_eq_some_iff.1 (e.trans (Array.getElem?_eq_getElem hg))).1, h1, h2, fun i x hx => ?_, fun i hi => ?_, fun i hi => ?_⟩
    · rw [World.cell?_of_block (w := w) (a := ⟨g, off + i, none⟩) e]; exact hc i x hx
    · rw [World.cell?_of_block (w := w) (a := ⟨g, off + i, none⟩) e]; exact ha i hi
    · rw [World.frozen?_of_block (w := w) (a := ⟨g, off + i, none⟩) e]; exact hf i hi
theorem IsRowB.lt {w : World} {v : Value} {l : List UInt8} (h : IsRowB w v l) : ∀ k, v.ownBlock = some k → k < w.heap.size := by
  intro k hk
  rcases h with ⟨rfl, _⟩ | ⟨g, off, cap, rfl, hg, r⟩
  · simp [Value.ownBlock] at hk
  · simp [Value.ownBlock] at hk
    subst hk
    exact hg
theorem or8_code (V x : Nat) (hV : V < 2 ^ 32) (hx : x < 256) : bits BinOp.or IntKind.u64 (IntKind.u64.wrap ((V : Int) * 256)) (x : Int) = ((V * 256 + x : Nat) : Int) := by
  have e : IntKind.u64.wrap ((V : Int) * 256) = ((V * 256 : Nat) : Int) := by
    simp only [IntKind.wrap, IntKind.bits, IntKind.signed]
    simp
    omega
  rw [e, u64_or_nat _ _ (by omega) (by omega), nat_join 8 _ _ (by omega) (by omega)]
theorem get_code (V u n : Nat) (hV : V < 2 ^ 40) (hn : n ≤ 32) : bits BinOp.and IntKind.u64 ((V : Int) / 2 ^ u) (IntKind.u64.wrap (IntKind.u64.wrap (2 ^ n) - 1)) % 4294967296 = ((V / 2 ^ u % 2 ^ n : Nat) : Int) := by
  have h32 : 2 ^ n ≤ 2 ^ 32 := Nat.pow_le_pow_right (by omega) hn
  have h1 : 1 ≤ 2 ^ n := Nat.two_pow_pos n
  have e0 : (V : Int) / 2 ^ u = ((V / 2 ^ u : Nat) : Int) := by simp
  have hVu : V / 2 ^ u ≤ V := Nat.div_le_self _ _
  have e1 : (2 : Int) ^ n = ((2 ^ n : Nat) : Int) := by simp
  have e2 : IntKind.u64.wrap (IntKind.u64.wrap ((2 ^ n : Nat) : Int) - 1) = ((2 ^ n - 1 : Nat) : Int) := by
    generalize 2 ^ n = z at *
    simp only [IntKind.wrap, IntKind.bits, IntKind.signed]
    simp
    omega
  rw [e0, e1, e2, u64_and_nat _ _ (by omega) (by omega), Nat.and_two_pow_sub_one_eq_mod]
  have hm : V / 2 ^ u % 2 ^ n < 2 ^ n := Nat.mod_lt _ (by omega)
  omega
theorem sub_lt5 (sub : List UInt8) (h : sub.length ≤ 5) : num (bitsOf sub) < 2 ^ 40 := by
  refine Nat.lt_of_lt_of_le (num_lt _) (Nat.pow_le_pow_right (by omega) ?_)
  rw [bitsOf_length]; omega
theorem sub_lt (sub : List UInt8) (k : Nat) (hk : k ≤ 4) : num (bitsOf (sub.take k)) < 2 ^ 32 := by
  refine Nat.lt_of_lt_of_le (num_lt _) (Nat.pow_le_pow_right (by omega) ?_)
  rw [bitsOf_length, List.length_take]; omega
end Go.Proofs.YtgbcajglbpdgjaaDoor

/-
  What the claims want besides.
-/
import Derived.Test.YtojphcoghbiepaaGreatDoorCoSegJ
import Derived.WalkKit
import Derived.WalkSpells
import Derived.WalkLawsBesides
import Derived.ProofKit
import Derived.OpenShut
import Derived.ShutString
import Derived.ChangeOld
import Derived.Below
import Derived.Lib.Hide
import Derived.BigQuiet
import Derived.SliceStrings
import Derived.Lib.SmallJoins
import Derived.Deep.Slices
namespace Go.Proofs.YtojphcoghbiepaaGreatDoor
namespace UsedM
open Go.RowKit BitM
/-- Which sixteens are used. -/
def which (S : Nat → Bool) : List Bool := (List.range 16).map (some_ S)
/-- The set below 16 k. -/
def cut (S : Nat → Bool) (k : Nat) : Nat → Bool := fun b => decide (b < 16 * k) && S b
end UsedM
end Go.Proofs.YtojphcoghbiepaaGreatDoor
namespace Go.Proofs.YtojphcoghbiepaaGreatDoor
open Go.ChangeShapes Go.WideShapes Go.ChangeAt Go.RowKit
open Go.ChangeMaps (open_string shut_string)
namespace LawShell
theorem laidOut : laidOutB Tryz.prog = true := by kernel_rfl
end LawShell
end Go.Proofs.YtojphcoghbiepaaGreatDoor
namespace Go.Proofs.YtojphcoghbiepaaGreatDoor
namespace Opn
open Go.ChangeShapes Go.WideShapes Go.ChangeAt Go.RowKit Go.Deep
section
variable (P : Program)
/-- The kinds of a type's cells, one behind the other. -/
def kinds : Nat → TypeId → Option (List Kd)
  | 0, _ => none
  | n + 1, t =>
    match P.underlying t with
    | some (.int k) => some [.int k]
    | some .bool => some [.bool]
    | some .string => some [.str]
    | some (.slice e) => some [.sl e]
    | some (.struct fs) => whole P t (joined P (kinds n) 0 (fs.toList.map fun f => (f.offset, f.type)))
    | some (.array m e) => whole P t (joined P (kinds n) 0 ((List.range m).map fun i => (i * P.cellsOf e, e)))
    | _ => none
end
theorem whole_some {P : Program} {t : TypeId} {o : Option (List Kd)} {ks : List Kd} (h : whole P t o = some ks) : o = some ks ∧ ks.length = P.cellsOf t := by
  cases o with
  | none => cases h
  | some l =>
    unfold whole at h
    split at h
    · rename_i l' e
      cases e
      split at h
      · rename_i hl
        cases h
        exact ⟨rfl, hl⟩
      · cases h
    · cases h

section
variable {H : Type} {enc : TypeId × Value → H} {P : Program} {w : World} {spare : Nat → Bool}
theorem joined_ok {n : Nat} (ih : ∀ t ks cs x, kinds P n t = some ks → (∃ m, DataW.trod enc P w 0 spare true m t cs = some x) → AllOk enc P w spare ks cs) :
    ∀ (ps : List (Nat × TypeId)) (at_ : Nat) (ks : List Kd) (cs : List Value), joined P (kinds P n) at_ ps = some ks → (∀ p ∈ ps, ∃ m x, DataW.trod enc P w 0 spare true m p.2 ((cs.drop p.1).take (P.cellsOf p.2)) = some x) →
      cs.length = at_ + ks.length → AllOk enc P w spare ks (cs.drop at_)
  | [], at_, ks, cs, h, _, hl => by
    obtain rfl : ks = [] := by simpa [joined] using h.symm
    rw [List.drop_of_length_le (by simpa using Nat.le_of_eq hl)]
    trivial
  | (o, t) :: rest, at_, ks, cs, h, hp, hl => by
    unfold joined at h
    split at h
    · rename_i l r hf hr
      split at h
      · rename_i hc
        obtain ⟨rfl, hlen⟩ := hc
        obtain rfl : l ++ r = ks := by simpa using h
        obtain ⟨m, x, hx⟩ := hp (o, t) (by simp)
        have h1 := ih t l _ x hf ⟨m, hx⟩
        have h2 := joined_ok ih rest (o + P.cellsOf t) r cs hr (fun p hp' => hp p (List.mem_cons_of_mem _ hp')) (by simp at hl; omega)
        have : cs.drop o = (cs.drop o).take (P.cellsOf t) ++ cs.drop (o + P.cellsOf t) := by
          rw [← List.drop_drop]; exact (List.take_append_drop _ _).symm
        rw [this]
        exact h1.append h2
      · cases h
    · cases h

/-- A READING SAYS OF EACH CELL WHAT IT IS. -/
theorem ok_of_trod : ∀ (n : Nat) (t : TypeId) (ks : List Kd) (cs : List Value) (x : DataW H × List MemPlace), kinds P n t = some ks → (∃ m, DataW.trod enc P w 0 spare true m t cs = some x) → AllOk enc P w spare ks cs
  | 0, _, _, _, _, h, _ => by simp [kinds] at h
  | n + 1, t, ks, cs, x, h, ⟨m, hx⟩ => by
    unfold kinds at h
    split at h
    · rename_i k hu
      obtain rfl : [Kd.int k] = ks := by simpa using h
      obtain ⟨q, rfl, _, hw⟩ := DataW.trod_int hu hx
      exact ⟨⟨q, rfl, hw⟩, trivial⟩
    · rename_i hu
      obtain rfl : [Kd.bool] = ks := by simpa using h
      obtain ⟨b, rfl, _⟩ := DataW.trod_bool hu hx
      exact ⟨⟨b, rfl⟩, trivial⟩
    · rename_i hu
      obtain rfl : [Kd.str] = ks := by simpa using h
      obtain ⟨s, rfl, _, hs⟩ := DataW.trod_string hu hx
      exact ⟨⟨s, rfl, hs⟩, trivial⟩
    · rename_i e hu
      obtain rfl : [Kd.sl e] = ks := by simpa using h
      rcases open_slice hu hx with ⟨rfl, _⟩ | ⟨a, len, cap, mm, q, D, Pl, rfl, _, hl, hm, hmm, _, hi⟩
      · exact ⟨Or.inl rfl, trivial⟩
      · refine ⟨Or.inr ⟨a, len, cap, q, rfl, hl, hm, fun i hi' => ?_⟩, trivial⟩
        obtain ⟨cs', h1, h2⟩ := hi i (by rw [hmm]; split <;> omega)
        exact ⟨cs', _, h1, h2⟩
    · rename_i fs hu
      obtain ⟨xs, q, _, _, hl, hxs, hf⟩ := DataW.trod_struct hu hx
      obtain ⟨h, hlen⟩ := whole_some h
      have := joined_ok (cs := cs) (ok_of_trod n) (fs.toList.map fun f => (f.offset, f.type)) 0 ks h (fun p hp => by
        obtain ⟨f, hfm, rfl⟩ := List.mem_map.1 hp
        obtain ⟨i, hi, hfi⟩ := List.getElem_of_mem hfm
        have hfi' : fs[i]? = some f := by
          rw [← hfi, Array.getElem_toList]
          exact Array.getElem?_eq_getElem (by simpa using hi)
        have := hf i f hfi'
        have hi2 : i < xs.length := by rw [hxs]; simpa using hi
        rw [List.getElem?_eq_getElem hi2] at this
        exact ⟨q, _, this⟩)
      simpa using this (by rw [hl, hlen, Nat.zero_add])
    · rename_i m' e hu
      obtain ⟨xs, q, _, _, hl, hxs, hf⟩ := DataW.trod_array hu hx
      obtain ⟨h, hlen⟩ := whole_some h
      have := joined_ok (cs := cs) (ok_of_trod n) ((List.range m').map fun i => (i * P.cellsOf e, e)) 0 ks h (fun p hp => by
        obtain ⟨i, hi, rfl⟩ := List.mem_map.1 hp
        have hi' : i < m' := List.mem_range.1 hi
        have := hf i hi'
        rw [List.getElem?_eq_getElem (by omega)] at this
        exact ⟨q, _, this⟩)
      simpa using this (by rw [hl, hlen, Nat.zero_add])
    · cases h

/-- A STRUCT OR AN ARRAY BY VALUE, OPENED. -/
theorem open_flat {W : World} {base : Nat} {t : TypeId} {v : Value} {d : DataW H} {p : List MemPlace} (n : Nat) (ks : List Kd) (hk : kinds P n t = some ks) (hu : (match P.underlying t with | some (.struct _) | some (.array _ _) => true | _ => false) = true)
    (hv : Value.okWide P W .any base t v) (h : DataW.Trod enc P W 0 (fun _ => true) true t v d p) : ∃ cs : Array Value, v = .agg cs ∧ AllOk enc P W (fun _ => true) ks cs.toList := by
  obtain ⟨fuel, hf⟩ := h
  unfold Value.okWide at hv
  split at hv
  · obtain ⟨cs, rfl, _, _⟩ := hv
    exact ⟨cs, rfl, ok_of_trod n t ks _ _ hk ⟨fuel, hf⟩⟩
  · obtain ⟨cs, rfl, _, _⟩ := hv
    exact ⟨cs, rfl, ok_of_trod n t ks _ _ hk ⟨fuel, hf⟩⟩
  · rename_i h1 h2
    split at hu <;> simp_all
/-- TWO NUMBERS OF ONE KIND BY VALUE ('[2]uint32', '[2]int'). -/
theorem open_pair {W : World} {base : Nat} {t : TypeId} {v : Value} {d : DataW H} {p : List MemPlace} {k : IntKind} (hk : kinds P 2 t = some [.int k, .int k]) (hu : (match P.underlying t with | some (.struct _) | some (.array _ _) => true | _ => false) = true)
    (hv : Value.okWide P W .any base t v) (h : DataW.Trod enc P W 0 (fun _ => true) true t v d p) : ∃ q0 q1, v = .agg #[.int k q0, .int k q1] ∧ ((Lit.int k q0).wf = true ∧ (Lit.int k q1).wf = true) := by
  obtain ⟨cs, rfl, hall⟩ := open_flat 2 _ hk hu hv h
  clear h hv
  have e : cs = cs.toList.toArray := by simp
  rw [e]
  clear e
  revert hall
  generalize cs.toList = l
  intro hall
  match l, hall with
  | [_, _], ⟨⟨q0, e0, h0⟩, ⟨q1, e1, h1⟩, _⟩ => exact ⟨q0, q1, by rw [e0, e1], h0, h1⟩
end
end Opn
end Go.Proofs.YtojphcoghbiepaaGreatDoor

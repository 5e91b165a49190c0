/-
  OPENING ARGUMENTS OF ANY SHAPE THAT IS MADE OF NUMBERS, BOOLS, STRINGS, SLICES, STRUCTS AND ARRAYS: a reading of cells as data says of each cell what it is. No program is named here.
-/
import Derived.WalkKit
import Derived.ProofKit
import Derived.OpenShut
import Derived.ShutString
import Derived.ChangeOld
import Derived.Below
import Derived.Lib.Hide
import Derived.Lib.SmallJoins
import Derived.Deep.Slices
namespace Go.Proofs.Ytgdgjalfabffcaa
namespace Opn
open Go.ChangeShapes Go.WideShapes Go.ChangeAt Go.RowKit Go.Deep

/-- What a cell is. -/
inductive Kd where
  | int (k : IntKind)
  | bool
  | str
  | sl (e : TypeId)

section
variable (P : Program)
def joined (f : TypeId → Option (List Kd)) : Nat → List (Nat × TypeId) → Option (List Kd)
  | _, [] => some []
  | at_, (o, t) :: rest =>
    match f t, joined f (at_ + P.cellsOf t) rest with
    | some l, some r => if o = at_ ∧ l.length = P.cellsOf t then some (l ++ r) else none
    | _, _ => none
def whole (t : TypeId) : Option (List Kd) → Option (List Kd)
  | some l => if l.length = P.cellsOf t then some l else none
  | none => none
/-- The kinds of a type's cells, one behind the other. -/
def kinds : Nat → TypeId → Option (List Kd)
  | 0, _ => none
  | n + 1, t =>
    match P.underlying t with
    | some (.int k) => some [.int k]
    | some .bool => some [.bool]
    | some .string => some [.str]
    | some (.slice e) => some [.sl e]
    | some (.struct fs) => whole P t (joined P (kinds n) 0 (fs.toList.map fun f => (f.offset, f.type)))
    | some (.array m e) => whole P t (joined P (kinds n) 0 ((List.range m).map fun i => (i * P.cellsOf e, e)))
    | _ => none
end

theorem whole_some {P : Program} {t : TypeId} {o : Option (List Kd)} {ks : List Kd} (h : whole P t o = some ks) : o = some ks ∧ ks.length = P.cellsOf t := by
  cases o with
  | none => cases h
  | some l =>
    unfold whole at h
    split at h
    · rename_i l' e
      cases e
      split at h
      · rename_i hl
        cases h
        exact ⟨rfl, hl⟩
      · cases h
    · cases h

section
variable {H : Type} {enc : TypeId × Value → H} {P : Program} {w : World} {spare : Nat → Bool}

/-- What is known of a cell of a kind. -/
def CellOk (enc : TypeId × Value → H) (P : Program) (w : World) (spare : Nat → Bool) : Kd → Value → Prop
  | .int k, v => ∃ n, v = .int k n ∧ (Lit.int k n).wf = true
  | .bool, v => ∃ b, v = .bool b
  | .str, v => ∃ s : ByteArray, v = .string s ∧ s.size ≤ maxLen
  | .sl e, v => v = .slice none 0 0 ∨ ∃ (a : Addr) (len cap n : Nat), v = .slice (some a) len cap ∧ len ≤ cap ∧ cap ≤ maxLen ∧
      ∀ i, i < len → ∃ cs x, w.cells? 0 (a.add (i * P.cellsOf e)) (P.cellsOf e) = some cs ∧ DataW.trod enc P w 0 spare true n e cs = some x
def AllOk (enc : TypeId × Value → H) (P : Program) (w : World) (spare : Nat → Bool) : List Kd → List Value → Prop
  | [], [] => True
  | k :: ks, v :: vs => CellOk enc P w spare k v ∧ AllOk enc P w spare ks vs
  | _, _ => False
theorem AllOk.append : ∀ {ks ls : List Kd} {vs us : List Value}, AllOk enc P w spare ks vs → AllOk enc P w spare ls us → AllOk enc P w spare (ks ++ ls) (vs ++ us)
  | [], _, [], _, _, h => h
  | _ :: _, _, _ :: _, _, h, k => ⟨h.1, AllOk.append h.2 k⟩
  | [], _, _ :: _, _, h, _ => h.elim
  | _ :: _, _, [], _, h, _ => h.elim
theorem AllOk.length : ∀ {ks : List Kd} {vs : List Value}, AllOk enc P w spare ks vs → vs.length = ks.length
  | [], [], _ => rfl
  | _ :: _, _ :: _, h => by simpa using AllOk.length h.2
  | [], _ :: _, h => h.elim
  | _ :: _, [], h => h.elim

theorem joined_ok {n : Nat} (ih : ∀ t ks cs x, kinds P n t = some ks → (∃ m, DataW.trod enc P w 0 spare true m t cs = some x) → AllOk enc P w spare ks cs) :
    ∀ (ps : List (Nat × TypeId)) (at_ : Nat) (ks : List Kd) (cs : List Value), joined P (kinds P n) at_ ps = some ks → (∀ p ∈ ps, ∃ m x, DataW.trod enc P w 0 spare true m p.2 ((cs.drop p.1).take (P.cellsOf p.2)) = some x) →
      cs.length = at_ + ks.length → AllOk enc P w spare ks (cs.drop at_)
  | [], at_, ks, cs, h, _, hl => by
    obtain rfl : ks = [] := by simpa [joined] using h.symm
    rw [List.drop_of_length_le (by simpa using Nat.le_of_eq hl)]
    trivial
  | (o, t) :: rest, at_, ks, cs, h, hp, hl => by
    unfold joined at h
    split at h
    · rename_i l r hf hr
      split at h
      · rename_i hc
        obtain ⟨rfl, hlen⟩ := hc
        obtain rfl : l ++ r = ks := by simpa using h
        obtain ⟨m, x, hx⟩ := hp (o, t) (by simp)
        have h1 := ih t l _ x hf ⟨m, hx⟩
        have h2 := joined_ok ih rest (o + P.cellsOf t) r cs hr (fun p hp' => hp p (List.mem_cons_of_mem _ hp')) (by simp at hl; omega)
        have : cs.drop o = (cs.drop o).take (P.cellsOf t) ++ cs.drop (o + P.cellsOf t) := by
          rw [← List.drop_drop]; exact (List.take_append_drop _ _).symm
        rw [this]
        exact h1.append h2
      · cases h
    · cases h

/-- A READING SAYS OF EACH CELL WHAT IT IS. -/
theorem ok_of_trod : ∀ (n : Nat) (t : TypeId) (ks : List Kd) (cs : List Value) (x : DataW H × List MemPlace), kinds P n t = some ks → (∃ m, DataW.trod enc P w 0 spare true m t cs = some x) → AllOk enc P w spare ks cs
  | 0, _, _, _, _, h, _ => by simp [kinds] at h
  | n + 1, t, ks, cs, x, h, ⟨m, hx⟩ => by
    unfold kinds at h
    split at h
    · rename_i k hu
      obtain rfl : [Kd.int k] = ks := by simpa using h
      obtain ⟨q, rfl, _, hw⟩ := DataW.trod_int hu hx
      exact ⟨⟨q, rfl, hw⟩, trivial⟩
    · rename_i hu
      obtain rfl : [Kd.bool] = ks := by simpa using h
      obtain ⟨b, rfl, _⟩ := DataW.trod_bool hu hx
      exact ⟨⟨b, rfl⟩, trivial⟩
    · rename_i hu
      obtain rfl : [Kd.str] = ks := by simpa using h
      obtain ⟨s, rfl, _, hs⟩ := DataW.trod_string hu hx
      exact ⟨⟨s, rfl, hs⟩, trivial⟩
    · rename_i e hu
      obtain rfl : [Kd.sl e] = ks := by simpa using h
      rcases open_slice hu hx with ⟨rfl, _⟩ | ⟨a, len, cap, mm, q, D, Pl, rfl, _, hl, hm, hmm, _, hi⟩
      · exact ⟨Or.inl rfl, trivial⟩
      · refine ⟨Or.inr ⟨a, len, cap, q, rfl, hl, hm, fun i hi' => ?_⟩, trivial⟩
        obtain ⟨cs', h1, h2⟩ := hi i (by rw [hmm]; split <;> omega)
        exact ⟨cs', _, h1, h2⟩
    · rename_i fs hu
      obtain ⟨xs, q, _, _, hl, hxs, hf⟩ := DataW.trod_struct hu hx
      obtain ⟨h, hlen⟩ := whole_some h
      have := joined_ok (cs := cs) (ok_of_trod n) (fs.toList.map fun f => (f.offset, f.type)) 0 ks h (fun p hp => by
        obtain ⟨f, hfm, rfl⟩ := List.mem_map.1 hp
        obtain ⟨i, hi, hfi⟩ := List.getElem_of_mem hfm
        have hfi' : fs[i]? = some f := by
          rw [← hfi, Array.getElem_toList]
          exact Array.getElem?_eq_getElem (by simpa using hi)
        have := hf i f hfi'
        have hi2 : i < xs.length := by rw [hxs]; simpa using hi
        rw [List.getElem?_eq_getElem hi2] at this
        exact ⟨q, _, this⟩)
      simpa using this (by rw [hl, hlen, Nat.zero_add])
    · rename_i m' e hu
      obtain ⟨xs, q, _, _, hl, hxs, hf⟩ := DataW.trod_array hu hx
      obtain ⟨h, hlen⟩ := whole_some h
      have := joined_ok (cs := cs) (ok_of_trod n) ((List.range m').map fun i => (i * P.cellsOf e, e)) 0 ks h (fun p hp => by
        obtain ⟨i, hi, rfl⟩ := List.mem_map.1 hp
        have hi' : i < m' := List.mem_range.1 hi
        have := hf i hi'
        rw [List.getElem?_eq_getElem (by omega)] at this
        exact ⟨q, _, this⟩)
      simpa using this (by rw [hl, hlen, Nat.zero_add])
    · cases h

/-- A STRUCT OR AN ARRAY BY VALUE, OPENED. -/
theorem open_flat {W : World} {base : Nat} {t : TypeId} {v : Value} {d : DataW H} {p : List MemPlace} (n : Nat) (ks : List Kd) (hk : kinds P n t = some ks) (hu : (match P.underlying t with | some (.struct _) | some (.array _ _) => true | _ => false) = true)
    (hv : Value.okWide P W .any base t v) (h : DataW.Trod enc P W 0 (fun _ => true) true t v d p) : ∃ cs : Array Value, v = .agg cs ∧ AllOk enc P W (fun _ => true) ks cs.toList := by
  obtain ⟨fuel, hf⟩ := h
  unfold Value.okWide at hv
  split at hv
  · obtain ⟨cs, rfl, _, _⟩ := hv
    exact ⟨cs, rfl, ok_of_trod n t ks _ _ hk ⟨fuel, hf⟩⟩
  · obtain ⟨cs, rfl, _, _⟩ := hv
    exact ⟨cs, rfl, ok_of_trod n t ks _ _ hk ⟨fuel, hf⟩⟩
  · rename_i h1 h2
    split at hu <;> simp_all
/-- A CELL OF WHATEVER KIND, OPENED. -/
theorem open_cell {W : World} {base : Nat} {t : TypeId} {v : Value} {d : DataW H} {p : List MemPlace} (k : Kd) (hk : kinds P 1 t = some [k])
    (_hv : Value.okWide P W .any base t v) (h : DataW.Trod enc P W 0 (fun _ => true) true t v d p) (hc : v.cells = #[v]) : CellOk enc P W (fun _ => true) k v := by
  obtain ⟨fuel, hf⟩ := h
  rw [hc] at hf
  exact (ok_of_trod 1 t [k] _ _ hk ⟨fuel, hf⟩).1

/-- WHAT A WALK IS TOLD OF A SLICE THAT CAME IN: its elements' cells, m of them an element, are those that 'cells' says of the list. -/
def IsElems {α : Type} (w : World) (a : Option Addr) (len m : Nat) (cells : α → List Value) (l : List α) : Prop :=
  l.length = len ∧ ∀ i x, l[i]? = some x → ∃ b off, a = some ⟨b, off, none⟩ ∧ b < w.heap.size ∧ ∀ j u, (cells x)[j]? = some u → w.cell? ⟨b, off + i * m + j, none⟩ = some u
theorem choose_list {α : Type} {p : Nat → α → Prop} : ∀ (n : Nat), (∀ i, i < n → ∃ x, p i x) → ∃ l : List α, l.length = n ∧ ∀ i x, l[i]? = some x → p i x
  | 0, _ => ⟨[], rfl, fun i x h => by simp at h⟩
  | n + 1, h => by
    obtain ⟨l, hl, hp⟩ := choose_list n (fun i hi => h i (by omega))
    obtain ⟨x, hx⟩ := h n (by omega)
    refine ⟨l ++ [x], by simp [hl], fun i y hy => ?_⟩
    by_cases hi : i < n
    · rw [List.getElem?_append_left (by omega)] at hy; exact hp i y hy
    · have hlt := (List.getElem?_eq_some_iff.1 hy).1
      obtain rfl : i = n := by simp [hl] at hlt; omega
      rw [List.getElem?_append_right (by omega)] at hy
      simp [hl] at hy
      exact hy ▸ hx
/-- A SLICE OF ELEMENTS OF ONE SHAPE, OPENED: α is what an element stands for. -/
theorem open_elems {α : Type} {W : World} {base : Nat} {t e : TypeId} {v : Value} {d : DataW H} {p : List MemPlace} (m : Nat) (n : Nat) (ks : List Kd) (cells : α → List Value) (ok : α → Prop)
    (ht : P.underlying t = some (.slice e)) (hk : kinds P n e = some ks) (hm : P.cellsOf e = m) (hm0 : 0 < m)
    (hα : ∀ vs, AllOk enc P W (fun _ => true) ks vs → ∃ x, vs = cells x ∧ ok x)
    (hv : Value.okWide P W .any base t v) (h : DataW.Trod enc P W 0 (fun _ => true) true t v d p) :
    ∃ a len cap l, v = .slice a len cap ∧ (IsElems W a len m cells l ∧ (∀ x ∈ l, ok x) ∧ len ≤ maxLen) := by
  obtain ⟨a0, len0, cap0, rfl⟩ := okWide_slice ht hv
  have hc := open_cell (.sl e) (by simp [kinds, ht]) hv h rfl
  rcases hc with h0 | ⟨a, len, cap, q, h1, hl, hmx, hel⟩
  · cases h0
    exact ⟨_, _, _, [], rfl, ⟨rfl, fun i x hx => by simp at hx⟩, fun x hx => by simp at hx, by decide⟩
  · cases h1
    by_cases hz : len0 = 0
    · subst hz
      exact ⟨_, _, _, [], rfl, ⟨rfl, fun i x hx => by simp at hx⟩, fun x hx => by simp at hx, by decide⟩
    · have hsp : a.spot = none := by
        obtain ⟨cs, y, hcs, _⟩ := hel 0 (by omega)
        obtain ⟨_, hlen, hcell⟩ := World.cells?_some hcs
        have := hcell 0 (by omega)
        rw [List.getElem?_eq_getElem (by omega)] at this
        have := World.cell?_spot this
        simpa [Addr.add] using this
      obtain ⟨b, off, spot⟩ := a
      obtain rfl : spot = none := hsp
      have key : ∀ i, i < len0 → ∃ x : α, ok x ∧ b < W.heap.size ∧ ∀ (j : Nat) (u : Value), (cells x)[j]? = some u → W.cell? ⟨b, off + i * m + j, none⟩ = some u := fun i hi => by
        obtain ⟨cs, y, hcs, htr⟩ := hel i hi
        obtain ⟨x, rfl, hx⟩ := hα cs (ok_of_trod n e ks cs y hk ⟨q, htr⟩)
        obtain ⟨_, hlen, hcell⟩ := World.cells?_some hcs
        rw [hm] at hlen hcell
        have plain : ∀ j, j < m → W.cell? ⟨b, off + i * m + j, none⟩ = (cells x)[j]? := fun j hj => by
          rw [← hcell j hj, add_plain, add_plain]
        refine ⟨x, hx, ?_, fun j u hu => ?_⟩
        · have := plain 0 hm0
          rw [List.getElem?_eq_getElem (by omega)] at this
          exact World.block_lt_of_cell? W _ this
        · have hj := (List.getElem?_eq_some_iff.1 hu).1
          rw [plain j (by omega)]; exact hu
      obtain ⟨l, hlen, hp⟩ := choose_list len0 key
      refine ⟨_, _, _, l, rfl, ⟨hlen, fun i x hx => ?_⟩, fun x hx => ?_, by omega⟩
      · obtain ⟨_, h2, h3⟩ := hp i x hx
        exact ⟨b, off, rfl, h2, h3⟩
      · obtain ⟨i, hi, rfl⟩ := List.getElem_of_mem hx
        exact (hp i _ (List.getElem?_eq_getElem hi)).1
/-- TWO NUMBERS OF ONE KIND BY VALUE ('[2]uint32', '[2]int'). -/
theorem open_pair {W : World} {base : Nat} {t : TypeId} {v : Value} {d : DataW H} {p : List MemPlace} {k : IntKind} (hk : kinds P 2 t = some [.int k, .int k]) (hu : (match P.underlying t with | some (.struct _) | some (.array _ _) => true | _ => false) = true)
    (hv : Value.okWide P W .any base t v) (h : DataW.Trod enc P W 0 (fun _ => true) true t v d p) : ∃ q0 q1, v = .agg #[.int k q0, .int k q1] ∧ ((Lit.int k q0).wf = true ∧ (Lit.int k q1).wf = true) := by
  obtain ⟨cs, rfl, hall⟩ := open_flat 2 _ hk hu hv h
  clear h hv
  have e : cs = cs.toList.toArray := by simp
  rw [e]
  clear e
  revert hall
  generalize cs.toList = l
  intro hall
  match l, hall with
  | [_, _], ⟨⟨q0, e0, h0⟩, ⟨q1, e1, h1⟩, _⟩ => exact ⟨q0, q1, by rw [e0, e1], h0, h1⟩
/-- TWO NUMBERS OF TWO KINDS BY VALUE ('struct { b byte; n int }'). -/
theorem open_two {W : World} {base : Nat} {t : TypeId} {v : Value} {d : DataW H} {p : List MemPlace} {k k2 : IntKind} (hk : kinds P 2 t = some [.int k, .int k2]) (hu : (match P.underlying t with | some (.struct _) | some (.array _ _) => true | _ => false) = true)
    (hv : Value.okWide P W .any base t v) (h : DataW.Trod enc P W 0 (fun _ => true) true t v d p) : ∃ q0 q1, v = .agg #[.int k q0, .int k2 q1] ∧ ((Lit.int k q0).wf = true ∧ (Lit.int k2 q1).wf = true) := by
  obtain ⟨cs, rfl, hall⟩ := open_flat 2 _ hk hu hv h
  clear h hv
  have e : cs = cs.toList.toArray := by simp
  rw [e]
  clear e
  revert hall
  generalize cs.toList = l
  intro hall
  match l, hall with
  | [_, _], ⟨⟨q0, e0, h0⟩, ⟨q1, e1, h1⟩, _⟩ => exact ⟨q0, q1, by rw [e0, e1], h0, h1⟩
end
end Opn
end Go.Proofs.Ytgdgjalfabffcaa

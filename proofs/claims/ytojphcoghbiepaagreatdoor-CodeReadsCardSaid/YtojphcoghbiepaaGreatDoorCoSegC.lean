/-
  MERGED by seg.py out of: BitsRB BitsRC Open BitsL CanD CanLawA FreqMath Freq CanLawB SymMath Sort SortB SortC SortD.
-/
import Derived.Test.YtojphcoghbiepaaGreatDoorCoSegB
import Derived.Deep.AppendSrc
import Derived.Deep.Upon
import Derived.StillTailTactics
import Derived.WalkKit
import Derived.ProofKit
import Derived.OpenShut
import Derived.ShutString
import Derived.ChangeOld
import Derived.Below
import Derived.Lib.Hide
import Derived.Lib.SmallJoins
import Derived.Deep.Slices
import Derived.BigRegion
import Derived.BigQuiet
namespace Go.Proofs.YtojphcoghbiepaaGreatDoor
open Go.RowKit BitM
set_option linter.unusedVariables false

/-! ### A string appended to a row of bytes, wherever it begins -/
theorem touch_setCells {S : Nat → Prop} {g : Nat} (hS : S g) : ∀ (vs : List Value) (o : Nat) (w : World), Touch S w (w.setCells g o vs)
  | [], _, w => Touch.refl S w
  | v :: r, o, w => by
    have h1 : Touch S w (w.setCell ⟨g, o, none⟩ v) := (Touch.refl S w).setCell (Or.inl hS) v
    exact h1.trans (touch_setCells hS r (o + 1) _) (fun i hi => Or.inl hi)
theorem zero_at (m k : Nat) (h : k < m) : (Builtin.zeroCells #[Value.int .u8 0] m)[k]? = some (.int .u8 0) := by
  unfold Builtin.zeroCells
  rw [Array.getElem?_map, Array.getElem?_range, if_pos (by simpa using h)]
  simp [Nat.mod_one]
theorem fresh_rowB {W : World} {g : Nat} {e : TypeId} (L : List UInt8) (C : Nat) (hC : L.length ≤ C) (hm : C ≤ maxLen)
    (hW : W.heap[g]? = some (.cells ((L.map u8v).toArray ++ Builtin.zeroCells #[Value.int .u8 0] (C - L.length)) e)) : IsRowB W (.slice (some ⟨g, 0, none⟩) L.length C) L := by
  refine Or.inr ⟨g, 0, C, rfl, (Array.getElem?_eq_some_iff.1 hW).1, hC, hm, fun i x hx => ?_, fun i hi => ?_, fun i hi => frozen_of_row _ _ _ _ _ hW⟩
  · have hi := (List.getElem?_eq_some_iff.1 hx).1
    rw [cell_of_row _ _ _ _ _ _ hW, Nat.zero_add, Array.getElem?_append_left (by simpa using hi)]
    simp [hx]
  · rw [cell_of_row _ _ _ _ _ _ hW, Nat.zero_add]
    by_cases hl : i < L.length
    · rw [Array.getElem?_append_left (by simpa using hl)]
      exact ⟨(L[i].toNat : Int), by simp [hl, u8v]⟩
    · rw [Array.getElem?_append_right (by simpa using Nat.le_of_not_lt hl)]
      exact ⟨0, zero_at _ _ (by simp; omega)⟩
theorem append_rowB (w : World) (v : Value) (l : List UInt8) (s : ByteArray) (h : IsRowB w v l) (hs : l.length + s.size ≤ 1099511627776) :
    ∃ v' w', (Builtin.append_ #[82, 9] 82 #[v, .string s]).run Tryz.prog w = .ok v' w' ∧ IsRowB w' v' (l ++ s.data.toList) ∧ Touch (fun k => v.ownBlock = some k) w w' ∧
      (∀ k, v'.ownBlock = some k → v.ownBlock = some k ∨ w.heap.size ≤ k) := by
  obtain ⟨i, hi, h5⟩ := Option.map_eq_some_iff.1 info5
  simp only [Prod.mk.injEq] at h5
  obtain ⟨hz, hsize, hby⟩ := h5
  have hS : Src Tryz.prog i.size 9 (.string s) s.size (byteCells s) w := by rw [hsize]; exact Src.ofString w Tryz.underlying9 s
  have hbl := byteCells_length s
  have hbc : byteCells s = s.data.toList.map u8v := rfl
  have hlen : (l ++ s.data.toList).length = l.length + s.size := by rw [List.length_append]; rfl
  by_cases h0 : s.size = 0
  · obtain rfl : s = ByteArray.empty := ByteArray.ext (Array.eq_empty_of_size_eq_zero h0)
    obtain ⟨a, cap, hv, hle, _⟩ := h.slice
    refine ⟨v, w, ?_, by simpa using h, Touch.refl _ _, fun k hk => Or.inl hk⟩
    subst hv
    exact run_append_nothing w 82 9 82 5 i Tryz.underlying82 hi a l.length cap hle (.string ByteArray.empty) hS
  · have grow : ∀ (base : Option Addr) (cap : Nat), (Builtin.firstCells i.size l.length (.slice base l.length cap)).run Tryz.prog w.drew = .ok (l.map u8v).toArray w.drew → v = .slice base l.length cap → cap < l.length + s.size →
        ∃ v' w', (Builtin.append_ #[82, 9] 82 #[v, .string s]).run Tryz.prog w = .ok v' w' ∧ IsRowB w' v' (l ++ s.data.toList) ∧ Touch (fun k => v.ownBlock = some k) w w' ∧
          (∀ k, v'.ownBlock = some k → v.ownBlock = some k ∨ w.heap.size ≤ k) := by
      intro base cap hold hv hg
      subst hv
      have hr := run_append_grow_src (P := Tryz.prog) w 82 9 82 5 i (.int .u8 0) Tryz.underlying82 hi hz base l.length cap (l.map u8v) hold (.string s) s.size (byteCells s) hS hg (by omega)
        (growslice_fits hg (by rw [hby]; omega))
      refine ⟨_, _, hr, ?_, (Touch.refl _ _).drew.alloc _, fun k hk => Or.inr (by simp [Value.ownBlock] at hk; omega)⟩
      have hge := grownCap_ge w (l.length + s.size) cap 5
      have hle := grownCap_le_maxLen w (l.length + s.size) cap 5 (by unfold maxLen; omega)
      have hfr := fresh_rowB (W := w.drew.alloc (.cells ((l.map u8v ++ byteCells s).toArray ++ Builtin.zeroCells (Value.int .u8 0).cells (grownCap w (l.length + s.size) cap 5 - (l.length + s.size))) 5)) (g := w.heap.size) (e := 5) (l ++ s.data.toList) (grownCap w (l.length + s.size) cap 5) (by rw [hlen]; exact hge) hle (by
        rw [hlen, List.map_append, hbc]
        show (w.heap.push _)[_]? = _
        simp [Value.cells])
      rw [hlen] at hfr
      exact hfr
    rcases h with ⟨rfl, rfl⟩ | ⟨g, off, cap, rfl, hg, hlc, hcm, hc, ha, hf⟩
    · exact grow none 0 (run_firstCells_none w.drew i.size 0 0 0) rfl (by simp; omega)
    · by_cases hroom : l.length + s.size ≤ cap
      · have e1 : off + l.length * i.size = off + l.length := by rw [hsize, Nat.mul_one]
        have hr := run_append_room_src (P := Tryz.prog) w 82 9 82 5 i Tryz.underlying82 hi g off l.length cap (.string s) s.size (byteCells s) hS hroom
          (fun j hj => by
            rw [e1, Nat.add_assoc]
            obtain ⟨n, hn⟩ := ha (l.length + j) (by omega)
            rw [hn]; rfl)
          (fun j hj => by rw [e1, Nat.add_assoc]; exact hf (l.length + j) (by omega))
        rw [e1] at hr
        have ht : Touch (fun k => (Value.slice (some ⟨g, off, none⟩) l.length cap).ownBlock = some k) w (w.setCells g (off + l.length) (byteCells s)) := touch_setCells (S := fun k => (Value.slice (some ⟨g, off, none⟩) l.length cap).ownBlock = some k) (show (Value.slice (some ⟨g, off, none⟩) l.length cap).ownBlock = some g from rfl) _ _ _
        have hin : ∀ j, (hj : j < (byteCells s).length) → (w.setCells g (off + l.length) (byteCells s)).cell? ⟨g, off + l.length + j, none⟩ = some (byteCells s)[j] := fun j hj =>
          World.cell?_setCells_in g (byteCells s) (off + l.length) w (fun j hj => by
            rw [Nat.add_assoc]
            obtain ⟨n, hn⟩ := ha (l.length + j) (by omega)
            rw [hn]; rfl) j hj
        have hout : ∀ j, j < l.length ∨ l.length + s.size ≤ j → (w.setCells g (off + l.length) (byteCells s)).cell? ⟨g, off + j, none⟩ = w.cell? ⟨g, off + j, none⟩ := fun j hj =>
          World.cell?_setCells_out g (byteCells s) (off + l.length) w ⟨g, off + j, none⟩ (fun _ _ => by show off + j < off + l.length ∨ off + l.length + (byteCells s).length ≤ off + j; omega)
        refine ⟨_, _, hr, Or.inr ⟨g, off, cap, by rw [hlen], Nat.lt_of_lt_of_le hg ht.size, by rw [hlen]; exact hroom, hcm, fun j x hx => ?_, fun j hj => ?_, fun j hj => ?_⟩, ht, fun k hk => Or.inl hk⟩
        · by_cases hj : j < l.length
          · rw [List.getElem?_append_left hj] at hx
            rw [hout j (Or.inl hj)]; exact hc j x hx
          · rw [List.getElem?_append_right (by omega)] at hx
            have hj2 := (List.getElem?_eq_some_iff.1 hx).1
            have hj3 : j - l.length < (byteCells s).length := by rw [hbl]; exact hj2
            have := hin (j - l.length) hj3
            rw [show off + l.length + (j - l.length) = off + j by omega] at this
            rw [this]
            have hx2 := (List.getElem?_eq_some_iff.1 hx).2
            rw [← hx2]
            simp [byteCells, u8v]
        · by_cases hj2 : j < l.length ∨ l.length + s.size ≤ j
          · rw [hout j hj2]; exact ha j hj
          · have hj3 : j - l.length < (byteCells s).length := by omega
            have := hin (j - l.length) hj3
            rw [show off + l.length + (j - l.length) = off + j by omega] at this
            rw [this]
            exact ⟨(s.data.toList[j - l.length]'(by simpa [hbl] using hj3)).toNat, by simp [byteCells]⟩
        · rw [World.frozen?_setCells]; exact hf j hj
      · refine grow (some ⟨g, off, none⟩) cap ?_ rfl (by omega)
        refine run_firstCells_some w.drew i.size l.length ⟨g, off, none⟩ l.length cap (l.map u8v) (by rw [hsize]; simp) (fun j u hu => ?_)
        rw [List.getElem?_map] at hu
        obtain ⟨x, hx, rfl⟩ := Option.map_eq_some_iff.1 hu
        rw [show (⟨g, off, none⟩ : Addr).add j = ⟨g, off + j, none⟩ from Addr.add_lit _ _ _]
        exact hc j x hx
/-- 'append', where its run is known. -/
theorem wpList_append_run {P : Program} {ops : Array Oper} {rest : List Oper} {o : Oper} {a : Act} {w : World} {Q : Exit → Act → World → Prop} (hgd : o.guard = none) (sl x : Operand) (t u : TypeId)
    (ho : o.op = .call { callee := .builtin .append, args := #[sl, x], argTypes := #[t, u] }) (v y : Value) (hs : a.eval sl = v) (hx : a.eval x = y) (v' : Value) (w' : World)
    (hr : (Builtin.append_ #[t, u] o.type #[v, y]).run P w = .ok v' w') (h : wpList P ops Q rest (a.put o.dst v') w') : wpList P ops Q (o :: rest) a w := by
  refine wpList_plain hgd fun K hK => ?_
  unfold Oper.wp execOp
  simp only [ho, resolve, invoke, builtin, Sem.run_bind, Sem.run_pure, Result.andThen_ok, List.map_toArray, List.map_cons, List.map_nil, hs, hx, hr]
  exact hK _ _ h

/-! ### More -/
set_option maxRecDepth 100000 in
set_option maxHeartbeats 400000 in
theorem more_any (b : Nat) (v : Value) (l : List UInt8) (dr sp p : Nat) (s : ByteArray) (w : World) (h : IsReader w b v l dr sp p) (hs : l.length + s.size ≤ 1099511627776) :
    Calls Tryz.prog 26 #[.pointer (some ⟨b, 0, none⟩), .string s] w fun e w' => e = .returned (.int .i64 0) ∧ ∃ v1, IsReader w' b v1 (l ++ s.data.toList) dr sp p ∧ Touch (foot b v) w w' ∧ (∀ k, v1.ownBlock = some k → v.ownBlock = some k ∨ w.heap.size ≤ k) := by
  obtain ⟨c0, c1, c2, c3, f0, f1, f2, f3⟩ := h.cells
  obtain ⟨v1, w1, hap, hrow, ht, hown⟩ := append_rowB w v l s h.2.1 hs
  have hbl := h.lt b (Or.inl rfl)
  have hnb : ¬ v.ownBlock = some b := fun e => h.2.2.1 b e rfl
  have hblk := (ht.block b hbl hnb).trans h.1
  have d0 : w1.cell? ⟨b, 0, none⟩ = some v := by rw [cell_of_row _ _ _ _ _ _ hblk]; rfl
  have g0 : w1.frozen? ⟨b, 0, none⟩ = false := frozen_of_row _ _ _ _ _ hblk
  have hone : v1.oneCell' = true := by
    obtain ⟨a, cap, rfl, _⟩ := hrow.slice
    rfl
  have HFIN : Hid (IsReader (w1.setCell ⟨b, 0, none⟩ v1) b v1 (l ++ s.data.toList) dr sp p ∧ Touch (foot b v) w (w1.setCell ⟨b, 0, none⟩ v1)) := Lib.hid (by
    have hne : ∀ k, v1.ownBlock = some k → b ≠ k := fun k hk e => by
      rcases hown k hk with h1 | h1
      · exact h.2.2.1 k h1 e
      · omega
    refine ⟨⟨heap_setCell_same _ _ 0 _ _ _ hblk, hrow.other (fun k hk => heap_setCell_other _ _ _ _ (fun e => hne k hk e.symm)), hne, h.2.2.2.1, ?_⟩, Touch.setCell (S := foot b v) (ht.mono (fun k hk => Or.inr hk)) (Or.inl (Or.inl rfl)) _⟩
    have := h.2.2.2.2
    rw [List.length_append]; omega)
  have HOWN := Lib.hid hown
  obtain ⟨a, cap, rfl, _⟩ := h.2.1.slice
  obtain ⟨a1, cap1, rfl, _⟩ := hrow.slice
  clear h hown hrow ht hblk hnb hbl
  go_enter Tryz.func26, Tryz.ntmps26
  go_wp2_with (refine wpList_append_run rfl (.tmp 11) (.tmp 12) _ _ rfl _ _ rfl rfl _ _ hap ?_)
  go_ret
  have hl : (l ++ s.data.toList).length = l.length + s.size := by rw [List.length_append]; rfl
  rw [hl] at HFIN HOWN
  exact ⟨rfl, _, HFIN.out.1, HFIN.out.2, HOWN.out⟩

/-! ### Drop -/
/-- A row of bytes, behind its first n. -/
theorem IsRowB.drop {w : World} {a : Option Addr} {cap n : Nat} {l : List UInt8} (h : IsRowB w (.slice a l.length cap) l) (hn : n ≤ l.length) (hc : cap ≠ n) :
    IsRowB w (.slice (Option.map (fun x => x.add n) a) (l.length - n) (cap - n)) (l.drop n) ∧ (Value.slice (Option.map (fun x => x.add n) a) (l.length - n) (cap - n)).ownBlock = (Value.slice a l.length cap).ownBlock := by
  rcases h with ⟨hv, rfl⟩ | ⟨g, off, cap', hv, hg, hlc, hcm, hcc, ha, hf⟩
  · cases hv
    exfalso
    have : n = 0 := by simpa using hn
    omega
  · simp only [Value.slice.injEq, true_and] at hv
    obtain ⟨rfl, rfl⟩ := hv
    have e : Option.map (fun x : Addr => x.add n) (some ⟨g, off, none⟩) = some ⟨g, off + n, none⟩ := by rw [Option.map_some, Addr.add_lit]
    rw [e]
    refine ⟨Or.inr ⟨g, off + n, cap - n, by rw [List.length_drop], hg, by rw [List.length_drop]; omega, by omega, fun i x hx => ?_, fun i hi => ?_, fun i hi => ?_⟩, rfl⟩
    · rw [List.getElem?_drop] at hx
      rw [Nat.add_assoc]; exact hcc (n + i) x hx
    · rw [Nat.add_assoc]; exact ha (n + i) (by omega)
    · rw [Nat.add_assoc]; exact hf (n + i) (by omega)
end Go.Proofs.YtojphcoghbiepaaGreatDoor
namespace Go.Proofs.YtojphcoghbiepaaGreatDoor
open Go.RowKit BitM
set_option linter.unusedVariables false
set_option maxHeartbeats 400000 in
theorem seek_yes (b : Nat) (v : Value) (l : List UInt8) (dr sp p q : Nat) (w : World) (h : IsReader w b v l dr sp p) (hs : dr + l.length ≤ 1099511627776) (h1 : 8 * dr ≤ q) (h2 : q ≤ 8 * (dr + l.length)) :
    Calls Tryz.prog 14 #[.pointer (some ⟨b, 0, none⟩), .int .i64 (q : Int)] w fun e w' => e = .returned (.int .i64 0) ∧ IsReader w' b v l dr sp q ∧ Touch (· = b) w w' := by
  obtain ⟨c0, c1, c2, c3, f0, f1, f2, f3⟩ := h.cells
  obtain ⟨E, hE⟩ : ∃ E, 8 * (dr + l.length) = E := ⟨_, rfl⟩
  have hqE : (q : Int) ≤ E := by omega
  have hdq : (8 : Int) * dr ≤ q := by omega
  have hdb : (dr : Int) ≤ 1099511627776 := by omega
  have H := Lib.hid h
  have HE := Lib.hid hE
  clear h hE
  go_enter Tryz.func14, Tryz.ntmps14
  go_wp2_with fail
  refine (rend_any b v l dr sp p E w H.out hs HE.out).mono ?_
  rintro e w' ⟨rfl, m, rfl⟩
  go_wp2_with fail
  go_ret
  obtain ⟨d1, d2⟩ := (H.out.drewN m).at_ q h1 h2 (q : Int) rfl
  exact ⟨rfl, d1, (touch_drewN (· = b) w m).trans d2 (fun i hi => Or.inl hi)⟩
end Go.Proofs.YtojphcoghbiepaaGreatDoor
namespace Go.Proofs.YtojphcoghbiepaaGreatDoor
namespace Opn
open Go.ChangeShapes Go.WideShapes Go.ChangeAt Go.RowKit Go.Deep

/-- What a cell is. -/
inductive Kd where
  | int (k : IntKind)
  | bool
  | str
  | sl (e : TypeId)

section
variable (P : Program)
def joined (f : TypeId → Option (List Kd)) : Nat → List (Nat × TypeId) → Option (List Kd)
  | _, [] => some []
  | at_, (o, t) :: rest =>
    match f t, joined f (at_ + P.cellsOf t) rest with
    | some l, some r => if o = at_ ∧ l.length = P.cellsOf t then some (l ++ r) else none
    | _, _ => none
def whole (t : TypeId) : Option (List Kd) → Option (List Kd)
  | some l => if l.length = P.cellsOf t then some l else none
  | none => none
end

section
variable {H : Type} {enc : TypeId × Value → H} {P : Program} {w : World} {spare : Nat → Bool}

/-- What is known of a cell of a kind. -/
def CellOk (enc : TypeId × Value → H) (P : Program) (w : World) (spare : Nat → Bool) : Kd → Value → Prop
  | .int k, v => ∃ n, v = .int k n ∧ (Lit.int k n).wf = true
  | .bool, v => ∃ b, v = .bool b
  | .str, v => ∃ s : ByteArray, v = .string s ∧ s.size ≤ maxLen
  | .sl e, v => v = .slice none 0 0 ∨ ∃ (a : Addr) (len cap n : Nat), v = .slice (some a) len cap ∧ len ≤ cap ∧ cap ≤ maxLen ∧
      ∀ i, i < len → ∃ cs x, w.cells? 0 (a.add (i * P.cellsOf e)) (P.cellsOf e) = some cs ∧ DataW.trod enc P w 0 spare true n e cs = some x
def AllOk (enc : TypeId × Value → H) (P : Program) (w : World) (spare : Nat → Bool) : List Kd → List Value → Prop
  | [], [] => True
  | k :: ks, v :: vs => CellOk enc P w spare k v ∧ AllOk enc P w spare ks vs
  | _, _ => False
theorem AllOk.append : ∀ {ks ls : List Kd} {vs us : List Value}, AllOk enc P w spare ks vs → AllOk enc P w spare ls us → AllOk enc P w spare (ks ++ ls) (vs ++ us)
  | [], _, [], _, _, h => h
  | _ :: _, _, _ :: _, _, h, k => ⟨h.1, AllOk.append h.2 k⟩
  | [], _, _ :: _, _, h, _ => h.elim
  | _ :: _, _, [], _, h, _ => h.elim
theorem AllOk.length : ∀ {ks : List Kd} {vs : List Value}, AllOk enc P w spare ks vs → vs.length = ks.length
  | [], [], _ => rfl
  | _ :: _, _ :: _, h => by simpa using AllOk.length h.2
  | [], _ :: _, h => h.elim
  | _ :: _, [], h => h.elim

end
end Opn
end Go.Proofs.YtojphcoghbiepaaGreatDoor
namespace Go.Proofs.YtojphcoghbiepaaGreatDoor
open Go.RowKit BitM
set_option linter.unusedVariables false

/-! ### A nil reader -/
end Go.Proofs.YtojphcoghbiepaaGreatDoor
namespace Go.Proofs.YtojphcoghbiepaaGreatDoor
open Go.RowKit CanM HufM BitM
set_option linter.unusedVariables false
set_option maxRecDepth 100000 in
set_option maxHeartbeats 1000000 in
theorem length_any (b : Nat) (zs : List Int) (V n : Nat) (w : World) (h : IsCode w b zs) (h1 : 1 ≤ n) (h20 : n ≤ 20) (hV : V < 1048576) (hs : shr zs = 1048576) (hlt : V < endc zs n) (hge : ∀ m, 1 ≤ m → m < n → endc zs m ≤ V) :
    Calls Tryz.prog 271 #[.pointer (some ⟨b, 0, none⟩), .int .u32 (V : Int)] w fun e w' => e = .returned (.int .i64 (n : Int)) ∧ w' = w := by
  have H := Lib.hid h
  have HLT := Lib.hid hlt
  have HGE := Lib.hid hge
  clear h hlt hge hs
  go_enter Tryz.func271, Tryz.ntmps271
  go_wp2_with fail
  go_loopw [5] (fun vm wr => ∃ m : Nat, vm = .int .i64 (m : Int) ∧ 1 ≤ m ∧ m ≤ n ∧ wr = w) (fun vm _ => 21 - (intOf vm).toNat)
  case atStart => exact ⟨1, rfl, by omega, h1, rfl⟩
  case round =>
    obtain ⟨m, rfl, hm1, hm2, rfl⟩ := hrel
    obtain ⟨A1, hA1⟩ : ∃ A1, 817 + m = A1 := ⟨_, rfl⟩
    have c1 : wr.cell? ⟨b, A1, none⟩ = some (.int .u32 (endc zs m : Int)) := by rw [← hA1]; exact (H.out.len hm1 (show m ≤ 20 by omega)).2.2
    have hm21 : (m : Int) < 21 := by omega
    by_cases hmn : m < n
    · have hle : (endc zs m : Int) ≤ (V : Int) := by have := HGE.out m hm1 hmn; omega
      generalize endc zs m = E at *
      go_wp2_with fail
      go_roundw
      case rel => exact ⟨m + 1, by go_num, by omega, by omega, by trivial⟩
      case measure => simp [intOf]; omega
    · obtain rfl : m = n := by omega
      have hle : (V : Int) < (endc zs m : Int) := by have := HLT.out; omega
      generalize endc zs m = E at *
      go_wp2_with fail
      go_ret
      exact ⟨rfl, rfl⟩
theorem ln_bd {zs : List Int} (hw : ∀ z ∈ zs, 1 ≤ z ∧ z ≤ 20) {i : Nat} (hi : i < zs.length) : 1 ≤ ln zs i ∧ ln zs i ≤ 20 := by
  have h := hw (zs.getD i 0) (by rw [List.getD_eq_getElem?_getD, List.getElem?_eq_getElem hi]; exact List.getElem_mem hi)
  unfold ln
  omega
/-- Symbol i's code. -/
def code (zs : List Int) (i : Nat) : List Bool := field (cod zs (ln zs i, i)) (ln zs i)
theorem code_length (zs : List Int) (i : Nat) : (code zs i).length = ln zs i := field_length _ _
set_option maxHeartbeats 1000000 in
theorem cput_yes (b g : Nat) (zs : List Int) (i : Nat) (v : Value) (q : List Bool) (tk : Nat) (w : World) (h : IsCode w b zs) (h258 : zs.length ≤ 258) (hwh : WholeP zs) (hi : i < zs.length) (hg : IsWriter w g v q tk) (hq : q.length ≤ 1099511627776) :
    Calls Tryz.prog 100 #[.pointer (some ⟨b, 0, none⟩), .pointer (some ⟨g, 0, none⟩), .int .i64 (i : Int)] w fun e w' =>
      e = .returned (.int .i64 0) ∧ ∃ v1, IsWriter w' g v1 (q ++ code zs i) tk ∧ Touch (foot g v) w w' ∧ (∀ k, v1.ownBlock = some k → v.ownBlock = some k ∨ w.heap.size ≤ k) := by
  have H := Lib.hid h
  have HW := Lib.hid hwh
  have HG := Lib.hid hg
  clear h hwh hg
  go_enter Tryz.func100, Tryz.ntmps100
  go_wp2_with fail
  refine (of_yes b zs i _ H.out (fun z hz => HW.out.1 z hz) h258 hi).mono ?_
  rintro e w1 ⟨rfl, n, hw1⟩
  have HG1 : Hid (IsWriter w1 g v q tk) := Lib.hid (by rw [hw1]; exact HG.out.other (touch_drewN (fun _ => False) w n) (fun _ _ hf => hf))
  have HT1 : Hid (Touch (foot g v) w w1) := Lib.hid (by rw [hw1]; exact touch_drewN _ w n)
  have hsz : Hid (w1.heap.size = w.heap.size) := Lib.hid (by rw [hw1]; rfl)
  have hln := ln_bd (fun z hz => HW.out.1 z hz) hi
  have hcl : Hid (cod zs (ln zs i, i) < 2 ^ ln zs i) := Lib.hid (cod_lt (x := (ln zs i, i)) (ent_of hi) HW.out.2 hln.2)
  clear hw1
  go_wp2_with fail
  refine (put_any g v q tk _ _ w1 HG1.out (by omega) hcl.out hq).mono ?_
  rintro e w2 ⟨rfl, v1, k1, k2, k3⟩
  have K : Hid (IsWriter w2 g v1 (q ++ code zs i) tk ∧ Touch (foot g v) w w2 ∧ (∀ k, v1.ownBlock = some k → v.ownBlock = some k ∨ w.heap.size ≤ k)) := Lib.hid ⟨k1, HT1.out.trans k2 (fun j hj => Or.inl hj), fun k hk => by rw [← hsz.out]; exact k3 k hk⟩
  clear k1 k2 k3
  go_wp2_with fail
  go_ret
  exact ⟨rfl, v1, K.out⟩
/-- What Get tells: a symbol and nothing wrong, or that the bits end within a code; and where the reader is then. -/
def GetP (zs : List Int) (q : List Bool) (p : Nat) (x e : Int) (p' : Nat) : Prop :=
  (∃ i, i < zs.length ∧ Begins zs (ln zs i, i) q ∧ x = (i : Int) ∧ e = 0 ∧ p' = p + ln zs i) ∨ ((∀ i, i < zs.length → ¬ Begins zs (ln zs i, i) q) ∧ x = 0 ∧ e = 3 ∧ p' = p)
set_option maxRecDepth 100000 in
set_option maxHeartbeats 2000000 in
theorem cget_any (c : Nat) (zs : List Int) (b : Nat) (v : Value) (l : List UInt8) (dr sp p : Nat) (w : World) (h : IsCode w c zs) (h3 : 3 ≤ zs.length) (h258 : zs.length ≤ 258) (hwh : WholeP zs) (hr : IsReader w b v l dr sp p) (hs : dr + l.length ≤ 1099511627776) (hcb : c ≠ b) :
    Calls Tryz.prog 251 #[.pointer (some ⟨c, 0, none⟩), .pointer (some ⟨b, 0, none⟩)] w fun e w' =>
      ∃ (x er : Int) (p' : Nat), e = .returned (.tuple #[.int .i64 x, .int .i64 er]) ∧ GetP zs ((bitsOf l).drop (p - 8 * dr)) p x er p' ∧ IsReader w' b v l dr sp p' ∧ Touch (· = b) w w' := by
  have H := Lib.hid h
  have HR := Lib.hid hr
  have HW := Lib.hid hwh
  have hp8 : 8 * dr ≤ p := hr.2.2.2.1
  have hpe : p ≤ 8 * (dr + l.length) := hr.2.2.2.2
  obtain ⟨L, hL⟩ : ∃ L, 8 * (dr + l.length) - p = L := ⟨_, rfl⟩
  have hql : Hid (((bitsOf l).drop (p - 8 * dr)).length = L) := Lib.hid (by rw [List.length_drop, bitsOf_length]; omega)
  obtain ⟨q, hq⟩ : ∃ q, (bitsOf l).drop (p - 8 * dr) = q := ⟨_, rfl⟩
  rw [hq] at hql ⊢
  have HQ := Lib.hid hq
  obtain ⟨T, hT⟩ : ∃ T, min L 20 = T := ⟨_, rfl⟩
  obtain ⟨V, hV⟩ : ∃ V, num (q.take T) * 2 ^ (20 - T) = V := ⟨_, rfl⟩
  obtain ⟨i, hi, hn1, hn20, hV20, hend, hge, hcode, hyes, hno⟩ := row_find (fun z hz => HW.out.1 z hz) HW.out.2 q T V (by rw [hql.out, hT]) hV.symm
  have HEND := Lib.hid hend
  have HGE := Lib.hid hge
  have HCODE := Lib.hid hcode
  have HYES := Lib.hid hyes
  have HNO := Lib.hid hno
  have HV := Lib.hid hV
  obtain ⟨n, hn⟩ : ∃ n, ln zs i = n := ⟨_, rfl⟩
  have HN := Lib.hid hn
  rw [hn] at hn1 hn20
  have hz : ((zs.length : Int) == 0) = false := by rw [beq_eq_false_iff_ne]; omega
  have hTL : T ≤ L := by omega
  have hT20 : T ≤ 20 := by omega
  have HTm := Lib.hid hT
  have hLb : L ≤ 8796093022208 := by omega
  have hpb : p ≤ 8796093022208 := by omega
  have HL := Lib.hid hL
  clear h hr hwh hq hend hge hcode hyes hno hV hn hT hL
  go_enter Tryz.func251, Tryz.ntmps251
  go_wp2_with fail
  refine (csize_any c zs _ H.out).mono ?_
  rintro e w' ⟨rfl, rfl⟩
  go_wp2_with fail
  refine (rat_any b v l dr sp p _ HR.out).mono ?_
  rintro e w1 ⟨rfl, rfl⟩
  go_wp2_with fail
  refine (rleft_any b v l dr sp p L _ HR.out hs HL.out).mono ?_
  rintro e w2 ⟨rfl, m, hw2⟩
  have H2 : Hid (IsCode w2 c zs) := Lib.hid (by rw [hw2]; exact H.out.other (touch_drewN (fun _ => False) _ m) (fun hf => hf))
  have HR2 : Hid (IsReader w2 b v l dr sp p) := Lib.hid (by rw [hw2]; exact HR.out.drewN m)
  have HT2 : Hid (Touch (· = b) w' w2) := Lib.hid (by rw [hw2]; exact touch_drewN _ _ m)
  clear hw2
  go_wp2_with fail
  · obtain rfl : T = 20 := by have := HTm.out; omega
    refine (get_any b v l dr sp p 20 w2 HR2.out hs (by omega) (by have := HL.out; omega)).mono ?_
    rintro e w3 ⟨rfl, hr3, ht3⟩
    have H3 : Hid (IsCode w3 c zs) := Lib.hid (H2.out.other ht3 hcb)
    have HR3 : Hid (IsReader w3 b v l dr sp (p + 20)) := Lib.hid hr3
    have HT3 : Hid (Touch (· = b) w' w3) := Lib.hid (HT2.out.trans ht3 (fun j hj => Or.inl hj))
    rw [HQ.out]
    clear hr3 ht3
    have hXV : num (q.take 20) = V := by have h1 := HV.out; simpa using h1
    rw [hXV]
    clear hXV
    go_wp2_with fail
    refine (length_any c zs V n w3 H3.out hn1 hn20 hV20 HW.out.2 (by have := HEND.out; rw [HN.out] at this; exact this) (by have := HGE.out; rw [HN.out] at this; exact this)).mono ?_
    rintro e w4 ⟨rfl, rfl⟩
    by_cases hnT : n ≤ 20
    · have hnTi : (n : Int) ≤ 20 := by omega
      obtain ⟨P2, hP2⟩ : ∃ P2, p + n = P2 := ⟨_, rfl⟩
      have hP2i : (p : Int) + (n : Int) = (P2 : Int) := by omega
      have HP2 := Lib.hid hP2
      have hP2b : P2 ≤ 8796093022300 := by omega
      go_wp2_with fail
      refine (seek_yes b v l dr sp (p + 20) P2 w4 HR3.out hs (by omega) (by have := HL.out; omega)).mono ?_
      rintro e w5 ⟨rfl, hr5, ht5⟩
      have H5 : Hid (IsCode w5 c zs) := Lib.hid (H3.out.other ht5 hcb)
      have HR5 : Hid (IsReader w5 b v l dr sp P2) := Lib.hid hr5
      have HT5 : Hid (Touch (· = b) w' w5) := Lib.hid (HT3.out.trans ht5 (fun j hj => Or.inl hj))
      clear hr5 ht5 hP2 hP2i
      obtain ⟨S2, hS2⟩ : ∃ S2 : Nat, 20 - n = S2 := ⟨_, rfl⟩
      have hS2i : (20 : Int) - (n : Int) = (S2 : Int) := by omega
      have hS20 : ¬ (20 : Int) - (n : Int) < 0 := by omega
      have hS2b : S2 ≤ 20 := by omega
      have hpl := plc_bound zs hi
      obtain ⟨R, hR⟩ : ∃ R, rank zs n i = R := ⟨_, rfl⟩
      obtain ⟨Fc, hFc⟩ : ∃ Fc, fcod zs n = Fc := ⟨_, rfl⟩
      obtain ⟨Cl, hCl⟩ : ∃ Cl, cl zs n = Cl := ⟨_, rfl⟩
      obtain ⟨P, hP⟩ : ∃ P, plc zs i = P := ⟨_, rfl⟩
      obtain ⟨K, hK⟩ : ∃ K, V / 2 ^ S2 = K := ⟨_, rfl⟩
      have hKe : K = Fc + R := by have := HCODE.out; rw [HN.out, hS2, hK, hFc, hR] at this; exact this
      have hPe : P = Cl + R := by rw [← hP, ← hCl, ← hR, ← HN.out]; rfl
      rw [hP] at hpl
      have hKi : (V : Int) / 2 ^ S2 = (K : Int) := by rw [← hK]; simp
      have hKb : K ≤ V := by rw [← hK]; exact Nat.div_le_self _ _
      have hKF : (K : Int) - (Fc : Int) = (R : Int) := by omega
      have hFK : (Fc : Int) ≤ (K : Int) := by omega
      have hPi : (Cl : Int) + (R : Int) = (P : Int) := by omega
      have hP258 : (P : Int) < 258 := by omega
      have hn21 : (n : Int) < 21 := by omega
      obtain ⟨B1, hB1⟩ : ∃ B1, 796 + n = B1 := ⟨_, rfl⟩
      obtain ⟨B2, hB2⟩ : ∃ B2, 775 + n = B2 := ⟨_, rfl⟩
      obtain ⟨B3, hB3⟩ : ∃ B3, 517 + P = B3 := ⟨_, rfl⟩
      have d1 : w5.cell? ⟨c, B1, none⟩ = some (.int .i64 (Cl : Int)) := by rw [← hB1, ← hCl]; exact (H5.out.len hn1 hn20).2.1
      have d2 : w5.cell? ⟨c, B2, none⟩ = some (.int .u32 (Fc : Int)) := by rw [← hB2, ← hFc]; exact (H5.out.len hn1 hn20).1
      have d3 : w5.cell? ⟨c, B3, none⟩ = some (.int .i64 (i : Int)) := by rw [← hB3, ← hP]; exact (H5.out.sym (fun z hz => HW.out.1 z hz) h258 hi).2.2
      clear hKe hPe hK hP hCl hR hFc hS2
      go_wp2_with fail
      go_quiet (fail)
      go_wp2_with fail
      go_ret2
      exact ⟨(i : Int), 0, P2, rfl, Or.inl ⟨i, hi, HYES.out (by rw [HN.out]; exact hnT), rfl, rfl, by rw [HN.out]; exact HP2.out.symm⟩, HR5.out.drewN _, HT5.out.trans (touch_drewN _ _ _) (fun j hj => Or.inl hj)⟩
    · have hnTi : (20 : Int) < n := by omega
      go_wp2_with fail
      refine (seek_yes b v l dr sp (p + 20) p w4 HR3.out hs (by omega) (by have := HL.out; omega)).mono ?_
      rintro e w5 ⟨rfl, hr5, ht5⟩
      have HR5 : Hid (IsReader w5 b v l dr sp p) := Lib.hid hr5
      have HT5 : Hid (Touch (· = b) w' w5) := Lib.hid (HT3.out.trans ht5 (fun j hj => Or.inl hj))
      clear hr5 ht5
      go_wp2_with fail
      go_ret2
      exact ⟨0, 3, p, rfl, Or.inr ⟨HNO.out (by rw [HN.out]; omega), rfl, rfl, rfl⟩, HR5.out, HT5.out⟩
  · obtain rfl : T = L := by have := HTm.out; omega
    refine (get_any b v l dr sp p T w2 HR2.out hs (by omega) (by have := HL.out; omega)).mono ?_
    rintro e w3 ⟨rfl, hr3, ht3⟩
    have H3 : Hid (IsCode w3 c zs) := Lib.hid (H2.out.other ht3 hcb)
    have HR3 : Hid (IsReader w3 b v l dr sp (p + T)) := Lib.hid hr3
    have HT3 : Hid (Touch (· = b) w' w3) := Lib.hid (HT2.out.trans ht3 (fun j hj => Or.inl hj))
    rw [HQ.out]
    clear hr3 ht3
    obtain ⟨X, hX⟩ : ∃ X, num (q.take T) = X := ⟨_, rfl⟩
    obtain ⟨S, hS⟩ : ∃ S : Nat, 20 - T = S := ⟨_, rfl⟩
    have hSI : (20 : Int) - (T : Int) = (S : Int) := by omega
    have hS0 : ¬ (20 : Int) - (T : Int) < 0 := by omega
    have hSb : S ≤ 20 := by omega
    have HVm : (X : Int) * 2 ^ S % 4294967296 = (V : Int) := by
      have h1 := HV.out
      rw [hX, hS] at h1
      have h2 : (X : Int) * 2 ^ S = (V : Int) := by rw [← h1]; rw [Int.natCast_mul, Int.natCast_pow]; rfl
      rw [h2]; omega
    rw [hX]
    clear hS
    go_wp2_with fail
    refine (length_any c zs V n w3 H3.out hn1 hn20 hV20 HW.out.2 (by have := HEND.out; rw [HN.out] at this; exact this) (by have := HGE.out; rw [HN.out] at this; exact this)).mono ?_
    rintro e w4 ⟨rfl, rfl⟩
    by_cases hnT : n ≤ T
    · have hnTi : (n : Int) ≤ T := by omega
      obtain ⟨P2, hP2⟩ : ∃ P2, p + n = P2 := ⟨_, rfl⟩
      have hP2i : (p : Int) + (n : Int) = (P2 : Int) := by omega
      have HP2 := Lib.hid hP2
      have hP2b : P2 ≤ 8796093022300 := by omega
      go_wp2_with fail
      refine (seek_yes b v l dr sp (p + T) P2 w4 HR3.out hs (by omega) (by have := HL.out; omega)).mono ?_
      rintro e w5 ⟨rfl, hr5, ht5⟩
      have H5 : Hid (IsCode w5 c zs) := Lib.hid (H3.out.other ht5 hcb)
      have HR5 : Hid (IsReader w5 b v l dr sp P2) := Lib.hid hr5
      have HT5 : Hid (Touch (· = b) w' w5) := Lib.hid (HT3.out.trans ht5 (fun j hj => Or.inl hj))
      clear hr5 ht5 hP2 hP2i
      obtain ⟨S2, hS2⟩ : ∃ S2 : Nat, 20 - n = S2 := ⟨_, rfl⟩
      have hS2i : (20 : Int) - (n : Int) = (S2 : Int) := by omega
      have hS20 : ¬ (20 : Int) - (n : Int) < 0 := by omega
      have hS2b : S2 ≤ 20 := by omega
      have hpl := plc_bound zs hi
      obtain ⟨R, hR⟩ : ∃ R, rank zs n i = R := ⟨_, rfl⟩
      obtain ⟨Fc, hFc⟩ : ∃ Fc, fcod zs n = Fc := ⟨_, rfl⟩
      obtain ⟨Cl, hCl⟩ : ∃ Cl, cl zs n = Cl := ⟨_, rfl⟩
      obtain ⟨P, hP⟩ : ∃ P, plc zs i = P := ⟨_, rfl⟩
      obtain ⟨K, hK⟩ : ∃ K, V / 2 ^ S2 = K := ⟨_, rfl⟩
      have hKe : K = Fc + R := by have := HCODE.out; rw [HN.out, hS2, hK, hFc, hR] at this; exact this
      have hPe : P = Cl + R := by rw [← hP, ← hCl, ← hR, ← HN.out]; rfl
      rw [hP] at hpl
      have hKi : (V : Int) / 2 ^ S2 = (K : Int) := by rw [← hK]; simp
      have hKb : K ≤ V := by rw [← hK]; exact Nat.div_le_self _ _
      have hKF : (K : Int) - (Fc : Int) = (R : Int) := by omega
      have hFK : (Fc : Int) ≤ (K : Int) := by omega
      have hPi : (Cl : Int) + (R : Int) = (P : Int) := by omega
      have hP258 : (P : Int) < 258 := by omega
      have hn21 : (n : Int) < 21 := by omega
      obtain ⟨B1, hB1⟩ : ∃ B1, 796 + n = B1 := ⟨_, rfl⟩
      obtain ⟨B2, hB2⟩ : ∃ B2, 775 + n = B2 := ⟨_, rfl⟩
      obtain ⟨B3, hB3⟩ : ∃ B3, 517 + P = B3 := ⟨_, rfl⟩
      have d1 : w5.cell? ⟨c, B1, none⟩ = some (.int .i64 (Cl : Int)) := by rw [← hB1, ← hCl]; exact (H5.out.len hn1 hn20).2.1
      have d2 : w5.cell? ⟨c, B2, none⟩ = some (.int .u32 (Fc : Int)) := by rw [← hB2, ← hFc]; exact (H5.out.len hn1 hn20).1
      have d3 : w5.cell? ⟨c, B3, none⟩ = some (.int .i64 (i : Int)) := by rw [← hB3, ← hP]; exact (H5.out.sym (fun z hz => HW.out.1 z hz) h258 hi).2.2
      clear hKe hPe hK hP hCl hR hFc hS2
      go_wp2_with fail
      go_quiet (fail)
      go_wp2_with fail
      go_ret2
      exact ⟨(i : Int), 0, P2, rfl, Or.inl ⟨i, hi, HYES.out (by rw [HN.out]; exact hnT), rfl, rfl, by rw [HN.out]; exact HP2.out.symm⟩, HR5.out.drewN _, HT5.out.trans (touch_drewN _ _ _) (fun j hj => Or.inl hj)⟩
    · have hnTi : (T : Int) < n := by omega
      go_wp2_with fail
      refine (seek_yes b v l dr sp (p + T) p w4 HR3.out hs (by omega) (by have := HL.out; omega)).mono ?_
      rintro e w5 ⟨rfl, hr5, ht5⟩
      have HR5 : Hid (IsReader w5 b v l dr sp p) := Lib.hid hr5
      have HT5 : Hid (Touch (· = b) w' w5) := Lib.hid (HT3.out.trans ht5 (fun j hj => Or.inl hj))
      clear hr5 ht5
      go_wp2_with fail
      go_ret2
      exact ⟨0, 3, p, rfl, Or.inr ⟨HNO.out (by rw [HN.out]; omega), rfl, rfl, rfl⟩, HR5.out, HT5.out⟩
end Go.Proofs.YtojphcoghbiepaaGreatDoor
namespace Go.Proofs.YtojphcoghbiepaaGreatDoor
open Go.RowKit CanM HufM BitM
set_option linter.unusedVariables false
instance (l : List Int) (x : Tr) (q : List Bool) : Decidable (CanM.Begins l x q) := by unfold CanM.Begins; exact inferInstance
/-! ### Sizes and whole codes -/
def SizeP (n : Nat) : Prop := 3 ≤ n ∧ n ≤ 258
instance (n : Nat) : Decidable (SizeP n) := by unfold SizeP; exact inferInstance
end Go.Proofs.YtojphcoghbiepaaGreatDoor
namespace Go.Proofs.YtojphcoghbiepaaGreatDoor
namespace FreqM
open Go.RowKit
set_option linter.unusedVariables false

/-- At most 2^40. -/
def cap (x : Int) : Int := if 1099511627776 < x then 1099511627776 else x
theorem cap_le (x : Int) : cap x ≤ 1099511627776 := by unfold cap; split <;> omega
theorem cap_nn (x : Int) (h : 0 ≤ x) : 0 ≤ cap x := by unfold cap; split <;> omega
theorem cap_id (x : Int) (h : x ≤ 1099511627776) : cap x = x := by unfold cap; split <;> omega
theorem cap_hi (x : Int) (h : 1099511627776 < x) : cap x = 1099511627776 := by unfold cap; rw [if_pos h]
theorem cap_add (a b : Int) (hb : 0 ≤ b) : cap (cap a + b) = cap (a + b) := by
  unfold cap
  repeat' split
  all_goals omega
def Syms (l : List Int) (n : Int) : Prop := ∀ x ∈ l, 0 ≤ x ∧ x < n
def Nums (l : List Int) : Prop := ∀ x ∈ l, 0 ≤ x ∧ x ≤ 1099511627776
theorem getD_mem (l : List Int) (k : Nat) (h : k < l.length) : l.getD k 0 ∈ l := by
  rw [List.getD_eq_getElem?_getD, List.getElem?_eq_getElem h]
  exact List.getElem_mem h

/-! ### Counts -/
def counts (l : List Int) (N : Nat) : List Int := (List.range N).map fun i : Nat => (l.count (i : Int) : Int)
theorem counts_len (l : List Int) (N : Nat) : (counts l N).length = N := by simp [counts]
theorem counts_get (l : List Int) (N i : Nat) (h : i < N) : (counts l N).getD i 0 = (l.count (i : Int) : Int) := by
  rw [List.getD_eq_getElem?_getD, List.getElem?_eq_getElem (by rw [counts_len]; exact h)]
  simp [counts]
theorem counts_nil (N : Nat) : counts [] N = List.replicate N 0 := by
  apply List.ext_getElem
  · simp [counts]
  · intro i h1 h2
    simp [counts]
theorem counts_snoc (l : List Int) (N i : Nat) (h : i < N) : counts (l ++ [(i : Int)]) N = (counts l N).set i ((counts l N).getD i 0 + 1) := by
  apply List.ext_getElem
  · simp [counts]
  · intro j h1 h2
    rw [counts_len] at h1
    rw [List.getElem_set]
    by_cases e : i = j
    · subst e
      rw [if_pos rfl, counts_get l N i h]
      simp [counts, List.count_append]
    · rw [if_neg e]
      simp only [counts, List.getElem_map, List.getElem_range, List.count_append]
      rw [List.count_singleton, if_neg (by simp; omega)]
      simp
theorem counts_take (l : List Int) (N k : Nat) (hk : k < l.length) (x : Nat) (hx : l.getD k 0 = (x : Int)) (hN : x < N) : counts (l.take (k + 1)) N = (counts (l.take k) N).set x ((counts (l.take k) N).getD x 0 + 1) := by
  rw [← counts_snoc _ _ _ hN, List.take_succ_eq_append_getElem hk]
  rw [List.getD_eq_getElem?_getD, List.getElem?_eq_getElem hk] at hx
  rw [← hx]
  rfl
theorem counts_nn (l : List Int) (N : Nat) : ∀ x ∈ counts l N, 0 ≤ x ∧ x ≤ (l.length : Int) := by
  intro x hx
  obtain ⟨i, _, rfl⟩ := List.mem_map.1 hx
  have := List.count_le_length (a := (i : Int)) (l := l)
  omega
theorem count_take (l : List Int) (x : Int) (k : Nat) (hk : k < l.length) : (l.take (k + 1)).count x = (l.take k).count x + if x = l.getD k 0 then 1 else 0 := by
  rw [List.take_succ_eq_append_getElem hk, List.count_append, List.getD_eq_getElem?_getD, List.getElem?_eq_getElem hk, List.count_singleton]
  show _ + (if (l[k] == x) = true then 1 else 0) = _ + (if x = l[k] then 1 else 0)
  by_cases e : x = l[k]
  · rw [if_pos e, if_pos (by rw [e]; exact beq_self_eq_true _)]
  · rw [if_neg e, if_neg (by rw [beq_iff_eq]; exact fun h => e h.symm)]

/-! ### Together -/
def adds (a b : List Int) : List Int := List.zipWith (fun x y => cap (x + y)) a b
/-- One number more in a total. -/
def totS (n x : Int) : Int := if 0 < x then cap (n + cap x) else n
def tot (l : List Int) : Int := l.foldl totS 0
/-! ### What symbols cost -/
def sumF : List Int → Int
  | [] => 0
  | x :: t => x + sumF t
theorem sumF_app (a b : List Int) : sumF (a ++ b) = sumF a + sumF b := by
  induction a with
  | nil => simp [sumF]
  | cons x t ih => simp only [List.cons_append, sumF, ih]; omega
theorem sumF_nn (a : List Int) (h : ∀ x ∈ a, 0 ≤ x) : 0 ≤ sumF a := by
  induction a with
  | nil => simp [sumF]
  | cons x t ih =>
    have h1 := h x (List.mem_cons_self ..)
    have h2 := ih (fun y hy => h y (List.mem_cons_of_mem _ hy))
    simp only [sumF]
    omega
/-- The lengths of all symbols, together. -/
def costS (l lens : List Int) : Int := sumF (l.map fun x => lens.getD x.toNat 0)
theorem costS_take (l lens : List Int) (k : Nat) (h : k < l.length) : costS (l.take (k + 1)) lens = costS (l.take k) lens + lens.getD (l.getD k 0).toNat 0 := by
  unfold costS
  rw [List.take_succ_eq_append_getElem h, List.map_append, sumF_app, List.getD_eq_getElem?_getD (l := l), List.getElem?_eq_getElem h]
  simp [sumF]
/-! ### Groups -/
def ng (n : Nat) : Nat := (n + 49) / 50
def grp (l : List Int) (i : Nat) : List Int := (l.drop (50 * i)).take 50
theorem ng_pos (n : Nat) (h : 0 < n) : (ng n : Int) = ((n : Int) - 1) / 50 + 1 := by unfold ng; omega
theorem grp_len (l : List Int) (i : Nat) : (grp l i).length = min 50 (l.length - 50 * i) := by unfold grp; simp
theorem take_next (l : List Int) (i : Nat) : l.take (50 * (i + 1)) = l.take (50 * i) ++ grp l i := by
  unfold grp
  rw [show 50 * (i + 1) = 50 * i + 50 by omega, List.take_add]
end FreqM
end Go.Proofs.YtojphcoghbiepaaGreatDoor
namespace Go.Proofs.YtojphcoghbiepaaGreatDoor
open Go.RowKit FreqM
set_option linter.unusedVariables false
set_option maxRecDepth 100000 in
set_option maxHeartbeats 1000000 in
theorem areSymbols_any (v : Value) (zs : List Int) (n : Int) (r : Bool) (w : World) (hv : IsInts w v zs) (hz : zs.length ≤ 9223372036854775807) (hr : r = true ↔ Syms zs n) :
    Calls Tryz.prog 221 #[v, .int .i64 n] w fun e w' => e = .returned (.bool r) ∧ w = w' := by
  have HV := Lib.hid hv
  have HR := Lib.hid hr
  obtain ⟨a, cap, rfl, _⟩ := hv
  clear hr
  go_enter Tryz.func221, Tryz.ntmps221
  go_wp2_with fail
  go_loop [9] (fun i => ∃ k : Nat, k ≤ zs.length ∧ i = .int .i64 k ∧ ∀ j, j < k → 0 ≤ zs.getD j 0 ∧ zs.getD j 0 < n) (fun i => zs.length - (intOf i).toNat)
  case atStart => exact ⟨0, by omega, rfl, fun j hj => by omega⟩
  case round =>
    obtain ⟨k, hk, rfl, hA⟩ := hrel
    have HA := Lib.hid hA
    clear hA
    by_cases hlk : k < zs.length
    · have hki : (k : Int) < (zs.length : Int) := by omega
      obtain ⟨b1, o1, k1, he1, c1⟩ := HV.out.cell hlk
      simp only [Value.slice.injEq] at he1
      obtain ⟨rfl, _, rfl⟩ := he1
      obtain ⟨x, hx⟩ : ∃ x, zs.getD k 0 = x := ⟨_, rfl⟩
      have HM : Hid (x ∈ zs) := Lib.hid (by rw [← hx]; exact FreqM.getD_mem zs k hlk)
      rw [hx] at c1
      have HX := Lib.hid hx
      clear hx
      by_cases h0 : x < 0
      · obtain rfl : r = false := by
          rw [Bool.eq_false_iff]; intro h
          have := (HR.out.1 h x HM.out).1
          omega
        go_wp2_with fail
        go_ret
        exact ⟨rfl, rfl⟩
      · by_cases h1 : n ≤ x
        · obtain rfl : r = false := by
            rw [Bool.eq_false_iff]; intro h
            have := (HR.out.1 h x HM.out).2
            omega
          go_wp2_with fail
          go_ret
          exact ⟨rfl, rfl⟩
        · go_wp2_with fail
          go_round
          case rel => exact ⟨k + 1, by omega, by go_num, fun j hj => by
            by_cases e : j = k
            · subst e; rw [HX.out]; omega
            · exact HA.out j (by omega)⟩
          case measure => simp [intOf]; omega
    · obtain rfl : k = zs.length := by omega
      have hrt : r = true := by
        rw [HR.out]
        intro p hp
        obtain ⟨i, hi, rfl⟩ := List.getElem_of_mem hp
        have := HA.out i hi
        rw [List.getD_eq_getElem?_getD, List.getElem?_eq_getElem hi] at this
        exact this
      subst hrt
      go_wp2_with fail
      go_ret
      exact ⟨rfl, rfl⟩
set_option maxRecDepth 100000 in
set_option maxHeartbeats 1000000 in
theorem areNumbers_any (v : Value) (zs : List Int) (r : Bool) (w : World) (hv : IsInts w v zs) (hz : zs.length ≤ 9223372036854775807) (hr : r = true ↔ Nums zs) :
    Calls Tryz.prog 222 #[v] w fun e w' => e = .returned (.bool r) ∧ w = w' := by
  have HV := Lib.hid hv
  have HR := Lib.hid hr
  obtain ⟨a, cap, rfl, _⟩ := hv
  clear hr
  go_enter Tryz.func222, Tryz.ntmps222
  go_wp2_with fail
  go_loop [7] (fun i => ∃ k : Nat, k ≤ zs.length ∧ i = .int .i64 k ∧ ∀ j, j < k → 0 ≤ zs.getD j 0 ∧ zs.getD j 0 ≤ 1099511627776) (fun i => zs.length - (intOf i).toNat)
  case atStart => exact ⟨0, by omega, rfl, fun j hj => by omega⟩
  case round =>
    obtain ⟨k, hk, rfl, hA⟩ := hrel
    have HA := Lib.hid hA
    clear hA
    by_cases hlk : k < zs.length
    · have hki : (k : Int) < (zs.length : Int) := by omega
      obtain ⟨b1, o1, k1, he1, c1⟩ := HV.out.cell hlk
      simp only [Value.slice.injEq] at he1
      obtain ⟨rfl, _, rfl⟩ := he1
      obtain ⟨x, hx⟩ : ∃ x, zs.getD k 0 = x := ⟨_, rfl⟩
      have HM : Hid (x ∈ zs) := Lib.hid (by rw [← hx]; exact FreqM.getD_mem zs k hlk)
      rw [hx] at c1
      have HX := Lib.hid hx
      clear hx
      by_cases h0 : x < 0
      · obtain rfl : r = false := by
          rw [Bool.eq_false_iff]; intro h
          have := (HR.out.1 h x HM.out).1
          omega
        go_wp2_with fail
        go_ret
        exact ⟨rfl, rfl⟩
      · by_cases h1 : 1099511627776 < x
        · obtain rfl : r = false := by
            rw [Bool.eq_false_iff]; intro h
            have := (HR.out.1 h x HM.out).2
            omega
          go_wp2_with fail
          go_ret
          exact ⟨rfl, rfl⟩
        · go_wp2_with fail
          go_round
          case rel => exact ⟨k + 1, by omega, by go_num, fun j hj => by
            by_cases e : j = k
            · subst e; rw [HX.out]; omega
            · exact HA.out j (by omega)⟩
          case measure => simp [intOf]; omega
    · obtain rfl : k = zs.length := by omega
      have hrt : r = true := by
        rw [HR.out]
        intro p hp
        obtain ⟨i, hi, rfl⟩ := List.getElem_of_mem hp
        have := HA.out i hi
        rw [List.getD_eq_getElem?_getD, List.getElem?_eq_getElem hi] at this
        exact this
      subst hrt
      go_wp2_with fail
      go_ret
      exact ⟨rfl, rfl⟩
theorem rSize_any (n : Int) (r : Bool) (w : World) (hr : r = true ↔ 3 ≤ n ∧ n ≤ 258) : Calls Tryz.prog 16 #[.int .i64 n] w fun e w' => e = .returned (.bool r) ∧ w = w' := by
  by_cases h1 : 3 ≤ n
  · by_cases h2 : n ≤ 258
    · obtain rfl : r = true := hr.2 ⟨h1, h2⟩
      clear hr
      go_enter Tryz.func16, Tryz.ntmps16
      go_wp2_with fail
      go_ret
      exact ⟨rfl, rfl⟩
    · obtain rfl : r = false := by rw [Bool.eq_false_iff]; intro h; exact h2 (hr.1 h).2
      clear hr
      go_enter Tryz.func16, Tryz.ntmps16
      go_wp2_with fail
      go_ret
      exact ⟨rfl, rfl⟩
  · obtain rfl : r = false := by rw [Bool.eq_false_iff]; intro h; exact h1 (hr.1 h).1
    clear hr
    go_enter Tryz.func16, Tryz.ntmps16
    go_wp2_with fail
    go_ret
    exact ⟨rfl, rfl⟩
/-- What Counts tells. -/
def CntOk (l : List Int) (n : Int) : Prop := 3 ≤ n ∧ n ≤ 258 ∧ Syms l n
def CntP (l : List Int) (n : Int) (zs : List Int) (err : Nat) : Prop := (¬ CntOk l n ∧ zs = [] ∧ err = 1) ∨ (CntOk l n ∧ zs = counts l n.toNat ∧ err = 0)
set_option maxRecDepth 100000 in
set_option maxHeartbeats 2000000 in
theorem counts_any (v : Value) (zs : List Int) (n : Int) (w : World) (hv : IsInts w v zs) (hz : zs.length ≤ 1000000) :
    Calls Tryz.prog 211 #[v, .int .i64 n] w fun e w' => ∃ (u : Value) (ys : List Int) (err : Nat), e = .returned (.tuple #[u, .int .i64 (err : Int)]) ∧ IsInts w' u ys ∧ Below w.heap.size w w' ∧ CntP zs n ys err := by
  have HV := Lib.hid hv
  obtain ⟨a, cap, rfl, _⟩ := hv
  by_cases h1 : n < 3
  · go_enter Tryz.func211, Tryz.ntmps211
    go_wp2_with fail
    go_ret2
    exact ⟨_, [], 1, rfl, IsInts.nil _, Below.refl _ _, Or.inl ⟨fun h => by have := h.1; omega, rfl, rfl⟩⟩
  by_cases h2 : 258 < n
  · go_enter Tryz.func211, Tryz.ntmps211
    go_wp2_with fail
    go_ret2
    exact ⟨_, [], 1, rfl, IsInts.nil _, Below.refl _ _, Or.inl ⟨fun h => by have := h.2.1; omega, rfl, rfl⟩⟩
  by_cases hs : Syms zs n
  · have HA := Lib.hid (areSymbols_any _ zs n true w HV.out (by omega) ⟨fun _ => hs, fun _ => rfl⟩)
    have HS := Lib.hid hs
    obtain ⟨N, rfl⟩ : ∃ N : Nat, n = (N : Int) := ⟨n.toNat, by omega⟩
    have HOK : Hid (CntOk zs (N : Int)) := Lib.hid ⟨by omega, by omega, hs⟩
    have hNI : (N : Int) ≤ 258 := by omega
    have hmk := make_ints N (by omega) w
    have HR0 := Lib.hid (RowI.made w N)
    have HB0 := Lib.hid ((Below.refl w.heap.size w).alloc (Nat.le_refl _) (.cells (madeCells #[Value.int .i64 0] N) 3))
    clear hs
    generalize hw1 : w.alloc (.cells (madeCells #[Value.int .i64 0] N) 3) = w1 at *
    clear hw1
    go_enter Tryz.func211, Tryz.ntmps211
    go_wp2_with fail
    refine HA.out.mono ?_
    rintro e w' ⟨rfl, rfl⟩
    clear HA
    go_wp2_with fail
    generalize hg : w.heap.size = g at *
    go_loopw [25] (fun i wr => ∃ k : Nat, k ≤ zs.length ∧ i = .int .i64 k ∧ RowI wr g (counts (zs.take k) N) ∧ Below g w wr) (fun i _ => zs.length - (intOf i).toNat)
    case atStart => exact ⟨0, by omega, rfl, by rw [List.take_zero, counts_nil]; exact HR0.out, HB0.out⟩
    case round =>
      clear HR0 HB0
      obtain ⟨k, hk, rfl, hR, hB⟩ := hrel
      have HR := Lib.hid hR
      have HB := Lib.hid hB
      clear hR hB
      by_cases hlk : k < zs.length
      · have hki : (k : Int) < (zs.length : Int) := by omega
        have HV2 := Lib.hid (HV.out.below (hg ▸ HB.out))
        obtain ⟨b1, o1, k1, he1, c1⟩ := HV2.out.cell hlk
        simp only [Value.slice.injEq] at he1
        obtain ⟨rfl, _, rfl⟩ := he1
        obtain ⟨x, hx⟩ : ∃ x, zs.getD k 0 = x := ⟨_, rfl⟩
        have hxr := HS.out x (by rw [← hx]; exact FreqM.getD_mem zs k hlk)
        obtain ⟨y, rfl⟩ : ∃ y : Nat, x = (y : Int) := ⟨x.toNat, by omega⟩
        have HCT := Lib.hid (counts_take zs N k hlk y hx (by omega))
        obtain ⟨d0, d1, d2⟩ := HR.out.cell (i := y) (by rw [counts_len]; omega)
        have hnn := counts_nn (zs.take k) N ((counts (zs.take k) N).getD y 0) (FreqM.getD_mem _ _ (by rw [counts_len]; omega))
        obtain ⟨hn1, hn2⟩ := hnn
        rw [List.length_take] at hn2
        generalize (counts (zs.take k) N).getD y 0 = c at *
        have hd2 := d2 (c + 1)
        rw [← HCT.out] at hd2
        have HD2 := Lib.hid hd2
        have HB2 := Lib.hid (HB.out.setCell (p := ⟨g, y, none⟩) (Nat.le_refl _) (.int .i64 (c + 1)))
        rw [hx] at c1
        clear hx d2 hd2 HCT
        have hy0 : (0 : Int) ≤ (y : Int) := by omega
        have hyN : (y : Int) < (N : Int) := hxr.2
        have hcw : IntKind.i64.wrap (c + 1) = c + 1 := IntWalk.i64_in _ (by omega)
        clear hxr
        go_wp2_with fail
        go_roundw
        case rel => exact ⟨k + 1, by omega, by go_num, HD2.out, HB2.out⟩
        case measure => simp [intOf]; omega
      · obtain rfl : k = zs.length := by omega
        rw [List.take_of_length_le (Nat.le_refl _)] at HR
        go_wp2_with fail
        go_ret2
        exact ⟨_, counts zs N, 0, rfl, HR.out.ints N N (counts_len zs N).symm, hg ▸ HB.out, Or.inr ⟨HOK.out, by simp, rfl⟩⟩
  · have HA := Lib.hid (areSymbols_any _ zs n false w HV.out (by omega) ⟨fun e => (by cases e), fun e => absurd e hs⟩)
    have HNO : Hid (¬ CntOk zs n) := Lib.hid (fun h => hs h.2.2)
    clear hs
    go_enter Tryz.func211, Tryz.ntmps211
    go_wp2_with fail
    refine HA.out.mono ?_
    rintro e w' ⟨rfl, rfl⟩
    go_wp2_with fail
    go_ret2
    exact ⟨_, [], 1, rfl, IsInts.nil _, Below.refl _ _, Or.inl ⟨HNO.out, rfl, rfl⟩⟩
end Go.Proofs.YtojphcoghbiepaaGreatDoor
namespace Go.Proofs.YtojphcoghbiepaaGreatDoor
open Go.RowKit CanM HufM BitM
set_option linter.unusedVariables false
theorem begins_code {zs : List Int} (hwh : WholeP zs) {i : Nat} (hi : i < zs.length) (r : List Bool) : CanM.Begins zs (ln zs i, i) (code zs i ++ r) := by
  refine ⟨by rw [List.length_append, code_length]; exact Nat.le_add_right _ _, ?_⟩
  show num ((code zs i ++ r).take (ln zs i)) = cod zs (ln zs i, i)
  rw [List.take_left' (code_length zs i)]
  unfold code
  rw [field_num]
  exact Nat.mod_eq_of_lt (cod_lt (x := (ln zs i, i)) (ent_of hi) hwh.2 (ln_bd (fun z hz => hwh.1 z hz) hi).2)
end Go.Proofs.YtojphcoghbiepaaGreatDoor
namespace Go.Proofs.YtojphcoghbiepaaGreatDoor
namespace SymM
open Go.RowKit
set_option linter.unusedVariables false

abbrev Row := Nat → Int
/-- Two places change. -/
def sw (d : Row) (i j : Nat) : Row := fun k => if k = i then d j else if k = j then d i else d k
/-- n places from a on change with n from b on. -/
def swr (d : Row) (a b n : Nat) : Row := fun k => if a ≤ k ∧ k < a + n then d (k - a + b) else if b ≤ k ∧ k < b + n then d (k - b + a) else d k
/-- What lies from m up to b comes ahead of what lies from a up to m. -/
def rot (d : Row) (a m b : Nat) : Row := fun k => if a ≤ k ∧ k < a + (b - m) then d (k + (m - a)) else if a + (b - m) ≤ k ∧ k < b then d (k - (b - m)) else d k
theorem swr_zero (d : Row) (a b : Nat) : swr d a b 0 = d := by
  funext k
  simp only [swr]
  rw [if_neg (by omega), if_neg (by omega)]
theorem swr_succ (d : Row) {a b n : Nat} (h : a + n < b) : sw (swr d a b n) (a + n) (b + n) = swr d a b (n + 1) := by
  funext k
  simp only [swr, sw]
  repeat' split
  all_goals first
    | (exfalso; omega)
    | rfl
    | (congr 1; omega)
theorem rot_left (d : Row) {m i j : Nat} (h : j < i) (hi : i ≤ m) : rot (swr d (m - i) m j) (m - (i - j)) m (m + j) = rot d (m - i) m (m + j) := by
  funext k
  simp only [rot, swr]
  repeat' split
  all_goals first
    | (exfalso; omega)
    | rfl
    | (congr 1; omega)
theorem rot_right (d : Row) {m i j : Nat} (h : i < j) (hi : i ≤ m) : rot (swr d (m - i) (m + j - i) i) (m - i) m (m + (j - i)) = rot d (m - i) m (m + j) := by
  funext k
  simp only [rot, swr]
  repeat' split
  all_goals first
    | (exfalso; omega)
    | rfl
    | (congr 1; omega)
theorem rot_even (d : Row) {m i : Nat} (hi : i ≤ m) : swr d (m - i) m i = rot d (m - i) m (m + i) := by
  funext k
  simp only [rot, swr]
  repeat' split
  all_goals first
    | (exfalso; omega)
    | rfl
    | (congr 1; omega)
theorem rot_none (d : Row) (a m : Nat) : rot d a m m = d := by
  funext k
  simp only [rot]
  rw [if_neg (by omega)]
  split
  · congr 1; omega
  · rfl
theorem rot_none' (d : Row) (m b : Nat) : rot d m m b = d := by
  funext k
  simp only [rot]
  split
  · congr 1; omega
  · rw [if_neg (by omega)]
/-- One place goes up, step by step. -/
theorem rot_up (d : Row) {a k : Nat} (h : a ≤ k) : sw (rot d a (a + 1) (k + 1)) k (k + 1) = rot d a (a + 1) (k + 2) := by
  funext x
  simp only [rot, sw]
  repeat' split
  all_goals first
    | (exfalso; omega)
    | rfl
    | (congr 1; omega)
/-- One place goes down, step by step. -/
theorem rot_down (d : Row) {k m : Nat} (h : k < m) : sw (rot d (k + 1) m (m + 1)) (k + 1) k = rot d k m (m + 1) := by
  funext x
  simp only [rot, sw]
  repeat' split
  all_goals first
    | (exfalso; omega)
    | rfl
    | (congr 1; omega)

/-! ### Parts of a row -/
def seg (d : Row) (a n : Nat) : List Int := (List.range n).map fun i => d (a + i)
theorem seg_append (d : Row) (a m n : Nat) : seg d a (m + n) = seg d a m ++ seg d (a + m) n := by
  unfold seg
  rw [List.range_add, List.map_append, List.map_map]
  congr 1
  apply List.map_congr_left
  intro i _
  show d (a + (m + i)) = d (a + m + i)
  rw [Nat.add_assoc]
theorem seg_congr {d e : Row} {a b n : Nat} (h : ∀ i, i < n → d (a + i) = e (b + i)) : seg d a n = seg e b n := by
  unfold seg
  apply List.map_congr_left
  intro i hi
  exact h i (List.mem_range.1 hi)
theorem seg_mem {d : Row} {a n : Nat} {x : Int} : x ∈ seg d a n ↔ ∃ k, a ≤ k ∧ k < a + n ∧ d k = x := by
  unfold seg
  rw [List.mem_map]
  constructor
  · rintro ⟨i, hi, rfl⟩
    have := List.mem_range.1 hi
    exact ⟨a + i, by omega, by omega, rfl⟩
  · rintro ⟨k, h1, h2, rfl⟩
    exact ⟨k - a, List.mem_range.2 (by omega), by rw [show a + (k - a) = k by omega]⟩
/-- From a up to b the row holds the same, in some order; elsewhere it is the same. -/
structure Pm (d e : Row) (a b : Nat) : Prop where
  perm : (seg e a (b - a)).Perm (seg d a (b - a))
  out : ∀ k, ¬ (a ≤ k ∧ k < b) → e k = d k
theorem Pm.refl (d : Row) (a b : Nat) : Pm d d a b := ⟨List.Perm.refl _, fun _ _ => rfl⟩
theorem Pm.trans {d e f : Row} {a b : Nat} (h : Pm d e a b) (k : Pm e f a b) : Pm d f a b :=
  ⟨k.perm.trans h.perm, fun x hx => (k.out x hx).trans (h.out x hx)⟩
theorem Pm.wide {d e : Row} {a b a0 b0 : Nat} (h : Pm d e a b) (h1 : a0 ≤ a) (h2 : a ≤ b) (h3 : b ≤ b0) : Pm d e a0 b0 := by
  refine ⟨?_, fun x hx => h.out x (by omega)⟩
  have e0 : b0 - a0 = (a - a0) + ((b - a) + (b0 - b)) := by omega
  rw [e0, seg_append, seg_append, seg_append d, seg_append d, show a0 + (a - a0) = a by omega, show a + (b - a) = b by omega]
  refine List.Perm.append ?_ (h.perm.append ?_)
  · rw [seg_congr (fun i hi => h.out (a0 + i) (by omega))]
  · rw [seg_congr (fun i hi => h.out (b + i) (by omega))]
theorem Pm.mem {d e : Row} {a b : Nat} (h : Pm d e a b) {k : Nat} (h1 : a ≤ k) (h2 : k < b) : ∃ k', a ≤ k' ∧ k' < b ∧ e k = d k' := by
  have h3 : e k ∈ seg d a (b - a) := h.perm.mem_iff.1 (seg_mem.2 ⟨k, h1, by omega, rfl⟩)
  obtain ⟨k', h4, h5, h6⟩ := seg_mem.1 h3
  exact ⟨k', h4, by omega, h6.symm⟩
theorem rot_pm (d : Row) {a m b : Nat} (h1 : a ≤ m) (h2 : m ≤ b) : Pm d (rot d a m b) a b := by
  refine ⟨?_, fun k hk => ?_⟩
  · have e1 : b - a = (b - m) + (m - a) := by omega
    have e2 : b - a = (m - a) + (b - m) := by omega
    conv => lhs; rw [e1, seg_append]
    conv => rhs; rw [e2, seg_append]
    rw [show a + (m - a) = m by omega]
    have e3 : seg (rot d a m b) a (b - m) = seg d m (b - m) := seg_congr (fun i hi => by
      simp only [rot]
      rw [if_pos (by omega)]
      congr 1; omega)
    have e4 : seg (rot d a m b) (a + (b - m)) (m - a) = seg d a (m - a) := seg_congr (fun i hi => by
      simp only [rot]
      rw [if_neg (by omega), if_pos (by omega)]
      congr 1; omega)
    rw [e3, e4]
    exact List.perm_append_comm
  · simp only [rot]
    rw [if_neg (by omega), if_neg (by omega)]

/-! ### Order -/
/-- By weight, and those alike by what they are. -/
def L (w : Int → Int) (x y : Int) : Prop := w x < w y ∨ (w x = w y ∧ x < y)
theorem L.trans {w : Int → Int} {x y z : Int} (h : L w x y) (k : L w y z) : L w x z := by unfold L at *; omega
def Srt (w : Int → Int) (d : Row) (a b : Nat) : Prop := ∀ i j, a ≤ i → i < j → j < b → L w (d i) (d j)
def Low (d : Row) (a m b : Nat) : Prop := ∀ i j, a ≤ i → i < m → m ≤ j → j < b → d i < d j
def Cross (w : Int → Int) (d : Row) (a m b : Nat) : Prop := ∀ i j, a ≤ i → i < m → m ≤ j → j < b → L w (d i) (d j)
theorem Srt.sub {w : Int → Int} {d : Row} {a b a' b' : Nat} (h : Srt w d a b) (h1 : a ≤ a') (h2 : b' ≤ b) : Srt w d a' b' :=
  fun i j hi hij hj => h i j (by omega) hij (by omega)
theorem Srt.join {w : Int → Int} {d : Row} {a m b : Nat} (h1 : Srt w d a m) (h2 : Srt w d m b) (h3 : Cross w d a m b) : Srt w d a b := by
  intro i j hi hij hj
  by_cases h : j < m
  · exact h1 i j hi hij h
  · by_cases k : i < m
    · exact h3 i j hi k (by omega) hj
    · exact h2 i j (by omega) hij hj
theorem Srt.one (w : Int → Int) (d : Row) {a b : Nat} (h : b ≤ a + 1) : Srt w d a b := fun i j hi hij hj => by omega
theorem Srt.congr {w : Int → Int} {d e : Row} {a b x y : Nat} (h : Srt w d x (x + (b - a))) (he : ∀ k, k < b - a → e (a + k) = d (x + k)) : Srt w e a b := by
  intro i j hi hij hj
  have h1 := he (i - a) (by omega)
  have h2 := he (j - a) (by omega)
  rw [show a + (i - a) = i by omega] at h1
  rw [show a + (j - a) = j by omega] at h2
  rw [h1, h2]
  exact h _ _ (by omega) (by omega) (by omega)
theorem Cross.pm {w : Int → Int} {d e : Row} {a m b : Nat} (h : Cross w d a m b) (h1 : ∀ k, a ≤ k → k < m → ∃ k', a ≤ k' ∧ k' < m ∧ e k = d k') (h2 : ∀ k, m ≤ k → k < b → ∃ k', m ≤ k' ∧ k' < b ∧ e k = d k') : Cross w e a m b := by
  intro i j hi him hj hjb
  obtain ⟨i', h3, h4, h5⟩ := h1 i hi him
  obtain ⟨j', h6, h7, h8⟩ := h2 j hj hjb
  rw [h5, h8]
  exact h i' j' h3 h4 h6 h7
/-- Two parts are cut, and the inner pieces change places. -/
structure Cut (w : Int → Int) (d : Row) (a s m e b : Nat) : Prop where
  o1 : a ≤ s
  o2 : s ≤ m
  o3 : m ≤ e
  o4 : e ≤ b
  sl : Srt w d a m
  sr : Srt w d m b
  low : Low d a m b
  c1 : ∀ i j, a ≤ i → i < s → e ≤ j → j < b → L w (d i) (d j)
  c2 : ∀ i j, s ≤ i → i < m → m ≤ j → j < e → L w (d j) (d i)
theorem rot_p1 (d : Row) {s m e k : Nat} (h : k < s) : rot d s m e k = d k := by
  simp only [rot]; rw [if_neg (by omega), if_neg (by omega)]
theorem rot_p2 (d : Row) {s m e k : Nat} (h : s ≤ k) (h2 : k < s + (e - m)) : rot d s m e k = d (k + (m - s)) := by
  simp only [rot]; rw [if_pos (by omega)]
theorem rot_p3 (d : Row) {s m e k : Nat} (h : s + (e - m) ≤ k) (h2 : k < e) : rot d s m e k = d (k - (e - m)) := by
  simp only [rot]; rw [if_neg (by omega), if_pos (by omega)]
theorem rot_p4 (d : Row) {s m e k : Nat} (h : e ≤ k) (h2 : s ≤ m) (h3 : m ≤ e) : rot d s m e k = d k := by
  simp only [rot]; rw [if_neg (by omega), if_neg (by omega)]
theorem Cut.srt {w : Int → Int} {d : Row} {a s m e b : Nat} (h : Cut w d a s m e b) :
    Srt w (rot d s m e) a s ∧ Srt w (rot d s m e) s (s + (e - m)) ∧ Srt w (rot d s m e) (s + (e - m)) e ∧ Srt w (rot d s m e) e b := by
  obtain ⟨o1, o2, o3, o4, sl, sr, low, c1, c2⟩ := h
  refine ⟨fun i j hi hij hj => ?_, fun i j hi hij hj => ?_, fun i j hi hij hj => ?_, fun i j hi hij hj => ?_⟩
  · rw [rot_p1 d (by omega), rot_p1 d (by omega)]; exact sl i j (by omega) hij (by omega)
  · rw [rot_p2 d (by omega) (by omega), rot_p2 d (by omega) (by omega)]; exact sr _ _ (by omega) (by omega) (by omega)
  · rw [rot_p3 d (by omega) (by omega), rot_p3 d (by omega) (by omega)]; exact sl _ _ (by omega) (by omega) (by omega)
  · rw [rot_p4 d (by omega) o2 o3, rot_p4 d (by omega) o2 o3]; exact sr i j (by omega) hij (by omega)
theorem Cut.cross {w : Int → Int} {d : Row} {a s m e b : Nat} (h : Cut w d a s m e b) : Cross w (rot d s m e) a (s + (e - m)) b := by
  obtain ⟨o1, o2, o3, o4, sl, sr, low, c1, c2⟩ := h
  intro i j hi him hj hjb
  by_cases h1 : i < s
  · rw [rot_p1 d h1]
    by_cases h2 : j < e
    · rw [rot_p3 d hj h2]; exact sl _ _ hi (by omega) (by omega)
    · rw [rot_p4 d (by omega) o2 o3]; exact c1 i j hi h1 (by omega) hjb
  · rw [rot_p2 d (by omega) him]
    by_cases h2 : j < e
    · rw [rot_p3 d hj h2]; exact c2 _ _ (by omega) (by omega) (by omega) (by omega)
    · rw [rot_p4 d (by omega) o2 o3]; exact sr _ _ (by omega) (by omega) hjb
theorem Cut.low1 {w : Int → Int} {d : Row} {a s m e b : Nat} (h : Cut w d a s m e b) : Low (rot d s m e) a s (s + (e - m)) := by
  obtain ⟨o1, o2, o3, o4, sl, sr, low, c1, c2⟩ := h
  intro i j hi him hj hjb
  rw [rot_p1 d him, rot_p2 d hj hjb]
  exact low _ _ hi (by omega) (by omega) (by omega)
theorem Cut.low2 {w : Int → Int} {d : Row} {a s m e b : Nat} (h : Cut w d a s m e b) : Low (rot d s m e) (s + (e - m)) e b := by
  obtain ⟨o1, o2, o3, o4, sl, sr, low, c1, c2⟩ := h
  intro i j hi him hj hjb
  rw [rot_p3 d hi him, rot_p4 d hj o2 o3]
  exact low _ _ (by omega) (by omega) (by omega) hjb
theorem low_L {w : Int → Int} {x y : Int} (h : x < y) (k : ¬ w y < w x) : L w x y := by unfold L; omega
theorem L.imp_le {w : Int → Int} {x y : Int} (h : L w x y) : w x ≤ w y := by unfold L at h; omega
theorem Srt.le {w : Int → Int} {d : Row} {a b i j : Nat} (h : Srt w d a b) (h1 : a ≤ i) (h2 : i ≤ j) (h3 : j < b) : w (d i) ≤ w (d j) := by
  by_cases e : i = j
  · subst e; exact Int.le_refl _
  · exact (h i j h1 (by omega) h3).imp_le
/-- The first part is one place. -/
theorem cut_first {w : Int → Int} {d : Row} {a b i : Nat} (hs : Srt w d (a + 1) b) (hl : Low d a (a + 1) b) (h1 : a + 1 ≤ i) (h2 : i ≤ b) (e1 : i = a + 1 ∨ w (d (i - 1)) < w (d a)) (e2 : i = b ∨ ¬ w (d i) < w (d a)) :
    Srt w (rot d a (a + 1) i) a b := by
  have hc : Cut w d a a (a + 1) i b := ⟨Nat.le_refl _, by omega, h1, h2, Srt.one w d (by omega), hs, hl, fun x y _ _ _ _ => by omega, fun x y hx hxa hy hyi => by
    obtain rfl : x = a := by omega
    rcases e1 with e | e
    · omega
    · have := hs.le hy (show y ≤ i - 1 by omega) (by omega)
      unfold L; omega⟩
  obtain ⟨s1, s2, s3, s4⟩ := hc.srt
  refine s2.join (s3.join s4 (fun x y hx hxi hy hyb => ?_)) hc.cross
  rw [rot_p3 d hx hxi, rot_p4 d hy (by omega) h1]
  rcases e2 with e | e
  · omega
  · have h3 := hs.le h1 hy hyb
    have h4 := hl (x - (i - (a + 1))) y (by omega) (by omega) (by omega) hyb
    have h5 : x - (i - (a + 1)) = a := by omega
    rw [h5] at h4 ⊢
    exact low_L h4 (by omega)
/-- The last part is one place. -/
theorem cut_last {w : Int → Int} {d : Row} {a m i : Nat} (hs : Srt w d a m) (hl : Low d a m (m + 1)) (h1 : a ≤ i) (h2 : i ≤ m) (e1 : i = a ∨ ¬ w (d m) < w (d (i - 1))) (e2 : i = m ∨ w (d m) < w (d i)) :
    Srt w (rot d i m (m + 1)) a (m + 1) := by
  have hc : Cut w d a i m (m + 1) (m + 1) := ⟨h1, h2, by omega, Nat.le_refl _, hs, Srt.one w d (by omega), hl, fun x y _ _ _ _ => by omega, fun x y hx hxa hy hyi => by
    obtain rfl : y = m := by omega
    rcases e2 with e | e
    · omega
    · have := hs.le h1 hx hxa
      have h9 := hs.le h1 (show i ≤ x from hx) hxa
      unfold L; omega⟩
  obtain ⟨s1, s2, s3, s4⟩ := hc.srt
  refine (s1.join s2 (fun x y hx hxi hy hyb => ?_)).join (s3.join s4 (fun x y hx hxi hy hyb => by omega)) hc.cross
  rw [rot_p1 d hxi, rot_p2 d hy hyb]
  have h5 : y + (m - i) = m := by omega
  rw [h5]
  rcases e1 with e | e
  · omega
  · have h3 := hs.le hx (show x ≤ i - 1 by omega) (by omega)
    exact low_L (hl x m hx (by omega) (by omega) (by omega)) (by omega)
/-- Where two parts are cut. -/
theorem cut_mid {w : Int → Int} {d : Row} {a m b mid s lo r0 : Nat} (hsl : Srt w d a m) (hsr : Srt w d m b) (hl : Low d a m b) (ham : a < m) (hmb : m < b)
    (hmid : mid = (a + b) / 2) (hlo : lo = if mid < m then mid + m - b else a) (hr0 : r0 = if mid < m then mid else m)
    (h1 : lo ≤ s) (h2 : s ≤ r0) (e1 : s = lo ∨ ¬ w (d (mid + m - 1 - (s - 1))) < w (d (s - 1))) (e2 : s = r0 ∨ w (d (mid + m - 1 - s)) < w (d s)) :
    Cut w d a s m (mid + m - s) b := by
  have hs0 : a ≤ s := by split at hlo <;> omega
  have hsm : s ≤ m := by split at hr0 <;> omega
  have hsd : s ≤ mid := by split at hr0 <;> omega
  have hb : mid + m - s ≤ b := by split at hlo <;> omega
  refine ⟨hs0, hsm, by omega, hb, hsl, hsr, hl, fun i j hi his hj hjb => ?_, fun i j hi him hj hje => ?_⟩
  · rcases e1 with e | e
    · split at hlo <;> omega
    · rw [show mid + m - 1 - (s - 1) = mid + m - s by omega] at e
      have h3 := hsl.le hi (show i ≤ s - 1 by omega) (by omega)
      have h4 := hsr.le (show m ≤ mid + m - s by omega) hj hjb
      exact low_L (hl i j hi (by omega) (by omega) hjb) (by omega)
  · rcases e2 with e | e
    · split at hr0 <;> omega
    · have h3 := hsl.le hs0 hi him
      have h4 := hsr.le hj (show j ≤ mid + m - 1 - s by omega) (by omega)
      unfold L; omega
/-- Two parts become one. -/
theorem cut_merge {w : Int → Int} {d d2 d3 : Row} {a s m e b : Nat} (h : Cut w d a s m e b) (p2 : Pm (rot d s m e) d2 a (s + (e - m))) (p3 : Pm d2 d3 (s + (e - m)) b)
    (s2 : Srt w d2 a (s + (e - m))) (s3 : Srt w d3 (s + (e - m)) b) : Pm d d3 a b ∧ Srt w d3 a b := by
  have hc := h.cross
  obtain ⟨o1, o2, o3, o4, sl, sr, low, c1, c2⟩ := h
  refine ⟨(((rot_pm d o2 o3).wide o1 (by omega) o4).trans (p2.wide (Nat.le_refl _) (by omega) (by omega))).trans (p3.wide (by omega) (by omega) (Nat.le_refl _)), ?_⟩
  have s2' : Srt w d3 a (s + (e - m)) := by
    intro i j hi hij hj
    rw [p3.out i (by omega), p3.out j (by omega)]
    exact s2 i j hi hij hj
  refine s2'.join s3 (hc.pm (fun k h1 h2 => ?_) (fun k h1 h2 => ?_))
  · rw [p3.out k (by omega)]
    exact p2.mem h1 h2
  · obtain ⟨k', h4, h5, h6⟩ := p3.mem h1 h2
    exact ⟨k', h4, h5, h6.trans (p2.out k' (by omega))⟩

/-! ### Blocks -/
/-- From a up to b there are the numbers from a up to b, in order. -/
structure Blk (w : Int → Int) (d : Row) (a b : Nat) : Prop where
  perm : (seg d a (b - a)).Perm (seg (fun k => (k : Int)) a (b - a))
  srt : Srt w d a b
theorem Blk.mem {w : Int → Int} {d : Row} {a b : Nat} (h : Blk w d a b) {k : Nat} (h1 : a ≤ k) (h2 : k < b) : (a : Int) ≤ d k ∧ d k < (b : Int) := by
  have h3 : d k ∈ seg (fun k => (k : Int)) a (b - a) := h.perm.mem_iff.1 (seg_mem.2 ⟨k, h1, by omega, rfl⟩)
  obtain ⟨k', h4, h5, h6⟩ := seg_mem.1 h3
  omega
theorem Blk.low {w : Int → Int} {d : Row} {a m b : Nat} (h : Blk w d a m) (k : Blk w d m b) : Low d a m b := fun i j h1 h2 h3 h4 => by
  have := h.mem h1 h2
  have := k.mem h3 h4
  omega
theorem Blk.merge {w : Int → Int} {d e : Row} {a m b : Nat} (h : Blk w d a m) (k : Blk w d m b) (h1 : a ≤ m) (h2 : m ≤ b) (hp : Pm d e a b) (hs : Srt w e a b) : Blk w e a b := by
  refine ⟨hp.perm.trans ?_, hs⟩
  rw [show b - a = (m - a) + (b - m) by omega, seg_append, seg_append, show a + (m - a) = m by omega]
  exact h.perm.append k.perm
theorem Blk.stay {w : Int → Int} {d e : Row} {a b : Nat} (h : Blk w d a b) (he : ∀ k, a ≤ k → k < b → e k = d k) : Blk w e a b := by
  refine ⟨?_, fun i j hi hij hj => ?_⟩
  · rw [seg_congr (fun i hi => he (a + i) (by omega) (by omega))]
    exact h.perm
  · rw [he i hi (by omega), he j (by omega) hj]
    exact h.srt i j hi hij hj
theorem Blk.nil (w : Int → Int) (d : Row) {a b : Nat} (h : b ≤ a) : Blk w d a b := by
  refine ⟨?_, Srt.one w d (by omega)⟩
  rw [show b - a = 0 by omega]
  exact List.Perm.refl _
/-- All blocks of B places. -/
def Blks (w : Int → Int) (n B : Nat) (d : Row) : Prop := ∀ q, Blk w d (B * q) (min (B * q + B) n)
/-- Blocks of 2 B places ahead of a, of B places from a on. -/
def Half (w : Int → Int) (n B t : Nat) (d : Row) : Prop := (∀ q, q < t → Blk w d (2 * B * q) (min (2 * B * q + 2 * B) n)) ∧ ∀ q, 2 * t ≤ q → Blk w d (B * q) (min (B * q + B) n)
theorem Half.start {w : Int → Int} {n B : Nat} {d : Row} (h : Blks w n B d) : Half w n B 0 d := ⟨fun q hq => by omega, fun q _ => h q⟩
theorem mul_lt_le {B q t : Nat} (h : q < t) : B * q + B ≤ B * t := by
  have := Nat.mul_le_mul_left B (show q + 1 ≤ t by omega)
  rw [Nat.mul_add, Nat.mul_one] at this
  exact this
theorem Half.next {w : Int → Int} {n B t a b : Nat} {d e : Row} (h : Half w n B t d) (ha : a = 2 * B * t) (hb : b = min (a + 2 * B) n) (hab : a + B ≤ b)
    (hp : Pm d e a b) (hs : Srt w e a b) : Half w n B (t + 1) e := by
  obtain ⟨h1, h2⟩ := h
  have hB : B * (2 * t) = 2 * B * t := by rw [Nat.mul_comm 2 B, Nat.mul_assoc]
  have hB1 : B * (2 * t + 1) = 2 * B * t + B := by rw [Nat.mul_add, Nat.mul_one, hB]
  refine ⟨fun q hq => ?_, fun q hq => ?_⟩
  · by_cases e : q = t
    · subst e
      have k1 := h2 (2 * q) (by omega)
      have k2 := h2 (2 * q + 1) (by omega)
      rw [hB] at k1
      rw [hB1] at k2
      rw [← ha] at k1 k2 ⊢
      rw [← hb]
      have e1 : min (a + B) n = a + B := by omega
      have e2 : min (a + B + B) n = b := by omega
      rw [e1] at k1
      rw [e2] at k2
      exact k1.merge k2 (by omega) hab hp hs
    · have h3 := mul_lt_le (B := 2 * B) (show q < t by omega)
      exact (h1 q (by omega)).stay (fun k hk1 hk2 => hp.out k (by omega))
  · have h3 := mul_lt_le (B := B) (show 2 * t + 1 < q by omega)
    exact (h2 q (by omega)).stay (fun k hk1 hk2 => hp.out k (by omega))
/-- The last one lacks a second part. -/
theorem Half.end_ {w : Int → Int} {n B t a : Nat} {d : Row} (h : Half w n B t d) (ha : a = 2 * B * t) (hn : n ≤ a + B) : Blks w n (2 * B) d := by
  obtain ⟨h1, h2⟩ := h
  intro q
  by_cases hq : q < t
  · exact h1 q hq
  · by_cases e : q = t
    · subst e
      have k1 := h2 (2 * q) (by omega)
      have hB : B * (2 * q) = 2 * B * q := by rw [Nat.mul_comm 2 B, Nat.mul_assoc]
      rw [hB] at k1
      have e1 : min (2 * B * q + B) n = min (2 * B * q + 2 * B) n := by omega
      rw [e1] at k1
      exact k1
    · have h3 := mul_lt_le (B := 2 * B) (show t < q by omega)
      exact Blk.nil w d (by omega)
theorem Half.full {w : Int → Int} {n B t a : Nat} {d : Row} (h : Half w n B t d) (ha : a = 2 * B * t) (hn : n ≤ a) : Blks w n (2 * B) d := h.end_ ha (by omega)
/-- All is one block. -/
theorem Blks.all {w : Int → Int} {n B : Nat} {d : Row} (h : Blks w n B d) (hn : n ≤ B) : Blk w d 0 n := by
  have := h 0
  rw [Nat.mul_zero, show min (0 + B) n = n by omega] at this
  exact this
/-- Blocks that were put in order, up to t of them; from there on nothing has changed. -/
def Ins (w : Int → Int) (n B t : Nat) (d : Row) : Prop := (∀ q, q < t → Blk w d (B * q) (min (B * q + B) n)) ∧ ∀ k, B * t ≤ k → d k = (k : Int)
theorem Ins.next {w : Int → Int} {n B t a b : Nat} {d e : Row} (h : Ins w n B t d) (ha : a = B * t) (hb : b = min (a + B) n) (hp : Pm d e a b) (hs : Srt w e a b) : Ins w n B (t + 1) e := by
  obtain ⟨h1, h2⟩ := h
  refine ⟨fun q hq => ?_, fun k hk => ?_⟩
  · by_cases e : q = t
    · subst e
      rw [← ha, ← hb]
      refine ⟨hp.perm.trans ?_, hs⟩
      rw [seg_congr (e := fun k => (k : Int)) (b := a) (fun i hi => h2 (a + i) (by omega))]
    · have h3 := mul_lt_le (B := B) (show q < t by omega)
      exact (h1 q (by omega)).stay (fun k hk1 hk2 => hp.out k (by omega))
  · have h3 : B * (t + 1) = B * t + B := by rw [Nat.mul_add, Nat.mul_one]
    rw [hp.out k (by omega)]
    exact h2 k (by omega)
theorem Ins.end_ {w : Int → Int} {n B t : Nat} {d : Row} (h : Ins w n B t d) (hn : n ≤ B * t) : Blks w n B d := by
  intro q
  by_cases hq : q < t
  · exact h.1 q hq
  · have h3 : B * t ≤ B * q := Nat.mul_le_mul_left B (by omega)
    exact Blk.nil w d (by omega)
end SymM
end Go.Proofs.YtojphcoghbiepaaGreatDoor
namespace Go.Proofs.YtojphcoghbiepaaGreatDoor
open Go.RowKit SymM
set_option linter.unusedVariables false
/-- Block g is the row d of n numbers. -/
def RowD (w : World) (g n : Nat) (d : Row) : Prop := RowI w g ((List.range n).map d)
theorem getD_row (d : Row) {n i : Nat} (h : i < n) : ((List.range n).map d).getD i 0 = d i := by
  rw [List.getD_eq_getElem?_getD, List.getElem?_map, List.getElem?_range h]
  rfl
theorem RowD.cell {w : World} {g n : Nat} {d : Row} (h : RowD w g n d) {i : Nat} (hi : i < n) : w.cell? ⟨g, i, none⟩ = some (.int .i64 (d i)) ∧ w.frozen? ⟨g, i, none⟩ = false := by
  obtain ⟨h1, h2, _⟩ := RowI.cell h (i := i) (by simpa using hi)
  rw [getD_row d hi] at h1
  exact ⟨h1, h2⟩
theorem RowD.set {w : World} {g n : Nat} {d : Row} (h : RowD w g n d) {i : Nat} (hi : i < n) (x : Int) : RowD (w.setCell ⟨g, i, none⟩ (.int .i64 x)) g n (fun k => if k = i then x else d k) := by
  have h3 := (RowI.cell h (i := i) (by simpa using hi)).2.2 x
  unfold RowD
  have e : ((List.range n).map d).set i x = (List.range n).map (fun k => if k = i then x else d k) := by
    apply List.ext_getElem
    · simp
    · intro j h1 h2
      rw [List.getElem_set]
      by_cases e : i = j
      · subst e; simp
      · rw [if_neg e]
        have : ¬ j = i := fun h => e h.symm
        simp [this]
  rw [← e]
  exact h3
theorem RowD.swap {w : World} {g n : Nat} {d : Row} (h : RowD w g n d) {i j : Nat} (hi : i < n) (hj : j < n) (x y : Int) (hx : x = d j) (hy : y = d i) : RowD ((w.setCell ⟨g, i, none⟩ (.int .i64 x)).setCell ⟨g, j, none⟩ (.int .i64 y)) g n (sw d i j) := by
  subst hx hy
  have h2 := (h.set hi (d j)).set hj (d i)
  have e : (fun k => if k = j then d i else (fun k => if k = i then d j else d k) k) = sw d i j := by
    funext k
    simp only [sw]
    repeat' split
    all_goals first
      | rfl
      | (subst_vars; rfl)
  rw [e] at h2
  exact h2
theorem RowD.other {w w' : World} {g n : Nat} {d : Row} (h : RowD w g n d) {S : Nat → Prop} (ht : Touch S w w') (hS : ¬ S g) : RowD w' g n d := RowI.other h ht hS
theorem RowD.drewN {w : World} {g n : Nat} {d : Row} (h : RowD w g n d) (k : Nat) : RowD (w.drewN k) g n d := h
theorem touch_swap {g i j : Nat} {w W : World} (h : Touch (· = g) w W) (x y : Value) : Touch (· = g) w ((W.setCell ⟨g, i, none⟩ x).setCell ⟨g, j, none⟩ y) := touch_cell (touch_cell h)
theorem touch_drew {S : Nat → Prop} {w W : World} (h : Touch S w W) (k : Nat) : Touch S w (W.drewN k) := h.trans (touch_drewN S W k) (fun i hi => Or.inl hi)
set_option maxRecDepth 100000 in
set_option maxHeartbeats 2000000 in
theorem swr_any (g n a b N : Nat) (d : Row) (w : World) (fv : Value) (hR : RowD w g n d) (hab : a + N ≤ b) (hb : b + N ≤ n) (hn : n ≤ 1000000) :
    Calls Tryz.prog 294 #[.slice (some ⟨g, 0, none⟩) n n, .int .i64 (a : Int), .int .i64 (b : Int), .int .i64 (N : Int), fv] w fun e w' =>
      e = .returned (.tuple #[]) ∧ RowD w' g n (swr d a b N) ∧ Touch (· = g) w w' := by
  have HR0 := Lib.hid hR
  clear hR
  go_enter Tryz.func294, Tryz.ntmps294
  go_wp2_with fail
  go_loopw [10] (fun i wr => ∃ k : Nat, k ≤ N ∧ i = .int .i64 k ∧ RowD wr g n (swr d a b k) ∧ Touch (· = g) w wr) (fun i _ => N - (intOf i).toNat)
  case atStart => exact ⟨0, Nat.zero_le _, rfl, by rw [swr_zero]; exact HR0.out, Touch.refl _ w⟩
  case round =>
    obtain ⟨k, hk, rfl, hR, hT⟩ := hrel
    have HR := Lib.hid hR
    have HT := Lib.hid hT
    clear hR hT
    by_cases hlk : k < N
    · obtain ⟨i, hi⟩ : ∃ i, a + k = i := ⟨_, rfl⟩
      obtain ⟨j, hj⟩ : ∃ j, b + k = j := ⟨_, rfl⟩
      have hi2 : (a : Int) + (k : Int) = (i : Int) := by omega
      have hj2 : (b : Int) + (k : Int) = (j : Int) := by omega
      have hki : (k : Int) < (N : Int) := by omega
      have hin : i < n := by omega
      have hjn : j < n := by omega
      have hin2 : (i : Int) < (n : Int) := by omega
      have hjn2 : (j : Int) < (n : Int) := by omega
      obtain ⟨c1, f1⟩ := HR.out.cell hin
      obtain ⟨c2, f2⟩ := HR.out.cell hjn
      obtain ⟨x, hx⟩ : ∃ x, swr d a b k i = x := ⟨_, rfl⟩
      obtain ⟨y, hy⟩ : ∃ y, swr d a b k j = y := ⟨_, rfl⟩
      rw [hx] at c1
      rw [hy] at c2
      have HX := Lib.hid hx
      have HY := Lib.hid hy
      have HI := Lib.hid hi
      have HJ := Lib.hid hj
      clear hx hy hi hj
      go_wp2_with fail
      go_region
      go_wp2_with fail
      go_roundw
      case rel => exact ⟨k + 1, by omega, by go_num, by
        rw [← swr_succ d (by omega), HI.out, HJ.out]
        exact (HR.out.drewN _).swap hin hjn _ _ HY.out.symm HX.out.symm, touch_swap (touch_drew HT.out _) _ _⟩
      case measure => simp [intOf]; omega
    · have hki : ¬ (k : Int) < (N : Int) := by omega
      have hd : decide ((k : Int) < (N : Int)) = false := by simp only [decide_eq_false_iff_not]; exact hki
      obtain rfl : N = k := by omega
      go_wp2_with fail
      go_end0
      exact ⟨rfl, HR.out, HT.out⟩
/-- A row turns. -/
theorem rot_any (g n a m b : Nat) (d : Row) (w : World) (fv : Value) (hR : RowD w g n d) (ham : a < m) (hmb : m < b) (hb : b ≤ n) (hn : n ≤ 1000000) :
    Calls Tryz.prog 293 #[.slice (some ⟨g, 0, none⟩) n n, .int .i64 (a : Int), .int .i64 (m : Int), .int .i64 (b : Int), fv] w fun e w' =>
      e = .returned (.tuple #[]) ∧ RowD w' g n (rot d a m b) ∧ Touch (· = g) w w' := by
  have HR0 := Lib.hid hR
  clear hR
  obtain ⟨I0, hI0⟩ : ∃ I0, m - a = I0 := ⟨_, rfl⟩
  obtain ⟨J0, hJ0⟩ : ∃ J0, b - m = J0 := ⟨_, rfl⟩
  have i1 : (m : Int) - (a : Int) = (I0 : Int) := by omega
  have i2 : (b : Int) - (m : Int) = (J0 : Int) := by omega
  have HI0 := Lib.hid hI0
  have HJ0 := Lib.hid hJ0
  clear hI0 hJ0
  go_enter Tryz.func293, Tryz.ntmps293
  go_wp2_with fail
  go_loopw [10, 11] (fun i j wr => ∃ (I J : Nat) (D : Row), i = .int .i64 I ∧ j = .int .i64 J ∧ 0 < I ∧ 0 < J ∧ I ≤ m ∧ m + J ≤ n ∧ RowD wr g n D ∧ rot D (m - I) m (m + J) = rot d a m b ∧ Touch (· = g) w wr) (fun i j _ => (intOf i).toNat + (intOf j).toNat)
  case atStart => exact ⟨I0, J0, d, rfl, rfl, by omega, by omega, by omega, by omega, HR0.out, by
    have := HI0.out
    have := HJ0.out
    rw [show m - I0 = a by omega, show m + J0 = b by omega], Touch.refl _ w⟩
  case round =>
    obtain ⟨I, J, D, rfl, rfl, hI, hJ, hIm, hJn, hR, hE, hT⟩ := hrel
    have HR := Lib.hid hR
    have HT := Lib.hid hT
    have HE := Lib.hid hE
    clear hR hT hE
    obtain ⟨A, hA⟩ : ∃ A, m - I = A := ⟨_, rfl⟩
    have hA2 : (m : Int) - (I : Int) = (A : Int) := by omega
    have HA := Lib.hid hA
    have hA3 : A + I ≤ m := by omega
    have hA4 : m ≤ A + I := by omega
    clear hA
    by_cases hIJ : I = J
    · subst hIJ
      have hne : ((I : Int) != (I : Int)) = false := by simp
      go_wp2_with fail
      refine (swr_any g n A m I D wr fv HR.out hA3 hJn hn).mono ?_
      rintro e w' ⟨rfl, hR1, hT1⟩
      have HR1 := Lib.hid hR1
      have HT1 := Lib.hid hT1
      clear hR1 hT1
      go_wp2_with fail
      go_end0
      refine ⟨rfl, ?_, HT.out.trans HT1.out (fun i hi => Or.inl hi)⟩
      rw [← HE.out, ← rot_even D hIm, HA.out]
      exact HR1.out
    · have hne : ((I : Int) != (J : Int)) = true := by rw [bne_iff_ne]; omega
      by_cases hlt : J < I
      · have hlt2 : (J : Int) < (I : Int) := by omega
        go_wp2_with fail
        refine (swr_any g n A m J D wr fv HR.out (by omega) hJn hn).mono ?_
        rintro e w' ⟨rfl, hR1, hT1⟩
        have HR1 := Lib.hid hR1
        have HT1 := Lib.hid hT1
        clear hR1 hT1
        go_wp2_with fail
        go_roundw
        case rel => exact ⟨I - J, J, _, by go_num, rfl, by omega, hJ, by omega, hJn, HR1.out, by rw [← HE.out, ← rot_left D hlt hIm, HA.out], HT.out.trans HT1.out (fun i hi => Or.inl hi)⟩
        case measure => simp [intOf]; omega
      · have hlt2 : ¬ (J : Int) < (I : Int) := by omega
        have hIltJ : I < J := by omega
        obtain ⟨B, hB⟩ : ∃ B, m + J - I = B := ⟨_, rfl⟩
        have hB2 : (m : Int) + (J : Int) - (I : Int) = (B : Int) := by omega
        have HB := Lib.hid hB
        have hB3 : A + I ≤ B := by omega
        have hB4 : B + I ≤ n := by omega
        clear hB
        go_wp2_with fail
        refine (swr_any g n A B I D wr fv HR.out hB3 hB4 hn).mono ?_
        rintro e w' ⟨rfl, hR1, hT1⟩
        have HR1 := Lib.hid hR1
        have HT1 := Lib.hid hT1
        clear hR1 hT1
        go_wp2_with fail
        go_roundw
        case rel => exact ⟨I, J - I, _, rfl, by go_num, hI, by omega, hIm, by omega, HR1.out, by rw [← HE.out, ← rot_right D hIltJ hIm, HA.out, HB.out], HT.out.trans HT1.out (fun i hi => Or.inl hi)⟩
        case measure => simp [intOf]; omega
end Go.Proofs.YtojphcoghbiepaaGreatDoor
namespace Go.Proofs.YtojphcoghbiepaaGreatDoor
open Go.RowKit SymM
set_option linter.unusedVariables false
/-- All of the row are from 0 up to n. -/
def Rng (n : Nat) (d : Row) : Prop := ∀ k, k < n → 0 ≤ d k ∧ d k < (n : Int)
theorem Rng.pm {n a b : Nat} {d e : Row} (h : Rng n d) (p : Pm d e a b) (hb : b ≤ n) : Rng n e := fun k hk => by
  by_cases h1 : a ≤ k ∧ k < b
  · obtain ⟨k', h2, h3, h4⟩ := p.mem h1.1 h1.2
    rw [h4]
    exact h k' (by omega)
  · rw [p.out k h1]
    exact h k hk
def sgn (a b : Int) : Int := if a < b then -1 else if b < a then 1 else 0
/-- A function that compares two by their weights; I is what it reads. -/
structure CmpF (F : FuncId) (caps : Array Value) (g n : Nat) (wt : Int → Int) (I : World → Prop) : Prop where
  enter : ∀ args w, (callFunc F args).run Tryz.prog w = .ok (.enter F args) w
  keep : ∀ W W', I W → Touch (· = g) W W' → I W'
  cmp : ∀ W (x y : Int), I W → 0 ≤ x → x < n → 0 ≤ y → y < n → Calls Tryz.prog F (#[.int .i64 x, .int .i64 y] ++ caps) W fun e w' => e = .returned (.int .i64 (sgn (wt x) (wt y))) ∧ ∃ q, w' = W.drewN q
section
variable {F : FuncId} {caps : Array Value} {g n : Nat} {wt : Int → Int} {I : World → Prop}
theorem CmpF.at (h : CmpF F caps g n wt I) {W : World} (hI : I W) {d : Row} (hr : Rng n d) {i j : Nat} (hi : i < n) (hj : j < n) (x y : Int) (hx : d i = x) (hy : d j = y) :
    ∃ z, (z < 0 ↔ wt x < wt y) ∧ -1 ≤ z ∧ z ≤ 1 ∧ ∀ q, Calls Tryz.prog F (#[.int .i64 x, .int .i64 y] ++ caps) (W.drewN q) fun e w' => e = .returned (.int .i64 z) ∧ ∃ q', w' = (W.drewN q).drewN q' := by
  subst hx hy
  have h1 := hr i hi
  have h2 := hr j hj
  refine ⟨sgn (wt (d i)) (wt (d j)), ?_, ?_, ?_, fun q => h.cmp _ _ _ (h.keep _ _ hI (touch_drewN _ W q)) h1.1 h1.2 h2.1 h2.2⟩
  all_goals unfold sgn
  all_goals repeat' split
  all_goals omega
set_option maxRecDepth 100000 in
set_option maxHeartbeats 2000000 in
theorem ins_any (hC : CmpF F caps g n wt I) (a b : Nat) (d : Row) (w : World) (hR : RowD w g n d) (hI : I w) (hab : a ≤ b) (hb : b ≤ n) (hn : n ≤ 1000000) (hr : Rng n d) (hinc : ∀ i j, a ≤ i → i < j → j < b → d i < d j) :
    Calls Tryz.prog 291 #[.slice (some ⟨g, 0, none⟩) n n, .int .i64 (a : Int), .int .i64 (b : Int), .func (.func F) #[] caps] w fun e w' =>
      e = .returned (.tuple #[]) ∧ (∃ D, RowD w' g n D ∧ Pm d D a b ∧ Srt wt D a b) ∧ Touch (· = g) w w' := by
  have he := hC.enter
  have HR0 := Lib.hid hR
  have HI0 := Lib.hid hI
  have HC := Lib.hid hC
  have HRN := Lib.hid hr
  have HINC := Lib.hid hinc
  clear hR hI hC hr hinc
  go_enter Tryz.func291, Tryz.ntmps291
  go_wp2_with fail
  go_loopw [8] (fun vi wr => ∃ (i : Nat) (D : Row), vi = .int .i64 i ∧ a < i ∧ i ≤ b + 1 ∧ RowD wr g n D ∧ Pm d D a (min i b) ∧ Srt wt D a (min i b) ∧ Touch (· = g) w wr) (fun vi _ => b + 1 - (intOf vi).toNat)
  case atStart => exact ⟨a + 1, d, by go_num, by omega, by omega, HR0.out, Pm.refl _ _ _, Srt.one _ _ (by omega), Touch.refl _ w⟩
  case round =>
    obtain ⟨i, D, rfl, hai, hib, hR, hP, hS, hT⟩ := hrel
    have HR := Lib.hid hR
    have HP := Lib.hid hP
    have HS := Lib.hid hS
    have HT := Lib.hid hT
    clear hR hP hS hT
    by_cases hi : i < b
    · have hi2 : (i : Int) < (b : Int) := by omega
      have hlow : Hid (Low D a i (i + 1)) := Lib.hid (fun x y hx hxi hy hyi => by
        have hP := HP.out
        rw [Nat.min_eq_left (by omega)] at hP
        obtain rfl : y = i := by omega
        obtain ⟨k', h2, h3, h4⟩ := hP.mem hx (by omega)
        rw [h4, hP.out y (by omega)]
        exact HINC.out k' y h2 (by omega) hi)
      have hD : Hid (Rng n D) := Lib.hid (HRN.out.pm HP.out (by omega))
      have hSi : Hid (Srt wt D a i) := Lib.hid (by have := HS.out; rw [Nat.min_eq_left (by omega)] at this; exact this)
      go_wp2_with fail
      go_loopw [9] (fun vj wr2 => ∃ (j : Nat), vj = .int .i64 j ∧ a ≤ j ∧ j ≤ i ∧ RowD wr2 g n (rot D j i (i + 1)) ∧ (j = i ∨ wt (D i) < wt (D j)) ∧ Touch (· = g) w wr2) (fun vj _ => (intOf vj).toNat)
      case atStart => exact ⟨i, rfl, by omega, Nat.le_refl _, by rw [rot_none']; exact HR.out, Or.inl rfl, HT.out⟩
      case round =>
        obtain ⟨j, rfl, haj, hji, hR2, hE, hT2⟩ := hrel
        have HR2 := Lib.hid hR2
        have HE := Lib.hid hE
        have HT2 := Lib.hid hT2
        clear hR2 hE hT2
        have hend : (j = a ∨ ¬ wt (D i) < wt (D (j - 1))) → ∀ q, ∃ (i' : Nat) (D' : Row), Value.int .i64 ((i : Int) + 1) = .int .i64 i' ∧ a < i' ∧ i' ≤ b + 1 ∧ RowD (wr.drewN q) g n D' ∧ Pm d D' a (min i' b) ∧ Srt wt D' a (min i' b) ∧ Touch (· = g) w (wr.drewN q) := fun h q =>
          ⟨i + 1, rot D j i (i + 1), by go_num, by omega, by omega, HR2.out.drewN q, by
            rw [Nat.min_eq_left (by omega)]
            have hP := HP.out
            rw [Nat.min_eq_left (by omega)] at hP
            exact (hP.wide (Nat.le_refl _) (by omega) (by omega)).trans ((rot_pm D hji (by omega)).wide haj (by omega) (Nat.le_refl _)), by
            rw [Nat.min_eq_left (by omega)]
            exact cut_last hSi.out hlow.out haj hji h HE.out, touch_drew HT2.out q⟩
        have HEND := Lib.hid hend
        clear hend
        by_cases hja : a < j
        · have hja2 : (a : Int) < (j : Int) := by omega
          obtain ⟨j1, hj1⟩ : ∃ j1, j = j1 + 1 := ⟨j - 1, by omega⟩
          have hj2 : (j : Int) - 1 = (j1 : Int) := by omega
          have hjn : j < n := by omega
          have hjn2 : (j : Int) < (n : Int) := by omega
          have hj1n : j1 < n := by omega
          have hj1n2 : (j1 : Int) < (n : Int) := by omega
          obtain ⟨c1, f1⟩ := HR2.out.cell hjn
          obtain ⟨c2, f2⟩ := HR2.out.cell hj1n
          have ex : rot D j i (i + 1) j = D i := by rw [rot_p2 D (Nat.le_refl _) (by omega)]; congr 1; omega
          have ey : rot D j i (i + 1) j1 = D j1 := rot_p1 D (by omega)
          obtain ⟨x, hx⟩ : ∃ x, rot D j i (i + 1) j = x := ⟨_, rfl⟩
          obtain ⟨y, hy⟩ : ∃ y, rot D j i (i + 1) j1 = y := ⟨_, rfl⟩
          have hrr : Rng n (rot D j i (i + 1)) := hD.out.pm (rot_pm D hji (by omega)) (by omega)
          obtain ⟨z, hz, hz1, hz2, hcall⟩ := HC.out.at (HC.out.keep _ _ HI0.out HT2.out) hrr hjn hj1n x y hx hy
          rw [hx] at c1
          rw [hy] at c2
          have HX := Lib.hid hx
          have HY := Lib.hid hy
          have HCALL := Lib.hid hcall
          have HEX : Hid (x = D i) := Lib.hid (by rw [← hx]; exact ex)
          have HEY : Hid (y = D j1) := Lib.hid (by rw [← hy]; exact ey)
          have HJ1 := Lib.hid hj1
          clear hx hy ex ey hcall hrr hj1
          by_cases hlt : wt x < wt y
          · have hz0 : z < 0 := hz.2 hlt
            have HLT := Lib.hid hlt
            clear hlt hz
            go_wp2_with fail
            go_quiet ((exact Calls.quiet_of (HCALL.out _)))
            go_wp2_with fail
            go_region
            go_wp2_with fail
            go_roundw
            case rel => exact ⟨j1, by go_num, by have := HJ1.out; omega, by have := HJ1.out; omega, by
              have := HJ1.out
              subst this
              rw [← rot_down D (show j1 < i by omega)]
              exact (HR2.out.drewN _).swap hjn hj1n _ _ HY.out.symm HX.out.symm, Or.inr (by rw [← HEX.out, ← HEY.out]; exact HLT.out), touch_swap (touch_drew HT2.out _) _ _⟩
            case measure => have := HJ1.out; simp [intOf]; omega
          · have hz0 : ¬ z < 0 := fun h => hlt (hz.1 h)
            have HLT := Lib.hid hlt
            clear hlt hz
            go_wp2_with fail
            go_quiet ((exact Calls.quiet_of (HCALL.out _)))
            go_wp2_with fail
            go_roundw
            case rel => exact HEND.out (Or.inr (by rw [show j - 1 = j1 by have := HJ1.out; omega, ← HEX.out, ← HEY.out]; exact HLT.out)) _
            case measure => simp [intOf]; omega
        · have hd : decide ((a : Int) < (j : Int)) = false := by simp only [decide_eq_false_iff_not]; omega
          go_wp2_with fail
          go_quiet (fail)
          go_wp2_with fail
          go_roundw
          case rel => exact HEND.out (Or.inl (by omega)) _
          case measure => simp [intOf]; omega
    · have hi2 : ¬ (i : Int) < (b : Int) := by omega
      go_wp2_with fail
      go_end0
      refine ⟨rfl, ⟨D, HR.out, ?_, ?_⟩, HT.out⟩
      · have := HP.out; rw [Nat.min_eq_right (by omega)] at this; exact this
      · have := HS.out; rw [Nat.min_eq_right (by omega)] at this; exact this
end
end Go.Proofs.YtojphcoghbiepaaGreatDoor
namespace Go.Proofs.YtojphcoghbiepaaGreatDoor
open Go.RowKit SymM
set_option linter.unusedVariables false
section
variable {F : FuncId} {caps : Array Value} {g n : Nat} {wt : Int → Int} {I : World → Prop}
/-- What a sort from a up to b leaves. -/
def SrtP (wt : Int → Int) (g n : Nat) (d : Row) (a b : Nat) (w w' : World) : Prop := (∃ D, RowD w' g n D ∧ Pm d D a b ∧ Srt wt D a b) ∧ Touch (· = g) w w'
set_option maxRecDepth 100000 in
set_option maxHeartbeats 2000000 in
theorem sym_first (hC : CmpF F caps g n wt I) (a b : Nat) (d : Row) (w : World) (hR : RowD w g n d) (hI : I w) (hab : a + 1 < b) (hb : b ≤ n) (hn : n ≤ 1000000) (hr : Rng n d) (hs : Srt wt d (a + 1) b) (hl : Low d a (a + 1) b) (m : Nat) (hm : m = a + 1) :
    Calls Tryz.prog 292 #[.slice (some ⟨g, 0, none⟩) n n, .int .i64 (a : Int), .int .i64 (m : Int), .int .i64 (b : Int), .func (.func F) #[] caps] w fun e w' =>
      e = .returned (.tuple #[]) ∧ SrtP wt g n d a b w w' := by
  have he := hC.enter
  have HR := Lib.hid hR
  have HI0 := Lib.hid hI
  have HC := Lib.hid hC
  have HRN := Lib.hid hr
  have HS := Lib.hid hs
  have HL := Lib.hid hl
  have HM := Lib.hid hm
  have hma1 : a + 1 ≤ m := by omega
  have hma2 : m ≤ a + 1 := by omega
  have hone : ((m : Int) - (a : Int) == 1) = true := by rw [beq_iff_eq]; omega
  have han : a < n := by omega
  have han2 : (a : Int) < (n : Int) := by omega
  obtain ⟨y, hy⟩ : ∃ y, d a = y := ⟨_, rfl⟩
  have HY := Lib.hid hy
  clear hR hI hC hr hs hl hm hy
  go_enter Tryz.func292, Tryz.ntmps292
  go_wp2_with fail
  go_loopw [10, 11] (fun vi vj wr => ∃ i j q : Nat, vi = .int .i64 i ∧ vj = .int .i64 j ∧ m ≤ i ∧ i ≤ j ∧ j ≤ b ∧ (i = m ∨ wt (d (i - 1)) < wt (d a)) ∧ (j = b ∨ wt (d a) ≤ wt (d j)) ∧ wr = w.drewN q) (fun vi vj _ => (intOf vj).toNat - (intOf vi).toNat)
  case atStart => exact ⟨m, b, 0, rfl, rfl, by omega, by omega, by omega, Or.inl rfl, Or.inl rfl, rfl⟩
  case round =>
    obtain ⟨i, j, q, rfl, rfl, hmi, hij, hjb, h1, h2, hw⟩ := hrel
    have HRW : Hid (RowD wr g n d) := Lib.hid (by rw [hw]; exact HR.out.drewN q)
    have HIW : Hid (I wr) := Lib.hid (by rw [hw]; exact HC.out.keep _ _ HI0.out (touch_drewN _ w q))
    have HW := Lib.hid hw
    clear hw
    have H1 := Lib.hid h1
    have H2 := Lib.hid h2
    clear h1 h2
    by_cases hlt : i < j
    · have hlt2 : (i : Int) < (j : Int) := by omega
      obtain ⟨c, hc⟩ : ∃ c, (i + j) / 2 = c := ⟨_, rfl⟩
      have hcI : ((i : Int) + (j : Int)) / 2 = (c : Int) := by omega
      have hcn : c < n := by omega
      have hcn2 : (c : Int) < (n : Int) := by omega
      have hci : i ≤ c := by omega
      have hcj : c < j := by omega
      have HCC := Lib.hid hc
      obtain ⟨c1, f1⟩ := HRW.out.cell hcn
      obtain ⟨c2, f2⟩ := HRW.out.cell han
      obtain ⟨x, hx⟩ : ∃ x, d c = x := ⟨_, rfl⟩
      rw [hx] at c1
      rw [HY.out] at c2
      obtain ⟨z, hz, hz1, hz2, hcall⟩ := HC.out.at HIW.out HRN.out hcn han x y hx HY.out
      have HX := Lib.hid hx
      have HCALL := Lib.hid hcall
      have HZ := Lib.hid hz
      clear hx hcall hz hc
      by_cases hz0 : z < 0
      · go_wp2_with fail
        go_quiet ((exact Calls.quiet_of (HCALL.out _)))
        go_wp2_with fail
        go_roundw
        case rel => exact ⟨c + 1, j, _, by go_num, rfl, by omega, by omega, hjb, Or.inr (by rw [Nat.add_sub_cancel, HX.out, HY.out]; have := HZ.out; omega), H2.out, by rw [HW.out]; exact World.drewN_drewN ..⟩
        case measure => simp [intOf]; omega
      · go_wp2_with fail
        go_quiet ((exact Calls.quiet_of (HCALL.out _)))
        go_wp2_with fail
        go_roundw
        case rel => exact ⟨i, c, _, rfl, by go_num, hmi, hci, by omega, H1.out, Or.inr (by rw [HX.out, HY.out]; have := HZ.out; omega), by rw [HW.out]; exact World.drewN_drewN ..⟩
        case measure => simp [intOf]; omega
    · have hlt2 : ¬ (i : Int) < (j : Int) := by omega
      obtain rfl : j = i := by omega
      have hsrt : Hid (Srt wt (rot d a (a + 1) j) a b) := Lib.hid (by
        have hm := HM.out
        refine cut_first HS.out HL.out (by omega) hjb ?_ ?_
        · rcases H1.out with e | e
          · exact Or.inl (by omega)
          · exact Or.inr e
        · rcases H2.out with e | e
          · exact Or.inl e
          · exact Or.inr (by omega))
      obtain ⟨p, hp⟩ : ∃ p, j = p + 1 := ⟨j - 1, by omega⟩
      have hp2 : (j : Int) - 1 = (p : Int) := by omega
      have hap : a ≤ p := by omega
      have hpn : p < n := by omega
      have hpn2 : (p : Int) < (n : Int) := by omega
      have HT1 : Hid (Touch (· = g) w wr) := Lib.hid (by rw [HW.out]; exact touch_drewN _ w q)
      have HP := Lib.hid hp
      clear hp
      go_wp2_with fail
      go_loopw [13] (fun vk w2 => ∃ k : Nat, vk = .int .i64 k ∧ a ≤ k ∧ k ≤ p ∧ RowD w2 g n (rot d a (a + 1) (k + 1)) ∧ Touch (· = g) w w2) (fun vk _ => p - (intOf vk).toNat)
      case atStart => exact ⟨a, rfl, Nat.le_refl _, hap, by rw [rot_none]; exact HRW.out, HT1.out⟩
      case round =>
        obtain ⟨k, rfl, hak, hkp, hR2, hT2⟩ := hrel
        have HR2 := Lib.hid hR2
        have HT2 := Lib.hid hT2
        clear hR2 hT2
        by_cases hkl : k < p
        · have hkl2 : (k : Int) < (p : Int) := by omega
          obtain ⟨l, hl⟩ : ∃ l, k + 1 = l := ⟨_, rfl⟩
          have hl2 : (k : Int) + 1 = (l : Int) := by omega
          have hkn : k < n := by omega
          have hkn2 : (k : Int) < (n : Int) := by omega
          have hln : l < n := by omega
          have hln2 : (l : Int) < (n : Int) := by omega
          obtain ⟨c1, f1⟩ := HR2.out.cell hkn
          obtain ⟨c2, f2⟩ := HR2.out.cell hln
          obtain ⟨x, hx⟩ : ∃ x, rot d a (a + 1) (k + 1) k = x := ⟨_, rfl⟩
          obtain ⟨y, hy⟩ : ∃ y, rot d a (a + 1) (k + 1) l = y := ⟨_, rfl⟩
          rw [hx] at c1
          rw [hy] at c2
          have HX := Lib.hid hx
          have HY := Lib.hid hy
          have HLL := Lib.hid hl
          clear hx hy hl
          go_wp2_with fail
          go_region
          go_wp2_with fail
          go_roundw
          case rel => exact ⟨l, rfl, by have := HLL.out; omega, by have := HLL.out; omega, by
            have := HLL.out
            subst this
            rw [← rot_up d hak]
            exact (HR2.out.drewN _).swap hkn hln _ _ HY.out.symm HX.out.symm, touch_swap (touch_drew HT2.out _) _ _⟩
          case measure => have := HLL.out; simp [intOf]; omega
        · have hkl2 : ¬ (k : Int) < (p : Int) := by omega
          obtain rfl : p = k := by omega
          go_wp2_with fail

          refine bodyPost_ret (results_none rfl _ _ _) rfl ?_
          have e := HP.out
          subst e
          exact ⟨rfl, ⟨_, HR2.out, (rot_pm d (by omega) (by omega)).wide (Nat.le_refl _) (by omega) hjb, hsrt.out⟩, HT2.out⟩
set_option maxRecDepth 100000 in
set_option maxHeartbeats 2000000 in
theorem sym_last (hC : CmpF F caps g n wt I) (a m : Nat) (d : Row) (w : World) (hR : RowD w g n d) (hI : I w) (ham : a + 1 < m) (hb : m + 1 ≤ n) (hn : n ≤ 1000000) (hr : Rng n d) (hs : Srt wt d a m) (hl : Low d a m (m + 1)) (b : Nat) (hbm : b = m + 1) :
    Calls Tryz.prog 292 #[.slice (some ⟨g, 0, none⟩) n n, .int .i64 (a : Int), .int .i64 (m : Int), .int .i64 (b : Int), .func (.func F) #[] caps] w fun e w' =>
      e = .returned (.tuple #[]) ∧ SrtP wt g n d a b w w' := by
  have he := hC.enter
  have HR := Lib.hid hR
  have HI0 := Lib.hid hI
  have HC := Lib.hid hC
  have HRN := Lib.hid hr
  have HS := Lib.hid hs
  have HL := Lib.hid hl
  have HB := Lib.hid hbm
  have hone0 : ((m : Int) - (a : Int) == 1) = false := by rw [beq_eq_false_iff_ne]; omega
  have hone : ((b : Int) - (m : Int) == 1) = true := by rw [beq_iff_eq]; omega
  have hmn : m < n := by omega
  have hmn2 : (m : Int) < (n : Int) := by omega
  have hbn : b ≤ n := by omega
  obtain ⟨x, hx⟩ : ∃ x, d m = x := ⟨_, rfl⟩
  have HX := Lib.hid hx
  clear hR hI hC hr hs hl hbm hx
  go_enter Tryz.func292, Tryz.ntmps292
  go_wp2_with fail
  go_loopw [14, 15] (fun vi vj wr => ∃ i j q : Nat, vi = .int .i64 i ∧ vj = .int .i64 j ∧ a ≤ i ∧ i ≤ j ∧ j ≤ m ∧ (i = a ∨ wt (d (i - 1)) ≤ wt (d m)) ∧ (j = m ∨ wt (d m) < wt (d j)) ∧ wr = w.drewN q) (fun vi vj _ => (intOf vj).toNat - (intOf vi).toNat)
  case atStart => exact ⟨a, m, 0, rfl, rfl, by omega, by omega, by omega, Or.inl rfl, Or.inl rfl, rfl⟩
  case round =>
    obtain ⟨i, j, q, rfl, rfl, hmi, hij, hjb, h1, h2, hw⟩ := hrel
    have HRW : Hid (RowD wr g n d) := Lib.hid (by rw [hw]; exact HR.out.drewN q)
    have HIW : Hid (I wr) := Lib.hid (by rw [hw]; exact HC.out.keep _ _ HI0.out (touch_drewN _ w q))
    have HW := Lib.hid hw
    have H1 := Lib.hid h1
    have H2 := Lib.hid h2
    clear hw h1 h2
    by_cases hlt : i < j
    · have hlt2 : (i : Int) < (j : Int) := by omega
      obtain ⟨c, hc⟩ : ∃ c, (i + j) / 2 = c := ⟨_, rfl⟩
      have hcI : ((i : Int) + (j : Int)) / 2 = (c : Int) := by omega
      have hcn : c < n := by omega
      have hcn2 : (c : Int) < (n : Int) := by omega
      have hci : i ≤ c := by omega
      have hcj : c < j := by omega
      have HCC := Lib.hid hc
      obtain ⟨c1, f1⟩ := HRW.out.cell hcn
      obtain ⟨c2, f2⟩ := HRW.out.cell hmn
      obtain ⟨y, hy⟩ : ∃ y, d c = y := ⟨_, rfl⟩
      rw [hy] at c1
      rw [HX.out] at c2
      obtain ⟨z, hz, hz1, hz2, hcall⟩ := HC.out.at HIW.out HRN.out hmn hcn x y HX.out hy
      have HY := Lib.hid hy
      have HCALL := Lib.hid hcall
      have HZ := Lib.hid hz
      clear hy hcall hz hc
      by_cases hz0 : z < 0
      · have hz3 : (!decide (z < 0)) = false := by simp; omega
        go_wp2_with fail
        go_quiet ((exact Calls.quiet_of (HCALL.out _)))
        go_wp2_with fail
        go_roundw
        case rel => exact ⟨i, c, _, rfl, by go_num, hmi, hci, by omega, H1.out, Or.inr (by rw [HX.out, HY.out]; have := HZ.out; omega), by rw [HW.out]; exact World.drewN_drewN ..⟩
        case measure => simp [intOf]; omega
      · have hz3 : (!decide (z < 0)) = true := by simp; omega
        go_wp2_with fail
        go_quiet ((exact Calls.quiet_of (HCALL.out _)))
        go_wp2_with fail
        go_roundw
        case rel => exact ⟨c + 1, j, _, by go_num, rfl, by omega, by omega, hjb, Or.inr (by rw [Nat.add_sub_cancel, HX.out, HY.out]; have := HZ.out; omega), H2.out, by rw [HW.out]; exact World.drewN_drewN ..⟩
        case measure => simp [intOf]; omega
    · have hlt2 : ¬ (i : Int) < (j : Int) := by omega
      obtain rfl : j = i := by omega
      have hsrt : Hid (Srt wt (rot d j m (m + 1)) a (m + 1)) := Lib.hid (by
        refine cut_last HS.out HL.out hmi hjb ?_ ?_
        · rcases H1.out with e | e
          · exact Or.inl (by omega)
          · exact Or.inr (by omega)
        · rcases H2.out with e | e
          · exact Or.inl e
          · exact Or.inr (by omega))
      have HT1 : Hid (Touch (· = g) w wr) := Lib.hid (by rw [HW.out]; exact touch_drewN _ w q)
      go_wp2_with fail
      go_loopw [17] (fun vk w2 => ∃ k : Nat, vk = .int .i64 k ∧ j ≤ k ∧ k ≤ m ∧ RowD w2 g n (rot d k m (m + 1)) ∧ Touch (· = g) w w2) (fun vk _ => (intOf vk).toNat)
      case atStart => exact ⟨m, rfl, hjb, Nat.le_refl _, by rw [rot_none']; exact HRW.out, HT1.out⟩
      case round =>
        obtain ⟨k, rfl, hak, hkp, hR2, hT2⟩ := hrel
        have HR2 := Lib.hid hR2
        have HT2 := Lib.hid hT2
        clear hR2 hT2
        by_cases hkl : j < k
        · have hkl2 : (j : Int) < (k : Int) := by omega
          obtain ⟨l, hl⟩ : ∃ l, k = l + 1 := ⟨k - 1, by omega⟩
          have hl2 : (k : Int) - 1 = (l : Int) := by omega
          have hkn : k < n := by omega
          have hkn2 : (k : Int) < (n : Int) := by omega
          have hln : l < n := by omega
          have hln2 : (l : Int) < (n : Int) := by omega
          obtain ⟨c1, f1⟩ := HR2.out.cell hkn
          obtain ⟨c2, f2⟩ := HR2.out.cell hln
          obtain ⟨X, hx⟩ : ∃ x, rot d k m (m + 1) k = x := ⟨_, rfl⟩
          obtain ⟨Y, hy⟩ : ∃ y, rot d k m (m + 1) l = y := ⟨_, rfl⟩
          rw [hx] at c1
          rw [hy] at c2
          have HX := Lib.hid hx
          have HY := Lib.hid hy
          have HLL := Lib.hid hl
          clear hx hy hl
          go_wp2_with fail
          go_region
          go_wp2_with fail
          go_roundw
          case rel => exact ⟨l, by go_num, by have := HLL.out; omega, by have := HLL.out; omega, by
            have := HLL.out
            subst this
            rw [← rot_down d (show l < m by omega)]
            exact (HR2.out.drewN _).swap hkn hln _ _ HY.out.symm HX.out.symm, touch_swap (touch_drew HT2.out _) _ _⟩
          case measure => have := HLL.out; simp [intOf]; omega
        · have hkl2 : ¬ (j : Int) < (k : Int) := by omega
          obtain rfl : k = j := by omega
          go_wp2_with fail

          refine bodyPost_ret (results_none rfl _ _ _) rfl ?_
          have e := HB.out
          subst e
          exact ⟨rfl, ⟨_, HR2.out, (rot_pm d hkp (by omega)).wide (by omega) (by omega) (Nat.le_refl _), hsrt.out⟩, HT2.out⟩
end
end Go.Proofs.YtojphcoghbiepaaGreatDoor
namespace Go.Proofs.YtojphcoghbiepaaGreatDoor
open Go.RowKit SymM
set_option linter.unusedVariables false
theorem sym_left {w : Int → Int} {d : Row} {a s m e b : Nat} (h : Cut w d a s m e b) (hg : ¬ (a < s ∧ s < s + (e - m))) : Srt w (rot d s m e) a (s + (e - m)) := by
  obtain ⟨s1, s2, s3, s4⟩ := h.srt
  have := h.o1
  by_cases h1 : a < s
  · rw [show s + (e - m) = s by omega]; exact s1
  · rw [show a = s by omega]; exact s2
theorem sym_right {w : Int → Int} {d : Row} {a s m e b : Nat} (h : Cut w d a s m e b) (hg : ¬ (s + (e - m) < e ∧ e < b)) : Srt w (rot d s m e) (s + (e - m)) b := by
  obtain ⟨s1, s2, s3, s4⟩ := h.srt
  have := h.o2
  have := h.o3
  have := h.o4
  by_cases h1 : s + (e - m) < e
  · rw [show b = e by omega]; exact s3
  · rw [show s + (e - m) = e by omega]; exact s4
section
variable {F : FuncId} {caps : Array Value} {g n : Nat} {wt : Int → Int} {I : World → Prop}
/-- What two parts side by side ask. -/
structure MerP (wt : Int → Int) (g n : Nat) (I : World → Prop) (d : Row) (a m b : Nat) (w : World) : Prop where
  row : RowD w g n d
  inv : I w
  rng : Rng n d
  sl : Srt wt d a m
  sr : Srt wt d m b
  low : Low d a m b
theorem left_ok (hC : CmpF F caps g n wt I) {d : Row} {a s m e b : Nat} {w : World} (h : Cut wt d a s m e b) (hr : Rng n d) (hb : b ≤ n) (hR : RowD w g n (rot d s m e)) (hI : I w) : MerP wt g n I (rot d s m e) a s (s + (e - m)) w := by
  obtain ⟨s1, s2, s3, s4⟩ := h.srt
  exact ⟨hR, hI, hr.pm (rot_pm d h.o2 h.o3) (by have := h.o4; omega), s1, s2, h.low1⟩
theorem right_ok (hC : CmpF F caps g n wt I) {d D : Row} {a s m e b : Nat} {w : World} (h : Cut wt d a s m e b) (hr : Rng n d) (hb : b ≤ n) (hp : Pm (rot d s m e) D a (s + (e - m))) (hR : RowD w g n D) (hI : I w) : MerP wt g n I D (s + (e - m)) e b w := by
  obtain ⟨s1, s2, s3, s4⟩ := h.srt
  have o2 := h.o2
  have o3 := h.o3
  have o4 := h.o4
  have l2 := h.low2
  refine ⟨hR, hI, (hr.pm (rot_pm d o2 o3) (by omega)).pm hp (by omega), ?_, ?_, ?_⟩
  · intro i j hi hij hj; rw [hp.out i (by omega), hp.out j (by omega)]; exact s3 i j hi hij hj
  · intro i j hi hij hj; rw [hp.out i (by omega), hp.out j (by omega)]; exact s4 i j hi hij hj
  · intro i j hi hij hj hjb; rw [hp.out i (by omega), hp.out j (by omega)]; exact l2 i j hi hij hj hjb
/-- The row behind the first half. -/
def LeftP (wt : Int → Int) (g n : Nat) (d : Row) (a s m e : Nat) (w w' : World) : Prop := (∃ D, RowD w' g n D ∧ Pm (rot d s m e) D a (s + (e - m)) ∧ Srt wt D a (s + (e - m))) ∧ Touch (· = g) w w'
theorem left_end {d : Row} {a s m e b : Nat} {w w' : World} (h : Cut wt d a s m e b) (hL : LeftP wt g n d a s m e w w') (hg : ¬ (s + (e - m) < e ∧ e < b)) : SrtP wt g n d a b w w' := by
  obtain ⟨⟨D, hR, hp, hs⟩, hT⟩ := hL
  have o2 := h.o2
  have o3 := h.o3
  have hr := sym_right h hg
  obtain ⟨p, q⟩ := cut_merge h hp (Pm.refl D _ b) hs (by
    intro i j hi hij hj
    rw [hp.out i (by omega), hp.out j (by omega)]
    exact hr i j hi hij hj)
  exact ⟨⟨D, hR, p, q⟩, hT⟩
theorem right_end {d D : Row} {a s m e b : Nat} {w w1 w' : World} (h : Cut wt d a s m e b) (hp : Pm (rot d s m e) D a (s + (e - m))) (hs : Srt wt D a (s + (e - m))) (hT : Touch (· = g) w w1) (hS : SrtP wt g n D (s + (e - m)) b w1 w') : SrtP wt g n d a b w w' := by
  obtain ⟨⟨D3, hR3, hp3, hs3⟩, hT3⟩ := hS
  obtain ⟨p, q⟩ := cut_merge h hp hp3 hs hs3
  exact ⟨⟨D3, hR3, p, q⟩, hT.trans hT3 (fun i hi => Or.inl hi)⟩
end
end Go.Proofs.YtojphcoghbiepaaGreatDoor

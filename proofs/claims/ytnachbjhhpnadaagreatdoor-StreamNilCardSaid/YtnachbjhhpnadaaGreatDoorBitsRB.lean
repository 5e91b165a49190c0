/-
  THE WALKS OF LAYER 1's CODE (package bits): the reader's More, Seek, Align, Drop.
-/
import Derived.Test.YtnachbjhhpnadaaGreatDoorBitsR
import Derived.Deep.AppendSrc
import Derived.Deep.Upon
namespace Go.Proofs.YtnachbjhhpnadaaGreatDoor
open Go.RowKit BitM
set_option linter.unusedVariables false

/-! ### A string appended to a row of bytes, wherever it begins -/
theorem touch_setCells {S : Nat → Prop} {g : Nat} (hS : S g) : ∀ (vs : List Value) (o : Nat) (w : World), Touch S w (w.setCells g o vs)
  | [], _, w => Touch.refl S w
  | v :: r, o, w => by
    have h1 : Touch S w (w.setCell ⟨g, o, none⟩ v) := (Touch.refl S w).setCell (Or.inl hS) v
    exact h1.trans (touch_setCells hS r (o + 1) _) (fun i hi => Or.inl hi)
theorem zero_at (m k : Nat) (h : k < m) : (Builtin.zeroCells #[Value.int .u8 0] m)[k]? = some (.int .u8 0) := by
  unfold Builtin.zeroCells
  rw [Array.getElem?_map, Array.getElem?_range, if_pos (by simpa using h)]
  simp [Nat.mod_one]
theorem fresh_rowB {W : World} {g : Nat} {e : TypeId} (L : List UInt8) (C : Nat) (hC : L.length ≤ C) (hm : C ≤ maxLen)
    (hW : W.heap[g]? = some (.cells ((L.map u8v).toArray ++ Builtin.zeroCells #[Value.int .u8 0] (C - L.length)) e)) : IsRowB W (.slice (some ⟨g, 0, none⟩) L.length C) L := by
  refine Or.inr ⟨g, 0, C, rfl, (Array.getElem?_eq_some_iff.1 hW).1, hC, hm, fun i x hx => ?_, fun i hi => ?_, fun i hi => frozen_of_row _ _ _ _ _ hW⟩
  · have hi := (List.getElem?_eq_some_iff.1 hx).1
    rw [cell_of_row _ _ _ _ _ _ hW, Nat.zero_add, Array.getElem?_append_left (by simpa using hi)]
    simp [hx]
  · rw [cell_of_row _ _ _ _ _ _ hW, Nat.zero_add]
    by_cases hl : i < L.length
    · rw [Array.getElem?_append_left (by simpa using hl)]
      exact ⟨(L[i].toNat : Int), by simp [hl, u8v]⟩
    · rw [Array.getElem?_append_right (by simpa using Nat.le_of_not_lt hl)]
      exact ⟨0, zero_at _ _ (by simp; omega)⟩
theorem append_rowB (w : World) (v : Value) (l : List UInt8) (s : ByteArray) (h : IsRowB w v l) (hs : l.length + s.size ≤ 1099511627776) :
    ∃ v' w', (Builtin.append_ #[71, 9] 71 #[v, .string s]).run Tryz.prog w = .ok v' w' ∧ IsRowB w' v' (l ++ s.data.toList) ∧ Touch (fun k => v.ownBlock = some k) w w' ∧
      (∀ k, v'.ownBlock = some k → v.ownBlock = some k ∨ w.heap.size ≤ k) := by
  obtain ⟨i, hi, h5⟩ := Option.map_eq_some_iff.1 info5
  simp only [Prod.mk.injEq] at h5
  obtain ⟨hz, hsize, hby⟩ := h5
  have hS : Src Tryz.prog i.size 9 (.string s) s.size (byteCells s) w := by rw [hsize]; exact Src.ofString w Tryz.underlying9 s
  have hbl := byteCells_length s
  have hbc : byteCells s = s.data.toList.map u8v := rfl
  have hlen : (l ++ s.data.toList).length = l.length + s.size := by rw [List.length_append]; rfl
  by_cases h0 : s.size = 0
  · obtain rfl : s = ByteArray.empty := ByteArray.ext (Array.eq_empty_of_size_eq_zero h0)
    obtain ⟨a, cap, hv, hle, _⟩ := h.slice
    refine ⟨v, w, ?_, by simpa using h, Touch.refl _ _, fun k hk => Or.inl hk⟩
    subst hv
    exact run_append_nothing w 71 9 71 5 i Tryz.underlying71 hi a l.length cap hle (.string ByteArray.empty) hS
  · have grow : ∀ (base : Option Addr) (cap : Nat), (Builtin.firstCells i.size l.length (.slice base l.length cap)).run Tryz.prog w.drew = .ok (l.map u8v).toArray w.drew → v = .slice base l.length cap → cap < l.length + s.size →
        ∃ v' w', (Builtin.append_ #[71, 9] 71 #[v, .string s]).run Tryz.prog w = .ok v' w' ∧ IsRowB w' v' (l ++ s.data.toList) ∧ Touch (fun k => v.ownBlock = some k) w w' ∧
          (∀ k, v'.ownBlock = some k → v.ownBlock = some k ∨ w.heap.size ≤ k) := by
      intro base cap hold hv hg
      subst hv
      have hr := run_append_grow_src (P := Tryz.prog) w 71 9 71 5 i (.int .u8 0) Tryz.underlying71 hi hz base l.length cap (l.map u8v) hold (.string s) s.size (byteCells s) hS hg (by omega)
        (growslice_fits hg (by rw [hby]; omega))
      refine ⟨_, _, hr, ?_, (Touch.refl _ _).drew.alloc _, fun k hk => Or.inr (by simp [Value.ownBlock] at hk; omega)⟩
      have hge := grownCap_ge w (l.length + s.size) cap 5
      have hle := grownCap_le_maxLen w (l.length + s.size) cap 5 (by unfold maxLen; omega)
      have hfr := fresh_rowB (W := w.drew.alloc (.cells ((l.map u8v ++ byteCells s).toArray ++ Builtin.zeroCells (Value.int .u8 0).cells (grownCap w (l.length + s.size) cap 5 - (l.length + s.size))) 5)) (g := w.heap.size) (e := 5) (l ++ s.data.toList) (grownCap w (l.length + s.size) cap 5) (by rw [hlen]; exact hge) hle (by
        rw [hlen, List.map_append, hbc]
        show (w.heap.push _)[_]? = _
        simp [Value.cells])
      rw [hlen] at hfr
      exact hfr
    rcases h with ⟨rfl, rfl⟩ | ⟨g, off, cap, rfl, hg, hlc, hcm, hc, ha, hf⟩
    · exact grow none 0 (run_firstCells_none w.drew i.size 0 0 0) rfl (by simp; omega)
    · by_cases hroom : l.length + s.size ≤ cap
      · have e1 : off + l.length * i.size = off + l.length := by rw [hsize, Nat.mul_one]
        have hr := run_append_room_src (P := Tryz.prog) w 71 9 71 5 i Tryz.underlying71 hi g off l.length cap (.string s) s.size (byteCells s) hS hroom
          (fun j hj => by
            rw [e1, Nat.add_assoc]
            obtain ⟨n, hn⟩ := ha (l.length + j) (by omega)
            rw [hn]; rfl)
          (fun j hj => by rw [e1, Nat.add_assoc]; exact hf (l.length + j) (by omega))
        rw [e1] at hr
        have ht : Touch (fun k => (Value.slice (some ⟨g, off, none⟩) l.length cap).ownBlock = some k) w (w.setCells g (off + l.length) (byteCells s)) := touch_setCells (S := fun k => (Value.slice (some ⟨g, off, none⟩) l.length cap).ownBlock = some k) (show (Value.slice (some ⟨g, off, none⟩) l.length cap).ownBlock = some g from rfl) _ _ _
        have hin : ∀ j, (hj : j < (byteCells s).length) → (w.setCells g (off + l.length) (byteCells s)).cell? ⟨g, off + l.length + j, none⟩ = some (byteCells s)[j] := fun j hj =>
          World.cell?_setCells_in g (byteCells s) (off + l.length) w (fun j hj => by
            rw [Nat.add_assoc]
            obtain ⟨n, hn⟩ := ha (l.length + j) (by omega)
            rw [hn]; rfl) j hj
        have hout : ∀ j, j < l.length ∨ l.length + s.size ≤ j → (w.setCells g (off + l.length) (byteCells s)).cell? ⟨g, off + j, none⟩ = w.cell? ⟨g, off + j, none⟩ := fun j hj =>
          World.cell?_setCells_out g (byteCells s) (off + l.length) w ⟨g, off + j, none⟩ (fun _ _ => by show off + j < off + l.length ∨ off + l.length + (byteCells s).length ≤ off + j; omega)
        refine ⟨_, _, hr, Or.inr ⟨g, off, cap, by rw [hlen], Nat.lt_of_lt_of_le hg ht.size, by rw [hlen]; exact hroom, hcm, fun j x hx => ?_, fun j hj => ?_, fun j hj => ?_⟩, ht, fun k hk => Or.inl hk⟩
        · by_cases hj : j < l.length
          · rw [List.getElem?_append_left hj] at hx
            rw [hout j (Or.inl hj)]; exact hc j x hx
          · rw [List.getElem?_append_right (by omega)] at hx
            have hj2 := (List.getElem?_eq_some_iff.1 hx).1
            have hj3 : j - l.length < (byteCells s).length := by rw [hbl]; exact hj2
            have := hin (j - l.length) hj3
            rw [show off + l.length + (j - l.length) = off + j by omega] at this
            rw [this]
            have hx2 := (List.getElem?_eq_some_iff.1 hx).2
            rw [← hx2]
            simp [byteCells, u8v]
        · by_cases hj2 : j < l.length ∨ l.length + s.size ≤ j
          · rw [hout j hj2]; exact ha j hj
          · have hj3 : j - l.length < (byteCells s).length := by omega
            have := hin (j - l.length) hj3
            rw [show off + l.length + (j - l.length) = off + j by omega] at this
            rw [this]
            exact ⟨(s.data.toList[j - l.length]'(by simpa [hbl] using hj3)).toNat, by simp [byteCells]⟩
        · rw [World.frozen?_setCells]; exact hf j hj
      · refine grow (some ⟨g, off, none⟩) cap ?_ rfl (by omega)
        refine run_firstCells_some w.drew i.size l.length ⟨g, off, none⟩ l.length cap (l.map u8v) (by rw [hsize]; simp) (fun j u hu => ?_)
        rw [List.getElem?_map] at hu
        obtain ⟨x, hx, rfl⟩ := Option.map_eq_some_iff.1 hu
        rw [show (⟨g, off, none⟩ : Addr).add j = ⟨g, off + j, none⟩ from Addr.add_lit _ _ _]
        exact hc j x hx
/-- 'append', where its run is known. -/
theorem wpList_append_run {P : Program} {ops : Array Oper} {rest : List Oper} {o : Oper} {a : Act} {w : World} {Q : Exit → Act → World → Prop} (hgd : o.guard = none) (sl x : Operand) (t u : TypeId)
    (ho : o.op = .call { callee := .builtin .append, args := #[sl, x], argTypes := #[t, u] }) (v y : Value) (hs : a.eval sl = v) (hx : a.eval x = y) (v' : Value) (w' : World)
    (hr : (Builtin.append_ #[t, u] o.type #[v, y]).run P w = .ok v' w') (h : wpList P ops Q rest (a.put o.dst v') w') : wpList P ops Q (o :: rest) a w := by
  refine wpList_plain hgd fun K hK => ?_
  unfold Oper.wp execOp
  simp only [ho, resolve, invoke, builtin, Sem.run_bind, Sem.run_pure, Result.andThen_ok, List.map_toArray, List.map_cons, List.map_nil, hs, hx, hr]
  exact hK _ _ h

/-! ### More -/
set_option maxRecDepth 100000 in
set_option maxHeartbeats 400000 in
theorem more_any (b : Nat) (v : Value) (l : List UInt8) (dr sp p : Nat) (s : ByteArray) (w : World) (h : IsReader w b v l dr sp p) (hs : l.length + s.size ≤ 1099511627776) :
    Calls Tryz.prog 34 #[.pointer (some ⟨b, 0, none⟩), .string s] w fun e w' => e = .returned (.int .i64 0) ∧ ∃ v1, IsReader w' b v1 (l ++ s.data.toList) dr sp p ∧ Touch (foot b v) w w' ∧ (∀ k, v1.ownBlock = some k → v.ownBlock = some k ∨ w.heap.size ≤ k) := by
  obtain ⟨c0, c1, c2, c3, f0, f1, f2, f3⟩ := h.cells
  obtain ⟨v1, w1, hap, hrow, ht, hown⟩ := append_rowB w v l s h.2.1 hs
  have hbl := h.lt b (Or.inl rfl)
  have hnb : ¬ v.ownBlock = some b := fun e => h.2.2.1 b e rfl
  have hblk := (ht.block b hbl hnb).trans h.1
  have d0 : w1.cell? ⟨b, 0, none⟩ = some v := by rw [cell_of_row _ _ _ _ _ _ hblk]; rfl
  have g0 : w1.frozen? ⟨b, 0, none⟩ = false := frozen_of_row _ _ _ _ _ hblk
  have hone : v1.oneCell' = true := by
    obtain ⟨a, cap, rfl, _⟩ := hrow.slice
    rfl
  have HFIN : Hid (IsReader (w1.setCell ⟨b, 0, none⟩ v1) b v1 (l ++ s.data.toList) dr sp p ∧ Touch (foot b v) w (w1.setCell ⟨b, 0, none⟩ v1)) := Lib.hid (by
    have hne : ∀ k, v1.ownBlock = some k → b ≠ k := fun k hk e => by
      rcases hown k hk with h1 | h1
      · exact h.2.2.1 k h1 e
      · omega
    refine ⟨⟨heap_setCell_same _ _ 0 _ _ _ hblk, hrow.other (fun k hk => heap_setCell_other _ _ _ _ (fun e => hne k hk e.symm)), hne, h.2.2.2.1, ?_⟩, Touch.setCell (S := foot b v) (ht.mono (fun k hk => Or.inr hk)) (Or.inl (Or.inl rfl)) _⟩
    have := h.2.2.2.2
    rw [List.length_append]; omega)
  have HOWN := Lib.hid hown
  obtain ⟨a, cap, rfl, _⟩ := h.2.1.slice
  obtain ⟨a1, cap1, rfl, _⟩ := hrow.slice
  clear h hown hrow ht hblk hnb hbl
  go_enter Tryz.func34, Tryz.ntmps34
  go_wp2_with (refine wpList_append_run rfl (.tmp 11) (.tmp 12) _ _ rfl _ _ rfl rfl _ _ hap ?_)
  go_ret
  have hl : (l ++ s.data.toList).length = l.length + s.size := by rw [List.length_append]; rfl
  rw [hl] at HFIN HOWN
  exact ⟨rfl, _, HFIN.out.1, HFIN.out.2, HOWN.out⟩

/-! ### Drop -/
theorem append_copy (w : World) (v : Value) (l : List UInt8) (h : IsRowB w v l) (hs : l.length ≤ 1099511627776) :
    ∃ v' w', (Builtin.append_ #[71, 71] 71 #[.slice none 0 0, v]).run Tryz.prog w = .ok v' w' ∧ IsRowB w' v' l ∧ Below w.heap.size w w' ∧ (∀ k, v'.ownBlock = some k → w.heap.size ≤ k) := by
  obtain ⟨i, hi, h5⟩ := Option.map_eq_some_iff.1 info5
  simp only [Prod.mk.injEq] at h5
  obtain ⟨hz, hsize, hby⟩ := h5
  rcases h with ⟨rfl, rfl⟩ | ⟨g, off, cap, rfl, hg, hlc, hcm, hc, ha, hf⟩
  · refine ⟨.slice none 0 0, w, ?_, Or.inl ⟨rfl, rfl⟩, Below.refl _ _, fun k hk => by simp [Value.ownBlock] at hk⟩
    exact run_append_nothing w 71 71 71 5 i Tryz.underlying71 hi none 0 0 (Nat.le_refl _) _ (Src.ofNil w Tryz.underlying71 0)
  · have hcell : ∀ j u, (l.map u8v)[j]? = some u → w.cell? ((⟨g, off, none⟩ : Addr).add j) = some u := fun j u hu => by
      rw [List.getElem?_map] at hu
      obtain ⟨x, hx, rfl⟩ := Option.map_eq_some_iff.1 hu
      rw [show (⟨g, off, none⟩ : Addr).add j = ⟨g, off + j, none⟩ from Addr.add_lit _ _ _]
      exact hc j x hx
    by_cases h0 : l.length = 0
    · obtain rfl : l = [] := List.eq_nil_of_length_eq_zero h0
      refine ⟨.slice none 0 0, w, ?_, Or.inl ⟨rfl, rfl⟩, Below.refl _ _, fun k hk => by simp [Value.ownBlock] at hk⟩
      exact run_append_nothing w 71 71 71 5 i Tryz.underlying71 hi none 0 0 (Nat.le_refl _) _ (Src.ofSlice w Tryz.underlying71 _ 0 cap [] (by simp) (fun j u hu => by simp at hu) (fun u hu => by cases hu))
    · have hr := run_append_nil (P := Tryz.prog) w 71 71 5 i (.int .u8 0) Tryz.underlying71 hi hz ⟨g, off, none⟩ l.length cap (l.map u8v) (by rw [hsize]; simp) hcell (by omega) (by omega) (by rw [hby]; omega)
      refine ⟨_, _, hr, ?_, ((Below.refl _ _).drew).alloc (Nat.le_refl _) _, fun k hk => by simp [Value.ownBlock] at hk; omega⟩
      have hge := grownCap_ge w l.length 0 5
      have hle := grownCap_le_maxLen w l.length 0 5 (by unfold maxLen; omega)
      exact fresh_rowB (g := w.heap.size) (e := 5) l (grownCap w l.length 0 5) hge hle (by
        show (w.heap.push _)[_]? = _
        simp [Value.cells])
theorem touch_b {w w' : World} {b : Nat} {v : Value} (h : Touch (· = b) w w') : Touch (foot b v) w w' := h.mono (fun _ hk => Or.inl hk)
theorem touch_drop {w w3 w5 w6 : World} {b : Nat} {v : Value} (h : Touch (· = b) w w3) (h5 : Below w3.heap.size w3 w5) (h6 : Touch (· = b) w5 w6) : Touch (foot b v) w w6 :=
  (touch_b h).trans ((Touch.ofBelow (S := foot b v) h5).trans (touch_b (v := v) h6) (fun i hi => Or.inl hi)) (fun i hi => Or.inl hi)
theorem touch_same {w w3 : World} {b : Nat} {v : Value} (h : Touch (· = b) w w3) (n : Nat) : Touch (foot b v) w (w3.drewN n) := (touch_b h).trans (touch_drewN (foot b v) w3 n) (fun i hi => Or.inl hi)
/-- A row of bytes, behind its first n. -/
theorem IsRowB.drop {w : World} {a : Option Addr} {cap n : Nat} {l : List UInt8} (h : IsRowB w (.slice a l.length cap) l) (hn : n ≤ l.length) (hc : cap ≠ n) :
    IsRowB w (.slice (Option.map (fun x => x.add n) a) (l.length - n) (cap - n)) (l.drop n) ∧ (Value.slice (Option.map (fun x => x.add n) a) (l.length - n) (cap - n)).ownBlock = (Value.slice a l.length cap).ownBlock := by
  rcases h with ⟨hv, rfl⟩ | ⟨g, off, cap', hv, hg, hlc, hcm, hcc, ha, hf⟩
  · cases hv
    exfalso
    have : n = 0 := by simpa using hn
    omega
  · simp only [Value.slice.injEq, true_and] at hv
    obtain ⟨rfl, rfl⟩ := hv
    have e : Option.map (fun x : Addr => x.add n) (some ⟨g, off, none⟩) = some ⟨g, off + n, none⟩ := by rw [Option.map_some, Addr.add_lit]
    rw [e]
    refine ⟨Or.inr ⟨g, off + n, cap - n, by rw [List.length_drop], hg, by rw [List.length_drop]; omega, by omega, fun i x hx => ?_, fun i hi => ?_, fun i hi => ?_⟩, rfl⟩
    · rw [List.getElem?_drop] at hx
      rw [Nat.add_assoc]; exact hcc (n + i) x hx
    · rw [Nat.add_assoc]; exact ha (n + i) (by omega)
    · rw [Nat.add_assoc]; exact hf (n + i) (by omega)
theorem IsRowB.drop_all {w : World} {a : Option Addr} {cap : Nat} {l : List UInt8} (h : IsRowB w (.slice a l.length cap) l) (hl : l.length = cap) :
    IsRowB w (.slice a 0 0) (l.drop cap) ∧ (Value.slice a 0 0).ownBlock = (Value.slice a l.length cap).ownBlock := by
  rw [List.drop_of_length_le (by omega)]
  rcases h with ⟨hv, rfl⟩ | ⟨g, off, cap', hv, hg, hlc, hcm, hcc, ha, hf⟩
  · cases hv
    exact ⟨Or.inl ⟨rfl, rfl⟩, rfl⟩
  · simp only [Value.slice.injEq, true_and] at hv
    obtain ⟨rfl, rfl⟩ := hv
    exact ⟨Or.inr ⟨g, off, 0, rfl, hg, Nat.le_refl _, by decide, fun i x hx => by simp at hx, fun i hi => by omega, fun i hi => by omega⟩, rfl⟩
/-- A reader whose first fields were written. -/
theorem IsReader.dropped {w : World} {b : Nat} {v : Value} {l : List UInt8} {dr sp p : Nat} (h : IsReader w b v l dr sp p) (n m : Nat) (v1 : Value) (hr : IsRowB w v1 (l.drop n)) (ho : v1.ownBlock = v.ownBlock) (hn : n ≤ l.length) (hp : 8 * (dr + n) ≤ p) :
    IsReader ((((w.drewN m).setCell ⟨b, 0, none⟩ v1).setCell ⟨b, 1, none⟩ (.int .i64 ((dr : Int) + (n : Int)))).setCell ⟨b, 2, none⟩ (.int .i64 ((sp : Int) + (n : Int)))) b v1 (l.drop n) (dr + n) (sp + n) p ∧
    Touch (· = b) w ((((w.drewN m).setCell ⟨b, 0, none⟩ v1).setCell ⟨b, 1, none⟩ (.int .i64 ((dr : Int) + (n : Int)))).setCell ⟨b, 2, none⟩ (.int .i64 ((sp : Int) + (n : Int)))) := by
  have h0 : (w.drewN m).heap[b]? = some (.cells #[v, .int .i64 (dr : Int), .int .i64 (sp : Int), .int .i64 (p : Int)] 91 (0, 0)) := h.1
  have h1 := heap_setCell_same _ _ 0 _ _ v1 h0
  have h2 := heap_setCell_same _ _ 1 _ _ (.int .i64 ((dr : Int) + (n : Int))) h1
  have h3 := heap_setCell_same _ _ 2 _ _ (.int .i64 ((sp : Int) + (n : Int))) h2
  have ht : Touch (· = b) w ((((w.drewN m).setCell ⟨b, 0, none⟩ v1).setCell ⟨b, 1, none⟩ (.int .i64 ((dr : Int) + (n : Int)))).setCell ⟨b, 2, none⟩ (.int .i64 ((sp : Int) + (n : Int)))) :=
    Touch.setCell (S := (· = b)) (Touch.setCell (S := (· = b)) (Touch.setCell (S := (· = b)) (touch_drewN _ w m) (Or.inl rfl) _) (Or.inl rfl) _) (Or.inl rfl) _
  have hne : ∀ k, v1.ownBlock = some k → b ≠ k := fun k hk => h.2.2.1 k (ho ▸ hk)
  refine ⟨⟨h3, hr.other (fun k hk => ht.block k (hr.lt k hk) (fun e => hne k hk e.symm)), hne, hp, ?_⟩, ht⟩
  have := h.2.2.2.2
  rw [List.length_drop]; omega
theorem IsReader.copied {w w5 : World} {b : Nat} {v v2 : Value} {l : List UInt8} {dr sp p : Nat} (h : IsReader w b v l dr sp p) (h5 : w5.heap[b]? = w.heap[b]?) (hr : IsRowB w5 v2 l) (hne : ∀ k, v2.ownBlock = some k → b ≠ k) :
    IsReader ((w5.setCell ⟨b, 0, none⟩ v2).setCell ⟨b, 2, none⟩ (.int .i64 0)) b v2 l dr 0 p ∧ Touch (· = b) w5 ((w5.setCell ⟨b, 0, none⟩ v2).setCell ⟨b, 2, none⟩ (.int .i64 0)) := by
  have h1 := heap_setCell_same _ _ 0 _ _ v2 (h5.trans h.1)
  have h2 := heap_setCell_same _ _ 2 _ _ (.int .i64 0) h1
  have ht : Touch (· = b) w5 ((w5.setCell ⟨b, 0, none⟩ v2).setCell ⟨b, 2, none⟩ (.int .i64 0)) :=
    Touch.setCell (S := (· = b)) (Touch.setCell (S := (· = b)) (Touch.refl _ w5) (Or.inl rfl) _) (Or.inl rfl) _
  exact ⟨⟨h2, hr.other (fun k hk => ht.block k (hr.lt k hk) (fun e => hne k hk e.symm)), hne, h.2.2.2.1, h.2.2.2.2⟩, ht⟩
end Go.Proofs.YtnachbjhhpnadaaGreatDoor

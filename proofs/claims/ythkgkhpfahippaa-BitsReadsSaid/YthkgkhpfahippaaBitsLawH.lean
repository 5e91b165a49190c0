/-
  LAYER 1's STATEMENTS: what an operation makes of a reader (1.2, 1.3): kind 1, more bytes.
-/
import Derived.Test.YthkgkhpfahippaaBitsLawG
import Derived.Deep.RegionHeld3
namespace Go.Proofs.Ythkgkhpfahippaa
open Go.RowKit BitM
set_option linter.unusedVariables false
/-- Three stores into a block leave another block's cells. -/
theorem cell_set3 {w : World} {g : Nat} {x y z : Value} {k o : Nat} {v : Option Value} (h : k ≠ g) (hv : w.cell? ⟨k, o, none⟩ = v) :
    (((w.setCell ⟨g, 0, none⟩ x).setCell ⟨g, 1, none⟩ y).setCell ⟨g, 2, none⟩ z).drew.cell? ⟨k, o, none⟩ = v := by
  rw [← hv]
  show World.cell? (((w.setCell ⟨g, 0, none⟩ x).setCell ⟨g, 1, none⟩ y).setCell ⟨g, 2, none⟩ z) ⟨k, o, none⟩ = w.cell? ⟨k, o, none⟩
  unfold World.cell?
  rw [heap_setCell_other _ _ _ _ h, heap_setCell_other _ _ _ _ h, heap_setCell_other _ _ _ _ h]
/-- Three stores into the block of a result: what is behind them. -/
theorem store3 {w wk : World} {g b t : Nat} {S : Nat → Prop} {x0 y0 z0 v : Value} {l : List UInt8} {dr sp p : Nat} (x y z : Value) (hX : wk.heap[g]? = some (.cells #[x0, y0, z0] t)) (hR : IsReader wk b v l dr sp p)
    (hne : ∀ k, foot b v k → k ≠ g) (hW : Touch S w wk) (hB : w.heap.size ≤ g) :
    (((wk.setCell ⟨g, 0, none⟩ x).setCell ⟨g, 1, none⟩ y).setCell ⟨g, 2, none⟩ z).heap[g]? = some (.cells #[x, y, z] t) ∧ IsReader (((wk.setCell ⟨g, 0, none⟩ x).setCell ⟨g, 1, none⟩ y).setCell ⟨g, 2, none⟩ z) b v l dr sp p ∧
      Touch S w (((wk.setCell ⟨g, 0, none⟩ x).setCell ⟨g, 1, none⟩ y).setCell ⟨g, 2, none⟩ z) := by
  have hlt := (Array.getElem?_eq_some_iff.1 hX).1
  have ht : Touch (· = g) wk (((wk.setCell ⟨g, 0, none⟩ x).setCell ⟨g, 1, none⟩ y).setCell ⟨g, 2, none⟩ z) :=
    (((Touch.refl (· = g) wk).setCell (p := ⟨g, 0, none⟩) (Or.inl rfl) x).setCell (p := ⟨g, 1, none⟩) (Or.inl rfl) y).setCell (p := ⟨g, 2, none⟩) (Or.inl rfl) z
  refine ⟨?_, hR.other ht hne, hW.trans ht (fun i hi => Or.inr (by omega))⟩
  exact heap_setCell_same _ _ 2 _ _ _ (heap_setCell_same _ _ 1 _ _ _ (heap_setCell_same _ _ 0 _ _ _ hX))
set_option maxRecDepth 100000 in
set_option maxHeartbeats 2000000 in
theorem step_more (T : List UInt8) (o : OpR) (b : Nat) (v : Value) (dr sp p : Nat) (w : World) (h : IsReader w b v (T.drop dr) dr sp p) (hok : o.Ok) (hS : o.S.size ≤ 100) (hT : T.length ≤ 1000000) (hd : dr ≤ T.length) (hsp : sp ≤ dr) (hK : o.K = 1) :
    Calls Try.prog 29 #[.agg #[.string (txt (bitsOf T)), .int .i64 (p : Int), .int .i64 (dr : Int)], .pointer (some ⟨b, 0, none⟩), .agg #[.int .i64 o.K, .int .i64 o.N, .int .u32 (o.V : Int), .string o.S]] w fun e w' =>
      ∃ (T1 : List UInt8) (p1 dr1 sp1 : Nat) (v1 : Value), e = .returned (.tuple #[.agg #[.string (txt (bitsOf T1)), .int .i64 (p1 : Int), .int .i64 (dr1 : Int)], .bool true]) ∧ IsReader w' b v1 (T1.drop dr1) dr1 sp1 p1 ∧ dr1 ≤ T1.length ∧ sp1 ≤ dr1 ∧ T1.length ≤ T.length + 100 ∧ Touch (foot b v) w w' ∧ (∀ k, foot b v1 k → foot b v k ∨ w.heap.size ≤ k) := by
  have H := Lib.hid h
  clear h
  rw [hK]
  go_enter Try.func29, Try.ntmps29
  go_wp2_with fail
  refine (more_any b v (T.drop dr) dr sp p o.S _ (H.out.other ((((Touch.refl (fun _ => False) w).alloc _).alloc _).alloc _) (fun _ _ h => h)) (by simp; omega)).mono ?_
  rintro e w2 ⟨rfl, v2, hr2, ht2, ho2⟩
  obtain ⟨x0, x1, x2⟩ := boxes ht2 (fun k hk => H.out.lt k hk)
  have d0 : w2.cell? ⟨w.heap.size, 0, none⟩ = some (.string (txt (bitsOf T))) := by rw [cell_of_row _ _ _ _ _ _ x0]; rfl
  have d1 : w2.cell? ⟨w.heap.size, 1, none⟩ = some (.int .i64 (p : Int)) := by rw [cell_of_row _ _ _ _ _ _ x0]; rfl
  have d2 : w2.cell? ⟨w.heap.size, 2, none⟩ = some (.int .i64 (dr : Int)) := by rw [cell_of_row _ _ _ _ _ _ x0]; rfl
  have e3 : w2.cell? ⟨w.heap.size + 1, 3, none⟩ = some (.string o.S) := by rw [cell_of_row _ _ _ _ _ _ x1]; rfl
  have g0 : w2.cell? ⟨w.heap.size + 1 + 1, 0, none⟩ = some (.string ⟨#[]⟩) := by rw [cell_of_row _ _ _ _ _ _ x2]; rfl
  have g1 : w2.cell? ⟨w.heap.size + 1 + 1, 1, none⟩ = some (.int .i64 0) := by rw [cell_of_row _ _ _ _ _ _ x2]; rfl
  have g2 : w2.cell? ⟨w.heap.size + 1 + 1, 2, none⟩ = some (.int .i64 0) := by rw [cell_of_row _ _ _ _ _ _ x2]; rfl
  have f0 : ∀ j, w2.frozen? ⟨w.heap.size + 1 + 1, j, none⟩ = false := fun j => frozen_of_row _ _ _ _ _ x2
  have f00 := f0 0
  have f01 := f0 1
  have f02 := f0 2
  have R2 := Lib.hid hr2
  have X2 := Lib.hid x2
  have T2 := Lib.hid ht2
  have O2 := Lib.hid ho2
  clear hr2 x0 x1 x2 ht2 ho2 f0
  have hsz : (txt (bitsOf T)).size + (txt (bitsOf o.S.data.toList)).size ≤ 1099511627776 := by
    rw [txt_size, txt_size, bitsOf_length, bitsOf_length]
    have : o.S.data.toList.length = o.S.size := rfl
    omega
  have HAP := Lib.hid (show txt (bitsOf T) ++ txt (bitsOf o.S.data.toList) = txt (bitsOf (T ++ o.S.data.toList)) by rw [txt_append, bitsOf_append])
  have hcat : ∀ W, (Op.stringOp .add (txt (bitsOf T)) (txt (bitsOf o.S.data.toList))).run Try.prog W = .ok (.string (txt (bitsOf T) ++ txt (bitsOf o.S.data.toList))) W := fun W => by
    rw [run_string_add_if, if_neg (by omega)]
  clear hsz hK
  go_wp2_with fail
  generalize hG : w.heap.size = G at *
  have hg0 : ¬ (G = G + 1 + 1) := by omega
  have hg1 : ¬ (G + 1 = G + 1 + 1) := by omega
  have hs : ∀ x y z, (∀ o v, w2.cell? ⟨G, o, none⟩ = v → (((w2.setCell ⟨G + 1 + 1, 0, none⟩ x).setCell ⟨G + 1 + 1, 1, none⟩ y).setCell ⟨G + 1 + 1, 2, none⟩ z).drew.cell? ⟨G, o, none⟩ = v) ∧ (∀ o v, w2.cell? ⟨G + 1, o, none⟩ = v → (((w2.setCell ⟨G + 1 + 1, 0, none⟩ x).setCell ⟨G + 1 + 1, 1, none⟩ y).setCell ⟨G + 1 + 1, 2, none⟩ z).drew.cell? ⟨G + 1, o, none⟩ = v) := fun x y z => ⟨fun o v h => cell_set3 hg0 h, fun o v h => cell_set3 hg1 h⟩
  go_region_held3 (fun W => W.cell? ⟨G, 0, none⟩ = some (.string (txt (bitsOf T))) ∧ W.cell? ⟨G, 1, none⟩ = some (.int .i64 (p : Int)) ∧ W.cell? ⟨G, 2, none⟩ = some (.int .i64 (dr : Int)) ∧ W.cell? ⟨G + 1, 3, none⟩ = some (.string o.S)) (first | go_keep | exact ⟨(hs _ _ _).1 _ _ d0, (hs _ _ _).1 _ _ d1, (hs _ _ _).1 _ _ d2, (hs _ _ _).2 _ _ e3⟩ | (exfalso; trace_state; exact hs))
    (first | (go_at_call 28; refine (bitsTxt_any o.S _ (by omega)).mono ?_; rintro e w' ⟨rfl, rfl⟩))
  have hgb : b < G := by have := H.out.lt b (Or.inl rfl); omega
  have hne : ∀ k, foot b v2 k → k ≠ G + 1 + 1 := fun k hk e => by
    subst e
    rcases hk with hk | hk
    · omega
    · rcases O2.out _ hk with h1 | h1
      · have := H.out.lt _ (Or.inr h1); omega
      · simp at h1; omega
  have hge : ∀ k, foot b v2 k → foot b v k ∨ w.heap.size ≤ k := fun k hk => by
    rcases hk with hk | hk
    · exact Or.inl (Or.inl hk)
    · rcases O2.out _ hk with h1 | h1
      · exact Or.inl (Or.inr h1)
      · simp at h1; exact Or.inr (by omega)
  have hW : Touch (foot b v) w w2 := ((((Touch.refl _ _).alloc _).alloc _).alloc _).trans T2.out (fun _ h => Or.inl h)
  obtain ⟨hz1, hz2, hz3⟩ := store3 (w := w) (.string (txt (bitsOf T) ++ txt (bitsOf o.S.data.toList))) (.int .i64 (p : Int)) (.int .i64 (dr : Int)) X2.out R2.out hne hW (by omega)
  generalize ((w2.setCell ⟨G + 1 + 1, 0, none⟩ (Value.string (txt (bitsOf T) ++ txt (bitsOf o.S.data.toList)))).setCell ⟨G + 1 + 1, 1, none⟩ (.int .i64 (p : Int))).setCell ⟨G + 1 + 1, 2, none⟩ (.int .i64 (dr : Int)) = W3 at *
  have Z1 := Lib.hid hz1
  have Z2 := Lib.hid hz2
  have Z3 := Lib.hid hz3
  clear hz1 hz2 hz3 hs
  have r0 : W3.drew.cell? ⟨G + 1 + 1, 0, none⟩ = some (.string (txt (bitsOf T) ++ txt (bitsOf o.S.data.toList))) := (cell_of_row _ _ _ _ _ _ Z1.out).trans rfl
  have r1 : W3.drew.cell? ⟨G + 1 + 1, 1, none⟩ = some (.int .i64 (p : Int)) := (cell_of_row _ _ _ _ _ _ Z1.out).trans rfl
  have r2 : W3.drew.cell? ⟨G + 1 + 1, 2, none⟩ = some (.int .i64 (dr : Int)) := (cell_of_row _ _ _ _ _ _ Z1.out).trans rfl
  go_wp2_with fail
  refine bodyPost_ret (v := .tuple #[.agg #[.string (txt (bitsOf T) ++ txt (bitsOf o.S.data.toList)), .int .i64 (p : Int), .int .i64 (dr : Int)], .bool true]) (by simp [results, Try.results29, go_sem, r0, r1, r2]) rfl ⟨T ++ o.S.data.toList, p, dr, sp, v2, ?_, ?_⟩
  · rw [HAP.out]
  · rw [List.drop_append_of_le_length hd]
    have e : o.S.data.toList.length = o.S.size := rfl
    exact ⟨Z2.out.drewN 1, by simp; omega, hsp, by simp; omega, Z3.out.drew, hge⟩
end Go.Proofs.Ythkgkhpfahippaa

/-
  LAYER 1's STATEMENTS: what an operation makes of a reader (1.2, 1.3): step_drop.
-/
import Derived.Test.YthkgkhpfahippaaBitsS0
namespace Go.Proofs.Ythkgkhpfahippaa
open Go.RowKit BitM
set_option linter.unusedVariables false
set_option maxRecDepth 100000 in
set_option maxHeartbeats 2000000 in
theorem step_drop (T : List UInt8) (o : OpR) (b : Nat) (v : Value) (dr sp p : Nat) (w : World) (h : IsReader w b v (T.drop dr) dr sp p) (hok : o.Ok) (hT : T.length ≤ 1000000) (hd : dr ≤ T.length) (hsp : sp ≤ dr) (hK : o.K = 4) :
    Calls Try.prog 29 #[.agg #[.string (txt (bitsOf T)), .int .i64 (p : Int), .int .i64 (dr : Int)], .pointer (some ⟨b, 0, none⟩), .agg #[.int .i64 o.K, .int .i64 o.N, .int .u32 (o.V : Int), .string o.S]] w fun e w' =>
      StepP T b v w e w' := by
  have hp1 := h.2.2.2.1
  have hp2 : p ≤ 8 * T.length := by have := h.2.2.2.2; simp only [List.length_drop] at this; omega
  have H := Lib.hid h
  have hts : (txt (bitsOf T)).size = 8 * T.length := by rw [txt_size, bitsOf_length]
  clear h
  rw [hK]
  obtain ⟨n, hn⟩ : ∃ n, n = p / 8 - dr := ⟨_, rfl⟩
  have hnn : (p : Int) / 8 - (dr : Int) = (n : Int) := by omega
  have hp0 : (0 : Int) ≤ (p : Int) / 8 := by omega
  have hp8 : (p : Int) / 8 ≤ 1000000 := by omega
  have hn1 : dr + n = p / 8 := by omega
  have hwn : IntKind.i64.wrap (n : Int) = (n : Int) := IntWalk.i64_in _ (by omega)
  have HN := Lib.hid hn
  have HN1 := Lib.hid hn1
  clear hn hn1
  go_enter Try.func29, Try.ntmps29
  go_wp2_with fail
  refine (drop_any b v (T.drop dr) dr sp p n _ (H.out.other ((((Touch.refl (fun _ => False) w).alloc _).alloc _).alloc _) (fun _ _ h => h)) (by simp; omega) hsp HN.out).mono ?_
  rintro e w2 ⟨rfl, v2, sp2, hr2, hsp2, ht2, ho2⟩
  have hS2 : ∀ k, foot b v k → k < w.heap.size := H.out.lt
  have hSB : ∀ k, foot b v k → foot b v k := fun k hk => hk
  have hne : ∀ k, foot b v2 k → k ≠ w.heap.size + 1 + 1 := fun k hk e => by
    subst e
    rcases hk with hk | hk
    · have := H.out.lt b (Or.inl rfl); omega
    · rcases ho2 _ hk with h1 | h1
      · have := H.out.lt _ (Or.inr h1); omega
      · simp at h1; omega
  have hge : ∀ k, foot b v2 k → foot b v k ∨ w.heap.size ≤ k := fun k hk => by
    rcases hk with hk | hk
    · exact Or.inl (Or.inl hk)
    · rcases ho2 _ hk with h1 | h1
      · exact Or.inl (Or.inr h1)
      · simp at h1; exact Or.inr (by omega)
  clear ho2
  obtain ⟨x0, x1, x2⟩ := boxes ht2 (fun k hk => hS2 k hk)
  have d0 : w2.cell? ⟨w.heap.size, 0, none⟩ = some (.string (txt (bitsOf T))) := (cell_of_row _ _ _ _ _ _ x0).trans rfl
  have d1 : w2.cell? ⟨w.heap.size, 1, none⟩ = some (.int .i64 (p : Int)) := (cell_of_row _ _ _ _ _ _ x0).trans rfl
  have d2 : w2.cell? ⟨w.heap.size, 2, none⟩ = some (.int .i64 (dr : Int)) := (cell_of_row _ _ _ _ _ _ x0).trans rfl
  have e1 : w2.cell? ⟨w.heap.size + 1, 1, none⟩ = some (.int .i64 o.N) := (cell_of_row _ _ _ _ _ _ x1).trans rfl
  have g0 : w2.cell? ⟨w.heap.size + 1 + 1, 0, none⟩ = some (.string ⟨#[]⟩) := (cell_of_row _ _ _ _ _ _ x2).trans rfl
  have g1 : w2.cell? ⟨w.heap.size + 1 + 1, 1, none⟩ = some (.int .i64 0) := (cell_of_row _ _ _ _ _ _ x2).trans rfl
  have g2 : w2.cell? ⟨w.heap.size + 1 + 1, 2, none⟩ = some (.int .i64 0) := (cell_of_row _ _ _ _ _ _ x2).trans rfl
  have f0 : ∀ j, w2.frozen? ⟨w.heap.size + 1 + 1, j, none⟩ = false := fun j => frozen_of_row _ _ _ _ _ x2
  have f00 := f0 0
  have f01 := f0 1
  have f02 := f0 2
  have R2 := Lib.hid hr2
  have X2 := Lib.hid x2
  have X0 := Lib.hid x0
  have X1 := Lib.hid x1
  have hlt2 : w.heap.size + 1 + 1 < w2.heap.size := (Array.getElem?_eq_some_iff.1 x2).1
  have hW : Touch (foot b v) w w2 := ((((Touch.refl _ _).alloc _).alloc _).alloc _).trans ht2 (fun k hk => Or.inl (hSB k hk))
  have W2 := Lib.hid hW
  have HNE := Lib.hid hne
  have HGE := Lib.hid hge
  clear hr2 x0 x1 x2 ht2 f0 hW hS2 hSB hne hge
  have hn1 := HN1.out
  have hwp : IntKind.i64.wrap ((p : Int) / 8) = (p : Int) / 8 := IntWalk.i64_in _ (by omega)
  have hg0 : ¬ (w.heap.size = w.heap.size + 1 + 1) := by omega
  have hs : ∀ x y z o v, w2.cell? ⟨w.heap.size, o, none⟩ = v → (((w2.setCell ⟨w.heap.size + 1 + 1, 0, none⟩ x).setCell ⟨w.heap.size + 1 + 1, 1, none⟩ y).setCell ⟨w.heap.size + 1 + 1, 2, none⟩ z).drew.cell? ⟨w.heap.size, o, none⟩ = v := fun x y z o v h => cell_set3 hg0 h
  have R3 := Lib.hid (show IsReader w2 b v2 (T.drop (dr + n)) (dr + n) sp2 p from by have h := R2.out; rw [List.drop_drop] at h; first | exact h | (rw [Nat.add_comm n dr] at h; exact h))
  obtain ⟨hz, r0, r1, r2⟩ := step_post (T := T) (w := w) (PI := (p : Int)) (DI := (p : Int) / 8) X2.out R3.out HNE.out HGE.out W2.out (by omega) rfl (by omega) (by omega) hsp2 (by omega)
  have HZ := Lib.hid hz
  have HR := Lib.hid (And.intro r0 (And.intro r1 r2))
  clear hz r0 r1 r2
  clear hn1
  go_wp2_with fail
  go_region_held3 (fun W => W.cell? ⟨w.heap.size, 0, none⟩ = some (.string (txt (bitsOf T))) ∧ W.cell? ⟨w.heap.size, 1, none⟩ = some (.int .i64 (p : Int)) ∧ W.cell? ⟨w.heap.size, 2, none⟩ = some (.int .i64 (dr : Int)))
    (first | go_keep | exact ⟨hs _ _ _ _ _ d0, hs _ _ _ _ _ d1, hs _ _ _ _ _ d2⟩) (fail)
  go_wp2_with fail
  have hz := HZ.out
  obtain ⟨r0, r1, r2⟩ := HR.out
  clear hs HZ HR
  rename_i hhld
  clear hhld
  generalize (((w2.setCell ⟨w.heap.size + 1 + 1, 0, none⟩ (.string (txt (bitsOf T)))).setCell ⟨w.heap.size + 1 + 1, 1, none⟩ (.int .i64 (p : Int))).setCell ⟨w.heap.size + 1 + 1, 2, none⟩ (.int .i64 ((p : Int) / 8))) = W3 at hz r0 r1 r2 ⊢
  have s0 : W3.drew.cell? ⟨w.heap.size + 1 + 1, 0, none⟩ = _ := r0
  have s1 : W3.drew.cell? ⟨w.heap.size + 1 + 1, 1, none⟩ = _ := r1
  have s2 : W3.drew.cell? ⟨w.heap.size + 1 + 1, 2, none⟩ = _ := r2
  exact bodyPost_ret (v := .tuple #[.agg #[.string (txt (bitsOf T)), .int .i64 (p : Int), .int .i64 ((p : Int) / 8)], .bool true]) (by simp [results, Try.results29, go_sem, s0, s1, s2]) rfl hz.drew
end Go.Proofs.Ythkgkhpfahippaa

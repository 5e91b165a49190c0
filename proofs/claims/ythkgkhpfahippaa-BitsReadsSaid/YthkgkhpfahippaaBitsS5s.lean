/-
  LAYER 1's STATEMENTS: what an operation makes of a reader (1.2, 1.3): step_short.
-/
import Derived.Test.YthkgkhpfahippaaBitsS0
namespace Go.Proofs.Ythkgkhpfahippaa
open Go.RowKit BitM
set_option linter.unusedVariables false
set_option maxRecDepth 100000 in
set_option maxHeartbeats 2000000 in
theorem step_short (T : List UInt8) (o : OpR) (b : Nat) (v : Value) (dr sp p : Nat) (w : World) (h : IsReader w b v (T.drop dr) dr sp p) (hok : o.Ok) (hT : T.length ≤ 1000000) (hd : dr ≤ T.length) (hsp : sp ≤ dr) (hK1 : ¬ o.K = 1) (hK2 : ¬ o.K = 2) (hK3 : ¬ o.K = 3) (hK4 : ¬ o.K = 4) (n : Nat) (hN : o.N = (n : Int)) (hn : n ≤ 32) (hp : 8 * T.length < p + n) :
    Calls Try.prog 29 #[.agg #[.string (txt (bitsOf T)), .int .i64 (p : Int), .int .i64 (dr : Int)], .pointer (some ⟨b, 0, none⟩), .agg #[.int .i64 o.K, .int .i64 o.N, .int .u32 (o.V : Int), .string o.S]] w fun e w' =>
      StepP T b v w e w' := by
  have hp1 := h.2.2.2.1
  have hp2 : p ≤ 8 * T.length := by have := h.2.2.2.2; simp only [List.length_drop] at this; omega
  have H := Lib.hid h
  have hts : (txt (bitsOf T)).size = 8 * T.length := by rw [txt_size, bitsOf_length]
  clear h
  have k1 : (o.K == 1) = false := by simpa using hK1
  have k2 : (o.K == 2) = false := by simpa using hK2
  have k3 : (o.K == 3) = false := by simpa using hK3
  have k4 : (o.K == 4) = false := by simpa using hK4
  obtain ⟨L, hL⟩ : ∃ L, 8 * T.length - p = L := ⟨_, rfl⟩
  have hAL : ((txt (bitsOf T)).size : Int) - (p : Int) = (L : Int) := by omega
  have hLb : (L : Int) ≤ 8796093022208 := by omega
  rw [hN]
  go_enter Try.func29, Try.ntmps29
  go_wp2_with fail
  refine (get_short b v (T.drop dr) dr sp p n _ (H.out.other ((((Touch.refl (fun _ => False) w).alloc _).alloc _).alloc _) (fun _ _ h => h)) (by simp; omega) hn (by simp only [List.length_drop]; omega)).mono ?_
  rintro e w2 ⟨rfl, m, hm⟩
  have hr2 : IsReader w2 b v (T.drop dr) dr sp p := by rw [hm]; exact ((H.out.other ((((Touch.refl (fun _ => False) w).alloc _).alloc _).alloc _) (fun _ _ h => h))).drewN m
  have ht2 : Touch (fun _ => False) (((w.alloc (.cells #[.string (txt (bitsOf T)), .int .i64 (p : Int), .int .i64 (dr : Int)] 40)).alloc (.cells #[.int .i64 o.K, .int .i64 (n : Int), .int .u32 (o.V : Int), .string o.S] 29)).alloc (.cells #[.string ⟨#[]⟩, .int .i64 0, .int .i64 0] 40)) w2 := by rw [hm]; exact ⟨rfl, rfl, rfl, Nat.le_refl _, fun _ _ _ => rfl⟩
  clear hm
  have hS2 : ∀ k, (fun _ => False) k → k < w.heap.size := fun k hk => hk.elim
  have hSB : ∀ k, (fun _ => False) k → foot b v k := fun k hk => hk.elim
  have hne : ∀ k, foot b v k → k ≠ w.heap.size + 1 + 1 := fun k hk e => by have := H.out.lt k hk; omega
  have hge : ∀ k, foot b v k → foot b v k ∨ w.heap.size ≤ k := fun k hk => Or.inl hk
  obtain ⟨x0, x1, x2⟩ := boxes ht2 (fun k hk => hS2 k hk)
  have d0 : w2.cell? ⟨w.heap.size, 0, none⟩ = some (.string (txt (bitsOf T))) := (cell_of_row _ _ _ _ _ _ x0).trans rfl
  have d1 : w2.cell? ⟨w.heap.size, 1, none⟩ = some (.int .i64 (p : Int)) := (cell_of_row _ _ _ _ _ _ x0).trans rfl
  have d2 : w2.cell? ⟨w.heap.size, 2, none⟩ = some (.int .i64 (dr : Int)) := (cell_of_row _ _ _ _ _ _ x0).trans rfl
  have e1 : w2.cell? ⟨w.heap.size + 1, 1, none⟩ = some (.int .i64 (n : Int)) := (cell_of_row _ _ _ _ _ _ x1).trans rfl
  have g0 : w2.cell? ⟨w.heap.size + 1 + 1, 0, none⟩ = some (.string ⟨#[]⟩) := (cell_of_row _ _ _ _ _ _ x2).trans rfl
  have g1 : w2.cell? ⟨w.heap.size + 1 + 1, 1, none⟩ = some (.int .i64 0) := (cell_of_row _ _ _ _ _ _ x2).trans rfl
  have g2 : w2.cell? ⟨w.heap.size + 1 + 1, 2, none⟩ = some (.int .i64 0) := (cell_of_row _ _ _ _ _ _ x2).trans rfl
  have f0 : ∀ j, w2.frozen? ⟨w.heap.size + 1 + 1, j, none⟩ = false := fun j => frozen_of_row _ _ _ _ _ x2
  have f00 := f0 0
  have f01 := f0 1
  have f02 := f0 2
  have R2 := Lib.hid hr2
  have X2 := Lib.hid x2
  have X0 := Lib.hid x0
  have X1 := Lib.hid x1
  have hlt2 : w.heap.size + 1 + 1 < w2.heap.size := (Array.getElem?_eq_some_iff.1 x2).1
  have hW : Touch (foot b v) w w2 := ((((Touch.refl _ _).alloc _).alloc _).alloc _).trans ht2 (fun k hk => Or.inl (hSB k hk))
  have W2 := Lib.hid hW
  have HNE := Lib.hid hne
  have HGE := Lib.hid hge
  clear hr2 x0 x1 x2 ht2 f0 hW hS2 hSB hne hge
  go_wp2_with fail
  all_goals try (exfalso; omega)
  all_goals
    obtain ⟨hz, r0, r1, r2⟩ := step_post (T := T) (w := w) (PI := (p : Int)) (DI := (dr : Int)) X2.out R2.out HNE.out HGE.out W2.out (by omega) rfl rfl hd hsp (by omega)
    generalize (((w2.setCell ⟨w.heap.size + 1 + 1, 0, none⟩ (.string (txt (bitsOf T)))).setCell ⟨w.heap.size + 1 + 1, 1, none⟩ (.int .i64 (p : Int))).setCell ⟨w.heap.size + 1 + 1, 2, none⟩ (.int .i64 (dr : Int))) = W3 at hz r0 r1 r2 ⊢
    exact bodyPost_ret (v := .tuple #[.agg #[.string (txt (bitsOf T)), .int .i64 (p : Int), .int .i64 (dr : Int)], .bool true]) (by simp [results, Try.results29, go_sem, r0, r1, r2]) rfl hz
end Go.Proofs.Ythkgkhpfahippaa

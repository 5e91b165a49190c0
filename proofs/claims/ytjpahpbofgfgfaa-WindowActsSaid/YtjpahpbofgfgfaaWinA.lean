/-
  LAYER 28 (package window): a meter's object; what nil answers; small parts.
-/
import Derived.Test.YtjpahpbofgfgfaaLedB
import Derived.Test.YtjpahpbofgfgfaaClone
import Derived.Deep.RegionHeld3
namespace Go.Proofs.Ytjpahpbofgfgfaa
open Go.RowKit
set_option linter.unusedVariables false
set_option linter.unusedSimpArgs false
set_option maxHeartbeats 1000000 in
theorem wdnum_any (n : Int) (w : World) : Calls Try.prog 50 #[.int .i64 n] w fun e w' => e = .returned (.bool (decide (lgIs n))) ∧ w' = w := by
  by_cases h0 : 0 ≤ n
  · have g0 : n ≥ 0 := h0
    by_cases h1 : n ≤ 1099511627776
    · rw [decide_eq_true (show lgIs n from ⟨h0, h1⟩)]
      go_enter Try.func50, Try.ntmps50
      go_wp2_with fail
      go_ret
      exact ⟨rfl, rfl⟩
    · rw [decide_eq_false (show ¬ lgIs n from fun h => h1 h.2)]
      go_enter Try.func50, Try.ntmps50
      go_wp2_with fail
      go_ret
      exact ⟨by simp, rfl⟩
  · have g0 : ¬ n ≥ 0 := h0
    rw [decide_eq_false (show ¬ lgIs n from fun h => h0 h.1)]
    go_enter Try.func50, Try.ntmps50
    go_wp2_with fail
    go_ret
    exact ⟨by simp, rfl⟩
theorem wdbad_enters : ∀ args w, (callFunc 49 args).run Try.prog w = .ok (.enter 49 args) w := enters_of Try.func49 (by kernel_rfl) rfl
set_option maxHeartbeats 1000000 in
theorem wdbad_any (n : Int) (w : World) : Calls Try.prog 49 #[.int .i64 n] w fun e w' => e = .returned (.bool (lgBad n)) ∧ w' = w := by
  have H := Lib.hid (wdnum_any n w)
  unfold lgBad
  generalize decide (lgIs n) = b at *
  go_enter Try.func49, Try.ntmps49
  go_wp2_with fail
  refine H.out.mono ?_
  rintro e w1 ⟨rfl, rfl⟩
  go_wp2_with fail
  go_ret
  exact ⟨rfl, rfl⟩
/-! ### The object -/
def mtF (S A : Int) (v : Value) (C D : Nat → Int) (k : Nat) : Value :=
  if k = 0 then .int .i64 S else if k = 1 then .int .i64 A else if k = 2 then v else if k < 19 then .int .i64 (C (k - 3)) else .int .i64 (D (k - 19))
/-- Block b is a meter: span S, at A, quotas zs in the row v, charged C, ever D. -/
structure IsMt (B : Nat) (w : World) (b : Nat) (v : Value) (zs : List Int) (S A : Int) (C D : Nat → Int) : Prop where
  obj : w.heap[b]? = some (.cells (cellsF 35 (mtF S A v C D)) 79 (0, 0))
  row : OwnI w B v zs
  ne : v.ownBlock ≠ some b
  own : B ≤ b
section
variable {B : Nat} {w w' : World} {b : Nat} {v : Value} {zs : List Int} {S A : Int} {C D : Nat → Int}
theorem IsMt.lt (h : IsMt B w b v zs S A C D) : b < w.heap.size := (Array.getElem?_eq_some_iff.1 h.obj).1
theorem IsMt.far (h : IsMt B w b v zs S A C D) (hb : Below w.heap.size w w') : IsMt B w' b v zs S A C D := ⟨(hb.block b h.lt).trans h.obj, h.row.below hb, h.ne, h.own⟩
theorem IsMt.other {T : Nat → Prop} (h : IsMt B w b v zs S A C D) (ht : Touch T w w') (h1 : ¬ T b) (h2 : ∀ k, v.ownBlock = some k → ¬ T k) : IsMt B w' b v zs S A C D :=
  ⟨(ht.block b h.lt h1).trans h.obj, h.row.same (fun k hk => ht.block k (h.row.lt k hk).2 (h2 k hk)), h.ne, h.own⟩
theorem IsMt.cell (h : IsMt B w b v zs S A C D) {i : Nat} (hi : i < 35) : w.cell? ⟨b, i, none⟩ = some (mtF S A v C D i) := (cell_of_row _ _ _ _ _ _ h.obj).trans (cellsF_get _ _ hi)
theorem IsMt.frozen (h : IsMt B w b v zs S A C D) (i : Nat) : w.frozen? ⟨b, i, none⟩ = false := frozen_of_row _ _ _ _ _ h.obj
theorem IsMt.c0 (h : IsMt B w b v zs S A C D) : w.cell? ⟨b, 0, none⟩ = some (.int .i64 S) := h.cell (by omega)
theorem IsMt.c1 (h : IsMt B w b v zs S A C D) : w.cell? ⟨b, 1, none⟩ = some (.int .i64 A) := h.cell (by omega)
theorem IsMt.c2 (h : IsMt B w b v zs S A C D) : w.cell? ⟨b, 2, none⟩ = some v := h.cell (by omega)
theorem IsMt.cC (h : IsMt B w b v zs S A C D) {t : Nat} (ht : t < 16) : w.cell? ⟨b, 3 + t, none⟩ = some (.int .i64 (C t)) := by
  rw [h.cell (by omega)]
  unfold mtF
  rw [if_neg (by omega), if_neg (by omega), if_neg (by omega), if_pos (by omega), Nat.add_sub_cancel_left]
theorem IsMt.cD (h : IsMt B w b v zs S A C D) {t : Nat} (ht : t < 16) : w.cell? ⟨b, 19 + t, none⟩ = some (.int .i64 (D t)) := by
  rw [h.cell (by omega)]
  unfold mtF
  rw [if_neg (by omega), if_neg (by omega), if_neg (by omega), if_neg (by omega), Nat.add_sub_cancel_left]
theorem IsMt.setObj {S' A' : Int} {C' D' : Nat → Int} (h : IsMt B w b v zs S A C D) {W : World} (hT : Touch (· = b) w W) (ho : W.heap[b]? = some (.cells (cellsF 35 (mtF S' A' v C' D')) 79 (0, 0))) : IsMt B W b v zs S' A' C' D' :=
  ⟨ho, h.row.same (fun k hk => hT.block k (h.row.lt k hk).2 (fun e => h.ne (by have e : k = b := e; rw [hk, e]))), h.ne, h.own⟩
theorem IsMt.setAt (h : IsMt B w b v zs S A C D) (x : Int) : IsMt B (w.setCell ⟨b, 1, none⟩ (.int .i64 x)) b v zs S x C D := by
  refine h.setObj (touch_cell (Touch.refl _ _)) ?_
  have := heap_setCell_same w b 1 _ _ (.int .i64 x) h.obj
  rw [cellsF_set] at this
  rw [this]
  refine congrArg (fun F => some (Obj.cells (cellsF 35 F) 79 (0, 0))) (funext fun k => ?_)
  unfold upd mtF
  by_cases e : k = 1
  · subst e; rfl
  · simp only [if_neg e]
theorem IsMt.setC (h : IsMt B w b v zs S A C D) {t : Nat} (ht : t < 16) (x : Int) : IsMt B (w.setCell ⟨b, 3 + t, none⟩ (.int .i64 x)) b v zs S A (updI C t x) D := by
  refine h.setObj (touch_cell (Touch.refl _ _)) ?_
  have := heap_setCell_same w b (3 + t) _ _ (.int .i64 x) h.obj
  rw [cellsF_set] at this
  rw [this]
  refine congrArg (fun F => some (Obj.cells (cellsF 35 F) 79 (0, 0))) (funext fun k => ?_)
  unfold upd mtF updI
  by_cases e : k = 3 + t
  · subst e
    rw [if_pos rfl, if_neg (by omega), if_neg (by omega), if_neg (by omega), if_pos (by omega), if_pos (by omega)]
  · rw [if_neg e]
    by_cases e0 : k = 0
    · rw [if_pos e0, if_pos e0]
    · rw [if_neg e0, if_neg e0]
      by_cases e1 : k = 1
      · rw [if_pos e1, if_pos e1]
      · rw [if_neg e1, if_neg e1]
        by_cases e2 : k = 2
        · rw [if_pos e2, if_pos e2]
        · rw [if_neg e2, if_neg e2]
          by_cases e3 : k < 19
          · rw [if_pos e3, if_pos e3, if_neg (by omega)]
          · rw [if_neg e3, if_neg e3]
theorem IsMt.setD (h : IsMt B w b v zs S A C D) {t : Nat} (ht : t < 16) (x : Int) : IsMt B (w.setCell ⟨b, 19 + t, none⟩ (.int .i64 x)) b v zs S A C (updI D t x) := by
  refine h.setObj (touch_cell (Touch.refl _ _)) ?_
  have := heap_setCell_same w b (19 + t) _ _ (.int .i64 x) h.obj
  rw [cellsF_set] at this
  rw [this]
  refine congrArg (fun F => some (Obj.cells (cellsF 35 F) 79 (0, 0))) (funext fun k => ?_)
  unfold upd mtF updI
  by_cases e : k = 19 + t
  · subst e
    rw [if_pos rfl, if_neg (by omega), if_neg (by omega), if_neg (by omega), if_neg (by omega), if_pos (by omega)]
  · rw [if_neg e]
    by_cases e0 : k = 0
    · rw [if_pos e0, if_pos e0]
    · rw [if_neg e0, if_neg e0]
      by_cases e1 : k = 1
      · rw [if_pos e1, if_pos e1]
      · rw [if_neg e1, if_neg e1]
        by_cases e2 : k = 2
        · rw [if_pos e2, if_pos e2]
        · rw [if_neg e2, if_neg e2]
          by_cases e3 : k < 19
          · rw [if_pos e3, if_pos e3]
          · rw [if_neg e3, if_neg e3, if_neg (by omega)]
theorem IsMt.drewN (h : IsMt B w b v zs S A C D) (m : Nat) : IsMt B (w.drewN m) b v zs S A C D := ⟨h.obj, h.row.drewN m, h.ne, h.own⟩
theorem mtF_ext {C' D' : Nat → Int} (hC : ∀ t, t < 16 → C t = C' t) (hD : ∀ t, t < 16 → D t = D' t) : cellsF 35 (mtF S A v C D) = cellsF 35 (mtF S A v C' D') := by
  unfold cellsF
  congr 1
  refine List.map_congr_left fun k hk => ?_
  have hk' := List.mem_range.1 hk
  unfold mtF
  by_cases e0 : k = 0
  · rw [if_pos e0, if_pos e0]
  · rw [if_neg e0, if_neg e0]
    by_cases e1 : k = 1
    · rw [if_pos e1, if_pos e1]
    · rw [if_neg e1, if_neg e1]
      by_cases e2 : k = 2
      · rw [if_pos e2, if_pos e2]
      · rw [if_neg e2, if_neg e2]
        by_cases e3 : k < 19
        · rw [if_pos e3, if_pos e3, hC _ (by omega)]
        · rw [if_neg e3, if_neg e3, hD _ (by omega)]
end
/-- p is nil (and n is 0), or a meter of n tenants. -/
def MtV (B : Nat) (w : World) (p : Value) (n : Nat) : Prop := (p = .pointer none ∧ n = 0) ∨ ∃ b v zs S A C D, p = .pointer (some ⟨b, 0, none⟩) ∧ IsMt B w b v zs S A C D ∧ zs.length = n
section
variable {B n : Nat} {w w' : World} {b : Nat} {p v : Value} {zs : List Int} {S A : Int} {C D : Nat → Int}
theorem IsMt.mtV (h : IsMt B w b v zs S A C D) : MtV B w (.pointer (some ⟨b, 0, none⟩)) zs.length := Or.inr ⟨b, v, zs, S, A, C, D, rfl, h, rfl⟩
theorem MtV.nil (B : Nat) (w : World) : MtV B w (.pointer none) 0 := Or.inl ⟨rfl, rfl⟩
theorem MtV.far (h : MtV B w p n) (hb : Below w.heap.size w w') : MtV B w' p n := by
  rcases h with h | ⟨b, v, zs, S, A, C, D, rfl, h, hn⟩
  · exact Or.inl h
  · exact Or.inr ⟨b, v, zs, S, A, C, D, rfl, h.far hb, hn⟩
set_option maxHeartbeats 1000000 in
theorem wdtenants_v (w : World) (h : MtV B w p n) : Calls Try.prog 52 #[p] w fun e w' => e = .returned (.int .i64 (n : Int)) ∧ w' = w := by
  rcases h with ⟨rfl, rfl⟩ | ⟨b, v, zs, S, A, C, D, rfl, h, rfl⟩
  · go_enter Try.func52, Try.ntmps52
    go_wp2_with fail
    go_ret
    exact ⟨rfl, rfl⟩
  · obtain ⟨a, cap, rfl⟩ := h.row.slice
    have c2 := h.c2
    clear h
    go_enter Try.func52, Try.ntmps52
    go_wp2_with fail
    go_ret
    exact ⟨rfl, rfl⟩
set_option maxHeartbeats 1000000 in
theorem wdhas_v (T : Int) (w : World) (h : MtV B w p n) : Calls Try.prog 53 #[p, .int .i64 T] w fun e w' => e = .returned (.bool (decide (0 ≤ T ∧ T < (n : Int)))) ∧ w' = w := by
  have HT := Lib.hid (wdtenants_v w h)
  clear h
  by_cases h0 : 0 ≤ T
  · have g0 : T ≥ 0 := h0
    by_cases h1 : T < (n : Int)
    · rw [decide_eq_true ⟨h0, h1⟩]
      go_enter Try.func53, Try.ntmps53
      go_wp2_with fail
      refine HT.out.mono ?_
      rintro e w1 ⟨rfl, rfl⟩
      go_wp2_with fail
      go_ret
      exact ⟨rfl, rfl⟩
    · rw [decide_eq_false (fun h => h1 h.2)]
      go_enter Try.func53, Try.ntmps53
      go_wp2_with fail
      refine HT.out.mono ?_
      rintro e w1 ⟨rfl, rfl⟩
      go_wp2_with fail
      go_ret
      exact ⟨by simp; omega, rfl⟩
  · have g0 : ¬ T ≥ 0 := h0
    rw [decide_eq_false (fun h => h0 h.1)]
    go_enter Try.func53, Try.ntmps53
    go_wp2_with fail
    go_ret
    exact ⟨by simp, rfl⟩
end
end Go.Proofs.Ytjpahpbofgfgfaa

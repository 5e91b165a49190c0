/-
  LAYER 27 (package ledger): what is told of a tenant.
-/
import Derived.Test.YtjpahpbofgfgfaaLedB
namespace Go.Proofs.Ytjpahpbofgfgfaa
open Go.RowKit
set_option linter.unusedVariables false
set_option linter.unusedSimpArgs false
/-- v is nil (and n is 0), or a ledger of n accounts. -/
def LgV (w : World) (v : Value) (n : Nat) (L U P : Nat → Int) : Prop := (v = .pointer none ∧ n = 0) ∨ ∃ b g, v = .pointer (some ⟨b, 0, none⟩) ∧ IsLg w b g n L U P
def lk (F : Nat → Int) (n : Nat) (T : Int) : Int := if 0 ≤ T ∧ T < n then F T.toNat else 0
def ac3 (x y z : Int) : Array Value := #[.int .i64 x, .int .i64 y, .int .i64 z]
theorem info_ac : (Try.prog.info? 69).map (·.size) = some 3 := by kernel_rfl
theorem ac3_all (x y z : Int) : (ac3 x y z).all (·.oneCell') = true := by kernel_rfl
theorem acf0 (l u p : Int) : (∀ W, (Instr.field 69 (.agg #[.int .i64 l, .int .i64 u, .int .i64 p]) 0).run Try.prog W = .ok (.int .i64 l) W) := fun W => by first | rfl | kernel_rfl
theorem acf1 (l u p : Int) : (∀ W, (Instr.field 69 (.agg #[.int .i64 l, .int .i64 u, .int .i64 p]) 1).run Try.prog W = .ok (.int .i64 u) W) := fun W => by first | rfl | kernel_rfl
theorem acf2 (l u p : Int) : (∀ W, (Instr.field 69 (.agg #[.int .i64 l, .int .i64 u, .int .i64 p]) 2).run Try.prog W = .ok (.int .i64 p) W) := fun W => by first | rfl | kernel_rfl
section
variable {w w' : World} {b g n : Nat} {L U P : Nat → Int} {v : Value}
set_option maxHeartbeats 1000000 in
theorem lgtenants_v (w : World) (h : LgV w v n L U P) : Calls Try.prog 24 #[v] w fun e w' => e = .returned (.int .i64 (n : Int)) ∧ w' = w := by
  rcases h with ⟨rfl, rfl⟩ | ⟨b, g, rfl, h⟩
  · go_enter Try.func24, Try.ntmps24
    go_wp2_with fail
    go_ret
    exact ⟨rfl, rfl⟩
  · have c0 := h.cell
    clear h
    go_enter Try.func24, Try.ntmps24
    go_wp2_with fail
    go_ret
    exact ⟨rfl, rfl⟩
set_option maxHeartbeats 1000000 in
theorem lgaccount_none (T : Int) (w : World) (h : LgV w v n L U P) (hT : ¬ (0 ≤ T ∧ T < n)) : Calls Try.prog 55 #[v, .int .i64 T] w fun e w' => e = .returned (.pointer none) ∧ w' = w := by
  have HT := Lib.hid (lgtenants_v w h)
  clear h
  by_cases h0 : T < 0
  · clear hT
    go_enter Try.func55, Try.ntmps55
    go_wp2_with fail
    go_ret
    exact ⟨rfl, rfl⟩
  · have h1 : T ≥ (n : Int) := by omega
    clear hT
    go_enter Try.func55, Try.ntmps55
    go_wp2_with fail
    refine HT.out.mono ?_
    rintro e w1 ⟨rfl, rfl⟩
    go_wp2_with fail
    go_ret
    exact ⟨rfl, rfl⟩
set_option maxHeartbeats 1000000 in
theorem lgaccount_any (t : Nat) (w : World) (h : IsLg w b g n L U P) (hT : t < n) : Calls Try.prog 55 #[.pointer (some ⟨b, 0, none⟩), .int .i64 (t : Int)] w fun e w' => e = .returned (.pointer (some ⟨g, t * 3, none⟩)) ∧ w' = w := by
  have HT := Lib.hid (lgtenants_v w (Or.inr ⟨b, g, rfl, h⟩))
  have c0 := h.cell
  have h0 : ¬ (t : Int) < 0 := by omega
  have h1 : ¬ (t : Int) ≥ (n : Int) := by omega
  have h2 : (t : Int) < (n : Int) := by omega
  clear h
  go_enter Try.func55, Try.ntmps55
  go_wp2_with fail
  refine HT.out.mono ?_
  rintro e w1 ⟨rfl, rfl⟩
  go_wp2_with fail
  go_ret
  exact ⟨rfl, rfl⟩
set_option maxHeartbeats 1000000 in
theorem lglook_v (T : Int) (w : World) (h : LgV w v n L U P) : Calls Try.prog 47 #[v, .int .i64 T] w fun e w' => e = .returned (.agg #[.int .i64 (lk L n T), .int .i64 (lk U n T), .int .i64 (lk P n T)]) ∧ Below w.heap.size w w' := by
  by_cases hT : 0 ≤ T ∧ T < n
  · obtain ⟨t, rfl⟩ : ∃ t : Nat, T = (t : Int) := ⟨T.toNat, by omega⟩
    have ht : t < n := by omega
    rcases h with ⟨rfl, rfl⟩ | ⟨b, g, rfl, h⟩
    · omega
    unfold lk
    rw [if_pos hT, if_pos hT, if_pos hT, Int.toNat_natCast]
    clear hT
    obtain ⟨w1, hw1⟩ : ∃ w1, w.alloc (.cells #[.int .i64 0, .int .i64 0, .int .i64 0] 69) = w1 := ⟨_, rfl⟩
    have HB1 : Hid (Below w.heap.size w w1) := Lib.hid (by subst hw1; exact (Below.refl _ _).alloc (Nat.le_refl _) _)
    have H1 := h.far HB1.out
    have HA := Lib.hid (lgaccount_any t w1 H1 ht)
    obtain ⟨c0, c1, c2⟩ := H1.acc.cells ht
    clear h H1
    obtain ⟨G, hG⟩ : ∃ G, w.heap.size = G := ⟨_, rfl⟩
    have HX := Lib.hid (show w1.heap[G]? = some (.cells (ac3 0 0 0) 69 (0, 0)) by rw [← hw1, ← hG]; exact heap_alloc_new _ _)
    have HBE : Hid (Below w.heap.size w (w1.setRow G (ac3 (L t) (U t) (P t)))) := Lib.hid (below_setRow HB1.out (by omega) _)
    rw [hG] at HBE ⊢
    have HR : Hid ((w1.setRow G (ac3 (L t) (U t) (P t))).heap[G]? = some (.cells (ac3 (L t) (U t) (P t)) 69 (0, 0))) := Lib.hid (setRow_heap _ _ _ _ _ _ HX.out)
    clear HB1
    go_enter Try.func47, Try.ntmps47
    go_wp2_with fail
    refine HA.out.mono ?_
    rintro e w2 ⟨rfl, rfl⟩
    go_wp2_with (refine wpList_store_row rfl 69 _ _ rfl G (ac3 (L t) (U t) (P t)) rfl rfl 69 _ HX.out info_ac rfl (ac3_all _ _ _) ?_)
    refine bodyPost_ret (v := .agg (ac3 (L t) (U t) (P t))) (results_cell_row rfl _ _ G 69 _ (0, 0) _ rfl HR.out Try.underlying69 rfl info_ac) rfl ?_
    exact ⟨rfl, HBE.out⟩
  · unfold lk
    rw [if_neg hT, if_neg hT, if_neg hT]
    obtain ⟨w1, hw1⟩ : ∃ w1, w.alloc (.cells #[.int .i64 0, .int .i64 0, .int .i64 0] 69) = w1 := ⟨_, rfl⟩
    have HB1 : Hid (Below w.heap.size w w1) := Lib.hid (by subst hw1; exact (Below.refl _ _).alloc (Nat.le_refl _) _)
    have H1 : LgV w1 v n L U P := by
      rcases h with h | ⟨b, g, rfl, h⟩
      · exact Or.inl h
      · exact Or.inr ⟨b, g, rfl, h.far HB1.out⟩
    have HA := Lib.hid (lgaccount_none T w1 H1 hT)
    clear h H1 hT
    obtain ⟨G, hG⟩ : ∃ G, w.heap.size = G := ⟨_, rfl⟩
    have HX := Lib.hid (show w1.heap[G]? = some (.cells (ac3 0 0 0) 69 (0, 0)) by rw [← hw1, ← hG]; exact heap_alloc_new _ _)
    have HBE : Hid (Below w.heap.size w (w1.setRow G (ac3 (0) (0) (0)))) := Lib.hid (below_setRow HB1.out (by omega) _)
    rw [hG] at HBE ⊢
    have HR : Hid ((w1.setRow G (ac3 (0) (0) (0))).heap[G]? = some (.cells (ac3 (0) (0) (0)) 69 (0, 0))) := Lib.hid (setRow_heap _ _ _ _ _ _ HX.out)
    clear HB1
    go_enter Try.func47, Try.ntmps47
    go_wp2_with fail
    refine HA.out.mono ?_
    rintro e w2 ⟨rfl, rfl⟩
    go_wp2_with (refine wpList_store_row rfl 69 _ _ rfl G (ac3 (0) (0) (0)) rfl rfl 69 _ HX.out info_ac rfl (ac3_all _ _ _) ?_)
    refine bodyPost_ret (v := .agg (ac3 (0) (0) (0))) (results_cell_row rfl _ _ G 69 _ (0, 0) _ rfl HR.out Try.underlying69 rfl info_ac) rfl ?_
    exact ⟨rfl, HBE.out⟩
set_option maxHeartbeats 1000000 in
theorem lgused_v (T : Int) (w : World) (h : LgV w v n L U P) : Calls Try.prog 19 #[v, .int .i64 T] w fun e w' => e = .returned (.int .i64 (lk U n T)) ∧ Below w.heap.size w w' := by
  have HL := Lib.hid (lglook_v T w h)
  clear h
  generalize lk L n T = l at *
  generalize lk U n T = u at *
  generalize lk P n T = p at *
  have hf := acf1 l u p
  go_enter Try.func19, Try.ntmps19
  go_wp2_with fail
  refine HL.out.mono ?_
  rintro e w1 ⟨rfl, hb⟩
  have HB := Lib.hid hb
  clear hb
  go_wp2_with fail
  go_ret
  exact ⟨rfl, HB.out⟩
set_option maxHeartbeats 1000000 in
theorem lgpeak_v (T : Int) (w : World) (h : LgV w v n L U P) : Calls Try.prog 21 #[v, .int .i64 T] w fun e w' => e = .returned (.int .i64 (lk P n T)) ∧ Below w.heap.size w w' := by
  have HL := Lib.hid (lglook_v T w h)
  clear h
  generalize lk L n T = l at *
  generalize lk U n T = u at *
  generalize lk P n T = p at *
  have hf := acf2 l u p
  go_enter Try.func21, Try.ntmps21
  go_wp2_with fail
  refine HL.out.mono ?_
  rintro e w1 ⟨rfl, hb⟩
  have HB := Lib.hid hb
  clear hb
  go_wp2_with fail
  go_ret
  exact ⟨rfl, HB.out⟩
set_option maxHeartbeats 1000000 in
theorem lglimit_v (T : Int) (w : World) (h : LgV w v n L U P) : Calls Try.prog 23 #[v, .int .i64 T] w fun e w' => e = .returned (.int .i64 (lk L n T)) ∧ Below w.heap.size w w' := by
  have HL := Lib.hid (lglook_v T w h)
  clear h
  generalize lk L n T = l at *
  generalize lk U n T = u at *
  generalize lk P n T = p at *
  have hf := acf0 l u p
  go_enter Try.func23, Try.ntmps23
  go_wp2_with fail
  refine HL.out.mono ?_
  rintro e w1 ⟨rfl, hb⟩
  have HB := Lib.hid hb
  clear hb
  go_wp2_with fail
  go_ret
  exact ⟨rfl, HB.out⟩
set_option maxHeartbeats 1000000 in
theorem acleft_any (g o : Nat) (l u : Int) (w : World) (c0 : w.cell? ⟨g, o, none⟩ = some (.int .i64 l)) (c1 : w.cell? ⟨g, o + 1, none⟩ = some (.int .i64 u)) (hb : -9223372036854775808 ≤ l - u ∧ l - u ≤ 9223372036854775807) :
    Calls Try.prog 48 #[.pointer (some ⟨g, o, none⟩)] w fun e w' => e = .returned (.int .i64 (l - u)) ∧ ∃ m, w' = w.drewN m := by
  have hw : IntKind.i64.wrap (l - u) = l - u := IntWalk.i64_in _ (by omega)
  go_enter Try.func48, Try.ntmps48
  go_wp2_with fail
  go_quiet (fail)
  go_wp2_with fail
  go_ret
  exact ⟨rfl, _, rfl⟩
set_option maxHeartbeats 1000000 in
theorem lgleft_v (T : Int) (w : World) (h : LgV w v n L U P) (hb : -9223372036854775808 ≤ lk L n T - lk U n T ∧ lk L n T - lk U n T ≤ 9223372036854775807) : Calls Try.prog 20 #[v, .int .i64 T] w fun e w' => e = .returned (.int .i64 (lk L n T - lk U n T)) ∧ Below w.heap.size w w' := by
  have HL := Lib.hid (lglook_v T w h)
  clear h
  generalize lk L n T = l at *
  generalize lk U n T = u at *
  generalize lk P n T = p at *
  go_enter Try.func20, Try.ntmps20
  go_wp2_with fail
  refine HL.out.mono ?_
  rintro e w1 ⟨rfl, hb1⟩
  obtain ⟨w2, hw2⟩ : ∃ w2, w1.alloc (.cells #[.int .i64 l, .int .i64 u, .int .i64 p] 69) = w2 := ⟨_, rfl⟩
  have hx : w2.heap[w1.heap.size]? = some (.cells #[.int .i64 l, .int .i64 u, .int .i64 p] 69 (0, 0)) := by rw [← hw2]; exact heap_alloc_new _ _
  have HB := Lib.hid (hb1.trans (show Below w.heap.size w1 w2 by rw [← hw2]; exact (Below.refl _ _).alloc hb1.size _))
  have HLF := Lib.hid (acleft_any w1.heap.size 0 l u w2 (by rw [cell_of_row _ _ 0 _ _ _ hx]; rfl) (by rw [cell_of_row _ _ 1 _ _ _ hx]; rfl) hb)
  clear hb1 hx
  go_wp2_with fail
  refine HLF.out.mono ?_
  rintro e w3 ⟨rfl, m, rfl⟩
  go_wp2_with fail
  go_ret
  exact ⟨rfl, HB.out.trans (below_drewN _ _ |>.mono HB.out.size)⟩
end
end Go.Proofs.Ytjpahpbofgfgfaa

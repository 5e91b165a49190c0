/-
  LAYER 30 (package drr): New.
-/
import Derived.Test.YtgdgjalfabffcaaDrA
import Derived.Test.YtgdgjalfabffcaaIdxF
import Derived.Deep.RegionHeld3
namespace Go.Proofs.Ytgdgjalfabffcaa
open Go.RowKit
set_option linter.unusedVariables false
set_option linter.unusedSimpArgs false
def qBad (n : Int) : Bool := !decide (1 ≤ n ∧ n ≤ 1099511627776)
theorem any_qbad {zs : List Int} : zs.any qBad = false ↔ ∀ x ∈ zs, 1 ≤ x ∧ x ≤ 1099511627776 := by
  rw [List.any_eq_false]
  constructor
  · intro h x hx; have := h x hx; simpa [qBad] using this
  · intro h x hx; simpa [qBad] using h x hx
theorem qbad_enters : ∀ args w, (callFunc 48 args).run Try.prog w = .ok (.enter 48 args) w := enters_of Try.func48 (by kernel_rfl) rfl
set_option maxHeartbeats 1000000 in
theorem qbad_any (n : Int) (w : World) : Calls Try.prog 48 #[.int .i64 n] w fun e w' => e = .returned (.bool (qBad n)) ∧ w' = w := by
  by_cases h1 : n < 1
  · rw [show qBad n = true by unfold qBad; rw [decide_eq_false (by omega)]; rfl]
    go_enter Try.func48, Try.ntmps48
    go_wp2_with fail
    go_ret
    exact ⟨rfl, rfl⟩
  · by_cases h2 : n > 1099511627776
    · rw [show qBad n = true by unfold qBad; rw [decide_eq_false (by omega)]; rfl]
      go_enter Try.func48, Try.ntmps48
      go_wp2_with fail
      go_ret
      exact ⟨by first | rfl | simp; omega, rfl⟩
    · rw [show qBad n = false by unfold qBad; rw [decide_eq_true (by omega)]; rfl]
      go_enter Try.func48, Try.ntmps48
      go_wp2_with fail
      go_ret
      refine ⟨?_, rfl⟩
      first | rfl | (show Ending.returned (Value.bool (decide (1099511627776 < n))) = _; rw [decide_eq_false (by omega)])
/-- A scheduler under way: k tenants stand. -/
structure NewDr (w0 w : World) (s g n k : Nat) (Q : Nat → Nat) (qf : Nat → Int) : Prop where
  obj : w.heap[s]? = some (.cells #[.slice (some ⟨g, 0, none⟩) n n, .pointer (some ⟨Q n, 0, none⟩)] 81 (0, 0))
  ten : Ten w g n (fun i => if i < k then ptrQ Q i else .pointer none) (fun i => if i < k then qf i else 0) zeroI
  qs : ∀ i, i < k ∨ i = n → IsQ w w0.heap.size (Q i) (limQ n i) (.slice none 0 0) []
  inj : ∀ i j, (i < k ∨ i = n) → (j < k ∨ j = n) → i ≠ j → Q i ≠ Q j
  out : ∀ i, (i < k ∨ i = n) → Q i ≠ s ∧ Q i ≠ g
  ne : s ≠ g
  base : w0.heap.size ≤ s ∧ w0.heap.size ≤ g
  below : Below w0.heap.size w0 w
section
variable {w0 w w' : World} {s g n k : Nat} {Q : Nat → Nat} {qf : Nat → Int}
theorem NewDr.lt (h : NewDr w0 w s g n k Q qf) : s < w.heap.size ∧ g < w.heap.size ∧ ∀ i, (i < k ∨ i = n) → Q i < w.heap.size :=
  ⟨(Array.getElem?_eq_some_iff.1 h.obj).1, h.ten.lt, fun i hi => ((h.qs i hi).lt _ (Or.inl rfl)).2⟩
theorem NewDr.done (h : NewDr w0 w s g n n Q qf) : IsDm w w0.heap.size s g n Q (fun _ => .slice none 0 0) qf zeroI (fun _ => []) := by
  have hc : ∀ i, i ≤ n → i < n ∨ i = n := fun i hi => by omega
  have hf : ∀ b k, foot b (.slice none 0 0) k → k = b := fun b k hk => by
    rcases hk with e | e
    · exact e
    · simp [Value.ownBlock] at e
  refine ⟨h.obj, h.ten.ext (fun i hi => if_pos hi) (fun i hi => if_pos hi) (fun _ _ => rfl), fun i hi => h.qs i (hc i hi), fun i j hi hj hne k h1 h2 => ?_, fun i hi k hk => ?_, h.ne, h.base⟩
  · exact h.inj i j (hc i hi) (hc j hj) hne ((hf _ _ h1).symm.trans (hf _ _ h2))
  · rw [hf _ _ hk]; exact h.out i (hc i hi)
theorem NewDr.first {w1 : World} (hn : 1 ≤ n ∧ n ≤ 16) (hs : w0.heap.size + 1 = s) (hg : w0.heap.size = g) (ho : w.heap[s]? = some (.cells #[.slice (some ⟨g, 0, none⟩) n n, .pointer none] 81 (0, 0))) (ht : Ten w g n nilQ zeroI zeroI) (hb : Below w0.heap.size w0 w)
    (hq : IsQ w1 w.heap.size w.heap.size (n : Int) (.slice none 0 0) []) (hb1 : Below w.heap.size w w1) :
    NewDr w0 (w1.setCell ⟨s, 1, none⟩ (.pointer (some ⟨w.heap.size, 0, none⟩))) s g n 0 (fun _ => w.heap.size) qf ∧ w1.cell? ⟨s, 1, none⟩ = some (.pointer none) ∧ w1.frozen? ⟨s, 1, none⟩ = false := by
  have hsl : s < w.heap.size := (Array.getElem?_eq_some_iff.1 ho).1
  have hgl : g < w.heap.size := ht.lt
  have ho1 := (hb1.block s hsl).trans ho
  refine ⟨⟨?_, ?_, fun i hi => ?_, fun i j hi hj hne => by omega, fun i hi => ⟨by omega, by omega⟩, by omega, ⟨by omega, by omega⟩, (hb.trans (hb1.mono hb.size)).setCell (by show w0.heap.size ≤ s; omega) _⟩, by rw [cell_of_row _ _ 1 _ _ _ ho1]; rfl, frozen_of_row _ _ _ _ _ ho1⟩
  · rw [heap_setCell_same w1 s 1 _ _ _ ho1]; rfl
  · refine (ht.same ((heap_setCell_other w1 _ g _ (by show g ≠ s; omega)).trans (hb1.block g hgl))).ext (fun i _ => ?_) (fun i _ => ?_) (fun _ _ => rfl)
    · rw [if_neg (by omega)]; rfl
    · rw [if_neg (by omega)]; rfl
  · obtain rfl : i = n := by omega
    have : limQ i i = (i : Int) := if_pos rfl
    rw [this]
    refine (hq.lower hb.size).same fun k hk => ?_
    have e : k = w.heap.size := by
      rcases hk with e | e
      · exact e
      · simp [Value.ownBlock] at e
    exact heap_setCell_other w1 _ k _ (by show k ≠ s; omega)
theorem NewDr.next {w2 : World} {m : Nat} (h : NewDr w0 w s g n k Q qf) (hk : k < n) (hq : IsQ w2 ((w.setCell ⟨g, k * 3 + 1, none⟩ (.int .i64 (qf k))).drewN m).heap.size w.heap.size 1099511627776 (.slice none 0 0) [])
    (hb : Below w.heap.size ((w.setCell ⟨g, k * 3 + 1, none⟩ (.int .i64 (qf k))).drewN m) w2) :
    NewDr w0 (w2.setCell ⟨g, k * 3, none⟩ (.pointer (some ⟨w.heap.size, 0, none⟩))) s g n (k + 1) (updF Q k w.heap.size) qf := by
  obtain ⟨l1, l2, l3⟩ := h.lt
  have ht1 := (h.ten.set hk (.pointer none) (qf k)).2.1
  have ht2 : Ten w2 g n _ _ _ := ht1.same (hb.block g l2)
  have ht3 := (ht2.set hk (.pointer (some ⟨w.heap.size, 0, none⟩)) 0).1
  have hkn : k ≠ n := by omega
  have keep : ∀ j, j < w.heap.size → j ≠ g → (w2.setCell ⟨g, k * 3, none⟩ (.pointer (some ⟨w.heap.size, 0, none⟩))).heap[j]? = w.heap[j]? := fun j hj hne =>
    (heap_setCell_other w2 _ j _ hne).trans ((hb.block j hj).trans (heap_setCell_other w _ j _ hne))
  have hQn : updF Q k w.heap.size n = Q n := updF_ne _ _ (fun e => hkn e.symm)
  have hcs : ∀ i, (i < k + 1 ∨ i = n) → (i = k) ∨ (i ≠ k ∧ (i < k ∨ i = n)) := fun i hi => by omega
  refine ⟨?_, ?_, fun i hi => ?_, fun i j hi hj hne => ?_, fun i hi => ?_, h.ne, h.base, ?_⟩
  · rw [hQn]; exact (keep s l1 h.ne).trans h.obj
  · refine ht3.ext (fun i hi => ?_) (fun i hi => ?_) (fun _ _ => rfl)
    · unfold updF ptrQ
      by_cases e : i = k
      · subst e
        rw [if_pos rfl, if_pos (by omega)]
        simp
      · rw [if_neg e]
        by_cases e2 : i < k
        · dsimp only; rw [if_pos e2, if_pos (by omega), if_neg e]
        · dsimp only; rw [if_neg e2, if_neg (by omega)]
    · unfold updF
      by_cases e : i = k
      · subst e
        rw [if_pos rfl, if_pos (by omega)]
      · rw [if_neg e]
        by_cases e2 : i < k
        · dsimp only; rw [if_pos e2, if_pos (by omega)]
        · dsimp only; rw [if_neg e2, if_neg (by omega)]
  · rcases hcs i hi with rfl | ⟨e, hi2⟩
    · rw [updF_same, show limQ n i = 1099511627776 from if_neg hkn]
      refine (hq.lower (by have := h.below.size; show w0.heap.size ≤ (w.setCell _ _).heap.size; simp [World.setCell]; omega)).same fun j hj => ?_
      have e : j = w.heap.size := by
        rcases hj with e | e
        · exact e
        · simp [Value.ownBlock] at e
      exact heap_setCell_other w2 _ j _ (by show j ≠ g; omega)
    · rw [updF_ne _ _ e]
      refine (h.qs i hi2).same fun j hj => ?_
      have e3 : j = Q i := by
        rcases hj with e | e
        · exact e
        · simp [Value.ownBlock] at e
      rw [e3]
      exact keep _ (l3 i hi2) (h.out i hi2).2
  · rcases hcs i hi with rfl | ⟨e, hi2⟩
    · rcases hcs j hj with rfl | ⟨e2, hj2⟩
      · exact absurd rfl hne
      · rw [updF_same, updF_ne _ _ e2]; have := l3 j hj2; omega
    · rcases hcs j hj with rfl | ⟨e2, hj2⟩
      · rw [updF_same, updF_ne _ _ e]; have := l3 i hi2; omega
      · rw [updF_ne _ _ e, updF_ne _ _ e2]; exact h.inj i j hi2 hj2 hne
  · rcases hcs i hi with rfl | ⟨e, hi2⟩
    · rw [updF_same]; omega
    · rw [updF_ne _ _ e]; exact h.out i hi2
  · have h1 : Below w0.heap.size w0 ((w.setCell ⟨g, k * 3 + 1, none⟩ (.int .i64 (qf k))).drewN m) := (h.below.setCell (by exact h.base.2) _).trans ⟨rfl, rfl, rfl, Nat.le_refl _, fun _ _ => rfl⟩
    exact (h1.trans (hb.mono h.below.size)).setCell (by exact h.base.2) _
end
end Go.Proofs.Ytgdgjalfabffcaa

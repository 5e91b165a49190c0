/-
  THE WALKS OF LAYER 16's CODE (package sorter): keys.
-/
import Derived.Test.YtfedhppcmmponaaSrtA
import Derived.Laws.EntriesVeiled
namespace Go.Proofs.Ytfedhppcmmponaa
open Go.RowKit BwtM SrtM PkM
set_option linter.unusedVariables false
theorem byteOf_enters : ∀ args w, (callFunc 54 args).run Try.prog w = .ok (.enter 54 args) w := enters_of Try.func54 (by kernel_rfl) rfl
theorem classesOf_enters : ∀ args w, (callFunc 68 args).run Try.prog w = .ok (.enter 68 args) w := enters_of Try.func68 (by kernel_rfl) rfl
set_option maxHeartbeats 400000 in
theorem byteOf1_any (s : ByteArray) (g i : Nat) (w : World) (hc : Txt w g s) (hs : s.size ≤ 1000000) (hi : i < s.size) : Calls Try.prog 54 #[.int .i64 (i : Int), .pointer (some ⟨g, 0, none⟩)] w fun e w' => e = .returned (.int .i64 (bt s.data.toList i : Int)) ∧ w' = w := by
  unfold Txt at hc
  have hb := bt_get s hi
  have hbl := bt_lt s.data.toList i
  have hw : IntKind.i64.wrap (bt s.data.toList i : Int) = (bt s.data.toList i : Int) := IntWalk.i64_in _ (by omega)
  generalize bt s.data.toList i = x at *
  go_enter Try.func54, Try.ntmps54
  go_wp2_with fail
  go_ret
  exact ⟨rfl, rfl⟩
set_option maxHeartbeats 400000 in
theorem byteOf_any (s : ByteArray) (w : World) : Calls Try.prog 46 #[.string s] w fun e w' => e = .returned (.func (.func 54) #[] #[.pointer (some ⟨w.heap.size, 0, none⟩)]) ∧ Txt w' w.heap.size s ∧ Below w.heap.size w w' ∧ w'.heap.size = w.heap.size + 1 := by
  have HT : Hid (Txt (w.alloc (.cells #[.string s] 9)) w.heap.size s) := Lib.hid (by unfold Txt; rw [cell_of_row _ _ 0 _ _ _ (heap_alloc_new _ _)]; rfl)
  have HB : Hid (Below w.heap.size w (w.alloc (.cells #[.string s] 9))) := Lib.hid ((Below.refl _ _).alloc (Nat.le_refl _) _)
  have HS : Hid ((w.alloc (.cells #[.string s] 9)).heap.size = w.heap.size + 1) := Lib.hid (by simp)
  go_enter Try.func46, Try.ntmps46
  go_wp2_with fail
  go_ret
  exact ⟨rfl, HT.out, HB.out, HS.out⟩
/-- The key of the first pass. -/
theorem keyV_byte (s : ByteArray) (w : World) (g bc n : Nat) (C : List Nat) (ht : Txt w g s) (hs : s.size ≤ 1000000) (hn : n = s.size) : KeyV w (.func (.func 54) #[] #[.pointer (some ⟨g, 0, none⟩)]) [g] bc n C (bt s.data.toList) := by
  refine ⟨_, _, rfl, byteOf_enters, fun w' h1 _ i hi => ?_⟩
  have ht' : Txt w' g s := (World.cell?_of_block (w := w) (a := ⟨g, 0, none⟩) (h1 g (by simp))).trans ht
  refine (byteOf1_any s g i w' ht' hs (by omega)).mono ?_
  rintro e w2 ⟨rfl, rfl⟩
  exact ⟨rfl, 0, rfl⟩
set_option maxRecDepth 100000 in
set_option maxHeartbeats 2000000 in
theorem classesOf1_any (g1 g2 g3 bc n r i : Nat) (C : List Nat) (w : World) (h1 : w.cell? ⟨g1, 0, none⟩ = some (.int .i64 (r : Int))) (h2 : w.cell? ⟨g2, 0, none⟩ = some (.int .i64 (n : Int))) (h3 : w.cell? ⟨g3, 0, none⟩ = some (.slice (some ⟨bc, 0, none⟩) n n))
    (hR : RowI w bc (toI C)) (hl : C.length = n) (hr : r < n) (hn : n ≤ 1000000) (hC : ∀ j, j < n → C.getD j 0 < n) (hi : i < n) :
    Calls Try.prog 68 #[.int .i64 (i : Int), .pointer (some ⟨g1, 0, none⟩), .pointer (some ⟨g2, 0, none⟩), .pointer (some ⟨g3, 0, none⟩)] w fun e w' => e = .returned (.int .i64 (keyC n r (fun j => C.getD j 0) i : Int)) ∧ ∃ m, w' = w.drewN m := by
  have hmn : (i + r) % n < n := Nat.mod_lt _ (by omega)
  have c1 := (hR.cell (i := i) (by rw [toI_length, hl]; exact hi)).1
  have c2 := (hR.cell (i := (i + r) % n) (by rw [toI_length, hl]; exact hmn)).1
  rw [toI_getD] at c1 c2
  have b1 := hC i hi
  have b2 := hC _ hmn
  have hkey : keyC n r (fun j => C.getD j 0) i = C.getD i 0 * n + C.getD ((i + r) % n) 0 := rfl
  have hmod : (i + r < n ∧ (i + r) % n = i + r) ∨ (n ≤ i + r ∧ (i + r) % n = i + r - n) := by
    by_cases c : i + r < n
    · exact Or.inl ⟨c, Nat.mod_eq_of_lt c⟩
    · exact Or.inr ⟨by omega, by rw [Nat.mod_eq_sub_mod (by omega), Nat.mod_eq_of_lt (by omega)]⟩
  rw [hkey]
  have hprod : C.getD i 0 * n ≤ 1000000 * 1000000 := Nat.mul_le_mul (by omega) hn
  have hpi : (C.getD i 0 : Int) * (n : Int) = ((C.getD i 0 * n : Nat) : Int) := by rw [Int.natCast_mul]
  obtain ⟨x, hx⟩ : ∃ x, C.getD i 0 = x := ⟨_, rfl⟩
  obtain ⟨y, hy⟩ : ∃ y, C.getD ((i + r) % n) 0 = y := ⟨_, rfl⟩
  rw [hx] at c1 b1 hpi hprod ⊢
  rw [hy] at c2 b2 ⊢
  obtain ⟨q, hq⟩ : ∃ q, x * n = q := ⟨_, rfl⟩
  rw [hq] at hpi hprod ⊢
  obtain ⟨z, hz⟩ : ∃ z, q + y = z := ⟨_, rfl⟩
  rw [hz]
  have hzi : (q : Int) + (y : Int) = (z : Int) := by omega
  have hw1 : IntKind.i64.wrap (q : Int) = (q : Int) := IntWalk.i64_in _ (by omega)
  have hw2 : IntKind.i64.wrap (z : Int) = (z : Int) := IntWalk.i64_in _ (by omega)
  obtain ⟨o, ho⟩ : ∃ o, i + r = o := ⟨_, rfl⟩
  have hoi : (i : Int) + (r : Int) = (o : Int) := by omega
  have hii : (i : Int) < (n : Int) := by omega
  have hi0 : (0 : Int) ≤ (i : Int) := by omega
  rw [ho] at hmod c2
  rcases hmod with ⟨h4, h5⟩ | ⟨h4, h5⟩
  · rw [h5] at c2
    have h6 : ¬ (o : Int) ≥ (n : Int) := by omega
    have hon : (o : Int) < (n : Int) := by omega
    clear hR hC hx hy hq hz ho h5 hkey hmn
    go_enter Try.func68, Try.ntmps68
    go_wp2_with fail
    go_quiet (fail)
    go_wp2_with fail
    go_ret
    exact ⟨rfl, _, rfl⟩
  · rw [h5] at c2
    obtain ⟨o2, ho2⟩ : ∃ o2, o - n = o2 := ⟨_, rfl⟩
    rw [ho2] at c2
    have h7 : (o : Int) - (n : Int) = (o2 : Int) := by omega
    have h6 : (o : Int) ≥ (n : Int) := by omega
    have hon : (o2 : Int) < (n : Int) := by omega
    have honn : o2 < n := by omega
    clear hR hC hx hy hq hz h5 hkey hmn ho2
    go_enter Try.func68, Try.ntmps68
    go_wp2_with fail
    go_quiet (fail)
    go_wp2_with fail
    go_ret
    exact ⟨rfl, _, rfl⟩
/-- What the classes' key has caught. -/
structure Caught16 (w : World) (g1 g2 g3 bc n r : Nat) : Prop where
  c1 : w.cell? ⟨g1, 0, none⟩ = some (.int .i64 ((r % n : Nat) : Int))
  c2 : w.cell? ⟨g2, 0, none⟩ = some (.int .i64 (n : Int))
  c3 : w.cell? ⟨g3, 0, none⟩ = some (.slice (some ⟨bc, 0, none⟩) n n)
theorem keyV_classes (w : World) (g1 g2 g3 bc n r : Nat) (C : List Nat) (h : Caught16 w g1 g2 g3 bc n r) (hl : C.length = n) (hn : n ≤ 1000000) (h0 : 0 < n) (hC : ∀ j, j < n → C.getD j 0 < n) :
    KeyV w (.func (.func 68) #[] #[.pointer (some ⟨g1, 0, none⟩), .pointer (some ⟨g2, 0, none⟩), .pointer (some ⟨g3, 0, none⟩)]) [g1, g2, g3] bc n C (keyC n r (fun j => C.getD j 0)) := by
  refine ⟨_, _, rfl, classesOf_enters, fun w' h1 hR i hi => ?_⟩
  have k1 := (World.cell?_of_block (w := w) (a := ⟨g1, 0, none⟩) (h1 g1 (by simp))).trans h.c1
  have k2 := (World.cell?_of_block (w := w) (a := ⟨g2, 0, none⟩) (h1 g2 (by simp))).trans h.c2
  have k3 := (World.cell?_of_block (w := w) (a := ⟨g3, 0, none⟩) (h1 g3 (by simp))).trans h.c3
  refine (classesOf1_any g1 g2 g3 bc n (r % n) i C w' k1 k2 k3 hR hl (Nat.mod_lt _ h0) hn hC hi).mono ?_
  rintro e w2 ⟨rfl, hm⟩
  exact ⟨by rw [keyC_mod], hm⟩
end Go.Proofs.Ytfedhppcmmponaa

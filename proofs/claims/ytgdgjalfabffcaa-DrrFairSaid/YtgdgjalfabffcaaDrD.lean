/-
  LAYER 30 (package drr): what is told of a scheduler; whose a job is.
-/
import Derived.Test.YtgdgjalfabffcaaDrC
namespace Go.Proofs.Ytgdgjalfabffcaa
open Go.RowKit
set_option linter.unusedVariables false
set_option linter.unusedSimpArgs false
section
variable {w w' : World} {B s g n : Nat} {Q : Nat → Nat} {V : Nat → Value} {q c : Nat → Int} {J : Nat → List Int}
set_option maxHeartbeats 1000000 in
theorem dcount_any (w : World) (h : IsDm w B s g n Q V q c J) : Calls Try.prog 54 #[.pointer (some ⟨s, 0, none⟩)] w fun e w' => e = .returned (.int .i64 (n : Int)) ∧ w' = w := by
  have c0 := h.cells.1
  clear h
  go_enter Try.func54, Try.ntmps54
  go_wp2_with fail
  go_ret
  exact ⟨rfl, rfl⟩
set_option maxHeartbeats 1000000 in
theorem dcount_nil (w : World) : Calls Try.prog 54 #[.pointer none] w fun e w' => e = .returned (.int .i64 0) ∧ w' = w := by
  go_enter Try.func54, Try.ntmps54
  go_wp2_with fail
  go_ret
  exact ⟨rfl, rfl⟩
set_option maxHeartbeats 1000000 in
theorem dhas_yes (t : Nat) (w : World) (h : IsDm w B s g n Q V q c J) (ht : t < n) : Calls Try.prog 53 #[.pointer (some ⟨s, 0, none⟩), .int .i64 (t : Int)] w fun e w' => e = .returned (.bool true) ∧ w' = w := by
  have HC := Lib.hid (dcount_any w h)
  have h0 : (t : Int) ≥ 0 := by omega
  have h1 : (t : Int) < (n : Int) := by omega
  clear h
  go_enter Try.func53, Try.ntmps53
  go_wp2_with fail
  refine HC.out.mono ?_
  rintro e w1 ⟨rfl, rfl⟩
  go_wp2_with fail
  go_ret
  refine ⟨?_, rfl⟩
  first | rfl | (show Ending.returned (Value.bool (decide _)) = _; rw [decide_eq_true (by omega)])
set_option maxHeartbeats 1000000 in
theorem dhas_no (T : Int) (w : World) (h : IsDm w B s g n Q V q c J) (ht : ¬ (0 ≤ T ∧ T < n)) : Calls Try.prog 53 #[.pointer (some ⟨s, 0, none⟩), .int .i64 T] w fun e w' => e = .returned (.bool false) ∧ w' = w := by
  have HC := Lib.hid (dcount_any w h)
  clear h
  by_cases h0 : T ≥ 0
  · have h1 : ¬ T < (n : Int) := by omega
    go_enter Try.func53, Try.ntmps53
    go_wp2_with fail
    refine HC.out.mono ?_
    rintro e w1 ⟨rfl, rfl⟩
    go_wp2_with fail
    go_ret
    refine ⟨?_, rfl⟩
    first | rfl | (show Ending.returned (Value.bool (decide _)) = _; rw [decide_eq_false (by omega)])
  · go_enter Try.func53, Try.ntmps53
    go_wp2_with fail
    go_ret
    exact ⟨by first | rfl | simp; omega, rfl⟩
set_option maxHeartbeats 1000000 in
theorem dhas_nil (T : Int) (w : World) : Calls Try.prog 53 #[.pointer none, .int .i64 T] w fun e w' => e = .returned (.bool false) ∧ w' = w := by
  have HC := Lib.hid (dcount_nil w)
  by_cases h0 : T ≥ 0
  · have h1 : ¬ T < (0 : Int) := by omega
    go_enter Try.func53, Try.ntmps53
    go_wp2_with fail
    refine HC.out.mono ?_
    rintro e w1 ⟨rfl, rfl⟩
    go_wp2_with fail
    go_ret
    refine ⟨?_, rfl⟩
    first | rfl | (show Ending.returned (Value.bool (decide _)) = _; rw [decide_eq_false (by omega)])
  · go_enter Try.func53, Try.ntmps53
    go_wp2_with fail
    go_ret
    exact ⟨by first | rfl | simp; omega, rfl⟩
set_option maxHeartbeats 1000000 in
theorem dcredit_any (t : Nat) (w : World) (h : IsDm w B s g n Q V q c J) (ht : t < n) : Calls Try.prog 33 #[.pointer (some ⟨s, 0, none⟩), .int .i64 (t : Int)] w fun e w' => e = .returned (.int .i64 (c t)) ∧ w' = w := by
  have HH := Lib.hid (dhas_yes t w h ht)
  have c0 := h.cells.1
  obtain ⟨d0, d1, d2⟩ := h.ten.cells ht
  have h0 : (0 : Int) ≤ (t : Int) := by omega
  have h1 : (t : Int) < (n : Int) := by omega
  clear h
  generalize c t = x at *
  go_enter Try.func33, Try.ntmps33
  go_wp2_with fail
  refine HH.out.mono ?_
  rintro e w1 ⟨rfl, rfl⟩
  go_wp2_with fail
  go_ret
  exact ⟨rfl, rfl⟩
set_option maxHeartbeats 1000000 in
theorem dcredit_nil (T : Int) (w : World) : Calls Try.prog 33 #[.pointer none, .int .i64 T] w fun e w' => e = .returned (.int .i64 0) ∧ w' = w := by
  have HH := Lib.hid (dhas_nil T w)
  go_enter Try.func33, Try.ntmps33
  go_wp2_with fail
  refine HH.out.mono ?_
  rintro e w1 ⟨rfl, rfl⟩
  go_wp2_with fail
  go_ret
  exact ⟨rfl, rfl⟩
set_option maxHeartbeats 1000000 in
theorem dring_any (w : World) (h : IsDm w B s g n Q V q c J) (hl : (J n).length ≤ 1000000) : Calls Try.prog 31 #[.pointer (some ⟨s, 0, none⟩)] w fun e w' => ∃ u, e = .returned u ∧ OwnI w' w.heap.size u (J n) ∧ Below w.heap.size w w' := by
  have HA := Lib.hid (qall_any w (h.qs n (Nat.le_refl _)) hl)
  have c1 := h.cells.2
  clear h
  generalize Q n = b at *
  go_enter Try.func31, Try.ntmps31
  go_wp2_with fail
  refine HA.out.mono ?_
  rintro e w1 ⟨u, rfl, h1, h2⟩
  have H1 := Lib.hid (And.intro h1 h2)
  clear h1 h2
  go_wp2_with fail
  go_ret
  exact ⟨_, rfl, H1.out⟩
set_option maxHeartbeats 1000000 in
theorem dring_nil (w : World) : Calls Try.prog 31 #[.pointer none] w fun e w' => e = .returned (.slice none 0 0) ∧ w' = w := by
  go_enter Try.func31, Try.ntmps31
  go_wp2_with fail
  go_ret
  exact ⟨rfl, rfl⟩
set_option maxHeartbeats 1000000 in
theorem djobs_any (t : Nat) (w : World) (h : IsDm w B s g n Q V q c J) (ht : t < n) (hl : (J t).length ≤ 1000000) : Calls Try.prog 32 #[.pointer (some ⟨s, 0, none⟩), .int .i64 (t : Int)] w fun e w' => ∃ u, e = .returned u ∧ OwnI w' w.heap.size u (J t) ∧ Below w.heap.size w w' := by
  have HH := Lib.hid (dhas_yes t w h ht)
  have HA := Lib.hid (qall_any w (h.qs t (by omega)) hl)
  have c0 := h.cells.1
  obtain ⟨d0, d1, d2⟩ := h.ten.cells ht
  have h0 : (0 : Int) ≤ (t : Int) := by omega
  have h1 : (t : Int) < (n : Int) := by omega
  clear h d1 d2
  unfold ptrQ at d0
  generalize Q t = b at *
  go_enter Try.func32, Try.ntmps32
  go_wp2_with fail
  refine HH.out.mono ?_
  rintro e w1 ⟨rfl, rfl⟩
  go_wp2_with fail
  refine HA.out.mono ?_
  rintro e w1 ⟨u, rfl, h1, h2⟩
  have H1 := Lib.hid (And.intro h1 h2)
  clear h1 h2
  go_wp2_with fail
  go_ret
  exact ⟨_, rfl, H1.out⟩
set_option maxHeartbeats 1000000 in
theorem djobs_nil (T : Int) (w : World) : Calls Try.prog 32 #[.pointer none, .int .i64 T] w fun e w' => e = .returned (.slice none 0 0) ∧ w' = w := by
  have HH := Lib.hid (dhas_nil T w)
  go_enter Try.func32, Try.ntmps32
  go_wp2_with fail
  refine HH.out.mono ?_
  rintro e w1 ⟨rfl, rfl⟩
  go_wp2_with fail
  go_ret
  exact ⟨rfl, rfl⟩
/-! ### Whose a job is -/
theorem down1_enters : ∀ args w, (callFunc 69 args).run Try.prog w = .ok (.enter 69 args) w := enters_of Try.func69 (by kernel_rfl) rfl
set_option maxHeartbeats 1000000 in
theorem down1_any {b : Nat} {lim : Int} {v : Value} {zs : List Int} (cb : Nat) (x y z : Int) (w : World) (h : IsQ w B b lim v zs) (hc : w.cell? ⟨cb, 0, none⟩ = some (.int .i64 x)) :
    Calls Try.prog 69 #[.agg #[.pointer (some ⟨b, 0, none⟩), .int .i64 y, .int .i64 z], .pointer (some ⟨cb, 0, none⟩)] w fun e w' => e = .returned (.bool (decide (x ∈ zs))) ∧ Below w.heap.size w w' := by
  obtain ⟨w1, hw1⟩ : ∃ w1, w.alloc (.cells #[.pointer (some ⟨b, 0, none⟩), .int .i64 y, .int .i64 z] 83) = w1 := ⟨_, rfl⟩
  obtain ⟨P, hP⟩ : ∃ P, w.heap.size = P := ⟨_, rfl⟩
  have hx : w1.heap[P]? = some (.cells #[.pointer (some ⟨b, 0, none⟩), .int .i64 y, .int .i64 z] 83 (0, 0)) := by rw [← hw1, ← hP]; exact heap_alloc_new _ _
  have c0 : w1.cell? ⟨P, 0, none⟩ = some (.pointer (some ⟨b, 0, none⟩)) := by rw [cell_of_row _ _ 0 _ _ _ hx]; rfl
  have hb1 : Below w.heap.size w w1 := by rw [← hw1]; exact (Below.refl _ _).alloc (Nat.le_refl _) _
  have c1 : w1.cell? ⟨cb, 0, none⟩ = some (.int .i64 x) := (hb1.cell (cell_lt hc)).trans hc
  have HB := Lib.hid hb1
  have HH := Lib.hid (qhas_any x w1 (h.far hb1))
  clear h hb1 hx hc
  generalize decide (x ∈ zs) = R at *
  rw [hP] at HB ⊢
  go_enter Try.func69, Try.ntmps69
  go_wp2_with fail
  refine HH.out.mono ?_
  rintro e w2 ⟨rfl, rfl⟩
  go_wp2_with fail
  go_ret
  exact ⟨rfl, HB.out⟩
/-- Whose a job is, as a number. -/
def OwnP (n : Nat) (J : Nat → List Int) (x : Int) (r : Int) : Prop := (∃ t : Nat, t < n ∧ r = (t : Int) ∧ x ∈ J t ∧ ∀ u, u < t → x ∉ J u) ∨ (r = -1 ∧ ∀ u, u < n → x ∉ J u)
set_option maxRecDepth 100000 in
set_option maxHeartbeats 4000000 in
theorem dindex_any (x : Int) (cb : Nat) (w : World) (h : IsDm w B s g n Q V q c J) (hn : n ≤ 1000) (hc : w.cell? ⟨cb, 0, none⟩ = some (.int .i64 x)) :
    Calls Try.prog 68 #[.slice (some ⟨g, 0, none⟩) n n, .func (.func 69) #[] #[.pointer (some ⟨cb, 0, none⟩)]] w fun e w' => ∃ r, e = .returned (.int .i64 r) ∧ OwnP n J x r ∧ Below w.heap.size w w' := by
  have H := Lib.hid h
  have HC := Lib.hid hc
  have he := down1_enters
  clear h hc
  go_enter Try.func68, Try.ntmps68
  go_wp2_with fail
  go_loopw [5, 8] (fun o i wr => ∃ k : Nat, i = .int .i64 k ∧ k ≤ n ∧ Hid (Below w.heap.size w wr ∧ ∀ u, u < k → x ∉ J u)) (fun _ i _ => n - (intOf i).toNat)
  case atStart => exact ⟨0, rfl, by omega, Lib.hid ⟨Below.refl _ _, fun u hu => by omega⟩⟩
  case round =>
    obtain ⟨k, rfl, hk, hA⟩ := hrel
    by_cases hlt : k < n
    · have hki : (k : Int) < (n : Int) := by omega
      have h1 := H.out.far hA.out.1
      obtain ⟨d0, d1, d2⟩ := h1.ten.cells hlt
      have HD := Lib.hid (down1_any cb x (q k) (c k) wr (h1.qs k (by omega)) ((hA.out.1.cell (cell_lt HC.out)).trans HC.out))
      clear h1
      unfold ptrQ at d0
      generalize Q k = b at *
      generalize q k = y at *
      generalize c k = z at *
      by_cases hm : x ∈ J k
      · rw [decide_eq_true hm] at HD
        have HE : Hid (OwnP n J x (k : Int)) := Lib.hid (Or.inl ⟨k, hlt, rfl, hm, hA.out.2⟩)
        clear hm
        go_wp2_with fail
        refine HD.out.mono ?_
        rintro e w1 ⟨rfl, hb⟩
        have HB := Lib.hid (hA.out.1.trans (hb.mono hA.out.1.size))
        clear hb
        go_wp2_with fail
        go_ret
        exact ⟨_, rfl, HE.out, HB.out⟩
      · rw [decide_eq_false hm] at HD
        have HN : Hid (∀ u, u < k + 1 → x ∉ J u) := Lib.hid (fun u hu => by
          by_cases e : u = k
          · rw [e]; exact hm
          · exact hA.out.2 u (by omega))
        clear hm
        go_wp2_with fail
        refine HD.out.mono ?_
        rintro e w1 ⟨rfl, hb⟩
        have HB := Lib.hid (And.intro (hA.out.1.trans (hb.mono hA.out.1.size)) HN.out)
        clear hb
        go_wp2_with fail
        go_roundw
        case rel => exact ⟨k + 1, by go_num, by omega, HB⟩
        case measure => simp [intOf]; omega
    · have hkn : k = n := by omega
      subst hkn
      have HE : Hid (OwnP k J x (-1)) := Lib.hid (Or.inr ⟨rfl, hA.out.2⟩)
      go_wp2_with fail
      go_ret
      exact ⟨_, rfl, HE.out, hA.out.1⟩
set_option maxHeartbeats 1000000 in
theorem downer_any (x : Int) (w : World) (h : IsDm w B s g n Q V q c J) (hn : n ≤ 1000) : Calls Try.prog 55 #[.pointer (some ⟨s, 0, none⟩), .int .i64 x] w fun e w' => ∃ r, e = .returned (.int .i64 r) ∧ OwnP n J x r ∧ Below w.heap.size w w' := by
  obtain ⟨w1, hw1⟩ : ∃ w1, w.alloc (.cells #[.int .i64 x] 3) = w1 := ⟨_, rfl⟩
  obtain ⟨P, hP⟩ : ∃ P, w.heap.size = P := ⟨_, rfl⟩
  have hx : w1.heap[P]? = some (.cells #[.int .i64 x] 3 (0, 0)) := by rw [← hw1, ← hP]; exact heap_alloc_new _ _
  have hc : w1.cell? ⟨P, 0, none⟩ = some (.int .i64 x) := by rw [cell_of_row _ _ 0 _ _ _ hx]; rfl
  have hb1 : Below w.heap.size w w1 := by rw [← hw1]; exact (Below.refl _ _).alloc (Nat.le_refl _) _
  have h1 := h.far hb1
  have HI := Lib.hid (dindex_any x P w1 h1 hn hc)
  have c0 := h1.cells.1
  have HB := Lib.hid hb1
  clear h h1 hx hc hb1
  rw [hP] at HB ⊢
  go_enter Try.func55, Try.ntmps55
  go_wp2_with fail
  refine HI.out.mono ?_
  rintro e w2 ⟨r, rfl, h2, hb2⟩
  have H2 := Lib.hid (And.intro h2 (HB.out.trans (hb2.mono (by have := HB.out.size; omega))))
  clear h2 hb2
  go_wp2_with fail
  go_ret
  exact ⟨_, rfl, H2.out⟩
end
end Go.Proofs.Ytgdgjalfabffcaa

/-
  LAYER 30: quanta that may be, by the document; a scheduler that is filled; blocks beside it.
-/
import Derived.Test.YtgdgjalfabffcaaDrL
namespace Go.Proofs.Ytgdgjalfabffcaa
open Go.RowKit
set_option linter.unusedVariables false
set_option linter.unusedSimpArgs false
set_option maxRecDepth 100000 in
set_option maxHeartbeats 2000000 in
theorem rmay30_any (v : Value) (zs : List Int) (w : World) (hI : IsInts w v zs) (hn : zs.length ≤ 9223372036854775807) : Calls Try.prog 27 #[v] w fun e w' => e = .returned (.bool (decide (1 ≤ zs.length ∧ zs.length ≤ 16 ∧ ∀ x ∈ zs, (1 ≤ x ∧ x ≤ 1099511627776)))) ∧ w' = w := by
  have HI := Lib.hid hI
  obtain ⟨a, cap, rfl, _⟩ := hI
  obtain ⟨N, hN⟩ : ∃ N, zs.length = N := ⟨_, rfl⟩
  have HN := Lib.hid hN
  obtain ⟨R, hR⟩ : ∃ R, decide (1 ≤ zs.length ∧ zs.length ≤ 16 ∧ ∀ x ∈ zs, (1 ≤ x ∧ x ≤ 1099511627776)) = R := ⟨_, rfl⟩
  have HR := Lib.hid hR
  rw [hR]
  rw [hN] at hn ⊢
  clear hN hR
  go_enter Try.func27, Try.ntmps27
  go_wp2_with fail
  go_loopw [4, 7] (fun _ vi wr => ∃ k : Nat, vi = .int .i64 (k : Int) ∧ k ≤ N ∧ wr = w ∧ Hid (∀ x ∈ zs.take k, (1 ≤ x ∧ x ≤ 1099511627776))) (fun _ vi _ => N - (intOf vi).toNat)
  case atStart => exact ⟨0, rfl, by omega, rfl, Lib.hid (fun x hx => by simp at hx)⟩
  case round =>
    obtain ⟨k, rfl, hk, rfl, hA⟩ := hrel
    by_cases hlt : k < N
    · have hki : (k : Int) < (N : Int) := by omega
      have hlt2 : k < zs.length := by rw [HN.out]; exact hlt
      obtain ⟨bz, oz, cz, he1, cx⟩ := HI.out.cell hlt2
      simp only [Value.slice.injEq] at he1
      obtain ⟨rfl, _, rfl⟩ := he1
      have HX : Hid (zs[k]? = some (zs.getD k 0)) := Lib.hid (by rw [List.getD_eq_getElem?_getD, List.getElem?_eq_getElem hlt2]; rfl)
      generalize zs.getD k 0 = x at *
      by_cases h1 : (1 ≤ x ∧ x ≤ 1099511627776)
      · have HA2 : Hid (∀ y ∈ zs.take (k + 1), (1 ≤ y ∧ y ≤ 1099511627776)) := Lib.hid (fun y hy => by
          rw [List.take_add_one, HX.out] at hy
          rcases List.mem_append.1 hy with hy | hy
          · exact hA.out y hy
          · simp at hy; rw [hy]; exact h1)
        have g1 : ¬ x < 1 := by have := h1.1; omega
        have g2 : ¬ x > 1099511627776 := by have := h1.2; omega
        clear h1
        go_wp2_with fail
        go_roundw
        case rel => exact ⟨k + 1, by go_num, by omega, by trivial, HA2⟩
        case measure => simp [intOf]; omega
      · have HF : Hid (R = false) := Lib.hid (by rw [← HR.out]; exact decide_eq_false (fun h => h1 (h.2.2 x (List.mem_of_getElem? HX.out))))
        by_cases g1 : x < 1
        · clear h1
          go_wp2_with fail
          go_ret
          exact ⟨by rw [HF.out]; rfl, rfl⟩
        · have g2 : x > 1099511627776 := by
            by_cases g2 : x > 1099511627776
            · exact g2
            · exact absurd ⟨by omega, by omega⟩ h1
          clear h1
          go_wp2_with fail
          go_ret
          exact ⟨by rw [HF.out]; rfl, rfl⟩
    · have hki : ¬ (k : Int) < (N : Int) := by omega
      have hkN : k = N := by omega
      subst hkN
      have hA2 := hA.out
      rw [← HN.out, List.take_length] at hA2
      have hR2 := HR.out
      by_cases h1 : 1 ≤ k
      · have g1 : (k : Int) > 0 := by omega
        by_cases h2 : k ≤ 16
        · have g2 : (k : Int) ≤ 16 := by omega
          have HF : Hid (R = true) := Lib.hid (by rw [← hR2]; exact decide_eq_true ⟨by rw [HN.out]; exact h1, by rw [HN.out]; exact h2, hA2⟩)
          clear hA2 hR2
          go_wp2_with fail
          go_ret
          exact ⟨by rw [HF.out]; rfl, rfl⟩
        · have g2 : ¬ (k : Int) ≤ 16 := by omega
          have HF : Hid (R = false) := Lib.hid (by rw [← hR2]; exact decide_eq_false (fun h => h2 (by rw [← HN.out]; exact h.2.1)))
          clear hA2 hR2
          go_wp2_with fail
          go_ret
          refine ⟨?_, rfl⟩
          rw [HF.out]
          first | rfl | (show Ending.returned (Value.bool (decide ((k : Int) ≤ 16))) = _; rw [decide_eq_false g2])
      · have g1 : ¬ (k : Int) > 0 := by omega
        have HF : Hid (R = false) := Lib.hid (by rw [← hR2]; exact decide_eq_false (fun h => h1 (by rw [← HN.out]; exact h.1)))
        clear hA2 hR2
        go_wp2_with fail
        go_ret
        refine ⟨?_, rfl⟩
        rw [HF.out]
        first | rfl | (show Ending.returned (Value.bool (decide (0 < (k : Int)))) = _; rw [decide_eq_false (by omega)]) | simp
/-! ### A scheduler that is filled, tenant by tenant -/
/-- Tenants below i have jobs, tenant i has k: numbers from ten times its own on. -/
structure FillP (d : DrrM.DS) (zs : List Int) (i k : Nat) : Prop where
  q : d.q = zs
  crd : ∀ t, d.crd t = 0
  r : d.r = List.range (if k = 0 then i else i + 1)
  js : ∀ u, u < zs.length → ∀ x ∈ d.job u, 10 * (u : Int) ≤ x ∧ x ≤ 10 * (u : Int) + 9
  full : ∀ u, u < i → d.job u ≠ []
  here : ∀ x ∈ d.job i, x < 10 * (i : Int) + (k : Int)
  some_ : 0 < k → d.job i ≠ []
  len : ∀ u, u < zs.length → (d.job u).length ≤ 10
theorem FillP.start (zs : List Int) : FillP (DrrM.new zs) zs 0 0 := by
  have hj : ∀ t, (DrrM.new zs).job t = [] := fun t => by
    show (List.replicate zs.length []).getD t [] = []
    rw [List.getD_eq_getElem?_getD, List.getElem?_replicate]
    split <;> rfl
  refine ⟨rfl, fun t => ?_, rfl, fun u hu x hx => ?_, fun u hu => by omega, fun x hx => ?_, fun h => by omega, fun u hu => ?_⟩
  · show (List.replicate zs.length (0 : Int)).getD t 0 = 0
    rw [List.getD_eq_getElem?_getD, List.getElem?_replicate]
    split <;> rfl
  · rw [hj] at hx; simp at hx
  · rw [hj] at hx; simp at hx
  · rw [hj]; simp
theorem FillP.up {d : DrrM.DS} {zs : List Int} {i k : Nat} (h : FillP d zs i k) (hi : DrrM.Inv d) (hk : 0 < k) : FillP d zs (i + 1) 0 := by
  refine ⟨h.q, h.crd, by rw [h.r, if_neg (by omega), if_pos rfl], h.js, fun u hu => ?_, fun x hx => ?_, fun h => by omega, h.len⟩
  · by_cases e : u = i
    · rw [e]; exact h.some_ hk
    · exact h.full u (by omega)
  · by_cases hlt : i + 1 < zs.length
    · have := (hi.iff_ (i + 1) (by rw [h.q]; exact hlt)).2 (fun e => by rw [e] at hx; simp at hx)
      rw [h.r, if_neg (by omega), List.mem_range] at this
      omega
    · have : d.job (i + 1) = [] := by
        unfold DrrM.DS.job
        rw [List.getD_eq_getElem?_getD, List.getElem?_eq_none (by rw [hi.lj, h.q]; omega)]
        rfl
      rw [this] at hx
      simp at hx
theorem FillP.add {d : DrrM.DS} {zs : List Int} {i k : Nat} (h : FillP d zs i k) (hi : DrrM.Inv d) (hlt : i < zs.length) (hk : k ≤ 5) (hl : (d.job i).length = k) :
    addE d (i : Int) (10 * (i : Int) + (k : Int)) = 0 ∧ FillP (addD d (i : Int) (10 * (i : Int) + (k : Int))) zs i (k + 1) ∧ ((addD d (i : Int) (10 * (i : Int) + (k : Int))).job i).length = k + 1 := by
  have hw : d.whose (10 * (i : Int) + (k : Int)) = none := by
    cases hc : d.whose (10 * (i : Int) + (k : Int)) with
    | none => rfl
    | some u =>
      exfalso
      obtain ⟨h1, h2⟩ := DrrM.whoseL_some hc
      have hu : u < zs.length := by rw [← h.q, ← hi.lj]; exact h1
      have h3 := h.js u hu _ h2
      have e : u = i := by omega
      subst e
      have := h.here _ h2
      omega
  have hT : 0 ≤ (i : Int) ∧ (i : Int) < d.q.length := by rw [h.q]; omega
  have hlj : i < d.j.length := by rw [hi.lj, h.q]; exact hlt
  have hjob : ∀ u, (d.add i (10 * (i : Int) + (k : Int))).job u = if u = i then d.job i ++ [10 * (i : Int) + (k : Int)] else d.job u := fun u => by
    unfold DrrM.DS.add
    split
    · exact d.job_setJ i u _ hlj
    · exact d.job_setJ i u _ hlj
  have e1 : addE d (i : Int) (10 * (i : Int) + (k : Int)) = 0 := by unfold addE; rw [if_pos hT, hw]
  have e2 : addD d (i : Int) (10 * (i : Int) + (k : Int)) = d.add i (10 * (i : Int) + (k : Int)) := by unfold addD; rw [if_pos hT, hw]; simp
  rw [e2]
  refine ⟨e1, ⟨?_, fun t => ?_, ?_, fun u hu x hx => ?_, fun u hu => ?_, fun x hx => ?_, fun _ => ?_, fun u hu => ?_⟩, ?_⟩
  · rw [← h.q]; unfold DrrM.DS.add; split <;> rfl
  · rw [← h.crd t]; unfold DrrM.DS.add; split <;> rfl
  · rw [if_neg (by omega)]
    unfold DrrM.DS.add
    by_cases hr : i ∈ d.r
    · rw [if_pos hr]
      show d.r = _
      rw [h.r] at hr ⊢
      by_cases hk0 : k = 0
      · rw [if_pos hk0, List.mem_range] at hr; omega
      · rw [if_neg hk0]
    · rw [if_neg hr]
      show DrrM.withT d.r i = _
      rw [h.r] at hr ⊢
      by_cases hk0 : k = 0
      · rw [if_pos hk0]
        unfold DrrM.withT
        rw [List.range_succ]
      · rw [if_neg hk0, List.mem_range] at hr; omega
  · rw [hjob] at hx
    by_cases e : u = i
    · rw [if_pos e] at hx
      subst e
      rcases List.mem_append.1 hx with hx | hx
      · exact h.js u hu x hx
      · simp at hx; omega
    · rw [if_neg e] at hx; exact h.js u hu x hx
  · rw [hjob, if_neg (by omega)]; exact h.full u hu
  · rw [hjob, if_pos rfl] at hx
    rcases List.mem_append.1 hx with hx | hx
    · have := h.here x hx; push_cast; omega
    · simp at hx; push_cast; omega
  · rw [hjob, if_pos rfl]; simp
  · rw [hjob]
    split
    · rename_i e; rw [List.length_append, hl]; simp; omega
    · exact h.len u hu
  · rw [hjob, if_pos rfl, List.length_append, hl]; simp
theorem FillP.small {d : DrrM.DS} {zs : List Int} {i k : Nat} (h : FillP d zs i k) : ∀ t, t < d.q.length → (d.job t).length < 1099511627776 := fun t ht => by
  have := h.len t (by rw [← h.q]; exact ht)
  omega
/-- Filled, nothing was used: turns are fair. -/
theorem FillP.fair {d : DrrM.DS} {zs : List Int} (h : FillP d zs zs.length 0) (hi : DrrM.Inv d) : DrrM.Fair d (fun _ => 0) 0 0 := by
  have hn := hi.qok.1
  refine ⟨hi, by omega, ?_, Int.le_refl _, fun t _ _ => h.crd t, fun t ht => by omega, fun t _ _ => by simp, by rw [h.crd]; simp⟩
  rw [h.r, if_pos rfl, h.q]
  unfold DrrM.ringAt
  simp
/-! ### Blocks beside a scheduler turn -/
theorem DrP.touch {w0 w w' : World} {s g : Nat} {d : DrrM.DS} {K S : Nat → Prop} (h : DrP w0 w s g d K) (ht : Touch S w w') (hS : ∀ k, S k → K k) (hb : Below w0.heap.size w0 w') : DrP w0 w' s g d K := by
  obtain ⟨⟨Q, V, h1, h3⟩, h2⟩ := h
  exact ⟨⟨Q, V, ⟨h1.dm.other ht (fun k hf hs => (h3 k (hS k hs)).2 hf), h1.inv⟩, fun k hk => ⟨by have := (h3 k hk).1; have := ht.size; omega, (h3 k hk).2⟩⟩, hb⟩
theorem DrP.setCell {w0 w : World} {s g b i : Nat} {d : DrrM.DS} {K : Nat → Prop} (h : DrP w0 w s g d K) (hb : K b) (hB : w0.heap.size ≤ b) (v : Value) : DrP w0 (w.setCell ⟨b, i, none⟩ v) s g d K :=
  h.touch (touch_cell (Touch.refl (· = b) w)) (fun k hk => by have : k = b := hk; rw [this]; exact hb) (h.below.setCell (by exact hB) v)
theorem DrP.less {w0 w : World} {s g : Nat} {d : DrrM.DS} {K K' : Nat → Prop} (h : DrP w0 w s g d K) (hK : ∀ k, K' k → K k) : DrP w0 w s g d K' := by
  obtain ⟨⟨Q, V, h1, h3⟩, h2⟩ := h
  exact ⟨⟨Q, V, h1, fun k hk => h3 k (hK k hk)⟩, h2⟩
end Go.Proofs.Ytgdgjalfabffcaa

/-
  LAYER 30's STATEMENTS: DrrFair.
-/
import Derived.Test.YtgdgjalfabffcaaDrM
namespace Go.Proofs.Ytgdgjalfabffcaa
open Go.RowKit
set_option linter.unusedVariables false
set_option linter.unusedSimpArgs false
theorem FillP.empty {d : DrrM.DS} {zs : List Int} {i : Nat} (h : FillP d zs i 0) (hi : i < zs.length) : d.job i = [] := by
  cases hd : d.job i with
  | nil => rfl
  | cons x l =>
    have hx : x ∈ d.job i := by rw [hd]; exact List.mem_cons_self ..
    have h1 := h.js i hi x hx
    have h2 := h.here x hx
    omega
theorem mul_bd {a b A B : Int} (h1 : 0 ≤ a ∧ a ≤ A) (h2 : 0 ≤ b ∧ b ≤ B) : 0 ≤ a * b ∧ a * b ≤ A * B := by
  refine ⟨Int.mul_nonneg h1.1 h2.1, ?_⟩
  have e1 : a * b ≤ A * b := Int.mul_le_mul_of_nonneg_right h1.2 h2.1
  have e2 : A * b ≤ A * B := Int.mul_le_mul_of_nonneg_left h2.2 (by omega)
  omega
/-- Between two rounds of turns. -/
def FairSt (w wr : World) (s g gl gu n : Nat) (zs : List Int) (j : Nat) : Prop :=
  ∃ d u K f us, DrP w wr s g d (fun k => k = gl ∨ k = gu) ∧ DrrM.Fair d u K f ∧ d.q = zs ∧ RowI wr gl (List.replicate n 1099511627776) ∧ RowI wr gu us ∧ us.length = n ∧ (∀ t, t < n → us.getD t 0 = u t) ∧ (∀ t, t < n → 0 ≤ u t ∧ u t ≤ 1000 * (j : Int))
set_option maxRecDepth 100000 in
set_option maxHeartbeats 32000000 in
theorem drrFair.main (vq vj vb : Value) (zs js bs : List Int) (w : World) (hq : IsInts w vq zs) (hqn : zs.length ≤ 9223372036854775807) (hj : IsInts w vj js) (hjn : js.length ≤ 9223372036854775807) (hb : IsInts w vb bs) (hbn : bs.length ≤ 9223372036854775807) :
    Calls Try.prog 9 #[vq, vj, vb] w fun e w' => e = .returned (.bool true) ∧ Below w.heap.size w w' := by
  have HM := Lib.hid (rmay30_any vq zs w hq hqn)
  have HQI := Lib.hid hq
  have HJI := Lib.hid hj
  have HBI := Lib.hid hb
  obtain ⟨aq, cq, rfl, _⟩ := hq
  obtain ⟨aj, cj, rfl, _⟩ := hj
  obtain ⟨ab, cb, rfl, _⟩ := hb
  have H2 := Lib.hid (two30_any w)
  obtain ⟨n, hn⟩ : ∃ n, zs.length = n := ⟨_, rfl⟩
  obtain ⟨nj, hnj⟩ : ∃ nj, js.length = nj := ⟨_, rfl⟩
  obtain ⟨nb, hnb⟩ : ∃ nb, bs.length = nb := ⟨_, rfl⟩
  have HN := Lib.hid hn
  have HNJ := Lib.hid hnj
  have HNB := Lib.hid hnb
  have e0 : Value.slice aq zs.length cq = Value.slice aq n cq := by rw [hn]
  rw [e0] at HM HQI ⊢
  rw [hnj] at HJI hjn ⊢
  rw [hnb] at HBI hbn ⊢
  clear hnj hnb e0
  by_cases hm : 1 ≤ zs.length ∧ zs.length ≤ 16 ∧ ∀ x ∈ zs, (1 ≤ x ∧ x ≤ 1099511627776)
  case neg =>
    rw [decide_eq_false hm] at HM
    clear hm hn hqn
    go_enter Try.func9, Try.ntmps9
    go_wp2_with fail
    refine HM.out.mono ?_
    rintro e w1 ⟨rfl, hw1⟩
    obtain rfl := hw1.symm
    go_wp2_with fail
    refine H2.out.mono ?_
    rintro e w1 ⟨rfl, hb1⟩
    have HB := Lib.hid hb1
    clear hb1
    go_wp2_with fail
    go_ret
    exact ⟨rfl, HB.out⟩
  rw [decide_eq_true hm] at HM
  by_cases h100 : (nb : Int) > 100
  · clear hm hn hqn
    go_enter Try.func9, Try.ntmps9
    go_wp2_with fail
    refine HM.out.mono ?_
    rintro e w1 ⟨rfl, hw1⟩
    obtain rfl := hw1.symm
    go_wp2_with fail
    refine H2.out.mono ?_
    rintro e w1 ⟨rfl, hb1⟩
    have HB := Lib.hid hb1
    clear hb1
    go_wp2_with fail
    go_ret
    exact ⟨rfl, HB.out⟩
  have HNEW := Lib.hid (drnew_any (.slice aq n cq) zs w HQI.out hm)
  have HMAY := Lib.hid hm
  have hn16 : 1 ≤ n ∧ n ≤ 16 := by rw [← hn]; exact ⟨hm.1, hm.2.1⟩
  clear hm hn hqn
  go_enter Try.func9, Try.ntmps9
  go_wp2_with fail
  refine HM.out.mono ?_
  rintro e w1 ⟨rfl, hw1⟩
  obtain rfl := hw1.symm
  go_wp2_with fail
  refine HNEW.out.mono ?_
  rintro e w2 ⟨s, g, Q, V, rfl, hdm, hbm⟩
  have hd2 := DrP.new hdm hbm ⟨HMAY.out.1, HMAY.out.2.1, HMAY.out.2.2⟩
  obtain ⟨gl, hgl⟩ : ∃ gl, w2.heap.size = gl := ⟨_, rfl⟩
  have hmk1 := make_ints n (by omega) w2
  obtain ⟨w3, hw3⟩ : ∃ w3, w2.alloc (.cells (madeCells #[Value.int .i64 0] n) 3) = w3 := ⟨_, rfl⟩
  have hmk2 := make_ints n (by omega) w3
  obtain ⟨gu, hgu⟩ : ∃ gu, w3.heap.size = gu := ⟨_, rfl⟩
  obtain ⟨w4, hw4⟩ : ∃ w4, w3.alloc (.cells (madeCells #[Value.int .i64 0] n) 3) = w4 := ⟨_, rfl⟩
  rw [hgl, hw3] at hmk1
  rw [hgu, hw4] at hmk2
  have hr3 : RowI w3 gl (List.replicate n 0) := by rw [← hw3, ← hgl]; exact RowI.made w2 n
  have hb3 : Below w2.heap.size w2 w3 := by rw [← hw3]; exact (Below.refl _ _).alloc (Nat.le_refl _) _
  have hb4 : Below w3.heap.size w3 w4 := by rw [← hw4]; exact (Below.refl _ _).alloc (Nat.le_refl _) _
  have hr4 : RowI w4 gl (List.replicate n 0) := hr3.below hb4
  have hu4 : RowI w4 gu (List.replicate n 0) := by rw [← hw4, ← hgu]; exact RowI.made w3 n
  have hs3 : w3.heap.size = gl + 1 := by rw [← hw3, ← hgl]; simp
  have hs4 : w4.heap.size = gl + 2 := by rw [← hw4]; simp; omega
  have hd4 : DrP w w4 s g (DrrM.new zs) (fun k => k = gl ∨ k = gu) := hd2.more (hb3.trans (hb4.mono hb3.size)) (fun k hk => Or.inr (by omega))
  have HGG : Hid (gl ≠ gu ∧ w.heap.size ≤ gl ∧ w.heap.size ≤ gu) := Lib.hid ⟨by omega, by have := hd2.below.size; omega, by have := hd2.below.size; omega⟩
  have HST : Hid (∃ d, DrP w w4 s g d (fun k => k = gl ∨ k = gu) ∧ FillP d zs 0 0 ∧ RowI w4 gl (List.replicate 0 1099511627776 ++ List.replicate (n - 0) 0) ∧ RowI w4 gu (List.replicate n 0) ∧ ∀ u, u < 0 → zs.getD u 0 ≤ 1000) := Lib.hid
    ⟨_, hd4, FillP.start zs, by simpa using hr4, hu4, fun u hu => by omega⟩
  clear hdm hbm hd2 hr3 hb3 hb4 hr4 hu4 hs3 hs4 hd4 hgl hgu hw3
  go_wp2_with fail
  clear hw4 hmk1 hmk2
  go_loopw [11, 12, 13, 14, 45] (fun _ _ _ _ vi wr => ∃ i : Nat, vi = .int .i64 (i : Int) ∧ i ≤ n ∧ Hid (∃ d, DrP w wr s g d (fun k => k = gl ∨ k = gu) ∧ FillP d zs i 0 ∧ RowI wr gl (List.replicate i 1099511627776 ++ List.replicate (n - i) 0) ∧ RowI wr gu (List.replicate n 0) ∧ ∀ u, u < i → zs.getD u 0 ≤ 1000)) (fun _ _ _ _ vi _ => n - (intOf vi).toNat)
  case atStart => exact ⟨0, rfl, by omega, HST⟩
  case round =>
    obtain ⟨i, rfl, hi, hh⟩ := hrel
    obtain ⟨d, hd, hf, hgl, hgu, hqs⟩ := hh.out
    have HQS := Lib.hid hqs
    clear hh hqs
    by_cases hlt : i < n
    · have hki : (i : Int) < (n : Int) := by omega
      obtain ⟨bz, oz, cz, he1, cx⟩ := (HQI.out.below hd.below).cell (k := i) (by rw [HN.out]; exact hlt)
      simp only [Value.slice.injEq] at he1
      obtain ⟨rfl, hz, rfl⟩ := he1
      clear hz
      obtain ⟨q, hq⟩ : ∃ q, zs.getD i 0 = q := ⟨_, rfl⟩
      rw [hq] at cx
      by_cases hq1 : q > 1000
      · have HB := Lib.hid hd.below
        have H2r := Lib.hid (two30_any wr)
        clear hd hf hgl hgu hq
        go_wp2_with fail
        refine H2r.out.mono ?_
        rintro e w5 ⟨rfl, hb5⟩
        have HB5 := Lib.hid (HB.out.trans (hb5.mono HB.out.size))
        clear hb5
        go_wp2_with fail
        go_ret
        exact ⟨rfl, HB5.out⟩
      · have HQ : Hid (zs.getD i 0 ≤ 1000) := Lib.hid (by rw [hq]; omega)
        have hli : i < (List.replicate i (1099511627776 : Int) ++ List.replicate (n - i) 0).length := by simp; omega
        obtain ⟨cl, fl, sl⟩ := hgl.cell hli
        have hrow : RowI (wr.setCell ⟨gl, i, none⟩ (.int .i64 1099511627776)) gl (List.replicate (i + 1) 1099511627776 ++ List.replicate (n - (i + 1)) 0) := by
          have h1 := sl 1099511627776
          have h2 := set_next (List.replicate i 1099511627776) (n - (i + 1)) 1099511627776
          rw [List.length_replicate] at h2
          rw [show n - i = (n - (i + 1)) + 1 by omega, h2] at h1
          rw [List.replicate_succ']
          exact h1
        obtain ⟨W2, hW2⟩ : ∃ W2, wr.setCell ⟨gl, i, none⟩ (.int .i64 1099511627776) = W2 := ⟨_, rfl⟩
        have hd2 : DrP w W2 s g d (fun k => k = gl ∨ k = gu) := by rw [← hW2]; exact hd.setCell (Or.inl rfl) HGG.out.2.1 _
        have hu2 : RowI W2 gu (List.replicate n 0) := by rw [← hW2]; exact (heap_setCell_other wr _ gu _ (by show gu ≠ gl; exact fun e => HGG.out.1 e.symm)).trans hgu
        rw [hW2] at hrow
        have HI2 : Hid (∃ d, DrP w W2 s g d (fun k => k = gl ∨ k = gu) ∧ FillP d zs i 0 ∧ (d.job i).length = 0 ∧ RowI W2 gl (List.replicate (i + 1) 1099511627776 ++ List.replicate (n - (i + 1)) 0) ∧ RowI W2 gu (List.replicate n 0)) := Lib.hid
          ⟨d, hd2, hf, by rw [hf.empty (by rw [HN.out]; exact hlt)]; rfl, hrow, hu2⟩
        have HJ2 := Lib.hid (HJI.out.below hd2.below)
        have i0 : (0 : Int) ≤ (i : Int) := by omega
        clear hd hf hgl hgu hq sl hrow hd2 hu2
        by_cases hji : (i : Int) < (nj : Int)
        · obtain ⟨bj, oj, cj2, he2, cy⟩ := HJ2.out.cell (k := i) (by rw [HNJ.out]; omega)
          simp only [Value.slice.injEq] at he2
          obtain ⟨rfl, hz2, rfl⟩ := he2
          clear hz2
          obtain ⟨y, hy⟩ : ∃ y, js.getD i 0 = y := ⟨_, rfl⟩
          rw [hy] at cy
          clear hy
          by_cases hy0 : y < 0
          · have hy1 : y < 0 := hy0
            obtain ⟨wb, rfl⟩ : ∃ wb : World, wb = W2 := ⟨_, rfl⟩
            go_wp2_with fail
            go_loopw [14, 68] (fun _ vk wr => ∃ k : Nat, vk = .int .i64 (k : Int) ∧ k ≤ 1 ∧ Hid (∃ d, DrP w wr s g d (fun k => k = gl ∨ k = gu) ∧ FillP d zs i k ∧ (d.job i).length = k ∧ RowI wr gl (List.replicate (i + 1) 1099511627776 ++ List.replicate (n - (i + 1)) 0) ∧ RowI wr gu (List.replicate n 0))) (fun _ vk _ => 1 - (intOf vk).toNat)
            case atStart => exact ⟨0, rfl, by omega, HI2⟩
            case round =>
              obtain ⟨k, rfl, hk, hh⟩ := hrel
              obtain ⟨d, hd, hf, hjl, hgl, hgu⟩ := hh.out
              clear hh
              by_cases hlt2 : k < 1
              · have hki2 : (k : Int) < 1 := by omega
                obtain ⟨a1, a2, a3⟩ := hf.add (da_inv hd) (by rw [HN.out]; exact hlt) (by omega) hjl
                obtain ⟨X, hX⟩ : ∃ X, 10 * (i : Int) + (k : Int) = X := ⟨_, rfl⟩
                rw [hX] at a1 a2 a3
                have HAD := Lib.hid (da_add (i : Int) X hd hf.small)
                rw [a1] at HAD
                have hw1 : IntKind.i64.wrap (10 * (i : Int)) = 10 * (i : Int) := IntWalk.i64_in _ (by omega)
                have hw2 : IntKind.i64.wrap (10 * (i : Int) + (k : Int)) = X := by rw [hX]; exact IntWalk.i64_in _ (by omega)
                have HFI := Lib.hid (And.intro a2 a3)
                have HGL := Lib.hid (And.intro hgl hgu)
                clear a1 a2 a3 hd hf hjl hgl hgu hX
                go_wp2_with fail
                refine HAD.out.mono ?_
                rintro e w5 ⟨rfl, hd5, hk5⟩
                have H5 : Hid (∃ d, DrP w w5 s g d (fun k => k = gl ∨ k = gu) ∧ FillP d zs i (k + 1) ∧ (d.job i).length = k + 1 ∧ RowI w5 gl (List.replicate (i + 1) 1099511627776 ++ List.replicate (n - (i + 1)) 0) ∧ RowI w5 gu (List.replicate n 0)) := Lib.hid
                  ⟨_, hd5, HFI.out.1, HFI.out.2, (hk5 gl (Or.inl rfl)).trans HGL.out.1, (hk5 gu (Or.inr rfl)).trans HGL.out.2⟩
                clear hd5 hk5
                go_wp2_with fail
                go_roundw
                case rel => exact ⟨k + 1, by go_num, by omega, H5⟩
                case measure => simp [intOf]; omega
              · have hki2 : ¬ (k : Int) < 1 := by omega
                have H5 : Hid (∃ d, DrP w wr s g d (fun k => k = gl ∨ k = gu) ∧ FillP d zs (i + 1) 0 ∧ RowI wr gl (List.replicate (i + 1) 1099511627776 ++ List.replicate (n - (i + 1)) 0) ∧ RowI wr gu (List.replicate n 0) ∧ ∀ u, u < i + 1 → zs.getD u 0 ≤ 1000) := Lib.hid
                  ⟨d, hd, hf.up (da_inv hd) (by omega), hgl, hgu, fun u hu => by
                    by_cases e : u = i
                    · rw [e]; exact HQ.out
                    · exact HQS.out u (by omega)⟩
                clear hd hf hjl hgl hgu
                go_wp2_with fail
                go_roundw
                case rel => exact ⟨i + 1, by go_num, by omega, H5⟩
                case measure => simp [intOf]; omega
          · by_cases hy3 : 3 < y
            · have hy4 : y > 3 := by omega
              obtain ⟨wb, rfl⟩ : ∃ wb : World, wb = W2 := ⟨_, rfl⟩
              go_wp2_with fail
              go_loopw [14, 68] (fun _ vk wr => ∃ k : Nat, vk = .int .i64 (k : Int) ∧ k ≤ 4 ∧ Hid (∃ d, DrP w wr s g d (fun k => k = gl ∨ k = gu) ∧ FillP d zs i k ∧ (d.job i).length = k ∧ RowI wr gl (List.replicate (i + 1) 1099511627776 ++ List.replicate (n - (i + 1)) 0) ∧ RowI wr gu (List.replicate n 0))) (fun _ vk _ => 4 - (intOf vk).toNat)
              case atStart => exact ⟨0, rfl, by omega, HI2⟩
              case round =>
                obtain ⟨k, rfl, hk, hh⟩ := hrel
                obtain ⟨d, hd, hf, hjl, hgl, hgu⟩ := hh.out
                clear hh
                by_cases hlt2 : k < 4
                · have hki2 : (k : Int) < 4 := by omega
                  obtain ⟨a1, a2, a3⟩ := hf.add (da_inv hd) (by rw [HN.out]; exact hlt) (by omega) hjl
                  obtain ⟨X, hX⟩ : ∃ X, 10 * (i : Int) + (k : Int) = X := ⟨_, rfl⟩
                  rw [hX] at a1 a2 a3
                  have HAD := Lib.hid (da_add (i : Int) X hd hf.small)
                  rw [a1] at HAD
                  have hw1 : IntKind.i64.wrap (10 * (i : Int)) = 10 * (i : Int) := IntWalk.i64_in _ (by omega)
                  have hw2 : IntKind.i64.wrap (10 * (i : Int) + (k : Int)) = X := by rw [hX]; exact IntWalk.i64_in _ (by omega)
                  have HFI := Lib.hid (And.intro a2 a3)
                  have HGL := Lib.hid (And.intro hgl hgu)
                  clear a1 a2 a3 hd hf hjl hgl hgu hX
                  go_wp2_with fail
                  refine HAD.out.mono ?_
                  rintro e w5 ⟨rfl, hd5, hk5⟩
                  have H5 : Hid (∃ d, DrP w w5 s g d (fun k => k = gl ∨ k = gu) ∧ FillP d zs i (k + 1) ∧ (d.job i).length = k + 1 ∧ RowI w5 gl (List.replicate (i + 1) 1099511627776 ++ List.replicate (n - (i + 1)) 0) ∧ RowI w5 gu (List.replicate n 0)) := Lib.hid
                    ⟨_, hd5, HFI.out.1, HFI.out.2, (hk5 gl (Or.inl rfl)).trans HGL.out.1, (hk5 gu (Or.inr rfl)).trans HGL.out.2⟩
                  clear hd5 hk5
                  go_wp2_with fail
                  go_roundw
                  case rel => exact ⟨k + 1, by go_num, by omega, H5⟩
                  case measure => simp [intOf]; omega
                · have hki2 : ¬ (k : Int) < 4 := by omega
                  have H5 : Hid (∃ d, DrP w wr s g d (fun k => k = gl ∨ k = gu) ∧ FillP d zs (i + 1) 0 ∧ RowI wr gl (List.replicate (i + 1) 1099511627776 ++ List.replicate (n - (i + 1)) 0) ∧ RowI wr gu (List.replicate n 0) ∧ ∀ u, u < i + 1 → zs.getD u 0 ≤ 1000) := Lib.hid
                    ⟨d, hd, hf.up (da_inv hd) (by omega), hgl, hgu, fun u hu => by
                      by_cases e : u = i
                      · rw [e]; exact HQ.out
                      · exact HQS.out u (by omega)⟩
                  clear hd hf hjl hgl hgu
                  go_wp2_with fail
                  go_roundw
                  case rel => exact ⟨i + 1, by go_num, by omega, H5⟩
                  case measure => simp [intOf]; omega
            · obtain ⟨NN, hNN⟩ : ∃ NN : Nat, (NN : Int) = 1 + y := ⟨(1 + y).toNat, by omega⟩
              have hN4 : 1 ≤ NN ∧ NN ≤ 4 := by omega
              have hwy : IntKind.i64.wrap (1 + y) = (NN : Int) := by rw [hNN]; exact IntWalk.i64_in _ (by omega)
              obtain ⟨wb, rfl⟩ : ∃ wb : World, wb = W2 := ⟨_, rfl⟩
              go_wp2_with fail
              go_loopw [14, 68] (fun _ vk wr => ∃ k : Nat, vk = .int .i64 (k : Int) ∧ k ≤ NN ∧ Hid (∃ d, DrP w wr s g d (fun k => k = gl ∨ k = gu) ∧ FillP d zs i k ∧ (d.job i).length = k ∧ RowI wr gl (List.replicate (i + 1) 1099511627776 ++ List.replicate (n - (i + 1)) 0) ∧ RowI wr gu (List.replicate n 0))) (fun _ vk _ => NN - (intOf vk).toNat)
              case atStart => exact ⟨0, rfl, by omega, HI2⟩
              case round =>
                obtain ⟨k, rfl, hk, hh⟩ := hrel
                obtain ⟨d, hd, hf, hjl, hgl, hgu⟩ := hh.out
                clear hh
                by_cases hlt2 : k < NN
                · have hki2 : (k : Int) < (NN : Int) := by omega
                  obtain ⟨a1, a2, a3⟩ := hf.add (da_inv hd) (by rw [HN.out]; exact hlt) (by omega) hjl
                  obtain ⟨X, hX⟩ : ∃ X, 10 * (i : Int) + (k : Int) = X := ⟨_, rfl⟩
                  rw [hX] at a1 a2 a3
                  have HAD := Lib.hid (da_add (i : Int) X hd hf.small)
                  rw [a1] at HAD
                  have hw1 : IntKind.i64.wrap (10 * (i : Int)) = 10 * (i : Int) := IntWalk.i64_in _ (by omega)
                  have hw2 : IntKind.i64.wrap (10 * (i : Int) + (k : Int)) = X := by rw [hX]; exact IntWalk.i64_in _ (by omega)
                  have HFI := Lib.hid (And.intro a2 a3)
                  have HGL := Lib.hid (And.intro hgl hgu)
                  clear a1 a2 a3 hd hf hjl hgl hgu hX
                  go_wp2_with fail
                  refine HAD.out.mono ?_
                  rintro e w5 ⟨rfl, hd5, hk5⟩
                  have H5 : Hid (∃ d, DrP w w5 s g d (fun k => k = gl ∨ k = gu) ∧ FillP d zs i (k + 1) ∧ (d.job i).length = k + 1 ∧ RowI w5 gl (List.replicate (i + 1) 1099511627776 ++ List.replicate (n - (i + 1)) 0) ∧ RowI w5 gu (List.replicate n 0)) := Lib.hid
                    ⟨_, hd5, HFI.out.1, HFI.out.2, (hk5 gl (Or.inl rfl)).trans HGL.out.1, (hk5 gu (Or.inr rfl)).trans HGL.out.2⟩
                  clear hd5 hk5
                  go_wp2_with fail
                  go_roundw
                  case rel => exact ⟨k + 1, by go_num, by omega, H5⟩
                  case measure => simp [intOf]; omega
                · have hki2 : ¬ (k : Int) < (NN : Int) := by omega
                  have H5 : Hid (∃ d, DrP w wr s g d (fun k => k = gl ∨ k = gu) ∧ FillP d zs (i + 1) 0 ∧ RowI wr gl (List.replicate (i + 1) 1099511627776 ++ List.replicate (n - (i + 1)) 0) ∧ RowI wr gu (List.replicate n 0) ∧ ∀ u, u < i + 1 → zs.getD u 0 ≤ 1000) := Lib.hid
                    ⟨d, hd, hf.up (da_inv hd) (by omega), hgl, hgu, fun u hu => by
                      by_cases e : u = i
                      · rw [e]; exact HQ.out
                      · exact HQS.out u (by omega)⟩
                  clear hd hf hjl hgl hgu
                  go_wp2_with fail
                  go_roundw
                  case rel => exact ⟨i + 1, by go_num, by omega, H5⟩
                  case measure => simp [intOf]; omega
        · have i1 : (0 : Int) ≤ (i : Int) := by omega
          obtain ⟨wb, rfl⟩ : ∃ wb : World, wb = W2 := ⟨_, rfl⟩
          go_wp2_with fail
          go_loopw [14, 68] (fun _ vk wr => ∃ k : Nat, vk = .int .i64 (k : Int) ∧ k ≤ 1 ∧ Hid (∃ d, DrP w wr s g d (fun k => k = gl ∨ k = gu) ∧ FillP d zs i k ∧ (d.job i).length = k ∧ RowI wr gl (List.replicate (i + 1) 1099511627776 ++ List.replicate (n - (i + 1)) 0) ∧ RowI wr gu (List.replicate n 0))) (fun _ vk _ => 1 - (intOf vk).toNat)
          case atStart => exact ⟨0, rfl, by omega, HI2⟩
          case round =>
            obtain ⟨k, rfl, hk, hh⟩ := hrel
            obtain ⟨d, hd, hf, hjl, hgl, hgu⟩ := hh.out
            clear hh
            by_cases hlt2 : k < 1
            · have hki2 : (k : Int) < 1 := by omega
              obtain ⟨a1, a2, a3⟩ := hf.add (da_inv hd) (by rw [HN.out]; exact hlt) (by omega) hjl
              obtain ⟨X, hX⟩ : ∃ X, 10 * (i : Int) + (k : Int) = X := ⟨_, rfl⟩
              rw [hX] at a1 a2 a3
              have HAD := Lib.hid (da_add (i : Int) X hd hf.small)
              rw [a1] at HAD
              have hw1 : IntKind.i64.wrap (10 * (i : Int)) = 10 * (i : Int) := IntWalk.i64_in _ (by omega)
              have hw2 : IntKind.i64.wrap (10 * (i : Int) + (k : Int)) = X := by rw [hX]; exact IntWalk.i64_in _ (by omega)
              have HFI := Lib.hid (And.intro a2 a3)
              have HGL := Lib.hid (And.intro hgl hgu)
              clear a1 a2 a3 hd hf hjl hgl hgu hX
              go_wp2_with fail
              refine HAD.out.mono ?_
              rintro e w5 ⟨rfl, hd5, hk5⟩
              have H5 : Hid (∃ d, DrP w w5 s g d (fun k => k = gl ∨ k = gu) ∧ FillP d zs i (k + 1) ∧ (d.job i).length = k + 1 ∧ RowI w5 gl (List.replicate (i + 1) 1099511627776 ++ List.replicate (n - (i + 1)) 0) ∧ RowI w5 gu (List.replicate n 0)) := Lib.hid
                ⟨_, hd5, HFI.out.1, HFI.out.2, (hk5 gl (Or.inl rfl)).trans HGL.out.1, (hk5 gu (Or.inr rfl)).trans HGL.out.2⟩
              clear hd5 hk5
              go_wp2_with fail
              go_roundw
              case rel => exact ⟨k + 1, by go_num, by omega, H5⟩
              case measure => simp [intOf]; omega
            · have hki2 : ¬ (k : Int) < 1 := by omega
              have H5 : Hid (∃ d, DrP w wr s g d (fun k => k = gl ∨ k = gu) ∧ FillP d zs (i + 1) 0 ∧ RowI wr gl (List.replicate (i + 1) 1099511627776 ++ List.replicate (n - (i + 1)) 0) ∧ RowI wr gu (List.replicate n 0) ∧ ∀ u, u < i + 1 → zs.getD u 0 ≤ 1000) := Lib.hid
                ⟨d, hd, hf.up (da_inv hd) (by omega), hgl, hgu, fun u hu => by
                  by_cases e : u = i
                  · rw [e]; exact HQ.out
                  · exact HQS.out u (by omega)⟩
              clear hd hf hjl hgl hgu
              go_wp2_with fail
              go_roundw
              case rel => exact ⟨i + 1, by go_num, by omega, H5⟩
              case measure => simp [intOf]; omega
    · have hki : ¬ (i : Int) < (n : Int) := by omega
      have hin : i = n := by omega
      have HF0 : Hid (FairSt w wr s g gl gu n zs 0) := Lib.hid (by
        rw [hin] at hf hgl
        have hfz : FillP d zs zs.length 0 := by rw [HN.out]; exact hf
        refine ⟨d, _, _, _, _, hd, hfz.fair (da_inv hd), hf.q, ?_, hgu, by simp, fun t ht => ?_, fun t ht => by simp⟩
        · rw [Nat.sub_self, List.replicate_zero, List.append_nil] at hgl; exact hgl
        · rw [List.getD_eq_getElem?_getD, List.getElem?_replicate]
          split <;> rfl)
      have HQ1 : Hid (∀ u, u < n → 1 ≤ zs.getD u 0 ∧ zs.getD u 0 ≤ 1000) := Lib.hid (fun u hu => by
        refine ⟨?_, HQS.out u (by omega)⟩
        have h1 : u < zs.length := by rw [HN.out]; exact hu
        rw [List.getD_eq_getElem?_getD, List.getElem?_eq_getElem h1]
        exact (HMAY.out.2.2 _ (List.getElem_mem h1)).1)
      clear hd hf hgl hgu HQS hin
      obtain ⟨wl, rfl⟩ : ∃ wl : World, wl = wr := ⟨_, rfl⟩
      go_wp2_with fail
      go_loopw [16, 17, 18, 19, 20, 21, 22, 83] (fun _ _ _ _ _ _ _ vi wr => ∃ j : Nat, vi = .int .i64 (j : Int) ∧ j ≤ nb ∧ Hid (FairSt w wr s g gl gu n zs j)) (fun _ _ _ _ _ _ _ vi _ => nb - (intOf vi).toNat)
      case atStart => exact ⟨0, rfl, by omega, HF0⟩
      case round =>
        obtain ⟨j, rfl, hj, hh⟩ := hrel
        have hj100 : j ≤ 100 := by omega
        by_cases hlt3 : j < nb
        · have hki3 : (j : Int) < (nb : Int) := by omega
          obtain ⟨d, u, Kr, f, us, hd, hfa, hdq, hgl, hgu, hul, huu, hub⟩ := hh.out
          clear hh
          obtain ⟨bz, oz, cz, he1, cx⟩ := (HBI.out.below hd.below).cell (k := j) (by rw [HNB.out]; exact hlt3)
          simp only [Value.slice.injEq] at he1
          obtain ⟨rfl, hz, rfl⟩ := he1
          clear hz
          generalize bs.getD j 0 = b at *
          have hdl : d.q.length = n := by rw [hdq, HN.out]
          have hfn : f < n := by have := hfa.lt; omega
          have HNX := Lib.hid (da_next b (.slice (some ⟨gl, 0, none⟩) n n) (List.replicate n 1099511627776) hd (hgl.ints n n (by simp)) (fun k hk => Or.inl (Or.inl (by have h : gl = k := (by simpa [Value.ownBlock] using hk); exact h.symm))) (by simp; omega))
          by_cases hb1 : b ≥ 1
          · have hnx : DrrM.next d b (List.replicate n 1099511627776) = ((if d.crd f = 0 then d.setC f (d.qua f) else d), some f) := hfa.next hb1 (by simp [hdl]) (fun t ht => by
              rw [List.getD_eq_getElem?_getD, List.getElem?_replicate, if_pos (by omega)]
              decide)
            obtain ⟨d1, hd1⟩ : ∃ d1, (if d.crd f = 0 then d.setC f (d.qua f) else d) = d1 := ⟨_, rfl⟩
            have hqf := DrrM.qua_pos hfa.inv hfa.lt
            have hcf := hfa.inv.crd f hfa.lt
            have hlc : f < d.c.length := by rw [hfa.inv.lc]; exact hfa.lt
            have hqfz : d.qua f = zs.getD f 0 := by unfold DrrM.DS.qua; rw [hdq]
            have hq1000 := (HQ1.out f hfn).2
            have hc1 : 1 ≤ d1.crd f ∧ d1.crd f ≤ 1000 := by
              rw [← hd1]
              by_cases e : d.crd f = 0
              · rw [if_pos e, d.crd_setC f f _ hlc, if_pos rfl]; omega
              · rw [if_neg e]; omega
            have hr1 : d1.r = d.r := by rw [← hd1]; split <;> rfl
            have hfr : d.r = DrrM.ringAt n f := by rw [hfa.ring, hdl]
            rw [DrrM.ringAt_head hfn] at hfr
            rw [hnx, hd1] at HNX
            have HD1 := Lib.hid hd1.symm
            have HFA := Lib.hid hfa
            have HROW := Lib.hid (And.intro hgl (And.intro hgu (And.intro hul (And.intro huu hub))))
            have HRR : Hid (d1.r = f :: ((List.range n).drop (f + 1) ++ (List.range n).take f)) := Lib.hid (hr1.trans hfr)
            have HDQ : Hid (d.q = zs ∧ d.q.length = n) := Lib.hid ⟨hdq, hdl⟩
            clear hd hfa hdq hgl hgu hul huu hub hnx hd1 hqf hcf hlc hqfz hq1000 hr1 hfr hdl
            go_wp2_with fail
            refine HNX.out.mono ?_
            rintro e w5 ⟨⟨hd5, hk5⟩, he5⟩
            obtain ⟨x, l, hjx, rfl⟩ : ∃ x l, d1.job f = x :: l ∧ e = .returned (.tuple #[.agg (trn (f : Int) x (min (d1.crd f) (min b 1099511627776))), .bool true]) := by
              rcases he5 with ⟨h, _⟩ | ⟨t, x, l, h1, h2, h3⟩
              · cases h
              · simp only [Option.some.injEq] at h1
                subst h1
                refine ⟨x, l, h2, ?_⟩
                rw [h3, List.getD_eq_getElem?_getD, List.getElem?_replicate, if_pos hfn]
                rfl
            obtain ⟨m, hm⟩ : ∃ m, min (d1.crd f) (min b 1099511627776) = m := ⟨_, rfl⟩
            have hm1 : 1 ≤ m ∧ m ≤ b ∧ m ≤ d1.crd f ∧ m ≤ 1000 := by omega
            rw [hm, show trn (f : Int) x m = #[.int .i64 (f : Int), .int .i64 x, .int .i64 m] from rfl]
            obtain ⟨G, hG⟩ : ∃ G, w5.heap.size = G := ⟨_, rfl⟩
            obtain ⟨w6, hw6⟩ : ∃ w6, w5.alloc (.cells #[.int .i64 (f : Int), .int .i64 x, .int .i64 m] 64) = w6 := ⟨_, rfl⟩
            have hb6 : Below w5.heap.size w5 w6 := by rw [← hw6]; exact (Below.refl _ _).alloc (Nat.le_refl _) _
            have hg6 : w6.heap[G]? = some (.cells #[.int .i64 (f : Int), .int .i64 x, .int .i64 m] 64 (0, 0)) := by rw [← hw6, ← hG]; exact heap_alloc_new _ _
            have hd6 : DrP w w6 s g d1 (fun k => (k = gl ∨ k = gu) ∨ k = G) := hd5.more hb6 (fun k hk => hk.imp id (fun h => by rw [h, ← hG, ← hw6]; simp))
            have hrl6 : RowI w6 gl (List.replicate n 1099511627776) := (hd5.kept hb6 gl (Or.inl rfl)).trans ((hk5 gl (Or.inl rfl)).trans HROW.out.1)
            have hru6 : RowI w6 gu us := (hd5.kept hb6 gu (Or.inr rfl)).trans ((hk5 gu (Or.inr rfl)).trans HROW.out.2.1)
            have c0 : w6.cell? ⟨G, 0, none⟩ = some (.int .i64 (f : Int)) := by rw [cell_of_row _ _ 0 _ _ _ hg6]; rfl
            have c1 : w6.cell? ⟨G, 1, none⟩ = some (.int .i64 x) := by rw [cell_of_row _ _ 1 _ _ _ hg6]; rfl
            have c2 : w6.cell? ⟨G, 2, none⟩ = some (.int .i64 m) := by rw [cell_of_row _ _ 2 _ _ _ hg6]; rfl
            have HSP := Lib.hid (da_spent x m false hd6)
            have HSE : Hid (spE d1 x m = 0 ∧ spD d1 x m false = DrrM.ended d1 f x m false) := Lib.hid (by
              unfold spE spD
              rw [HRR.out]
              dsimp only
              rw [hjx, show frontN (x :: l) = x from rfl, if_neg (show ¬ (x ≠ x) from fun h => h rfl), if_neg (show ¬ (x ≠ x) from fun h => h rfl), if_neg (by omega), if_neg (by omega)]
              exact ⟨rfl, rfl⟩)
            rw [HSE.out.1, HSE.out.2] at HSP
            have HFS := Lib.hid (HFA.out.spent (x := x) (n := m) HD1.out ⟨hm1.1, hm1.2.2.1⟩ (by rw [hjx]; exact List.mem_cons_self ..))
            have HG6 := Lib.hid hg6
            have HRL6 := Lib.hid hrl6
            have HRU6 := Lib.hid hru6
            have f0 : ¬ (f : Int) < 0 := by omega
            have f1 : ¬ (f : Int) ≥ (n : Int) := by omega
            have f2 : ¬ m < 1 := by omega
            have f3 : ¬ m > b := by omega
            have f4 : b > 0 := by omega
            clear hd5 hk5 he5 hb6 hg6 hd6 hrl6 hru6 hjx hm
            go_wp2_with fail
            refine HSP.out.mono ?_
            rintro e w7 ⟨rfl, hd7, hk7⟩
            have hg7 := (hk7 G (Or.inr rfl)).trans HG6.out
            have hl7 : RowI w7 gl (List.replicate n 1099511627776) := (hk7 gl (Or.inl (Or.inl rfl))).trans HRL6.out
            have hu7 : RowI w7 gu us := (hk7 gu (Or.inl (Or.inr rfl))).trans HRU6.out
            have g0 : w7.cell? ⟨G, 0, none⟩ = some (.int .i64 (f : Int)) := by rw [cell_of_row _ _ 0 _ _ _ hg7]; rfl
            have g2 : w7.cell? ⟨G, 2, none⟩ = some (.int .i64 m) := by rw [cell_of_row _ _ 2 _ _ _ hg7]; rfl
            have hfu : f < us.length := by rw [HROW.out.2.2.1]; exact hfn
            obtain ⟨cu, fu, su⟩ := hu7.cell hfu
            have hub := HROW.out.2.2.2.2 f hfn
            rw [← HROW.out.2.2.2.1 f hfn] at hub
            obtain ⟨uf, huf⟩ : ∃ uf, us.getD f 0 = uf := ⟨_, rfl⟩
            rw [huf] at cu hub
            obtain ⟨um, hum⟩ : ∃ um, uf + m = um := ⟨_, rfl⟩
            have hwu : IntKind.i64.wrap (uf + m) = um := by rw [hum]; exact IntWalk.i64_in _ (by omega)
            have HF8 : Hid (∀ mm, FairSt w ((w7.drewN mm).setCell ⟨gu, f, none⟩ (.int .i64 um)) s g gl gu n zs (j + 1) ∧ RowI ((w7.drewN mm).setCell ⟨gu, f, none⟩ (.int .i64 um)) gu (us.set f um)) := Lib.hid (fun mm => by
              have hrow : RowI ((w7.drewN mm).setCell ⟨gu, f, none⟩ (.int .i64 um)) gu (us.set f um) := ((show RowI (w7.drewN mm) gu us from hu7).cell hfu).2.2 um
              refine ⟨?_, hrow⟩
              obtain ⟨K2, f2, h1, h2⟩ := HFS.out
              refine ⟨_, _, K2, f2, us.set f um, ?_, h1, by rw [h2]; exact HDQ.out.1, ?_, hrow, by simp [HROW.out.2.2.1], fun t ht => ?_, fun t ht => ?_⟩
              · have hdd : DrP w (w7.drewN mm) s g (DrrM.ended d1 f x m false) (fun k => k = gl ∨ k = gu) := (hd7.less (fun k hk => Or.inl hk)).next (below_drewN _ _)
                exact hdd.setCell (Or.inr rfl) HGG.out.2.2 _
              · exact (heap_setCell_other _ _ gl _ (by show gl ≠ gu; exact HGG.out.1)).trans hl7
              · rw [DrrM.getD_set]
                by_cases e : t = f
                · rw [if_pos ⟨e, hfu⟩, if_pos e, ← HROW.out.2.2.2.1 f hfn, huf, hum]
                · rw [if_neg (fun h => e h.1), if_neg e]; exact HROW.out.2.2.2.1 t ht
              · have := HROW.out.2.2.2.2 t ht
                have h3 := HROW.out.2.2.2.1 f hfn
                by_cases e : t = f
                · rw [if_pos e, ← h3, huf]; push_cast; omega
                · rw [if_neg e]; push_cast; omega)
            have i0 : (0 : Int) ≤ (f : Int) := by omega
            have i1 : (f : Int) < (n : Int) := by omega
            clear hd7 hk7 hg7 hl7 hu7 su huf hum
            go_wp2_with fail
            go_still_tail 12, (by kernel_rfl)
            change wpList _ _ _ _ _ (w7.drewN 1)
            obtain ⟨HFX, HRX⟩ := HF8.out 1
            have HF9 := Lib.hid HFX
            have HR9 := Lib.hid HRX
            have fu1 : (w7.drewN 1).frozen? ⟨gu, f, none⟩ = false := fu
            have cu1 : (w7.drewN 1).cell? ⟨gu, f, none⟩ = some (.int .i64 uf) := cu
            clear HFX HRX HF8
            obtain ⟨w8, hw8⟩ : ∃ w8, (w7.drewN 1).setCell ⟨gu, f, none⟩ (.int .i64 um) = w8 := ⟨_, rfl⟩
            rw [hw8] at HF9 HR9
            obtain ⟨d2, u2, K2, f2, us2, hd2, hfa2, hdq2, hgl2, hgu2, hul2, huu2, hub2⟩ := HF9.out
            have HDF : Hid (∀ a c, a < n → c < n → us2.getD a 0 * zs.getD c 0 - us2.getD c 0 * zs.getD a 0 ≤ zs.getD a 0 * zs.getD c 0) := Lib.hid (fun a c ha hc => by
              have h1 := hfa2.diff (a := a) (c := c) (by rw [hdq2, HN.out]; exact ha) (by rw [hdq2, HN.out]; exact hc)
              rw [huu2 a ha, huu2 c hc]
              unfold DrrM.DS.qua at h1
              rw [hdq2] at h1
              exact h1)
            have HUB : Hid (∀ t, t < n → 0 ≤ us2.getD t 0 ∧ us2.getD t 0 ≤ 101000) := Lib.hid (fun t ht => by
              have := hub2 t ht
              rw [huu2 t ht]
              push_cast at this
              omega)
            have HGU2 := Lib.hid hgu2
            have HUL2 := Lib.hid hul2
            have HB8 := Lib.hid hd2.below
            clear hd2 hfa2 hdq2 hgl2 hgu2 hul2 huu2 hub2 HR9
            obtain ⟨wo, rfl⟩ : ∃ wo : World, wo = wr := ⟨_, rfl⟩
            go_wp2_with fail
            clear hw8
            go_loopw [19, 20, 21, 22, 144] (fun _ _ _ _ vi wr => ∃ a : Nat, vi = .int .i64 (a : Int) ∧ a ≤ n ∧ Hid (∃ mm, wr = w8.drewN mm)) (fun _ _ _ _ vi _ => n - (intOf vi).toNat)
            case atStart => exact ⟨0, rfl, by omega, Lib.hid ⟨0, rfl⟩⟩
            case round =>
              obtain ⟨a, rfl, ha, hh⟩ := hrel
              obtain ⟨mm, hmm⟩ := hh.out
              clear hh
              have hb9 : Below w8.heap.size w8 wr := by rw [hmm]; exact below_drewN _ _
              by_cases hla : a < n
              · have hka : (a : Int) < (n : Int) := by omega
                obtain ⟨bz, oz, cz, he1, cx⟩ := (HQI.out.below (HB8.out.trans (hb9.mono HB8.out.size))).cell (k := a) (by rw [HN.out]; exact hla)
                simp only [Value.slice.injEq] at he1
                obtain ⟨rfl, hz, rfl⟩ := he1
                clear hz
                obtain ⟨p, hp⟩ : ∃ p, zs.getD a 0 = p := ⟨_, rfl⟩
                rw [hp] at cx
                have hpq := HQ1.out a hla
                rw [hp] at hpq
                have HP := Lib.hid hp
                have HM9 : Hid (∃ mm, wr = w8.drewN mm) := Lib.hid ⟨mm, hmm⟩
                clear hp hmm hb9
                obtain ⟨wp, rfl⟩ : ∃ wp : World, wp = wr := ⟨_, rfl⟩
                go_wp2_with fail
                go_loopw [21, 22, 151] (fun _ _ vi wr => ∃ c : Nat, vi = .int .i64 (c : Int) ∧ c ≤ n ∧ Hid (∃ mm, wr = w8.drewN mm)) (fun _ _ vi _ => n - (intOf vi).toNat)
                case atStart => exact ⟨0, rfl, by omega, HM9⟩
                case round =>
                  obtain ⟨c, rfl, hc, hh⟩ := hrel
                  obtain ⟨mm, hmm⟩ := hh.out
                  clear hh
                  by_cases hlc : c < n
                  · have hkc : (c : Int) < (n : Int) := by omega
                    have hb9 : Below w8.heap.size w8 wr := by rw [hmm]; exact below_drewN _ _
                    obtain ⟨bz2, oz2, cz2, he2, cy⟩ := (HQI.out.below (HB8.out.trans (hb9.mono HB8.out.size))).cell (k := c) (by rw [HN.out]; exact hlc)
                    simp only [Value.slice.injEq, Option.some.injEq, Addr.mk.injEq, and_true] at he2
                    obtain ⟨⟨rfl, rfl⟩, hz2, rfl⟩ := he2
                    clear hz2
                    have hrow : RowI wr gu us2 := by rw [hmm]; exact HGU2.out
                    obtain ⟨ca, _, _⟩ := hrow.cell (i := a) (by rw [HUL2.out]; exact hla)
                    obtain ⟨cc, _, _⟩ := hrow.cell (i := c) (by rw [HUL2.out]; exact hlc)
                    have hd := HDF.out a c hla hlc
                    have ha1 := HUB.out a hla
                    have hc1 := HUB.out c hlc
                    have hq2 := HQ1.out c hlc
                    rw [HP.out] at hd
                    obtain ⟨q, hq⟩ : ∃ q, zs.getD c 0 = q := ⟨_, rfl⟩
                    obtain ⟨ua, hua⟩ : ∃ ua, us2.getD a 0 = ua := ⟨_, rfl⟩
                    obtain ⟨uc, huc⟩ : ∃ uc, us2.getD c 0 = uc := ⟨_, rfl⟩
                    rw [hua] at ca ha1 hd
                    rw [huc] at cc hc1 hd
                    rw [hq] at cy hq2 hd
                    have b1 := mul_bd ha1 (show 0 ≤ q ∧ q ≤ 1000 by omega)
                    have b2 := mul_bd hc1 (show 0 ≤ p ∧ p ≤ 1000 by omega)
                    have b3 := mul_bd (show 0 ≤ p ∧ p ≤ 1000 by omega) (show 0 ≤ q ∧ q ≤ 1000 by omega)
                    obtain ⟨X1, hX1⟩ : ∃ X1, ua * q = X1 := ⟨_, rfl⟩
                    obtain ⟨X2, hX2⟩ : ∃ X2, uc * p = X2 := ⟨_, rfl⟩
                    obtain ⟨X3, hX3⟩ : ∃ X3, p * q = X3 := ⟨_, rfl⟩
                    rw [hX1] at b1 hd
                    rw [hX2] at b2 hd
                    rw [hX3] at b3 hd
                    obtain ⟨X4, hX4⟩ : ∃ X4, X1 - X2 = X4 := ⟨_, rfl⟩
                    rw [hX4] at hd
                    have v1 : IntKind.i64.wrap (ua * q) = X1 := by rw [hX1]; exact IntWalk.i64_in _ (by omega)
                    have v2 : IntKind.i64.wrap (uc * p) = X2 := by rw [hX2]; exact IntWalk.i64_in _ (by omega)
                    have v3 : IntKind.i64.wrap (p * q) = X3 := by rw [hX3]; exact IntWalk.i64_in _ (by omega)
                    have v4 : IntKind.i64.wrap (X1 - X2) = X4 := by rw [hX4]; exact IntWalk.i64_in _ (by omega)
                    have v5 : ¬ X4 > X3 := by omega
                    have HM10 : Hid (∀ k, ∃ mm, wr.drewN k = w8.drewN mm) := Lib.hid (fun k => ⟨mm + k, by rw [hmm, drewN_add]⟩)
                    have j0 : (0 : Int) ≤ (a : Int) := by omega
                    have j1 : (0 : Int) ≤ (c : Int) := by omega
                    clear hmm hb9 hrow hd ha1 hc1 hq2 hq hua huc b1 b2 b3 hX1 hX2 hX3 hX4
                    go_wp2_with fail
                    go_quiet (fail)
                    go_wp2_with fail
                    go_roundw
                    case rel => exact ⟨c + 1, by go_num, by omega, Lib.hid (HM10.out _)⟩
                    case measure => simp [intOf]; omega
                  · have hkc : ¬ (c : Int) < (n : Int) := by omega
                    have HM10 : Hid (∃ mm, wr = w8.drewN mm) := Lib.hid ⟨mm, hmm⟩
                    clear hmm
                    go_wp2_with fail
                    go_roundw
                    case rel => exact ⟨a + 1, by go_num, by omega, HM10⟩
                    case measure => simp [intOf]; omega
              · have hka : ¬ (a : Int) < (n : Int) := by omega
                have HFN : Hid (FairSt w wr s g gl gu n zs (j + 1)) := Lib.hid (by
                  obtain ⟨d2, u2, K2, f2, us2, hd2, h1, h2, h3, h4, h5⟩ := HF9.out
                  rw [hmm]
                  exact ⟨d2, u2, K2, f2, us2, hd2.next (below_drewN _ _), h1, h2, h3, h4, h5⟩)
                clear hmm hb9
                go_wp2_with fail
                go_roundw
                case rel => exact ⟨j + 1, by go_num, by omega, HFN⟩
                case measure => simp [intOf]; omega
          · have hnx : DrrM.next d b (List.replicate n 1099511627776) = (d, none) := by unfold DrrM.next; rw [if_pos (Or.inl (by omega))]
            rw [hnx] at HNX
            have HROW := Lib.hid (show ∀ w', DrP w w' s g d (fun k => k = gl ∨ k = gu) → Kept (fun k => k = gl ∨ k = gu) wr w' → FairSt w w' s g gl gu n zs (j + 1) from fun w' h1 h2 =>
              ⟨d, u, Kr, f, us, h1, hfa, hdq, (h2 gl (Or.inl rfl)).trans hgl, (h2 gu (Or.inr rfl)).trans hgu, hul, huu, fun t ht => by have := hub t ht; push_cast; omega⟩)
            clear hd hfa hdq hgl hgu hul huu hub hnx hdl hfn
            have f4 : ¬ b > 0 := by omega
            go_wp2_with fail
            refine HNX.out.mono ?_
            rintro e w5 ⟨⟨hd5, hk5⟩, he5⟩
            obtain ⟨z, hz⟩ : ∃ z : Int, z = 0 := ⟨0, rfl⟩
            obtain rfl : e = .returned (.tuple #[.agg #[.int .i64 z, .int .i64 z, .int .i64 z], .bool false]) := by
              rcases he5 with ⟨_, h⟩ | ⟨t, x, l, h1, _⟩
              · rw [h, hz]; rfl
              · cases h1
            obtain ⟨w6, hw6⟩ : ∃ w6, w5.alloc (.cells #[.int .i64 z, .int .i64 z, .int .i64 z] 64) = w6 := ⟨_, rfl⟩
            have hb6 : Below w5.heap.size w5 w6 := by rw [← hw6]; exact (Below.refl _ _).alloc (Nat.le_refl _) _
            have HFN := Lib.hid (HROW.out w6 (hd5.next hb6) (fun k hk => (hd5.kept hb6 k hk).trans (hk5 k hk)))
            clear hd5 hk5 he5 hb6 hz HROW
            go_wp2_with fail
            go_roundw
            case rel => exact ⟨j + 1, by go_num, by omega, HFN⟩
            case measure => simp [intOf]; omega
        · have hki3 : ¬ (j : Int) < (nb : Int) := by omega
          obtain ⟨d, u, Kr, f, us, hd, _⟩ := hh.out
          have HB := Lib.hid hd.below
          have H2r := Lib.hid (two30_any wr)
          clear hd hh
          obtain ⟨wm, rfl⟩ : ∃ wm : World, wm = wr := ⟨_, rfl⟩
          go_wp2_with fail
          refine H2r.out.mono ?_
          rintro e w5 ⟨rfl, hb5⟩
          have HB5 := Lib.hid (HB.out.trans (hb5.mono HB.out.size))
          clear hb5
          go_wp2_with fail
          go_ret
          exact ⟨rfl, HB5.out⟩
end Go.Proofs.Ytgdgjalfabffcaa

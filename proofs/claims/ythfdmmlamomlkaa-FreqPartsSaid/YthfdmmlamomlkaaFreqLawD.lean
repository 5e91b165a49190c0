/-
  LAYER 8's STATEMENTS: FreqParts.
-/
import Derived.Test.YthfdmmlamomlkaaFreqLawA
namespace Go.Proofs.Ythfdmmlamomlkaa
open Go.RowKit FreqM
set_option linter.unusedVariables false
theorem counts_nums (l : List Int) (N : Nat) (h : l.length ≤ 1000000) : Nums (counts l N) := fun x hx => by
  have := counts_nn l N x hx
  omega
theorem adds_counts (a b : List Int) (N : Nat) (h : a.length + b.length ≤ 1000000) : adds (counts a N) (counts b N) = counts (a ++ b) N := by
  apply List.ext_getElem?
  intro i
  by_cases h2 : i < N
  · have ha := counts_nn a N _ (getD_mem (counts a N) i (by rw [counts_len]; exact h2))
    have hb := counts_nn b N _ (getD_mem (counts b N) i (by rw [counts_len]; exact h2))
    have hs := counts_app a b N i h2
    have e (l : List Int) : (counts l N)[i]? = some ((counts l N).getD i 0) := by
      rw [List.getD_eq_getElem?_getD, List.getElem?_eq_getElem (by rw [counts_len]; exact h2)]; rfl
    unfold adds
    rw [List.getElem?_zipWith, e a, e b, e (a ++ b), hs]
    simp only [Option.some.injEq]
    exact cap_id _ (by omega)
  · rw [List.getElem?_eq_none (by rw [adds_len _ _ (by rw [counts_len, counts_len]), counts_len]; omega), List.getElem?_eq_none (by rw [counts_len]; omega)]
theorem fold_sum : ∀ (l : List Int) (n : Int), 0 ≤ n → (∀ x ∈ l, 0 ≤ x) → n + sumF l ≤ 1099511627776 → l.foldl totS n = n + sumF l
  | [], n, _, _, _ => by simp [sumF]
  | x :: t, n, hn, hx, hs => by
    have h0 := hx x (List.mem_cons_self ..)
    have ht := sumF_nn t (fun y hy => hx y (List.mem_cons_of_mem _ hy))
    simp only [sumF] at hs ⊢
    have he : totS n x = n + x := by
      unfold totS
      by_cases h : 0 < x
      · rw [if_pos h, cap_id x (by omega), cap_id _ (by omega)]
      · rw [if_neg h]; omega
    rw [List.foldl_cons, he, fold_sum t (n + x) (by omega) (fun y hy => hx y (List.mem_cons_of_mem _ hy)) (by omega)]
    omega
theorem sum_counts (l : List Int) (N : Nat) (h : Syms l (N : Int)) : sumF (counts l N) = (l.length : Int) := by
  have h1 := wgh_all l (List.replicate N 1) (by rw [List.length_replicate]; exact h)
  rw [List.length_replicate] at h1
  have e1 : wgh l (List.replicate N 1) N = sumF (counts l N) := by
    unfold wgh counts
    congr 1
    apply List.map_congr_left
    intro j hj
    have hj' := List.mem_range.1 hj
    rw [List.getD_eq_getElem?_getD, List.getElem?_replicate, if_pos hj']
    simp
  rw [← e1, h1]
  unfold costS
  clear h1 e1
  induction l with
  | nil => rfl
  | cons x t ih =>
    have hx := h x (List.mem_cons_self ..)
    have ht := ih (fun y hy => h y (List.mem_cons_of_mem _ hy))
    simp only [List.map_cons, sumF, ht]
    rw [List.getD_eq_getElem?_getD, List.getElem?_replicate, if_pos (by omega)]
    simp
    omega
theorem tot_counts (l : List Int) (N : Nat) (h : Syms l (N : Int)) (hl : l.length ≤ 1000000) : tot (counts l N) = (l.length : Int) := by
  have hs := sum_counts l N h
  unfold tot
  rw [fold_sum _ 0 (Int.le_refl _) (fun x hx => (counts_nn l N x hx).1) (by omega), hs]
  omega
theorem grp_sub {l : List Int} {n : Int} (h : Syms l n) (i : Nat) : Syms (grp l i) n := fun x hx => by
  unfold grp at hx
  exact h x (List.mem_of_mem_drop (List.mem_of_mem_take hx))
set_option maxRecDepth 100000 in
set_option maxHeartbeats 1000000 in
theorem freqParts.walk (l : Option Addr) (llen lcap : Nat) (lz : List Int) (n : Int) (w : World) (hl : IsRow .i64 w l llen lcap lz) (_ : (Lit.int .i64 n).wf = true) :
    Calls Try.prog 14 #[.slice l llen lcap, .int .i64 n] w fun e w' => e = .returned (.bool true) ∧ Below w.heap.size w w' := by
  obtain ⟨hlc, hcc⟩ := isRow_len hl
  obtain ⟨hI, hlen⟩ := ints_in hl
  have HI := Lib.hid hI
  clear hl hI
  generalize lz.take llen = zs at *
  by_cases h1 : llen ≤ 300
  · have h1i : (llen : Int) ≤ 300 := by omega
    by_cases hsz : 3 ≤ n ∧ n ≤ 258
    · have HS := Lib.hid (fun W => rSize_any n true W ⟨fun _ => hsz, fun _ => rfl⟩)
      obtain ⟨N, rfl⟩ : ∃ N : Nat, n = (N : Int) := ⟨n.toNat, by omega⟩
      have hNI : (N : Int) ≤ 258 := hsz.2
      by_cases hy : Syms zs (N : Int)
      · have HO := Lib.hid (rOf_any _ zs (N : Int) true w HI.out (by omega) ⟨fun _ => hy, fun _ => rfl⟩)
        have HSY := Lib.hid hy
        have HOK : Hid (∀ q, Syms q (N : Int) → CntOk q (N : Int)) := Lib.hid (fun q hq => ⟨hsz.1, hsz.2, hq⟩)
        have HTC := Lib.hid (tot_counts zs N hy (by omega))
        have hmk := make_ints N (by omega) w
        have HR0 := Lib.hid (RowI.made w N)
        have HB0 := Lib.hid ((Below.refl w.heap.size w).alloc (Nat.le_refl _) (.cells (madeCells #[Value.int .i64 0] N) 3))
        have HGN := Lib.hid (fun W => groups_any (llen : Int) W (by omega) (by omega))
        rw [gn_nat] at HGN
        have hngu : ng llen ≤ 10 := by unfold ng; omega
        have hng50 : ∀ k, k < ng llen → 50 * k < llen := fun k hk => by unfold ng at hk; omega
        have hngend : llen ≤ 50 * ng llen := by unfold ng; omega
        clear hsz hy
        generalize hw1 : w.alloc (.cells (madeCells #[Value.int .i64 0] N) 3) = w1 at *
        clear hw1
        go_enter Try.func14, Try.ntmps14
        go_wp2_with fail
        refine (HS.out _).mono ?_
        rintro e w' ⟨rfl, rfl⟩
        go_wp2_with fail
        refine HO.out.mono ?_
        rintro e w' ⟨rfl, rfl⟩
        go_wp2_with fail
        refine (HGN.out _).mono ?_
        rintro e w' ⟨rfl, rfl⟩
        generalize hQ : ng llen = Q at *
        clear HO HS HGN
        go_wp2_with fail
        go_loopw [5, 35] (fun o i wr => ∃ (k : Nat) (s : Value), k ≤ Q ∧ i = .int .i64 k ∧ s = o ∧ IsInts wr s (counts (zs.take (50 * k)) N) ∧ Below w.heap.size w wr) (fun _ i _ => Q - (intOf i).toNat)
        case atStart => exact ⟨0, _, by omega, rfl, rfl, by rw [Nat.mul_zero, List.take_zero, counts_nil]; exact HR0.out.ints N N (by simp), HB0.out⟩
        case round =>
          clear HR0 HB0
          obtain ⟨k, s, hk, rfl, rfl, hS, hB⟩ := hrel
          have HS := Lib.hid hS
          have HB := Lib.hid hB
          have hbw := hB.size
          obtain ⟨sa, scap, rfl, _⟩ := hS
          clear hB
          by_cases hlk : k < Q
          · have hki : (k : Int) < (Q : Int) := by omega
            have h50 := hng50 k hlk
            have HTN := Lib.hid (take_next zs k)
            have hgl := grp_len zs k
            have htl : (zs.take (50 * k)).length ≤ 300 := by rw [List.length_take]; omega
            have HI2 := Lib.hid (HI.out.below HB.out)
            have HG := Lib.hid (group_any l llen lcap zs (k : Int) wr HI2.out hlen (by omega) hlc hcc)
            have hsl := counts_len (zs.take (50 * k)) N
            generalize hC : (counts (zs.take (50 * k)) N).length = M at *
            obtain rfl : N = M := hsl.symm
            go_wp2_with fail
            refine HG.out.mono ?_
            rintro e w2 ⟨v, gs, err, rfl, hI2, hB2, hP⟩
            obtain ⟨rfl, rfl⟩ : gs = grp zs k ∧ err = 0 := by
              rcases hP with ⟨h, _⟩ | ⟨_, _, h1, h2⟩
              · exfalso; rw [hlen, hQ] at h; omega
              · simp only [Int.toNat_natCast] at h1; exact ⟨h1, h2⟩
            have HI3 := Lib.hid hI2
            have HS2 := Lib.hid (HS.out.below hB2)
            have HB2 := Lib.hid (HB.out.trans (hB2.mono HB.out.size))
            clear hI2 hB2 hP HG HS
            go_wp2_with fail
            refine (counts_any v (grp zs k) (N : Int) w2 HI3.out (by omega)).mono ?_
            rintro e w3 ⟨c, cs, err2, rfl, hI4, hB3, hP⟩
            obtain ⟨rfl, rfl⟩ := hP.ok (HOK.out _ (grp_sub HSY.out k))
            simp only [Int.toNat_natCast] at hI4
            have HI4 := Lib.hid hI4
            have HS3 := Lib.hid (HS2.out.below hB3)
            have HB3 := Lib.hid (HB2.out.trans (hB3.mono HB2.out.size))
            clear hI4 hB3 hP HS2
            go_wp2_with fail
            refine (add_any _ c (counts (zs.take (50 * k)) N) (counts (grp zs k) N) w3 (by exact HS3.out) HI4.out (by rw [counts_len]; omega) (by rw [counts_len]; omega)).mono ?_
            rintro e w4 ⟨r, rs, err3, rfl, hI5, hB4, hP⟩
            obtain ⟨rfl, rfl⟩ := hP.ok ⟨by rw [counts_len, counts_len], counts_nums _ _ (by omega), counts_nums _ _ (by omega)⟩
            rw [adds_counts _ _ _ (by omega), ← HTN.out] at hI5
            have HI5 := Lib.hid hI5
            have HB4 := Lib.hid (HB3.out.trans (hB4.mono HB3.out.size))
            clear hI5 hB4 hP
            go_wp2_with fail
            go_roundw
            case rel => exact ⟨k + 1, r, by omega, by go_num, rfl, HI5.out, HB4.out⟩
            case measure => simp [intOf]; omega
          · obtain rfl : k = Q := by omega
            rw [List.take_of_length_le (by omega)] at HS
            rw [List.take_of_length_le (by omega)]
            have HI2 := Lib.hid (HI.out.below HB.out)
            have hsl := counts_len zs N
            have HLN : Hid (tot (counts zs N) = (llen : Int)) := Lib.hid (by rw [HTC.out, hlen])
            generalize hC : (counts zs N).length = M at *
            obtain rfl : N = M := hsl.symm
            go_wp2_with fail
            refine (counts_any _ zs (N : Int) wr HI2.out (by omega)).mono ?_
            rintro e w3 ⟨c, cs, err2, rfl, hI4, hB3, hP⟩
            obtain ⟨rfl, rfl⟩ := hP.ok (HOK.out _ HSY.out)
            simp only [Int.toNat_natCast] at hI4
            have HI4 := Lib.hid hI4
            have HS3 := Lib.hid (HS.out.below hB3)
            have HB3 := Lib.hid (HB.out.trans (hB3.mono HB.out.size))
            clear hI4 hB3 hP HS
            go_wp2_with fail
            refine (ints_any c _ (counts zs N) (counts zs N) true w3 HI4.out (by exact HS3.out) ⟨fun _ => rfl, fun _ => rfl⟩ (by omega) (by omega)).mono ?_
            rintro e w4 ⟨rfl, j, hj⟩
            have hb3 : Below w3.heap.size w3 w4 := by rw [hj]; exact below_drewN w3 j
            have HI5 := Lib.hid (HI4.out.below hb3)
            have HB4 := Lib.hid (HB3.out.trans (hb3.mono HB3.out.size))
            clear hj hb3
            go_wp2_with fail
            refine (total_any c (counts zs N) w4 HI5.out (by omega)).mono ?_
            rintro e w' ⟨rfl, rfl⟩
            rw [HLN.out]
            go_wp2_with fail
            refine (three_any _).mono ?_
            rintro e w9 ⟨rfl, hb⟩
            have HB9 := Lib.hid (HB4.out.trans (hb.mono HB4.out.size))
            clear hb
            go_wp2_with fail
            go_ret
            exact ⟨rfl, HB9.out⟩
      · have HO := Lib.hid (rOf_any _ zs (N : Int) false w HI.out (by omega) ⟨fun e => (by cases e), fun e => absurd e hy⟩)
        clear hsz hy
        go_enter Try.func14, Try.ntmps14
        go_wp2_with fail
        refine (HS.out _).mono ?_
        rintro e w' ⟨rfl, rfl⟩
        go_wp2_with fail
        refine HO.out.mono ?_
        rintro e w' ⟨rfl, rfl⟩
        go_wp2_with fail
        refine (three_any _).mono ?_
        rintro e w4 ⟨rfl, hb⟩
        have HB4 := Lib.hid hb
        clear hb
        go_wp2_with fail
        go_ret
        exact ⟨rfl, HB4.out⟩
    · have HS := Lib.hid (fun W => rSize_any n false W ⟨fun e => (by cases e), fun e => absurd e hsz⟩)
      clear hsz
      go_enter Try.func14, Try.ntmps14
      go_wp2_with fail
      refine (HS.out _).mono ?_
      rintro e w' ⟨rfl, rfl⟩
      go_wp2_with fail
      refine (three_any _).mono ?_
      rintro e w4 ⟨rfl, hb⟩
      have HB4 := Lib.hid hb
      clear hb
      go_wp2_with fail
      go_ret
      exact ⟨rfl, HB4.out⟩
  · have h1i : (300 : Int) < (llen : Int) := by omega
    go_enter Try.func14, Try.ntmps14
    go_wp2_with fail
    refine (three_any _).mono ?_
    rintro e w4 ⟨rfl, hb⟩
    have HB4 := Lib.hid hb
    clear hb
    go_wp2_with fail
    go_ret
    exact ⟨rfl, HB4.out⟩
end Go.Proofs.Ythfdmmlamomlkaa

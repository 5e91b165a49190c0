/-
  LAYER 29, THE DOCUMENT's ANSWERS: Place, With, Without, Rotated.
-/
import Derived.Test.YtgdgjalfabffcaaQuE
namespace Go.Proofs.Ytgdgjalfabffcaa
open Go.RowKit
set_option linter.unusedVariables false
set_option linter.unusedSimpArgs false
/-- v is the list zs: nil, or cells that lie somewhere. -/
def IsL (w : World) (v : Value) (zs : List Int) : Prop :=
  (v = .slice none 0 0 ∧ zs = []) ∨
  ∃ b off cap, v = .slice (some ⟨b, off, none⟩) zs.length cap ∧ b < w.heap.size ∧ zs.length ≤ cap ∧ ∀ i x, zs[i]? = some x → w.cell? ⟨b, off + i, none⟩ = some (.int .i64 x)
section
variable {w w' : World} {v : Value} {zs : List Int}
theorem IsL.nil (w : World) : IsL w (.slice none 0 0) [] := Or.inl ⟨rfl, rfl⟩
theorem IsL.lt (h : IsL w v zs) : ∀ k, v.ownBlock = some k → k < w.heap.size := by
  intro k hk
  rcases h with ⟨rfl, _⟩ | ⟨b, off, cap, rfl, hb, _⟩
  · simp [Value.ownBlock] at hk
  · simp [Value.ownBlock] at hk
    subst hk
    exact hb
theorem IsL.same (h : IsL w v zs) (hs : w.heap.size ≤ w'.heap.size) (he : ∀ k, v.ownBlock = some k → w'.heap[k]? = w.heap[k]?) : IsL w' v zs := by
  rcases h with h | ⟨b, off, cap, rfl, hb, hc, h⟩
  · exact Or.inl h
  · exact Or.inr ⟨b, off, cap, rfl, by omega, hc, fun i x hx => (World.cell?_of_block (a := ⟨b, off + i, none⟩) (he b rfl)).trans (h i x hx)⟩
theorem IsL.below (h : IsL w v zs) (hb : Below w.heap.size w w') : IsL w' v zs := h.same hb.size fun k hk => hb.block k (h.lt k hk)
theorem IsL.ints (h : IsL w v zs) : IsInts w v zs := by
  rcases h with ⟨rfl, rfl⟩ | ⟨b, off, cap, rfl, hb, hc, h⟩
  · exact IsInts.nil w
  · exact ⟨_, cap, rfl, fun i x hx => ⟨b, off, rfl, h i x hx⟩⟩
theorem IsL.shape (h : IsL w v zs) : ∃ a cap, v = .slice a zs.length cap := by
  rcases h with ⟨rfl, rfl⟩ | ⟨b, off, cap, rfl, _⟩
  · exact ⟨none, 0, rfl⟩
  · exact ⟨_, cap, rfl⟩
theorem OwnI.isL {B : Nat} (h : OwnI w B v zs) : IsL w v zs := by
  have hi := ints_of_own h
  rcases h.2 with ⟨rfl, h0⟩ | ⟨g, cap, cur, rfl, _, hg, hn, _⟩
  · exact Or.inl ⟨rfl, List.eq_nil_of_length_eq_zero h0⟩
  · refine Or.inr ⟨g, 0, cap, rfl, (Array.getElem?_eq_some_iff.1 hg).1, hn, fun i x hx => ?_⟩
    obtain ⟨a, c, he, h2⟩ := hi
    simp only [Value.slice.injEq] at he
    obtain ⟨rfl, _, rfl⟩ := he
    obtain ⟨b', off', e, h3⟩ := h2 i x hx
    simp only [Option.some.injEq, Addr.mk.injEq, and_true] at e
    obtain ⟨rfl, rfl⟩ := e
    exact h3
end
set_option maxRecDepth 100000 in
set_option maxHeartbeats 2000000 in
theorem rplace_any (v : Value) (zs : List Int) (n : Int) (w : World) (hI : IsInts w v zs) (hn : zs.length ≤ 9223372036854775807) :
    Calls Try.prog 19 #[v, .int .i64 n] w fun e w' => e = .returned (.int .i64 (DrrM.place zs n)) ∧ w' = w := by
  have HI := Lib.hid hI
  obtain ⟨a, cap, rfl, _⟩ := hI
  obtain ⟨R, hR⟩ : ∃ R, DrrM.place zs n = R := ⟨_, rfl⟩
  have HR := Lib.hid hR
  rw [hR]
  clear hR
  go_enter Try.func19, Try.ntmps19
  go_wp2_with fail
  go_loopw [5, 6, 9] (fun o1 o2 i wr => ∃ k : Nat, i = .int .i64 k ∧ k ≤ zs.length ∧ wr = w ∧ Hid (n ∉ zs.take k)) (fun _ _ i _ => zs.length - (intOf i).toNat)
  case atStart => exact ⟨0, rfl, by omega, rfl, Lib.hid (by simp)⟩
  case round =>
    obtain ⟨k, rfl, hk, rfl, hA⟩ := hrel
    by_cases hlt : k < zs.length
    · have hki : (k : Int) < (zs.length : Int) := by omega
      obtain ⟨b, off, cp, he1, c1⟩ := HI.out.cell hlt
      simp only [Value.slice.injEq] at he1
      obtain ⟨rfl, _, rfl⟩ := he1
      have HX : Hid (zs[k]? = some (zs.getD k 0)) := Lib.hid (by rw [List.getD_eq_getElem?_getD, List.getElem?_eq_getElem hlt]; rfl)
      generalize zs.getD k 0 = x at *
      by_cases hpx : n = x
      · have HE : Hid (R = (k : Int)) := Lib.hid (by rw [← HR.out]; exact DrrM.place_at (by rw [hpx]; exact HX.out) hA.out)
        have hb : (x == n) = true := by rw [beq_iff_eq]; exact hpx.symm
        clear hpx
        go_wp2_with fail
        go_ret
        exact ⟨by rw [HE.out]; first | done | rfl, rfl⟩
      · have HA2 : Hid (n ∉ zs.take (k + 1)) := Lib.hid (DrrM.not_take_succ HX.out hA.out hpx)
        have hb : (x == n) = false := by rw [beq_eq_false_iff_ne]; exact fun e => hpx e.symm
        clear hpx
        go_wp2_with fail
        go_roundw
        case rel => exact ⟨k + 1, by go_num, by omega, by trivial, HA2⟩
        case measure => simp [intOf]; omega
    · obtain rfl : k = zs.length := by omega
      have HE : Hid (R = -1) := Lib.hid (by rw [← HR.out]; exact DrrM.place_none (by have := hA.out; rw [List.take_length] at this; exact this))
      go_wp2_with fail
      go_ret
      exact ⟨by rw [HE.out]; first | done | rfl, rfl⟩
/-- A new list. -/
def NewL (w w' : World) (zs : List Int) (e : Ending) : Prop := ∃ u, e = .returned u ∧ OwnI w' w.heap.size u zs ∧ Below w.heap.size w w'
set_option maxRecDepth 100000 in
set_option maxHeartbeats 2000000 in
theorem rwith_any (v : Value) (zs : List Int) (n : Int) (w : World) (hI : IsL w v zs) (hn : zs.length ≤ 1000000) :
    Calls Try.prog 38 #[v, .int .i64 n] w fun e w' => NewL w w' (zs ++ [n]) e := by
  rcases hI with ⟨rfl, rfl⟩ | ⟨b, off, cap, rfl, hb, hc, h⟩
  · obtain ⟨i0, hi, hz0, hz1, hz2⟩ := info_parts info_int
    go_enter Try.func38, Try.ntmps38
    go_wp2_with (at_builtin; first | refine wpList_append_own_none rfl _ _ 28 rfl w.heap.size 3 i0 1 Try.underlying28 hi (.slice none 0 0) 0 [] rfl (World.ownsRow_nil _ _ _ _) rfl ?_ | refine push_int w rfl _ _ rfl w.heap.size _ [] n (World.ownsRow_nil _ _ _ _) rfl rfl (by simp) (Nat.le_refl _) ?_)
    intro v2 w2 ho hb2
    have H2 := Lib.hid (And.intro ho hb2)
    obtain ⟨a2, c2, hv2⟩ := slice_of_own ho
    clear ho hb2
    subst hv2
    go_wp2_with fail
    go_ret
    exact ⟨_, rfl, H2.out⟩
  · have HI : Hid (IsInts w (.slice (some ⟨b, off, none⟩) zs.length cap) zs) := Lib.hid ⟨_, cap, rfl, fun i x hx => ⟨b, off, rfl, h i x hx⟩⟩
    clear h
    obtain ⟨M, hM⟩ : ∃ M, zs.length = M := ⟨_, rfl⟩
    have HM := Lib.hid hM
    rw [hM] at HI hn hc ⊢
    clear hM
    go_enter Try.func38, Try.ntmps38
    go_wp2_with (at_builtin; refine push_src _ rfl _ _ rfl w.heap.size _ [] b off M cap zs (World.ownsRow_nil _ _ _ _) HI.out rfl rfl (by rw [HM.out]; simp; omega) (Nat.le_refl _) ?_)
    intro v1 w1 ho1 hb1
    have H1 := Lib.hid (And.intro ho1 hb1)
    obtain ⟨a1, c1, hv1⟩ := slice_of_own ho1
    clear ho1 hb1
    subst hv1
    go_wp2_with (at_builtin; refine push_int w1 rfl _ _ rfl w.heap.size _ _ n H1.out.1 rfl rfl (by have := HM.out; simp; omega) H1.out.2.size ?_)
    intro v2 w2 ho hb2
    have H2 := Lib.hid (And.intro ho (H1.out.2.trans hb2))
    obtain ⟨a2, c2, hv2⟩ := slice_of_own ho
    clear ho hb2
    subst hv2
    go_wp2_with fail
    go_ret
    exact ⟨_, rfl, H2.out⟩
theorem without_take {zs : List Int} {k : Nat} {x : Int} (hx : zs[k]? = some x) (n : Int) : DrrM.without (zs.take (k + 1)) n = if x = n then DrrM.without (zs.take k) n else DrrM.without (zs.take k) n ++ [x] := by
  unfold DrrM.without
  rw [List.take_add_one, hx, List.filter_append]
  by_cases e : x = n
  · subst e; simp
  · rw [if_neg e]; simp [e]
theorem without_len (zs : List Int) (n : Int) : (DrrM.without zs n).length ≤ zs.length := List.length_filter_le _ _
set_option maxRecDepth 100000 in
set_option maxHeartbeats 2000000 in
theorem rwithout_any (v : Value) (zs : List Int) (n : Int) (w : World) (hI : IsInts w v zs) (hn : zs.length ≤ 1000000) :
    Calls Try.prog 40 #[v, .int .i64 n] w fun e w' => NewL w w' (DrrM.without zs n) e := by
  have HI := Lib.hid hI
  obtain ⟨a, cap, rfl, _⟩ := hI
  obtain ⟨M, hM⟩ : ∃ M, zs.length = M := ⟨_, rfl⟩
  have HM := Lib.hid hM
  rw [hM] at HI hn ⊢
  clear hM
  go_enter Try.func40, Try.ntmps40
  go_wp2_with fail
  go_loopw [5, 7, 10] (fun vo o1 i wr => ∃ k : Nat, i = .int .i64 k ∧ k ≤ M ∧ Hid (OwnI wr w.heap.size vo (DrrM.without (zs.take k) n) ∧ Below w.heap.size w wr)) (fun _ _ i _ => M - (intOf i).toNat)
  case atStart => exact ⟨0, rfl, by omega, Lib.hid ⟨World.ownsRow_nil _ _ _ _, Below.refl _ _⟩⟩
  case round =>
    obtain ⟨k, rfl, hk, hA⟩ := hrel
    obtain ⟨ao, co, hvo⟩ := slice_of_own hA.out.1
    obtain ⟨lo, hlo⟩ : ∃ lo, (DrrM.without (zs.take k) n).length = lo := ⟨_, rfl⟩
    rw [hlo] at hvo
    have HLO := Lib.hid hlo
    clear hlo
    subst hvo
    by_cases hlt : k < M
    · have hki : (k : Int) < (M : Int) := by omega
      have hlt2 : k < zs.length := by rw [HM.out]; exact hlt
      obtain ⟨b, off, cp, he1, c1⟩ := (HI.out.below hA.out.2).cell (k := k) hlt2
      simp only [Value.slice.injEq] at he1
      obtain ⟨rfl, hq, rfl⟩ := he1
      clear hq
      have HX : Hid (zs[k]? = some (zs.getD k 0)) := Lib.hid (by rw [List.getD_eq_getElem?_getD, List.getElem?_eq_getElem hlt2]; rfl)
      clear hlt2
      generalize zs.getD k 0 = x at *
      have HW := Lib.hid (without_take HX.out n)
      by_cases hpx : x = n
      · have HA2 : Hid (OwnI wr w.heap.size (.slice ao lo co) (DrrM.without (zs.take (k + 1)) n) ∧ Below w.heap.size w wr) := Lib.hid (by rw [HW.out, if_pos hpx]; exact hA.out)
        have hb : (x != n) = false := by rw [bne_eq_false_iff_eq]; exact hpx
        clear hpx
        go_wp2_with fail
        go_roundw
        case rel => exact ⟨k + 1, by go_num, by omega, HA2⟩
        case measure => simp [intOf]; omega
      · have hb : (x != n) = true := by rw [bne_iff_ne]; exact hpx
        have HE : Hid (DrrM.without (zs.take (k + 1)) n = DrrM.without (zs.take k) n ++ [x]) := Lib.hid (by rw [HW.out, if_neg hpx])
        have HLN : Hid ((DrrM.without (zs.take k) n).length ≤ 1000000) := Lib.hid (by have := without_len (zs.take k) n; rw [List.length_take] at this; have := HM.out; omega)
        clear hpx
        go_wp2_with (at_builtin; refine push_int wr rfl _ _ rfl w.heap.size _ _ x hA.out.1 rfl rfl (by have := HLN.out; omega) hA.out.2.size ?_)
        intro v2 w2 ho hb2
        have H2 : Hid (OwnI w2 w.heap.size v2 (DrrM.without (zs.take (k + 1)) n) ∧ Below w.heap.size w w2) := Lib.hid ⟨by rw [HE.out]; exact ho, hA.out.2.trans hb2⟩
        obtain ⟨a2, c2, hv2⟩ := slice_of_own ho
        clear ho hb2
        subst hv2
        go_wp2_with fail
        go_roundw
        case rel => exact ⟨k + 1, by go_num, by omega, H2⟩
        case measure => simp [intOf]; omega
    · have hkM : k = M := by omega
      have HE : Hid (OwnI wr w.heap.size (.slice ao lo co) (DrrM.without zs n) ∧ Below w.heap.size w wr) := Lib.hid (by
        have h2 := hA.out
        rw [hkM, ← HM.out, List.take_length] at h2
        exact h2)
      have hki : ¬ (k : Int) < (M : Int) := by omega
      go_wp2_with fail
      go_ret
      exact ⟨_, rfl, HE.out⟩
set_option maxRecDepth 100000 in
set_option maxHeartbeats 2000000 in
theorem rrotated_any (v : Value) (zs : List Int) (w : World) (hI : IsL w v zs) (hn : zs.length ≤ 1000000) :
    Calls Try.prog 41 #[v] w fun e w' => NewL w w' (DrrM.rotated zs) e := by
  cases zs with
  | nil =>
    have HE : Hid (NewL w w [] (.returned (.slice none 0 0))) := Lib.hid ⟨_, rfl, World.ownsRow_nil _ _ _ _, Below.refl _ _⟩
    obtain ⟨a, cap, rfl⟩ := hI.shape
    clear hI
    go_enter Try.func41, Try.ntmps41
    go_wp2_with fail
    go_ret
    exact HE.out
  | cons x zs =>
    rcases hI with ⟨_, h0⟩ | ⟨b, off, cap, rfl, hb, hc, h⟩
    · cases h0
    have c0 : w.cell? ⟨b, off, none⟩ = some (.int .i64 x) := h 0 x rfl
    obtain ⟨M, hM⟩ : ∃ M, zs.length = M := ⟨_, rfl⟩
    have e1 : (x :: zs).length = M + 1 := by simp [hM]
    have HT : Hid (∀ j, Calls Try.prog 38 #[.slice (some ⟨b, slOff off 1 cap, none⟩) ((M + 1) - 1) (cap - 1), .int .i64 x] (w.drewN j) fun e w' => NewL w w' (zs ++ [x]) e) := Lib.hid (fun j => by
      refine (rwith_any _ zs x (w.drewN j) ?_ (by simp at hn; omega)).mono fun e w' he => ?_
      · refine Or.inr ⟨b, slOff off 1 cap, cap - 1, by rw [hM]; rfl, hb, by rw [e1] at hc; omega, fun i y hy => ?_⟩
        have hi := (List.getElem?_eq_some_iff.1 hy).1
        rw [slOff, if_neg (by rw [e1] at hc; omega), show off + 1 + i = off + (i + 1) by omega]
        exact h (i + 1) y hy
      · obtain ⟨u, e2, h3, h4⟩ := he
        exact ⟨u, e2, h3, ⟨h4.os, h4.tape, h4.output, h4.size, h4.block⟩⟩)
    rw [e1] at hc ⊢
    have hs1 : ∀ W, _ := fun W => qsl_l b off 1 (M + 1) cap (by omega) hc W
    rw [show ((1 : Nat) : Int) = 1 from rfl] at hs1
    have hi0 : (0 : Int) < ((M + 1 : Nat) : Int) := by omega
    have hi1 : (1 : Int) ≤ ((M + 1 : Nat) : Int) := by omega
    clear h hM e1
    obtain ⟨M1, hM1⟩ : ∃ M1, M + 1 = M1 := ⟨_, rfl⟩
    rw [hM1] at HT hs1 hi0 hi1 hc
    rw [hM1]
    have hi2 : ((M1 : Int) == 0) = false := by rw [beq_eq_false_iff_ne]; omega
    have hi3 : 0 < M1 := by omega
    clear hM1
    go_enter Try.func41, Try.ntmps41
    go_wp2_with fail
    go_still_tail 5, (by kernel_rfl)
    change wpList _ _ _ _ _ (w.drewN 1)
    have hT := Lib.hid (HT.out 1)
    clear HT
    go_wp2_with fail
    refine hT.out.mono ?_
    rintro e w1 ⟨u, rfl, h1, h2⟩
    have H1 := Lib.hid (And.intro h1 h2)
    clear h1 h2
    go_wp2_with fail
    go_ret
    exact ⟨_, rfl, H1.out⟩
end Go.Proofs.Ytgdgjalfabffcaa

/-
  PLAIN MATHEMATICS OF LAYER 11 (delta): a step, and what steps tell together. No program is named here.
-/
import Derived.Test.YtpjjchmbolopnaaDelMath
namespace Go.Proofs.Ytpjjchmbolopnaa
namespace DelM
open Go.RowKit BitM
set_option linter.unusedVariables false
def okLen (x : Int) : Bool := decide (1 ≤ x) && decide (x ≤ 20)
theorem okLen_iff (x : Int) : okLen x = true ↔ 1 ≤ x ∧ x ≤ 20 := by unfold okLen; simp
/-- What a step tells: an error, how many bits it read, and what is known then. -/
structure DO where
  err : Int
  used : Nat
  ls : List Int
  now : Int
  bad : Bool
def eOf (b : Bool) : Int := if b then 0 else 22
def dstep (q : List Bool) (ls : List Int) (now : Int) (bad : Bool) : DO :=
  if bad = true then ⟨22, 0, ls, now, true⟩
  else if now = 0 then
    if q.length < 5 then ⟨3, 0, ls, 0, false⟩
    else ⟨eOf (okLen (num (q.take 5))), 5, ls, num (q.take 5), !okLen (num (q.take 5))⟩
  else match q with
    | [] => ⟨3, 0, ls, now, false⟩
    | [true] => ⟨3, 0, ls, now, false⟩
    | false :: _ => ⟨0, 1, ls ++ [now], now, false⟩
    | true :: b :: _ => ⟨eOf (okLen (nx now b)), 2, ls, nx now b, !okLen (nx now b)⟩
theorem dstep_bad (q : List Bool) (ls : List Int) (now : Int) : dstep q ls now true = ⟨22, 0, ls, now, true⟩ := rfl
theorem dstep_few (q : List Bool) (ls : List Int) (h : q.length < 5) : dstep q ls 0 false = ⟨3, 0, ls, 0, false⟩ := by
  unfold dstep
  rw [if_neg (by simp), if_pos rfl, if_pos h]
theorem dstep_first (q : List Bool) (ls : List Int) (h : ¬ q.length < 5) : dstep q ls 0 false = ⟨eOf (okLen (num (q.take 5))), 5, ls, num (q.take 5), !okLen (num (q.take 5))⟩ := by
  unfold dstep
  rw [if_neg (by simp), if_pos rfl, if_neg h]
theorem dstep_nil (ls : List Int) {now : Int} (h : now ≠ 0) : dstep [] ls now false = ⟨3, 0, ls, now, false⟩ := by
  unfold dstep
  rw [if_neg (by simp), if_neg h]
theorem dstep_one (ls : List Int) {now : Int} (h : now ≠ 0) : dstep [true] ls now false = ⟨3, 0, ls, now, false⟩ := by
  unfold dstep
  rw [if_neg (by simp), if_neg h]
theorem dstep_same (t : List Bool) (ls : List Int) {now : Int} (h : now ≠ 0) : dstep (false :: t) ls now false = ⟨0, 1, ls ++ [now], now, false⟩ := by
  unfold dstep
  rw [if_neg (by simp), if_neg h]
theorem dstep_move (b : Bool) (t : List Bool) (ls : List Int) {now : Int} (h : now ≠ 0) : dstep (true :: b :: t) ls now false = ⟨eOf (okLen (nx now b)), 2, ls, nx now b, !okLen (nx now b)⟩ := by
  unfold dstep
  rw [if_neg (by simp), if_neg h]
/-- What is known behind p bits of all is right. -/
def Rt (Q : List Bool) (N p : Nat) (ls : List Int) (now : Int) : Prop :=
  ls.length ≤ N ∧ ((now = 0 ∧ ls = [] ∧ p = 0) ∨ (1 ≤ now ∧ now ≤ 20 ∧ rd Q N = (run (Q.drop p) (N - ls.length) now).add ls p))
theorem Rt.start (Q : List Bool) (N : Nat) : Rt Q N 0 [] 0 := ⟨Nat.zero_le _, Or.inl ⟨rfl, rfl, rfl⟩⟩
theorem rd_five {Q : List Bool} {N : Nat} (h : ¬ Q.length < 5) : rd Q N = if (num (Q.take 5) : Int) < 1 ∨ 20 < (num (Q.take 5) : Int) then .table else (run (Q.drop 5) N (num (Q.take 5))).add [] 5 := by
  unfold rd
  rw [if_neg h]
/-- A step of the bits q that are there; r comes behind them. -/
theorem Rt.step {Q : List Bool} {N p : Nat} {ls : List Int} {now : Int} (h : Rt Q N p ls now) (hl : ls.length < N) (q r : List Bool) (hq : Q.drop p = q ++ r) :
    ((dstep q ls now false).err = 0 ∧ (dstep q ls now false).bad = false ∧ 1 ≤ (dstep q ls now false).used ∧ (dstep q ls now false).used ≤ q.length ∧ Rt Q N (p + (dstep q ls now false).used) (dstep q ls now false).ls (dstep q ls now false).now) ∨
    ((dstep q ls now false).err = 22 ∧ (dstep q ls now false).bad = true ∧ (dstep q ls now false).used ≤ q.length ∧ rd Q N = .table ∧ (dstep q ls now false).ls = ls) ∨
    (dstep q ls now false = ⟨3, 0, ls, now, false⟩ ∧ (r = [] → rd Q N = .short)) := by
  obtain ⟨hle, h | ⟨h1, h20, hr⟩⟩ := h
  · obtain ⟨rfl, rfl, rfl⟩ := h
    rw [List.drop_zero] at hq
    by_cases h5 : q.length < 5
    · refine Or.inr (Or.inr ⟨dstep_few q [] h5, fun hr => ?_⟩)
      rw [hr, List.append_nil] at hq
      unfold rd
      rw [hq, if_pos h5]
    · rw [dstep_first q [] h5]
      have hQ5 : ¬ Q.length < 5 := by rw [hq, List.length_append]; omega
      have ht : Q.take 5 = q.take 5 := by rw [hq, List.take_append_of_le_length (by omega)]
      have h2 := rd_five (N := N) hQ5
      rw [ht] at h2
      cases hk : okLen (num (q.take 5))
      · refine Or.inr (Or.inl ⟨rfl, rfl, by show 5 ≤ q.length; omega, ?_, rfl⟩)
        rw [h2, if_pos]
        have h3 : ¬ (1 ≤ (num (q.take 5) : Int) ∧ (num (q.take 5) : Int) ≤ 20) := fun e => by rw [(okLen_iff _).2 e] at hk; cases hk
        omega
      · have h3 := (okLen_iff _).1 hk
        refine Or.inl ⟨rfl, rfl, by show 1 ≤ 5; omega, by show 5 ≤ q.length; omega, hle, Or.inr ⟨h3.1, h3.2, ?_⟩⟩
        rw [h2, if_neg (by omega)]
        rfl
  · have hn0 : now ≠ 0 := by omega
    obtain ⟨M, hM⟩ : ∃ M, N - ls.length = M + 1 := ⟨N - ls.length - 1, by omega⟩
    rw [hM, hq] at hr
    match q, hq, hr with
    | [], hq, hr =>
      refine Or.inr (Or.inr ⟨dstep_nil ls hn0, fun e => ?_⟩)
      subst e
      rw [hr]
      rfl
    | [true], hq, hr =>
      refine Or.inr (Or.inr ⟨dstep_one ls hn0, fun e => ?_⟩)
      subst e
      rw [hr]
      rfl
    | false :: t, hq, hr =>
      rw [dstep_same t ls hn0]
      refine Or.inl ⟨rfl, rfl, Nat.le_refl _, by show 1 ≤ t.length + 1; omega, by show (ls ++ [now]).length ≤ N; rw [List.length_append]; exact hl, Or.inr ⟨h1, h20, ?_⟩⟩
      have hd : Q.drop (p + 1) = t ++ r := by
        rw [← List.drop_drop, hq]
        rfl
      show rd Q N = (run (Q.drop (p + 1)) (N - (ls ++ [now]).length) now).add (ls ++ [now]) (p + 1)
      rw [hr, hd]
      show (run (false :: (t ++ r)) (M + 1) now).add ls p = _
      rw [run_same, add_add, List.length_append, show N - (ls.length + [now].length) = M from by show N - (ls.length + 1) = M; omega]
    | true :: b :: t, hq, hr =>
      rw [dstep_move b t ls hn0]
      have hd : Q.drop (p + 2) = t ++ r := by
        rw [← List.drop_drop, hq]
        rfl
      cases hk : okLen (nx now b)
      · have h3 : ¬ (1 ≤ nx now b ∧ nx now b ≤ 20) := fun e => by rw [(okLen_iff _).2 e] at hk; cases hk
        refine Or.inr (Or.inl ⟨rfl, rfl, by show 2 ≤ t.length + 2; omega, ?_, rfl⟩)
        rw [hr]
        show (run (true :: b :: (t ++ r)) (M + 1) now).add ls p = _
        rw [run_bad _ _ _ _ (by omega)]
        rfl
      · have h3 := (okLen_iff _).1 hk
        refine Or.inl ⟨rfl, rfl, by show 1 ≤ 2; omega, by show 2 ≤ t.length + 2; omega, hle, Or.inr ⟨h3.1, h3.2, ?_⟩⟩
        show rd Q N = (run (Q.drop (p + 2)) (N - ls.length) (nx now b)).add ls (p + 2)
        rw [hr, hd, hM]
        show (run (true :: b :: (t ++ r)) (M + 1) now).add ls p = _
        rw [run_move _ _ _ _ (by omega), add_add, List.append_nil]
/-- All were read. -/
theorem Rt.all {Q : List Bool} {N p : Nat} {ls : List Int} {now : Int} (h : Rt Q N p ls now) (hl : ls.length = N) (hN : 0 < N) : rd Q N = .ok ls p := by
  obtain ⟨hle, h | ⟨h1, h20, hr⟩⟩ := h
  · obtain ⟨rfl, rfl, rfl⟩ := h
    simp at hl
    omega
  · rw [hr, show N - ls.length = 0 by omega, run_zero]
    show Res.ok (ls ++ []) (p + 0) = _
    rw [List.append_nil]
    rfl
theorem Rt.now {Q : List Bool} {N p : Nat} {ls : List Int} {now : Int} (h : Rt Q N p ls now) : 0 ≤ now ∧ now ≤ 20 := by
  obtain ⟨hle, h | ⟨h1, h20, hr⟩⟩ := h
  · omega
  · omega
end DelM
end Go.Proofs.Ytpjjchmbolopnaa

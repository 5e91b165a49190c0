/-
  PLAIN MATHEMATICS OF LAYER 9 (lens): trees joined out of two rows that wait, each of which is a stretch of places. No program is named here.
-/
import Derived.Test.YtmlcdfimcabgkaaDoorLenMath
import Derived.Test.YtmlcdfimcabgkaaDoorSymMath
import Derived.Test.YtmlcdfimcabgkaaDoorLenA
namespace Go.Proofs.YtmlcdfimcabgkaaDoor
namespace HufM
open Go.RowKit SymM
set_option linter.unusedVariables false
def tr (wf : Row) (t : Nat) : Tr := ((wf t).toNat, t)
/-- The symbols that wait, from place S of their order on. -/
def qA (wf D : Row) (n S : Nat) : List Tr := (List.range (n - S)).map fun i => tr wf (D (S + i)).toNat
/-- The joined trees that wait. -/
def qB (wf : Row) (K J : Nat) : List Tr := (List.range (K - J)).map fun i => tr wf (J + i)
theorem range_map_cons {α : Type} (f : Nat → α) (m : Nat) : (List.range (m + 1)).map f = f 0 :: (List.range m).map (fun i => f (i + 1)) := by
  rw [List.range_succ_eq_map, List.map_cons, List.map_map]; rfl
theorem qA_cons (wf D : Row) {n S : Nat} (h : S < n) : qA wf D n S = tr wf (D S).toNat :: qA wf D n (S + 1) := by
  unfold qA
  rw [show n - S = (n - (S + 1)) + 1 by omega, range_map_cons]
  congr 1
  apply List.map_congr_left
  intro i _
  rw [show S + (i + 1) = S + 1 + i by omega]
theorem qA_nil (wf D : Row) {n S : Nat} (h : n ≤ S) : qA wf D n S = [] := by
  unfold qA; rw [show n - S = 0 by omega]; rfl
theorem qB_cons (wf : Row) {K J : Nat} (h : J < K) : qB wf K J = tr wf J :: qB wf K (J + 1) := by
  unfold qB
  rw [show K - J = (K - (J + 1)) + 1 by omega, range_map_cons]
  congr 1
  apply List.map_congr_left
  intro i _
  rw [show J + (i + 1) = J + 1 + i by omega]
theorem qB_nil (wf : Row) {K J : Nat} (h : K ≤ J) : qB wf K J = [] := by
  unfold qB; rw [show K - J = 0 by omega]; rfl
theorem qB_snoc (wf : Row) {K J : Nat} (h : J ≤ K) : qB wf (K + 1) J = qB wf K J ++ [tr wf K] := by
  unfold qB
  rw [show K + 1 - J = (K - J) + 1 by omega, List.range_succ, List.map_append, List.map_cons, List.map_nil, show J + (K - J) = K by omega]
/-- Which tree is taken, and what waits then. -/
def TookM (n : Nat) (D wf : Row) (S J K : Nat) (t : Int) (S1 J1 : Nat) : Prop :=
  (((J = K ∧ S < n) ∨ (S < n ∧ wf (D S).toNat ≤ wf J)) ∧ t = D S ∧ S1 = S + 1 ∧ J1 = J) ∨
  (¬ J = K ∧ ¬ (S < n ∧ wf (D S).toNat ≤ wf J) ∧ t = (J : Int) ∧ S1 = S ∧ J1 = J + 1)
theorem pick_took {n : Nat} {D wf : Row} {S J K : Nat} {t : Int} {S1 J1 : Nat} (hS : S ≤ n) (hJK : J ≤ K) (h0 : J = K → S < n) (hD : ∀ k, k < n → 0 ≤ D k ∧ D k < (n : Int)) (hnJ : n ≤ J)
    (hpos : ∀ i, i < K → 0 ≤ wf i) (h : TookM n D wf S J K t S1 J1) :
    ∃ t', t = ((t' : Nat) : Int) ∧ t' < K ∧ pick (qA wf D n S) (qB wf K J) = some (tr wf t', qA wf D n S1, qB wf K J1) ∧ S1 ≤ n ∧ J1 ≤ K ∧ S ≤ S1 ∧ J ≤ J1 ∧ S1 + J1 = S + J + 1 ∧
      ((S1 = S + 1 ∧ J1 = J ∧ (D S).toNat = t' ∧ S < n) ∨ (S1 = S ∧ J1 = J + 1 ∧ t' = J ∧ J < K)) := by
  rcases h with ⟨hc, rfl, hs, hj⟩ | ⟨h1, h2, rfl, hs, hj⟩
  · obtain rfl := hs.symm
    obtain rfl := hj.symm
    have hSn : S < n := by rcases hc with h | h; exact h.2; exact h.1
    have hd := hD S hSn
    refine ⟨(D S).toNat, by omega, by omega, ?_, hSn, hJK, by omega, by omega, by omega, Or.inl ⟨rfl, rfl, rfl, hSn⟩⟩
    rw [qA_cons wf D hSn]
    by_cases e : J = K
    · rw [qB_nil wf (by omega)]; rfl
    · rw [qB_cons wf (show J < K by omega)]
      have hle : wf (D S).toNat ≤ wf J := by rcases hc with h | h; exact absurd h.1 e; exact h.2
      have := hpos (D S).toNat (by omega)
      simp only [pick]
      rw [if_pos (show (tr wf (D S).toNat).1 ≤ (tr wf J).1 by unfold tr; simp only; omega)]
  · obtain rfl := hs.symm
    obtain rfl := hj.symm
    refine ⟨J, rfl, by omega, ?_, hS, by omega, by omega, by omega, by omega, Or.inr ⟨rfl, rfl, rfl, by omega⟩⟩
    rw [qB_cons wf (show J < K by omega)]
    by_cases hSn : S < n
    · rw [qA_cons wf D hSn]
      have hd := hD S hSn
      have p1 := hpos (D S).toNat (by omega)
      have p2 := hpos J (by omega)
      have h3 : ¬ wf (D S).toNat ≤ wf J := fun h => h2 ⟨hSn, h⟩
      simp only [pick]
      rw [if_neg (show ¬ (tr wf (D S).toNat).1 ≤ (tr wf J).1 by unfold tr; simp only; omega)]
    · rw [qA_nil wf D (by omega)]; rfl
/-- How far the trees are joined: d are the depths. -/
structure JS (zs : List Int) (D wf ab : Row) (d : Nat → Nat) (S J K : Nat) : Prop where
  run0 : Run zs.length (ini zs) d
  rng : ∀ k, k < zs.length → 0 ≤ D k ∧ D k < (zs.length : Int)
  all : ∀ t, t < zs.length → ∃ i, i < zs.length ∧ D i = (t : Int)
  hS : S ≤ zs.length
  hJ : zs.length ≤ J
  hJK : J ≤ K
  hK : K + 1 ≤ 2 * zs.length
  cnt : 2 * K = zs.length + S + J
  pos : ∀ i, i < K → 0 ≤ wf i
  run : Run K (qA wf D zs.length S ++ qB wf K J) d
  two : Two zs.length K (qA wf D zs.length S) (qB wf K J)
  tot : sumN wt (qA wf D zs.length S ++ qB wf K J) = sumN wt (ini zs)
  doneA : ∀ i, i < S → ∃ u, ab (D i).toNat = ((u : Nat) : Int) ∧ (D i).toNat < u ∧ u < K ∧ d (D i).toNat = d u + 1
  doneB : ∀ t, zs.length ≤ t → t < J → ∃ u, ab t = ((u : Nat) : Int) ∧ t < u ∧ u < K ∧ d t = d u + 1
theorem qA_congr {wf wf' D : Row} {n S : Nat} (hD : ∀ k, k < n → 0 ≤ D k ∧ D k < (n : Int)) (h : ∀ i, i < n → wf' i = wf i) : qA wf' D n S = qA wf D n S := by
  unfold qA
  apply List.map_congr_left
  intro i hi
  have := List.mem_range.1 hi
  have hd := hD (S + i) (by omega)
  unfold tr
  rw [h _ (by omega)]
theorem qB_congr {wf wf' : Row} {K J : Nat} (h : ∀ i, i < K → wf' i = wf i) : qB wf' K J = qB wf K J := by
  unfold qB
  apply List.map_congr_left
  intro i hi
  have := List.mem_range.1 hi
  unfold tr
  rw [h _ (by omega)]
/-- Two trees are taken and joined. -/
theorem JS.step {zs : List Int} {D wf ab : Row} {d : Nat → Nat} {S J K S1 J1 S2 J2 : Nat} {a b : Int} (h : JS zs D wf ab d S J K) (hK : K + 1 < 2 * zs.length)
    (h1 : TookM zs.length D wf S J K a S1 J1) (h2 : TookM zs.length D wf S1 J1 K b S2 J2) :
    ∃ x y : Nat, a = x ∧ b = y ∧ x < K ∧ y < K ∧ x ≠ y ∧ (wf x).toNat + (wf y).toNat ≤ sumN wt (ini zs) ∧
      JS zs D (fun k => if k = K then wf x + wf y else wf k) (fun k => if k = y then (K : Int) else (fun k => if k = x then (K : Int) else ab k) k) d S2 J2 (K + 1) := by
  obtain ⟨run0, rng, all, hS, hJ, hJK, hK1, cnt, pos, run, two, tot, doneA, doneB⟩ := h
  obtain ⟨x, ex, hxK, p1, q1, q2, q3, q4, q5, q6⟩ := pick_took hS hJK (fun e => by omega) rng hJ pos h1
  obtain ⟨y, ey, hyK, p2, r1, r2, r3, r4, r5, r6⟩ := pick_took q1 q2 (fun e => by omega) rng (by omega) pos h2
  obtain ⟨t2, hp, hxy, hr⟩ := Two.join two (by omega) p1 p2
  obtain ⟨run', dx, dy⟩ := run.next hp hxy hr
  have hne : x ≠ y := fun e => by subst e; unfold lt tr at hxy; simp only at hxy; omega
  have hsum : sumN wt (qA wf D zs.length S ++ qB wf K J) = (wf x).toNat + ((wf y).toNat + sumN wt (qA wf D zs.length S2 ++ qB wf K J2)) := by
    rw [sumN_perm wt hp]; rfl
  have px := pos x hxK
  have py := pos y hyK
  have ew : (wf x + wf y).toNat = (wf x).toNat + (wf y).toNat := by omega
  have eA : qA (fun k => if k = K then wf x + wf y else wf k) D zs.length S2 = qA wf D zs.length S2 := qA_congr rng (fun i hi => if_neg (by omega))
  have eB : qB (fun k => if k = K then wf x + wf y else wf k) (K + 1) J2 = qB wf K J2 ++ [((wf x).toNat + (wf y).toNat, K)] := by
    rw [qB_snoc _ r2, qB_congr (wf := wf) (fun i hi => if_neg (by omega))]
    unfold tr
    simp only [if_true]
    rw [ew]
  have hdx : d x = d K + 1 := dx
  have hdy : d y = d K + 1 := dy
  refine ⟨x, y, ex, ey, hxK, hyK, hne, by omega, ⟨run0, rng, all, r1, by omega, by omega, by omega, by omega, fun i hi => ?_, ?_, ?_, ?_, fun i hi => ?_, fun t ht1 ht2 => ?_⟩⟩
  · show (0 : Int) ≤ if i = K then wf x + wf y else wf i
    split
    · omega
    · exact pos i (by omega)
  · rw [eA, eB, ← List.append_assoc]
    exact run'.perm (List.perm_append_singleton _ _).symm
  · rw [eA, eB]; exact t2
  · rw [eA, eB, ← List.append_assoc, sumN_append, ← tot, hsum]
    simp only [sumN, wt]
    omega
  · have hd := rng i (by omega)
    by_cases e1 : (D i).toNat = y
    · exact ⟨K, by simp only [e1, if_true], by omega, by omega, by rw [e1]; exact hdy⟩
    · by_cases e2 : (D i).toNat = x
      · exact ⟨K, by simp only [e2, if_true]; split <;> rfl, by omega, by omega, by rw [e2]; exact hdx⟩
      · have hi2 : i < S := by
          rcases Nat.lt_or_ge i S with g | g
          · exact g
          · exfalso
            rcases q6 with ⟨a1, a2, a3, a4⟩ | ⟨a1, a2, a3, a4⟩
            · rcases r6 with ⟨b1, b2, b3, b4⟩ | ⟨b1, b2, b3, b4⟩
              · rcases Nat.lt_or_ge i (S + 1) with g2 | g2
                · have : i = S := by omega
                  subst this; exact e2 a3
                · have : i = S1 := by omega
                  subst this; exact e1 b3
              · have : i = S := by omega
                subst this; exact e2 a3
            · rcases r6 with ⟨b1, b2, b3, b4⟩ | ⟨b1, b2, b3, b4⟩
              · have : i = S1 := by omega
                subst this; exact e1 b3
              · omega
        obtain ⟨u, u1, u2, u3, u4⟩ := doneA i hi2
        exact ⟨u, by simp only [e1, e2, if_false]; exact u1, u2, by omega, u4⟩
  · by_cases e1 : t = y
    · subst e1; exact ⟨K, by simp only [if_true], by omega, by omega, hdy⟩
    · by_cases e2 : t = x
      · subst e2; exact ⟨K, by simp only [if_true]; split <;> rfl, by omega, by omega, hdx⟩
      · have ht3 : t < J := by
          rcases Nat.lt_or_ge t J with g | g
          · exact g
          · exfalso
            rcases q6 with ⟨a1, a2, a3, a4⟩ | ⟨a1, a2, a3, a4⟩
            · rcases r6 with ⟨b1, b2, b3, b4⟩ | ⟨b1, b2, b3, b4⟩ <;> omega
            · rcases r6 with ⟨b1, b2, b3, b4⟩ | ⟨b1, b2, b3, b4⟩ <;> omega
        obtain ⟨u, u1, u2, u3, u4⟩ := doneB t ht1 ht3
        exact ⟨u, by simp only [e1, e2, if_false]; exact u1, u2, by omega, u4⟩
/-- What is told of each tree: which one it came to be a part of. -/
def JoinP (zs : List Int) (ab : Row) : Prop := ∃ d, Run zs.length (ini zs) d ∧ d (2 * zs.length - 2) = 0 ∧ ∀ t, t < 2 * zs.length - 2 → ∃ u : Nat, ab t = (u : Int) ∧ t < u ∧ u ≤ 2 * zs.length - 2 ∧ d t = d u + 1
theorem JS.end_ {zs : List Int} {D wf ab : Row} {d : Nat → Nat} {S J K : Nat} (h : JS zs D wf ab d S J K) (hn2 : 2 ≤ zs.length) (hK : 2 * zs.length ≤ K + 1) : JoinP zs ab := by
  obtain ⟨run0, rng, all, hS, hJ, hJK, hK1, cnt, pos, run, two, tot, doneA, doneB⟩ := h
  have hJ2 : J < K := by
    rcases Nat.lt_or_ge J K with g | g
    · exact g
    · exfalso
      rcases Nat.lt_or_ge (2 * zs.length - 2) zs.length with g2 | g2
      · omega
      · obtain ⟨u, u1, u2, u3, u4⟩ := doneB (2 * zs.length - 2) g2 (by omega)
        omega
  have hS2 : S = zs.length := by omega
  have e : qA wf D zs.length S ++ qB wf K J = [tr wf J] := by
    rw [qA_nil wf D (by omega), qB_cons wf hJ2, qB_nil wf (by omega)]; rfl
  rw [e] at run
  have h0 := run.end_
  refine ⟨d, run0, ?_, fun t ht => ?_⟩
  · have : 2 * zs.length - 2 = J := by omega
    rw [this]; exact h0
  · by_cases htn : t < zs.length
    · obtain ⟨i, hi, hd⟩ := all t htn
      obtain ⟨u, u1, u2, u3, u4⟩ := doneA i (by omega)
      rw [hd, Int.toNat_natCast] at u1 u2 u4
      exact ⟨u, u1, u2, by omega, u4⟩
    · obtain ⟨u, u1, u2, u3, u4⟩ := doneB t (by omega) (by omega)
      exact ⟨u, u1, u2, by omega, u4⟩
theorem JS.start {zs : List Int} {D wf ab : Row} (h2 : 2 ≤ zs.length) (hz : ∀ z ∈ zs, 0 ≤ z) (hB : Blk (wtOf zs) D 0 zs.length) (hwf : ∀ i, i < zs.length → wf i = zs.getD i 0) :
    ∃ d, JS zs D wf ab d 0 zs.length zs.length := by
  obtain ⟨d, hd⟩ := Run.exists (zs.length - 1) zs.length (ini zs) (by rw [ini_len]; omega) (ini_dis zs) (fun t ht => (ini_mem ht).1)
  have rng : ∀ k, k < zs.length → 0 ≤ D k ∧ D k < (zs.length : Int) := fun k hk => by have := hB.mem (Nat.zero_le k) hk; omega
  have hpos : ∀ i, i < zs.length → 0 ≤ wf i := fun i hi => by
    rw [hwf i hi, List.getD_eq_getElem?_getD, List.getElem?_eq_getElem hi]
    exact hz _ (List.getElem_mem hi)
  have eA : qA wf D zs.length 0 = (seg D 0 zs.length).map (fun x => ((zs.getD x.toNat 0).toNat, x.toNat)) := by
    unfold qA seg
    rw [List.map_map, Nat.sub_zero]
    apply List.map_congr_left
    intro i hi
    have hi := List.mem_range.1 hi
    have := rng (0 + i) (by omega)
    unfold tr
    rw [hwf _ (by omega)]
    rfl
  have eI : ini zs = (seg (fun k => (k : Int)) 0 zs.length).map (fun x => ((zs.getD x.toNat 0).toNat, x.toNat)) := by
    unfold ini seg
    rw [List.map_map]
    apply List.map_congr_left
    intro i _
    simp
  have hperm : (qA wf D zs.length 0).Perm (ini zs) := by
    rw [eA, eI]
    have := hB.perm
    rw [Nat.sub_zero] at this
    exact this.map _
  have hsrt : (qA wf D zs.length 0).Pairwise lt := by
    unfold qA
    rw [List.pairwise_map]
    refine List.pairwise_lt_range.imp_of_mem (fun {i j} hi hj hij => ?_)
    have hi := List.mem_range.1 hi
    have hj := List.mem_range.1 hj
    have h3 := hB.srt (0 + i) (0 + j) (by omega) (by omega) (by omega)
    have r1 := rng (0 + i) (by omega)
    have r2 := rng (0 + j) (by omega)
    have e1 := hwf (D (0 + i)).toNat (by omega)
    have e2 := hwf (D (0 + j)).toNat (by omega)
    have p1 := hpos (D (0 + i)).toNat (by omega)
    have p2 := hpos (D (0 + j)).toNat (by omega)
    unfold L wtOf at h3
    unfold lt tr
    simp only
    omega
  have eB : qB wf zs.length zs.length = [] := qB_nil wf (Nat.le_refl _)
  refine ⟨d, ⟨hd, rng, fun t ht => ?_, Nat.zero_le _, Nat.le_refl _, Nat.le_refl _, by omega, by omega, hpos, ?_, ?_, ?_, fun i hi => by omega, fun t h1 h2 => by omega⟩⟩
  · have h3 : (t : Int) ∈ seg D 0 (zs.length - 0) := hB.perm.mem_iff.2 (seg_mem.2 ⟨t, Nat.zero_le _, by omega, rfl⟩)
    obtain ⟨k, h4, h5, h6⟩ := seg_mem.1 h3
    exact ⟨k, by omega, h6⟩
  · rw [eB, List.append_nil]; exact hd.perm hperm.symm
  · rw [eB]
    exact Two.start hsrt (fun t ht => (ini_mem (hperm.mem_iff.1 ht)).1)
  · rw [eB, List.append_nil]; exact sumN_perm wt hperm
/-- Depths, read from the last tree down. -/
theorem JoinP.dep {zs : List Int} {ab : Row} (h : JoinP zs ab) : ∃ d : Nat → Nat, DepP zs ((List.range zs.length).map fun i => (d i : Int)) ∧ d (2 * zs.length - 2) = 0 ∧ (∀ t, t ≤ 2 * zs.length - 2 → d t ≤ 2 * zs.length) ∧
    ∀ t, t < 2 * zs.length - 2 → ∃ u : Nat, ab t = (u : Int) ∧ t < u ∧ u ≤ 2 * zs.length - 2 ∧ d t = d u + 1 := by
  obtain ⟨d, h1, h2, h3⟩ := h
  refine ⟨d, ⟨d, h1, rfl⟩, h2, ?_, h3⟩
  have key : ∀ e t, t + e = 2 * zs.length - 2 → d t ≤ e := by
    intro e
    induction e using Nat.strongRecOn with
    | _ e ih =>
      intro t ht
      by_cases e0 : e = 0
      · subst e0
        have : t = 2 * zs.length - 2 := by omega
        subst this; omega
      · obtain ⟨u, u1, u2, u3, u4⟩ := h3 t (by omega)
        have := ih (2 * zs.length - 2 - u) (by omega) u (by omega)
        omega
  intro t ht
  have := key (2 * zs.length - 2 - t) t (by omega)
  omega
end HufM
end Go.Proofs.YtmlcdfimcabgkaaDoor

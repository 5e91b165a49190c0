/-
  PLAIN MATHEMATICS OF LAYER 12 (tables): how many tables, their first lengths, picks, rounds. No program is named here.
-/
import Derived.Test.YtmlcdfimcabgkaaDoorLenH
import Derived.Test.YtmlcdfimcabgkaaDoorFreqMath
namespace Go.Proofs.YtmlcdfimcabgkaaDoor
namespace TabM
open Go.RowKit FreqM HufM
set_option linter.unusedVariables false
def nTab (n : Int) : Nat := if n < 200 then 2 else if n < 600 then 3 else if n < 1200 then 4 else if n < 2400 then 5 else 6
theorem nTab_bd (n : Int) : 2 ≤ nTab n ∧ nTab n ≤ 6 := by unfold nTab; split <;> (try split) <;> (try split) <;> (try split) <;> omega
/-- Bounds that are reached, of the first k. -/
def nB (n : Int) (k : Nat) : Nat := 2 + (if 0 < k ∧ 200 ≤ n then 1 else 0) + (if 1 < k ∧ 600 ≤ n then 1 else 0) + (if 2 < k ∧ 1200 ≤ n then 1 else 0) + (if 3 < k ∧ 2400 ≤ n then 1 else 0)
theorem nB_zero (n : Int) : nB n 0 = 2 := by simp [nB]
theorem nB_all (n : Int) : nB n 4 = nTab n := by
  unfold nB nTab
  simp only [show (0 : Nat) < 4 by omega, show (1 : Nat) < 4 by omega, show (2 : Nat) < 4 by omega, show (3 : Nat) < 4 by omega, true_and]
  split <;> split <;> split <;> split <;> (try split) <;> (try split) <;> (try split) <;> (try split) <;> omega
def bnd (k : Nat) : Int := if k = 0 then 200 else if k = 1 then 600 else if k = 2 then 1200 else 2400
theorem nB_succ (n : Int) (k : Nat) (hk : k < 4) : nB n (k + 1) = nB n k + if bnd k ≤ n then 1 else 0 := by
  rcases (by omega : k = 0 ∨ k = 1 ∨ k = 2 ∨ k = 3) with rfl | rfl | rfl | rfl <;> simp [nB, bnd] <;> omega
theorem nB_le (n : Int) (k : Nat) : nB n k ≤ 6 := by
  unfold nB
  split <;> split <;> split <;> split <;> omega
/-! ### The first lengths -/
def sm (cs : List Int) (k : Nat) : Int := sumF (cs.take k)
theorem sm_zero (cs : List Int) : sm cs 0 = 0 := rfl
theorem sm_succ (cs : List Int) {k : Nat} (hk : k < cs.length) : sm cs (k + 1) = sm cs k + cs.getD k 0 := by
  unfold sm
  rw [List.take_succ_eq_append_getElem hk, sumF_app, List.getD_eq_getElem?_getD, List.getElem?_eq_getElem hk]
  simp [sumF]
theorem sm_nn {cs : List Int} (h : ∀ x ∈ cs, 0 ≤ x) (k : Nat) : 0 ≤ sm cs k := sumF_nn _ (fun x hx => h x (List.mem_of_mem_take hx))
theorem sm_le {cs : List Int} (h : Nums cs) : ∀ {k : Nat}, k ≤ cs.length → sm cs k ≤ 1099511627776 * (k : Int)
  | 0, _ => by rw [sm_zero]; omega
  | k + 1, hk => by
    have h1 := sm_le h (k := k) (by omega)
    have h2 := (h _ (FreqM.getD_mem cs k (by omega))).2
    rw [sm_succ cs (by omega)]
    omega
/-- The table to which symbol k belongs. -/
def tb (cs : List Int) (n : Int) (k : Nat) : Nat := (min (sm cs k) (n - 1) * (nTab n : Int) / n).toNat
theorem tb_is {cs : List Int} {n : Int} (h : ∀ x ∈ cs, 0 ≤ x) (hn : 1 ≤ n) (k : Nat) : min (sm cs k) (n - 1) * (nTab n : Int) / n = (tb cs n k : Int) ∧ tb cs n k < nTab n := by
  have h0 := sm_nn h k
  have h1 := nTab_bd n
  have h2 : 0 ≤ min (sm cs k) (n - 1) := by omega
  have h3 : min (sm cs k) (n - 1) ≤ n - 1 := by omega
  have h4 : 0 ≤ min (sm cs k) (n - 1) * (nTab n : Int) := Int.mul_nonneg h2 (by omega)
  have h5 : 0 ≤ min (sm cs k) (n - 1) * (nTab n : Int) / n := Int.ediv_nonneg h4 (by omega)
  have h6 : min (sm cs k) (n - 1) * (nTab n : Int) / n < (nTab n : Int) := by
    rw [Int.ediv_lt_iff_lt_mul (by omega)]
    have : min (sm cs k) (n - 1) * (nTab n : Int) ≤ (n - 1) * (nTab n : Int) := Int.mul_le_mul_of_nonneg_right h3 (by omega)
    have e : (n - 1) * (nTab n : Int) = (nTab n : Int) * n - (nTab n : Int) := by rw [Int.sub_mul, Int.mul_comm]; omega
    omega
  unfold tb
  omega
/-- Row p behind k symbols. -/
def fRow (cs : List Int) (n : Int) (k p : Nat) : List Int := (List.range cs.length).map fun j => if j < k ∧ tb cs n j = p then 0 else 15
def firstK (cs : List Int) (n : Int) (k : Nat) : List (List Int) := (List.range (nTab n)).map (fRow cs n k)
def firstM (cs : List Int) (n : Int) : List (List Int) := firstK cs n cs.length
theorem fRow_len (cs : List Int) (n : Int) (k p : Nat) : (fRow cs n k p).length = cs.length := by simp [fRow]
theorem firstK_len (cs : List Int) (n : Int) (k : Nat) : (firstK cs n k).length = nTab n := by simp [firstK]
theorem fRow_zero (cs : List Int) (n : Int) (p : Nat) : fRow cs n 0 p = List.replicate cs.length 15 := by
  unfold fRow
  apply List.ext_getElem
  · simp
  · intro i h1 h2
    simp
theorem fRow_set (cs : List Int) (n : Int) (k : Nat) (hk : k < cs.length) : fRow cs n (k + 1) (tb cs n k) = (fRow cs n k (tb cs n k)).set k 0 := by
  unfold fRow
  apply List.ext_getElem
  · simp
  · intro i h1 h2
    rw [List.getElem_set]
    simp only [List.getElem_map, List.getElem_range]
    by_cases e : k = i
    · subst e
      simp
    · rw [if_neg e]
      by_cases hi : i < k
      · have h3 : i < k + 1 := by omega
        simp [hi, h3]
      · have h3 : ¬ i < k + 1 := by omega
        simp [hi, h3]
theorem fRow_other (cs : List Int) (n : Int) (k p : Nat) (hp : p ≠ tb cs n k) : fRow cs n (k + 1) p = fRow cs n k p := by
  unfold fRow
  apply List.map_congr_left
  intro i hi
  by_cases e : i = k
  · subst e
    have h1 : ¬ (i < i + 1 ∧ tb cs n i = p) := fun h => hp h.2.symm
    have h2 : ¬ (i < i ∧ tb cs n i = p) := fun h => by omega
    rw [if_neg h1, if_neg h2]
  · have h3 : (i < k + 1 ∧ tb cs n i = p) ↔ (i < k ∧ tb cs n i = p) := by omega
    simp only [h3]
theorem firstK_succ (cs : List Int) (n : Int) (k : Nat) (hk : k < cs.length) (ht : tb cs n k < nTab n) : firstK cs n (k + 1) = (firstK cs n k).set (tb cs n k) (((firstK cs n k).getD (tb cs n k) []).set k 0) := by
  apply List.ext_getElem
  · simp [firstK]
  · intro p h1 h2
    rw [List.getElem_set]
    have hg : (firstK cs n k).getD (tb cs n k) [] = fRow cs n k (tb cs n k) := by
      rw [List.getD_eq_getElem?_getD, List.getElem?_eq_getElem (by rw [firstK_len]; exact ht)]
      simp [firstK]
    by_cases e : tb cs n k = p
    · rw [if_pos e, hg, ← fRow_set cs n k hk]
      subst e
      simp [firstK]
    · rw [if_neg e]
      simp only [firstK, List.getElem_map, List.getElem_range]
      exact fRow_other cs n k p (fun h => e h.symm)
theorem fRow_bd (cs : List Int) (n : Int) (k p : Nat) : Within 0 20 (fRow cs n k p) := by
  intro z hz
  unfold fRow at hz
  obtain ⟨i, _, rfl⟩ := List.mem_map.1 hz
  split <;> omega
/-! ### A group's pick -/
def rw_ (rows : List (List Int)) (p : Nat) : List Int := rows.getD p []
def pk (g : List Int) (rows : List (List Int)) : Nat → Nat
  | 0 => 0
  | k + 1 => if costS g (rw_ rows k) < costS g (rw_ rows (pk g rows k)) then k else pk g rows k
def pickM (g : List Int) (rows : List (List Int)) : Nat := pk g rows rows.length
theorem pk_le (g : List Int) (rows : List (List Int)) : ∀ k, pk g rows k ≤ k - 1
  | 0 => Nat.le_refl _
  | k + 1 => by
    have := pk_le g rows k
    rw [pk]
    split <;> omega
theorem pickM_lt (g : List Int) {rows : List (List Int)} (h : 1 ≤ rows.length) : pickM g rows < rows.length := by
  have := pk_le g rows rows.length
  unfold pickM
  omega
/-! ### Lengths of counts, as a function -/
open Classical in
noncomputable def lensF (zs : List Int) : List Int := if h : ∃ rs, ∃ n, n ≤ 40 ∧ OfR n (ups zs) rs then h.choose else []
theorem lensF_of {zs rs : List Int} {n : Nat} (hn : n ≤ 40) (h : OfR n (ups zs) rs) : lensF zs = rs := by
  have hx : ∃ rs, ∃ n, n ≤ 40 ∧ OfR n (ups zs) rs := ⟨rs, n, hn, h⟩
  unfold lensF
  rw [dif_pos hx]
  obtain ⟨m, _, hm⟩ := hx.choose_spec
  exact (hm.same n rs h).1
theorem lensF_spec {zs : List Int} (h : OfOk zs) : ∃ n, n ≤ 40 ∧ OfR n (ups zs) (lensF zs) := by
  obtain ⟨n, rs, hn, ho⟩ := OfR.exists 40 (ups zs) (ups_bd h.2.2) (by rw [ups_len]; have := h.1; omega) (by rw [ups_len]; have := h.2.1; omega)
  exact ⟨n, hn, by rw [lensF_of hn ho]; exact ho⟩
theorem lensF_whole {zs : List Int} (h : OfOk zs) : (lensF zs).length = zs.length ∧ Within 1 20 (lensF zs) ∧ shr (lensF zs) = 1048576 := by
  obtain ⟨n, hn, ho⟩ := lensF_spec h
  have := ho.whole (by rw [ups_len]; have := h.1; omega)
  rw [ups_len] at this
  exact ⟨this.1, this.2.1, this.2.2⟩
theorem OfP.fun {zs rs : List Int} {err : Nat} (hp : OfP zs rs err) (h : OfOk zs) : rs = lensF zs ∧ err = 0 := by
  rcases hp with ⟨h1, _⟩ | ⟨_, ⟨n, hn, ho⟩, e⟩
  · exact absurd h h1
  · exact ⟨(lensF_of hn ho).symm, e⟩
/-! ### A round -/
def took (zs : List Int) (rows : List (List Int)) (p : Nat) : Nat → List Int
  | 0 => []
  | q + 1 => took zs rows p q ++ (if pickM (grp zs q) rows = p then grp zs q else [])
def picksM (zs : List Int) (rows : List (List Int)) (q : Nat) : List Int := (List.range q).map fun i => (pickM (grp zs i) rows : Int)
theorem picksM_succ (zs : List Int) (rows : List (List Int)) (q : Nat) : picksM zs rows (q + 1) = picksM zs rows q ++ [(pickM (grp zs q) rows : Int)] := by simp [picksM, List.range_succ]
theorem picksM_len (zs : List Int) (rows : List (List Int)) (q : Nat) : (picksM zs rows q).length = q := by simp [picksM]
theorem took_len (zs : List Int) (rows : List (List Int)) (p : Nat) : ∀ q, (took zs rows p q).length ≤ 50 * q
  | 0 => Nat.le_refl _
  | q + 1 => by
    have h1 := took_len zs rows p q
    have h2 := grp_len zs q
    rw [took, List.length_append]
    split
    · omega
    · simp only [List.length_nil]; omega
theorem took_len2 (zs : List Int) (rows : List (List Int)) (p : Nat) : ∀ q, (took zs rows p q).length ≤ zs.length - (zs.length - 50 * q)
  | 0 => Nat.zero_le _
  | q + 1 => by
    have h1 := took_len2 zs rows p q
    have h2 := grp_len zs q
    rw [took, List.length_append]
    split
    · omega
    · simp only [List.length_nil]; omega
theorem grp_syms {zs : List Int} {n : Int} (h : Syms zs n) (i : Nat) : Syms (grp zs i) n := fun x hx => h x (List.mem_of_mem_drop (List.mem_of_mem_take hx))
theorem took_syms {zs : List Int} {n : Int} (h : Syms zs n) (rows : List (List Int)) (p : Nat) : ∀ q, Syms (took zs rows p q) n
  | 0 => fun x hx => by cases hx
  | q + 1 => fun x hx => by
    rw [took] at hx
    rcases List.mem_append.1 hx with h1 | h1
    · exact took_syms h rows p q x h1
    · split at h1
      · exact grp_syms h q x h1
      · cases h1
noncomputable def roundM (zs : List Int) (N : Nat) (rows : List (List Int)) : List (List Int) := (List.range rows.length).map fun p => lensF (counts (took zs rows p (ng zs.length)) N)
theorem roundM_len (zs : List Int) (N : Nat) (rows : List (List Int)) : (roundM zs N rows).length = rows.length := by simp [roundM]
/-- Tables: from two to six rows of N lengths. -/
def TabOk (N : Nat) (rows : List (List Int)) : Prop := 2 ≤ rows.length ∧ rows.length ≤ 6 ∧ ∀ r ∈ rows, r.length = N ∧ Within 0 20 r
theorem cnt_ok {zs : List Int} {N : Nat} (h3 : 3 ≤ N) (h258 : N ≤ 258) (hz : zs.length ≤ 2000000) : OfOk (counts zs N) := by
  refine ⟨by rw [counts_len]; exact h3, by rw [counts_len]; exact h258, fun z hx => ?_⟩
  have := counts_nn zs N z hx
  omega
theorem roundM_ok {zs : List Int} {N : Nat} {rows : List (List Int)} (h3 : 3 ≤ N) (h258 : N ≤ 258) (hz : zs.length ≤ 2000000) (h : TabOk N rows) : TabOk N (roundM zs N rows) := by
  refine ⟨by rw [roundM_len]; exact h.1, by rw [roundM_len]; exact h.2.1, fun r hr => ?_⟩
  unfold roundM at hr
  obtain ⟨p, _, rfl⟩ := List.mem_map.1 hr
  have h1 := lensF_whole (cnt_ok (zs := took zs rows p (ng zs.length)) h3 h258 (by have := took_len2 zs rows p (ng zs.length); omega))
  rw [counts_len] at h1
  exact ⟨h1.1, fun z hz => by have := h1.2.1 z hz; omega⟩
theorem firstM_ok (cs : List Int) (n : Int) : TabOk cs.length (firstM cs n) := by
  have h := nTab_bd n
  refine ⟨by rw [firstM, firstK_len]; exact h.1, by rw [firstM, firstK_len]; exact h.2, fun r hr => ?_⟩
  unfold firstM firstK at hr
  obtain ⟨p, _, rfl⟩ := List.mem_map.1 hr
  exact ⟨fRow_len _ _ _ _, fRow_bd _ _ _ _⟩
/-- The tables behind so many rounds. -/
noncomputable def rnd (zs : List Int) (N : Nat) : Nat → List (List Int)
  | 0 => firstM (counts zs N) (zs.length : Int)
  | i + 1 => roundM zs N (rnd zs N i)
theorem rnd_ok {zs : List Int} {N : Nat} (h3 : 3 ≤ N) (h258 : N ≤ 258) (hz : zs.length ≤ 2000000) : ∀ i, TabOk N (rnd zs N i)
  | 0 => by
    have := firstM_ok (counts zs N) (zs.length : Int)
    rw [counts_len] at this
    exact this
  | i + 1 => roundM_ok h3 h258 hz (rnd_ok h3 h258 hz i)
theorem rnd_len (zs : List Int) (N : Nat) : ∀ i, (rnd zs N i).length = nTab (zs.length : Int)
  | 0 => by rw [rnd, firstM, firstK_len]
  | i + 1 => by rw [rnd, roundM_len, rnd_len zs N i]
theorem TabOk.at_ {N : Nat} {rows : List (List Int)} (h : TabOk N rows) {p : Nat} (hp : p < rows.length) : (rw_ rows p).length = N ∧ Within 0 20 (rw_ rows p) :=
  h.2.2 _ (by unfold rw_; rw [List.getD_eq_getElem?_getD, List.getElem?_eq_getElem hp]; exact List.getElem_mem hp)
theorem costS_bd {g ls : List Int} {N : Nat} (hs : Syms g (N : Int)) (hl : ls.length = N) (hw : Within 0 20 ls) : 0 ≤ costS g ls ∧ costS g ls ≤ 20 * (g.length : Int) := by
  induction g with
  | nil => exact ⟨Int.le_refl _, Int.le_refl _⟩
  | cons x t ih =>
    have h1 := ih (fun y hy => hs y (List.mem_cons_of_mem _ hy))
    have h2 := hs x (List.mem_cons_self)
    have h3 := hw (ls.getD x.toNat 0) (FreqM.getD_mem ls x.toNat (by omega))
    have e : costS (x :: t) ls = ls.getD x.toNat 0 + costS t ls := rfl
    rw [e, List.length_cons]
    omega
end TabM
end Go.Proofs.YtmlcdfimcabgkaaDoor

/-
  PLAIN MATHEMATICS OF LAYER 16 (sorter): passes and classes; how many passes there are. No program is named here.
-/
import Derived.Test.YtfedhppcmmponaaSrtMath
namespace Go.Proofs.Ytfedhppcmmponaa
namespace SrtM
open Go.RowKit BwtM
set_option linter.unusedVariables false

/-! ### Keys -/
/-- Keys tell which rotation is less by its first H bytes. -/
def KeyH (T : List UInt8) (H : Nat) (K : Nat → Nat) : Prop := ∀ i k, i < T.length → k < T.length → (K i < K k ↔ ltH T H i k)
theorem KeyH.eq {T : List UInt8} {H : Nat} {K : Nat → Nat} (h : KeyH T H K) {i k : Nat} (hi : i < T.length) (hk : k < T.length) : K i = K k ↔ eqH T H i k := by
  have h1 := h i k hi hk
  have h2 := h k i hk hi
  constructor
  · intro e
    rcases ltH_total T i k H with g | g | g
    · have := h1.2 g; omega
    · exact g
    · have := h2.2 g; omega
  · intro e
    have a : ¬ K i < K k := fun g => (h1.1 g).noteq e
    have b : ¬ K k < K i := fun g => (h2.1 g).noteq e.symm
    omega
theorem KeyH.first (T : List UInt8) : KeyH T 1 (bt T) := fun i k _ _ => by
  constructor
  · intro h
    exact ⟨0, by omega, fun t ht => by omega, h⟩
  · rintro ⟨t, ht, _, h⟩
    obtain rfl : t = 0 := by omega
    exact h
/-- The key of a further pass. -/
def keyC (n h : Nat) (C : Nat → Nat) (i : Nat) : Nat := C i * n + C ((i + h) % n)
theorem mul_lt_add {a b c n : Nat} (hb : b < n) : a < c → a * n + b < c * n := fun h => by
  have := Nat.mul_le_mul_right n (show a + 1 ≤ c from h)
  rw [Nat.add_mul, Nat.one_mul] at this
  omega
theorem KeyH.twice {T : List UInt8} {h : Nat} {C : Nat → Nat} (hC : KeyH T h C) (hb : ∀ i, i < T.length → C i < T.length) : KeyH T (h + h) (keyC T.length h C) := fun i k hi hk => by
  have hn : 0 < T.length := by omega
  have h1 := Nat.mod_lt (i + h) hn
  have h2 := Nat.mod_lt (k + h) hn
  have l1 := hC i k hi hk
  have e1 := hC.eq hi hk
  have l2 := hC _ _ h1 h2
  rw [ltH_mod] at l2
  rw [ltH_add, ← l1, ← e1, ← l2]
  unfold keyC
  have b1 := hb _ h1
  have b2 := hb _ h2
  constructor
  · intro g
    rcases Nat.lt_trichotomy (C i) (C k) with c | c | c
    · exact Or.inl c
    · rw [c] at g
      exact Or.inr ⟨c, by omega⟩
    · have := mul_lt_add b2 c
      omega
  · rintro (c | ⟨c, g⟩)
    · have := mul_lt_add b1 c
      omega
    · rw [c]
      omega
theorem keyC_mod (n h : Nat) (C : Nat → Nat) (i : Nat) : keyC n (h % n) C i = keyC n h C i := by
  unfold keyC
  rw [Nat.add_mod_mod]

/-! ### The order behind a pass -/
/-- P are the places by the first H bytes, those that are alike by themselves. -/
def SortH (T : List UInt8) (H : Nat) (P : List Nat) : Prop := P.Perm (List.range T.length) ∧ P.Pairwise (fun i k => ltH T H i k ∨ (eqH T H i k ∧ i < k))
theorem sortH_mem {T : List UInt8} {H : Nat} {P : List Nat} (h : SortH T H P) {i : Nat} (hi : i ∈ P) : i < T.length := List.mem_range.1 (h.1.mem_iff.1 hi)
/-- What is sorted by keys of more bytes. -/
theorem sortH_next {T : List UInt8} {G H : Nat} {K : Nat → Nat} {A : List Nat} (hK : KeyH T H K) (hA : A.Perm (List.range T.length)) (hs : A.Pairwise (fun x y => K x = K y → x < y)) : SortH T H (msort K A) := by
  have hp := msort_perm K _ A (Nat.le_refl _)
  have hs2 := msort_sorted K _ A (Nat.le_refl _) hs
  refine ⟨hp.trans hA, ?_⟩
  have hm : ∀ x ∈ msort K A, x < T.length := fun x hx => List.mem_range.1 (hA.mem_iff.1 (hp.mem_iff.1 hx))
  refine List.Pairwise.imp_of_mem (fun {x y} hx hy h => ?_) hs2
  rcases h with h | ⟨h, h2⟩
  · exact Or.inl ((hK x y (hm x hx) (hm y hy)).1 h)
  · exact Or.inr ⟨(hK.eq (hm x hx) (hm y hy)).1 h, h2⟩
/-- The order of a pass is one for the next. -/
theorem sortH_stable {T : List UInt8} {G H : Nat} {K : Nat → Nat} {A : List Nat} (hA : SortH T G A) (hGH : G ≤ H) (hK : KeyH T H K) : A.Pairwise (fun x y => K x = K y → x < y) := by
  refine List.Pairwise.imp_of_mem (fun {x y} hx hy h e => ?_) hA.2
  have he := ((hK.eq (sortH_mem hA hx) (sortH_mem hA hy)).1 e).mono hGH
  rcases h with h | h
  · exact absurd he h.noteq
  · exact h.2
theorem range_stable {K : Nat → Nat} (n : Nat) : (List.range n).Pairwise (fun x y => K x = K y → x < y) := List.Pairwise.imp (S := fun x y => K x = K y → x < y) (fun h _ => h) List.pairwise_lt_range
theorem sortH_done {T : List UInt8} {H : Nat} {P : List Nat} (h : SortH T H P) (hd : T.length ≤ H ∨ ∀ i k, i < T.length → k < T.length → i ≠ k → ¬ eqH T H i k) : IsSorted T P := by
  refine ⟨h.1, List.Pairwise.imp_of_mem (fun {x y} hx hy g => ?_) h.2⟩
  have hx2 := sortH_mem h hx
  have hy2 := sortH_mem h hy
  rw [ahead_iff (by omega) (by omega)]
  rcases g with g | ⟨g, g2⟩
  · exact Or.inl (ltH_down g)
  · rcases hd with hd | hd
    · exact Or.inr ⟨g.mono hd, g2⟩
    · exact absurd g (hd x y hx2 hy2 (by omega))

/-! ### Classes -/
/-- The class of the place at rank j. -/
def cN (K : Nat → Nat) (P : List Nat) : Nat → Nat
  | 0 => 0
  | j + 1 => if K (P.getD (j + 1) 0) = K (P.getD j 0) then cN K P j else cN K P j + 1
theorem cN_le (K : Nat → Nat) (P : List Nat) : ∀ j, cN K P j ≤ j
  | 0 => Nat.le_refl _
  | j + 1 => by
    have := cN_le K P j
    unfold cN
    split <;> omega
theorem cN_step (K : Nat → Nat) (P : List Nat) (j : Nat) : cN K P j ≤ cN K P (j + 1) ∧ cN K P (j + 1) ≤ cN K P j + 1 ∧ (cN K P j = cN K P (j + 1) ↔ K (P.getD (j + 1) 0) = K (P.getD j 0)) := by
  rw [show cN K P (j + 1) = if K (P.getD (j + 1) 0) = K (P.getD j 0) then cN K P j else cN K P j + 1 from rfl]
  split
  · exact ⟨by omega, by omega, ⟨fun _ => by assumption, fun _ => rfl⟩⟩
  · exact ⟨by omega, by omega, ⟨fun h => by omega, fun h => absurd h (by assumption)⟩⟩
theorem cN_mono (K : Nat → Nat) (P : List Nat) (j : Nat) : ∀ d, cN K P j ≤ cN K P (j + d)
  | 0 => Nat.le_refl _
  | d + 1 => Nat.le_trans (cN_mono K P j d) (cN_step K P (j + d)).1
/-- Classes of a row that stands by its keys tell what keys tell. -/
theorem cN_lt {K : Nat → Nat} {P : List Nat} (h : ∀ i, i + 1 < P.length → K (P.getD i 0) ≤ K (P.getD (i + 1) 0)) (j : Nat) : ∀ d, j + d < P.length → K (P.getD j 0) ≤ K (P.getD (j + d) 0) ∧ (cN K P j < cN K P (j + d) ↔ K (P.getD j 0) < K (P.getD (j + d) 0))
  | 0, _ => ⟨Nat.le_refl _, by simp⟩
  | d + 1, hd => by
    obtain ⟨h1, h2⟩ := cN_lt h j d (by omega)
    have h3 := h (j + d) (by omega)
    have h4 := cN_step K P (j + d)
    have h5 := cN_mono K P j d
    rw [show j + (d + 1) = j + d + 1 by omega]
    refine ⟨Nat.le_trans h1 h3, ?_⟩
    by_cases e : K (P.getD (j + d + 1) 0) = K (P.getD (j + d) 0)
    · rw [← h4.2.2.2 e, e]
      exact h2
    · have : cN K P (j + d + 1) ≠ cN K P (j + d) := fun g => e (h4.2.2.1 g.symm)
      constructor <;> intro _ <;> omega
theorem cN_keys {K : Nat → Nat} {P : List Nat} (h : ∀ i, i + 1 < P.length → K (P.getD i 0) ≤ K (P.getD (i + 1) 0)) {i k : Nat} (hi : i < P.length) (hk : k < P.length) : cN K P i < cN K P k ↔ K (P.getD i 0) < K (P.getD k 0) := by
  by_cases c : i ≤ k
  · obtain ⟨d, rfl⟩ := Nat.exists_eq_add_of_le c
    exact (cN_lt h i d hk).2
  · obtain ⟨d, rfl⟩ := Nat.exists_eq_add_of_le (show k ≤ i by omega)
    have h1 := (cN_lt h k d hi).1
    have h2 := cN_mono K P k d
    constructor <;> intro _ <;> omega
/-- All classes are unlike just if the last is as great as can be. -/
theorem cN_all {K : Nat → Nat} {P : List Nat} {n : Nat} (hn : 0 < n) : cN K P (n - 1) = n - 1 ↔ ∀ i, i + 1 < n → K (P.getD (i + 1) 0) ≠ K (P.getD i 0) := by
  have key : ∀ m, cN K P m = m ↔ ∀ i, i < m → K (P.getD (i + 1) 0) ≠ K (P.getD i 0) := fun m => by
    induction m with
    | zero => exact ⟨fun _ i h => by omega, fun _ => rfl⟩
    | succ m ih =>
      have h1 := cN_step K P m
      have h2 := cN_le K P m
      constructor
      · intro h i hi
        rcases Nat.lt_or_ge i m with g | g
        · exact ih.1 (by omega) i g
        · obtain rfl : i = m := by omega
          intro e
          have := h1.2.2.2 e
          omega
      · intro h
        have h3 := ih.2 (fun i hi => h i (by omega))
        have h4 : cN K P m ≠ cN K P (m + 1) := fun e => h m (by omega) (h1.2.2.1 e)
        omega
  rw [key]
  exact ⟨fun h i hi => h i (by omega), fun h i hi => h i (by omega)⟩
/-- Classes that are made for the first places. -/
def NumAt (K : Nat → Nat) (P C : List Nat) (m : Nat) : Prop := ∀ j, j < m → C.getD (P.getD j 0) 0 = cN K P j
theorem NumAt.start (K : Nat → Nat) (P C : List Nat) : NumAt K P C 0 := fun j h => by omega
theorem NumAt.next {K : Nat → Nat} {P C : List Nat} {m n : Nat} (h : NumAt K P C m) (hP : P.Perm (List.range n)) (hm : m < n) (hC : C.length = n) : NumAt K P (C.set (P.getD m 0) (cN K P m)) (m + 1) := fun j hj => by
  have hl := perm_len hP
  have hd : P.Nodup := hP.nodup_iff.2 List.nodup_range
  have hg : ∀ i, i < n → P.getD i 0 = P.getD i 0 := fun _ _ => rfl
  rw [List.getD_eq_getElem?_getD, List.getElem?_set]
  by_cases e : P.getD m 0 = P.getD j 0
  · have ejm : j = m := by
      have h1 : P[m]? = P[j]? := by
        have hm2 : m < P.length := by omega
        have hj2 : j < P.length := by omega
        rw [List.getElem?_eq_getElem hm2, List.getElem?_eq_getElem hj2]
        rw [List.getD_eq_getElem?_getD, List.getD_eq_getElem?_getD, List.getElem?_eq_getElem hm2, List.getElem?_eq_getElem hj2] at e
        exact congrArg some e
      exact ((List.getElem?_inj (by omega) hd).1 h1).symm
    subst ejm
    rw [if_pos e, if_pos (by rw [hC]; exact perm_getD hP (by omega))]
    rfl
  · rw [if_neg e, ← List.getD_eq_getElem?_getD]
    exact h j (by
      have : j ≠ m := fun g => e (by rw [g])
      omega)
/-- Behind a pass the classes are keys for the first bytes. -/
theorem classes_key {T : List UInt8} {H : Nat} {K : Nat → Nat} {P C : List Nat} (hK : KeyH T H K) (hP : SortH T H P) (hN : NumAt K P C T.length) : KeyH T H (fun i => C.getD i 0) ∧ ∀ i, i < T.length → C.getD i 0 < T.length := by
  have hl := perm_len hP.1
  have hle : ∀ i, i + 1 < P.length → K (P.getD i 0) ≤ K (P.getD (i + 1) 0) := fun i hi => by
    have h1 := List.pairwise_iff_getElem.1 hP.2 i (i + 1) (by omega) hi (by omega)
    have g1 : P.getD i 0 = P[i]'(by omega) := by rw [List.getD_eq_getElem?_getD, List.getElem?_eq_getElem (by omega)]; rfl
    have g2 : P.getD (i + 1) 0 = P[i + 1] := by rw [List.getD_eq_getElem?_getD, List.getElem?_eq_getElem hi]; rfl
    rw [← g1, ← g2] at h1
    have b1 := perm_getD hP.1 (j := i) (by omega)
    have b2 := perm_getD hP.1 (j := i + 1) (by omega)
    rcases h1 with h1 | h1
    · exact Nat.le_of_lt ((hK _ _ b1 b2).2 h1)
    · rw [(hK.eq b1 b2).2 h1.1]
      exact Nat.le_refl _
  have rank : ∀ i, i < T.length → ∃ j, j < P.length ∧ P.getD j 0 = i := fun i hi => by
    obtain ⟨j, hj, e⟩ := List.getElem_of_mem (hP.1.mem_iff.2 (List.mem_range.2 hi))
    exact ⟨j, hj, by rw [List.getD_eq_getElem?_getD, List.getElem?_eq_getElem hj]; exact e⟩
  constructor
  · intro i k hi hk
    obtain ⟨j, hj, rfl⟩ := rank i hi
    obtain ⟨m, hm, rfl⟩ := rank k hk
    show C.getD _ 0 < C.getD _ 0 ↔ _
    rw [hN j (by omega), hN m (by omega), cN_keys hle hj hm]
    exact hK _ _ hi hk
  · intro i hi
    obtain ⟨j, hj, rfl⟩ := rank i hi
    rw [hN j (by omega)]
    have := cN_le K P j
    omega
theorem classes_unlike {T : List UInt8} {H : Nat} {K : Nat → Nat} {P C : List Nat} (hK : KeyH T H K) (hP : SortH T H P) (hN : NumAt K P C T.length) (hn : 0 < T.length) :
    C.getD (P.getD (T.length - 1) 0) 0 = T.length - 1 ↔ ∀ i k, i < T.length → k < T.length → i ≠ k → ¬ eqH T H i k := by
  have hl := perm_len hP.1
  rw [hN _ (by omega), cN_all hn]
  constructor
  · intro h
    have hcl := (classes_key hK hP hN).1
    have hlt : ∀ i d, i + d + 1 < P.length → K (P.getD i 0) < K (P.getD (i + d + 1) 0) := fun i d => by
      have one : ∀ j, j + 1 < P.length → K (P.getD j 0) < K (P.getD (j + 1) 0) := fun j hj => by
        have h1 := List.pairwise_iff_getElem.1 hP.2 j (j + 1) (by omega) hj (by omega)
        have g1 : P.getD j 0 = P[j]'(by omega) := by rw [List.getD_eq_getElem?_getD, List.getElem?_eq_getElem (by omega)]; rfl
        have g2 : P.getD (j + 1) 0 = P[j + 1] := by rw [List.getD_eq_getElem?_getD, List.getElem?_eq_getElem hj]; rfl
        rw [← g1, ← g2] at h1
        have b1 := perm_getD hP.1 (j := j) (by omega)
        have b2 := perm_getD hP.1 (j := j + 1) (by omega)
        rcases h1 with h1 | h1
        · exact (hK _ _ b1 b2).2 h1
        · exact absurd ((hK.eq b1 b2).2 h1.1).symm (h j (by omega))
      induction d with
      | zero => intro hd; exact one i hd
      | succ d ih => intro hd; exact Nat.lt_trans (ih (by omega)) (one (i + d + 1) hd)
    intro i k hi hk hne he
    obtain ⟨j, hj, rfl⟩ := List.getElem_of_mem (hP.1.mem_iff.2 (List.mem_range.2 hi))
    obtain ⟨m, hm, rfl⟩ := List.getElem_of_mem (hP.1.mem_iff.2 (List.mem_range.2 hk))
    have g1 : P.getD j 0 = P[j] := by rw [List.getD_eq_getElem?_getD, List.getElem?_eq_getElem hj]; rfl
    have g2 : P.getD m 0 = P[m] := by rw [List.getD_eq_getElem?_getD, List.getElem?_eq_getElem hm]; rfl
    rw [← g1, ← g2] at he
    rw [← g1] at hi
    rw [← g2] at hk
    have e := (hK.eq hi hk).2 he
    rcases Nat.lt_trichotomy j m with c | c | c
    · have := hlt j (m - j - 1) (by omega)
      rw [show j + (m - j - 1) + 1 = m by omega] at this
      omega
    · subst c
      exact hne rfl
    · have := hlt m (j - m - 1) (by omega)
      rw [show m + (j - m - 1) + 1 = j by omega] at this
      omega
  · intro h i hi e
    have hd : P.Nodup := hP.1.nodup_iff.2 List.nodup_range
    have b1 := perm_getD hP.1 (j := i) (by omega)
    have b2 := perm_getD hP.1 (j := i + 1) (by omega)
    refine h _ _ b2 b1 (fun g => ?_) ((hK.eq b2 b1).1 e)
    have h1 : P[i + 1]? = P[i]? := by
      rw [List.getElem?_eq_getElem (by omega), List.getElem?_eq_getElem (show i < P.length by omega)]
      rw [List.getD_eq_getElem?_getD, List.getD_eq_getElem?_getD, List.getElem?_eq_getElem (show i + 1 < P.length by omega), List.getElem?_eq_getElem (show i < P.length by omega)] at g
      exact congrArg some g
    have := (List.getElem?_inj (by omega) hd).1 h1
    omega

/-! ### How many passes -/
/-- By how many bytes a pass with this reach sorts. -/
def bytesBy (r : Nat) : Nat := if r = 0 then 1 else 2 * r
def Unlike (T : List UInt8) (H : Nat) : Prop := ∀ i k, i < T.length → k < T.length → i ≠ k → ¬ eqH T H i k
/-- Is it done behind a pass with this reach? -/
def Ends (T : List UInt8) (r : Nat) : Prop := Unlike T (bytesBy r) ∨ T.length ≤ r
/-- Behind a pass with reach r so many more are to come. -/
inductive Rem (T : List UInt8) : Nat → Nat → Prop
  | done {r : Nat} : Ends T r → Rem T r 0
  | more {r m : Nat} : ¬ Ends T r → Rem T (bytesBy r) m → Rem T r (m + 1)
theorem Rem.one {T : List UInt8} {r m k : Nat} (h : Rem T r m) : Rem T r k → m = k := by
  induction h generalizing k with
  | done h =>
    intro g
    cases g with
    | done _ => rfl
    | more g _ => exact absurd h g
  | more h _ ih =>
    intro g
    cases g with
    | done g => exact absurd g h
    | more _ g => rw [ih g]
theorem rem_pow (T : List UInt8) : ∀ (d a : Nat), T.length ≤ 2 ^ (a + d) → ∃ m, m ≤ d ∧ Rem T (2 ^ a) m
  | 0, a, h => ⟨0, Nat.le_refl _, .done (Or.inr h)⟩
  | d + 1, a, h => by
    by_cases e : Ends T (2 ^ a)
    · exact ⟨0, by omega, .done e⟩
    · obtain ⟨m, hm, hr⟩ := rem_pow T d (a + 1) (by rw [show a + 1 + d = a + (d + 1) by omega]; exact h)
      refine ⟨m + 1, by omega, .more e ?_⟩
      have hp : 2 ^ a ≠ 0 := by have := Nat.pow_pos (n := a) (show 0 < 2 by omega); omega
      have eb : bytesBy (2 ^ a) = 2 ^ (a + 1) := by unfold bytesBy; rw [if_neg hp, Nat.pow_succ, Nat.mul_comm]
      rw [eb]
      exact hr
theorem rem_zero (T : List UInt8) (b : Nat) (h : T.length ≤ 2 ^ b) : ∃ m, m ≤ b + 1 ∧ Rem T 0 m := by
  by_cases e : Ends T 0
  · exact ⟨0, by omega, .done e⟩
  · obtain ⟨m, hm, hr⟩ := rem_pow T b 0 (by rw [Nat.zero_add]; exact h)
    exact ⟨m + 1, by omega, .more e hr⟩
/-- The steps of a pass. -/
def each (n : Nat) : Nat := passS n + n
theorem total_le {n b m : Nat} (h1 : 1 ≤ n) (h2 : n ≤ 2 ^ b) (hm : m ≤ b + 1) : each n * (m + 1) ≤ n * (4 + 3 * b) * (b + 2) := by
  have h := passS_le n b h1 h2
  refine Nat.mul_le_mul ?_ (by omega)
  unfold each
  rw [show 4 + 3 * b = (3 + 3 * b) + 1 by omega, Nat.mul_add n (3 + 3 * b) 1]
  omega
end SrtM
end Go.Proofs.Ytfedhppcmmponaa

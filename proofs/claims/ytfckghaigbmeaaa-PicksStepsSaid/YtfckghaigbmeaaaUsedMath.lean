/-
  PLAIN MATHEMATICS OF LAYER 5 (used): which bytes are there, as sixteen fields of bits. No program is named here.
-/
import Derived.Test.YtfckghaigbmeaaaBitsMath
namespace Go.Proofs.Ytfckghaigbmeaaa
namespace UsedM
open Go.RowKit BitM

/-- The bits of the i-th sixteen of a set of bytes. -/
def row (S : Nat → Bool) (i : Nat) : List Bool := (List.range 16).map fun k => S (16 * i + k)
theorem row_length (S : Nat → Bool) (i : Nat) : (row S i).length = 16 := by simp [row]
theorem row_get (S : Nat → Bool) (i j : Nat) (h : j < 16) : (row S i)[j]'(by rw [row_length]; exact h) = S (16 * i + j) := by simp [row]
def fld (S : Nat → Bool) (i : Nat) : Nat := num (row S i)
theorem fld_lt (S : Nat → Bool) (i : Nat) : fld S i < 65536 := by
  have := num_lt (row S i)
  rw [row_length] at this
  exact this
theorem num_testBit (l : List Bool) (j : Nat) (h : j < l.length) : (num l).testBit (l.length - 1 - j) = l[j] := by
  have hm := num_mid l j 1 (by omega)
  have e1 : (l.drop j).take 1 = [l[j]] := by
    rw [List.drop_eq_getElem_cons h]; rfl
  rw [e1, show l.length - j - 1 = l.length - 1 - j by omega] at hm
  have e2 : num [l[j]] = bn l[j] := Nat.zero_add _
  rw [e2] at hm
  rw [Nat.testBit_eq_decide_div_mod_eq, show num l / 2 ^ (l.length - 1 - j) % 2 = bn l[j] from hm.symm]
  cases l[j] <;> rfl
theorem fld_bit (S : Nat → Bool) (i j : Nat) (h : j < 16) : (fld S i).testBit (15 - j) = S (16 * i + j) := by
  have := num_testBit (row S i) j (by rw [row_length]; exact h)
  rw [row_get S i j h] at this
  simp only [row_length] at this
  exact this
theorem fld_high (S : Nat → Bool) (i k : Nat) (h : 16 ≤ k) : (fld S i).testBit k = false := by
  apply Nat.testBit_lt_two_pow
  exact Nat.lt_of_lt_of_le (fld_lt S i) (Nat.pow_le_pow_right (by omega) h : 2 ^ 16 ≤ 2 ^ k)
theorem fld_ext (S : Nat → Bool) (i X : Nat) (h : X < 65536) (hb : ∀ j, j < 16 → X.testBit (15 - j) = S (16 * i + j)) : X = fld S i := by
  apply Nat.eq_of_testBit_eq
  intro k
  by_cases hk : k < 16
  · have e : k = 15 - (15 - k) := by omega
    rw [e, hb (15 - k) (by omega), fld_bit S i (15 - k) (by omega)]
  · rw [fld_high S i k (by omega)]
    apply Nat.testBit_lt_two_pow
    exact Nat.lt_of_lt_of_le h (Nat.pow_le_pow_right (by omega) (by omega) : 2 ^ 16 ≤ 2 ^ k)
/-- A set with one byte more. -/
def put (S : Nat → Bool) (b : Nat) : Nat → Bool := fun x => S x || x == b
theorem fld_put_same (S : Nat → Bool) (i j : Nat) (h : j < 16) : fld S i ||| 2 ^ (15 - j) = fld (put S (16 * i + j)) i := by
  apply fld_ext
  · have h1 := fld_lt S i
    have h2 : 2 ^ (15 - j) < 2 ^ 16 := Nat.pow_lt_pow_right (by omega) (by omega)
    exact Nat.or_lt_two_pow (n := 16) h1 h2
  · intro j' hj'
    rw [Nat.testBit_or, fld_bit S i j' hj', Nat.testBit_two_pow]
    unfold put
    congr 1
    by_cases e : j = j'
    · subst e; simp
    · have h1 : ¬ (15 - j = 15 - j') := by omega
      have h2 : ¬ (j' = j) := fun h => e h.symm
      simp [h1, h2]
theorem fld_congr (S T : Nat → Bool) (i : Nat) (h : ∀ j, j < 16 → S (16 * i + j) = T (16 * i + j)) : fld S i = fld T i := by
  unfold fld row
  congr 1
  apply List.map_congr_left
  intro k hk
  exact h k (List.mem_range.1 hk)
theorem fld_put_other (S : Nat → Bool) (i b : Nat) (h : b / 16 ≠ i) : fld (put S b) i = fld S i := by
  apply fld_congr
  intro j hj
  unfold put
  have : ¬ (16 * i + j = b) := by omega
  simp [this]
theorem fld_and (S : Nat → Bool) (i j : Nat) (h : j < 16) : fld S i &&& 2 ^ (15 - j) = if S (16 * i + j) then 2 ^ (15 - j) else 0 := by
  apply Nat.eq_of_testBit_eq
  intro k
  rw [Nat.testBit_and, Nat.testBit_two_pow]
  by_cases e : 15 - j = k
  · subst e
    rw [fld_bit S i j h]
    cases S (16 * i + j) <;> simp
  · cases S (16 * i + j) <;> simp [e]
/-- Is one of the i-th sixteen there? -/
def some_ (S : Nat → Bool) (i : Nat) : Bool := (row S i).any id
theorem fld_zero (S : Nat → Bool) (i : Nat) : fld S i = 0 ↔ some_ S i = false := by
  constructor
  · intro h
    unfold some_ row
    rw [List.any_eq_false]
    intro x hx
    obtain ⟨k, hk, rfl⟩ := List.mem_map.1 hx
    rw [← fld_bit S i k (List.mem_range.1 hk), h]
    simp
  · intro h
    have : (0 : Nat) = fld S i := by
      apply fld_ext
      · decide
      · intro j hj
        unfold some_ row at h
        rw [List.any_eq_false] at h
        have := h (S (16 * i + j)) (List.mem_map.2 ⟨j, List.mem_range.2 hj, rfl⟩)
        simp at this
        simp [this]
    exact this.symm
theorem fld_empty (i : Nat) : fld (fun _ => false) i = 0 := by
  rw [fld_zero]
  unfold some_ row
  rw [List.any_eq_false]
  intro x hx
  obtain ⟨k, _, rfl⟩ := List.mem_map.1 hx
  simp
/-- The bytes of a set below n, rising. -/
def syms (S : Nat → Bool) (n : Nat) : List UInt8 := ((List.range n).filter S).map UInt8.ofNat
theorem syms_zero (S : Nat → Bool) : syms S 0 = [] := rfl
theorem syms_succ (S : Nat → Bool) (n : Nat) : syms S (n + 1) = if S n then syms S n ++ [UInt8.ofNat n] else syms S n := by
  unfold syms
  rw [List.range_succ, List.filter_append, List.map_append]
  cases h : S n <;> simp [h]
theorem syms_le (S : Nat → Bool) (n : Nat) : (syms S n).length ≤ n := by
  unfold syms
  rw [List.length_map]
  exact Nat.le_trans (List.length_filter_le _ _) (by simp)
theorem syms_congr (S T : Nat → Bool) (n : Nat) (h : ∀ b, b < n → S b = T b) : syms S n = syms T n := by
  unfold syms
  congr 1
  apply List.filter_congr
  intro x hx
  exact h x (List.mem_range.1 hx)
theorem mem_syms (S : Nat → Bool) (n : Nat) (hn : n ≤ 256) (x : UInt8) : x ∈ syms S n ↔ x.toNat < n ∧ S x.toNat = true := by
  unfold syms
  rw [List.mem_map]
  constructor
  · rintro ⟨k, hk, rfl⟩
    rw [List.mem_filter, List.mem_range] at hk
    rw [UInt8.toNat_ofNat', Nat.mod_eq_of_lt (by omega)]
    exact hk
  · intro ⟨h1, h2⟩
    exact ⟨x.toNat, List.mem_filter.2 ⟨List.mem_range.2 h1, h2⟩, by simp⟩
/-- Has a text a byte? -/
def has (l : List UInt8) (n : Nat) : Bool := l.any fun c => c.toNat == n
theorem has_mem (l : List UInt8) (x : UInt8) : has l x.toNat = true ↔ x ∈ l := by
  unfold has
  rw [List.any_eq_true]
  constructor
  · rintro ⟨c, hc, he⟩
    have : c = x := UInt8.toNat_inj.1 (by simpa using he)
    exact this ▸ hc
  · intro h
    exact ⟨x, h, by simp⟩
theorem has_big (l : List UInt8) (n : Nat) (h : 256 ≤ n) : has l n = false := by
  unfold has
  rw [List.any_eq_false]
  intro c _
  have := c.toNat_lt
  simp only [beq_iff_eq]
  omega
theorem has_snoc (l : List UInt8) (c : UInt8) : has (l ++ [c]) = put (has l) c.toNat := by
  funext x
  unfold has put
  rw [List.any_append]
  simp only [List.any_cons, List.any_nil, Bool.or_false]
  congr 1
  rw [Bool.eq_iff_iff]
  simp only [beq_iff_eq]
  omega
theorem has_nil : has [] = fun _ => false := rfl
theorem has_syms (S : Nat → Bool) (n : Nat) (h : n < 256) : has (syms S 256) n = S n := by
  have e : (UInt8.ofNat n).toNat = n := by rw [UInt8.toNat_ofNat', Nat.mod_eq_of_lt (by omega)]
  rw [Bool.eq_iff_iff]
  have h1 := has_mem (syms S 256) (UInt8.ofNat n)
  rw [e] at h1
  rw [h1, mem_syms S 256 (by omega), e]
  exact ⟨fun h => h.2, fun h' => ⟨h, h'⟩⟩
/-- Rising, each once. -/
def Rise (l : List UInt8) : Prop := ∀ (i : Nat) (x y : UInt8), l[i]? = some x → l[i + 1]? = some y → x.toNat < y.toNat
def Sorted (l : List UInt8) : Prop := l.Pairwise fun x y => x.toNat < y.toNat
theorem Rise.lt {l : List UInt8} (h : Rise l) : ∀ (d i : Nat) (x y : UInt8), l[i]? = some x → l[i + 1 + d]? = some y → x.toNat < y.toNat
  | 0, i, x, y, hx, hy => h i x y hx hy
  | d + 1, i, x, y, hx, hy => by
    have hlt := (List.getElem?_eq_some_iff.1 hy).1
    have hz : l[i + 1 + d]? = some (l[i + 1 + d]'(by omega)) := List.getElem?_eq_getElem _
    have h1 := Rise.lt h d i x _ hx hz
    have h2 := h (i + 1 + d) _ y hz (by rwa [show i + 1 + d + 1 = i + 1 + (d + 1) by omega])
    omega
theorem Rise.sorted {l : List UInt8} (h : Rise l) : Sorted l := by
  unfold Sorted
  rw [List.pairwise_iff_getElem]
  intro i j hi hj hij
  exact h.lt (j - i - 1) i _ _ (List.getElem?_eq_getElem hi) (by rw [show i + 1 + (j - i - 1) = j by omega]; exact List.getElem?_eq_getElem hj)
theorem Sorted.rise {l : List UInt8} (h : Sorted l) : Rise l := by
  intro i x y hx hy
  unfold Sorted at h
  rw [List.pairwise_iff_getElem] at h
  obtain ⟨hi, rfl⟩ := List.getElem?_eq_some_iff.1 hx
  obtain ⟨hj, rfl⟩ := List.getElem?_eq_some_iff.1 hy
  exact h i (i + 1) hi hj (by omega)
theorem sorted_ext : ∀ (l m : List UInt8), Sorted l → Sorted m → (∀ x, x ∈ l ↔ x ∈ m) → l = m
  | [], [], _, _, _ => rfl
  | [], b :: m, _, _, h => absurd ((h b).2 (by simp)) (by simp)
  | a :: l, [], _, _, h => absurd ((h a).1 (by simp)) (by simp)
  | a :: l, b :: m, hl, hm, h => by
    unfold Sorted at hl hm
    rw [List.pairwise_cons] at hl hm
    have hab : a = b := by
      have h1 := (h a).1 (by simp)
      have h2 := (h b).2 (by simp)
      rcases List.mem_cons.1 h1 with e | e
      · exact e
      · rcases List.mem_cons.1 h2 with f | f
        · exact f.symm
        · have := hl.1 b f
          have := hm.1 a e
          omega
    subst hab
    have : l = m := sorted_ext l m hl.2 hm.2 (fun x => by
      constructor
      · intro hx
        rcases List.mem_cons.1 ((h x).1 (List.mem_cons_of_mem _ hx)) with e | e
        · subst e; have := hl.1 x hx; omega
        · exact e
      · intro hx
        rcases List.mem_cons.1 ((h x).2 (List.mem_cons_of_mem _ hx)) with e | e
        · subst e; have := hm.1 x hx; omega
        · exact e)
    rw [this]
theorem syms_sorted (S : Nat → Bool) : ∀ n, n ≤ 256 → Sorted (syms S n)
  | 0, _ => List.Pairwise.nil
  | n + 1, h => by
    rw [syms_succ]
    have ih := syms_sorted S n (by omega)
    cases S n
    · exact ih
    · simp only [if_true]
      unfold Sorted
      rw [List.pairwise_append]
      refine ⟨ih, by simp, fun x hx y hy => ?_⟩
      have h1 := ((mem_syms S n (by omega) x).1 hx).1
      rw [List.mem_singleton] at hy
      subst hy
      rw [UInt8.toNat_ofNat', Nat.mod_eq_of_lt (by omega)]
      exact h1
theorem rise_syms (S : Nat → Bool) : Rise (syms S 256) := (syms_sorted S 256 (Nat.le_refl _)).rise
theorem syms_has {l : List UInt8} (h : Rise l) : syms (has l) 256 = l :=
  sorted_ext _ _ (syms_sorted _ 256 (Nat.le_refl _)) h.sorted (fun x => by
    rw [mem_syms _ _ (Nat.le_refl _), has_mem]
    have := x.toNat_lt
    exact ⟨fun h => h.2, fun h => ⟨by omega, h⟩⟩)
/-- Is it a row of symbols? -/
def IsSyms (l : List UInt8) : Prop := Rise l ∧ l ≠ []
theorem isSyms_iff (l : List UInt8) : IsSyms l ↔ (l ≠ [] ∧ syms (has l) 256 = l) :=
  ⟨fun h => ⟨h.2, syms_has h.1⟩, fun h => ⟨h.2 ▸ rise_syms (has l), h.1⟩⟩
theorem isSyms_le {l : List UInt8} (h : IsSyms l) : l.length ≤ 256 := by
  have := syms_le (has l) 256
  rwa [syms_has h.1] at this
theorem syms_nil (S : Nat → Bool) : syms S 256 = [] ↔ ∀ b, b < 256 → S b = false := by
  constructor
  · intro h b hb
    have := has_syms S b hb
    rw [h] at this
    exact this.symm
  · intro h
    rw [syms_congr S (fun _ => false) 256 h]
    unfold syms
    simp
theorem isSyms_syms (S : Nat → Bool) (h : ∃ b, b < 256 ∧ S b = true) : IsSyms (syms S 256) :=
  ⟨rise_syms S, fun e => by
    obtain ⟨b, hb, hs⟩ := h
    rw [(syms_nil S).1 e b hb] at hs
    simp at hs⟩
/-- Which sixteens are used. -/
def which (S : Nat → Bool) : List Bool := (List.range 16).map (some_ S)
theorem which_length (S : Nat → Bool) : (which S).length = 16 := by simp [which]
/-- The bits of a set of bytes. -/
def rows (S : Nat → Bool) (k : Nat) : List Bool := ((List.range k).filter (some_ S)).flatMap (row S)
theorem rows_zero (S : Nat → Bool) : rows S 0 = [] := rfl
theorem rows_succ (S : Nat → Bool) (k : Nat) : rows S (k + 1) = if some_ S k then rows S k ++ row S k else rows S k := by
  unfold rows
  rw [List.range_succ, List.filter_append, List.flatMap_append]
  cases h : some_ S k <;> simp [h]
def cnt (S : Nat → Bool) (k : Nat) : Nat := ((List.range k).filter (some_ S)).length
theorem cnt_succ (S : Nat → Bool) (k : Nat) : cnt S (k + 1) = if some_ S k then cnt S k + 1 else cnt S k := by
  unfold cnt
  rw [List.range_succ, List.filter_append, List.length_append]
  cases h : some_ S k <;> simp [h]
theorem cnt_le (S : Nat → Bool) (k : Nat) : cnt S k ≤ k := by
  unfold cnt
  exact Nat.le_trans (List.length_filter_le _ _) (by simp)
theorem rows_length (S : Nat → Bool) : ∀ k, (rows S k).length = 16 * cnt S k
  | 0 => rfl
  | k + 1 => by
    rw [rows_succ, cnt_succ]
    have ih := rows_length S k
    cases some_ S k
    · exact ih
    · simp only [if_true, List.length_append, ih, row_length]; omega
def ubits (S : Nat → Bool) : List Bool := which S ++ rows S 16
theorem ubits_length (S : Nat → Bool) : (ubits S).length = 16 + 16 * cnt S 16 := by
  unfold ubits
  rw [List.length_append, which_length, rows_length]
theorem some_congr (S T : Nat → Bool) (i : Nat) (h : ∀ j, j < 16 → S (16 * i + j) = T (16 * i + j)) : some_ S i = some_ T i := by
  unfold some_ row
  congr 1
  apply List.map_congr_left
  intro k hk
  exact h k (List.mem_range.1 hk)
theorem row_congr (S T : Nat → Bool) (i : Nat) (h : ∀ j, j < 16 → S (16 * i + j) = T (16 * i + j)) : row S i = row T i := by
  unfold row
  apply List.map_congr_left
  intro k hk
  exact h k (List.mem_range.1 hk)
/-- The sixteens that are used, below k: as a set. -/
def upto (S : Nat → Bool) (k : Nat) : Nat → Bool := fun i => decide (i < k) && some_ S i
theorem upto_zero (S : Nat → Bool) : upto S 0 = fun _ => false := by funext i; simp [upto]
theorem upto_succ (S : Nat → Bool) (k : Nat) : upto S (k + 1) = if some_ S k then put (upto S k) k else upto S k := by
  funext i
  unfold upto put
  by_cases e : i = k
  · subst e
    cases h : some_ S i <;> simp [h]
  · have h1 : (i < k + 1) ↔ (i < k) := by omega
    cases h : some_ S k <;> simp [h1, e]
theorem upto_all (S : Nat → Bool) : fld (upto S 16) 0 = num (which S) := by
  unfold fld row which
  congr 1
theorem field_which (S : Nat → Bool) : field (num (which S)) 16 = which S := by
  have := field_of (which S)
  rwa [which_length] at this
theorem field_row (S : Nat → Bool) (i : Nat) : field (fld S i) 16 = row S i := by
  have := field_of (row S i)
  rwa [row_length] at this

/-! ### Reading -/
/-- What is read of bits, behind the first k sixteens: how many bits, and the bytes. -/
def rdk (q : List Bool) : Nat → Option (Nat × (Nat → Bool))
  | 0 => if q.length < 16 then none else some (16, fun _ => false)
  | k + 1 => match rdk q k with
    | none => none
    | some (n, S) => if q.getD k false then (if q.length < n + 16 then none else some (n + 16, fun b => if b / 16 = k then q.getD (n + b % 16) false else S b)) else some (n, S)
theorem rdk_zero (q : List Bool) : rdk q 0 = if q.length < 16 then none else some (16, fun _ => false) := rfl
theorem rdk_succ (q : List Bool) (k : Nat) : rdk q (k + 1) = match rdk q k with
    | none => none
    | some (n, S) => if q.getD k false then (if q.length < n + 16 then none else some (n + 16, fun b => if b / 16 = k then q.getD (n + b % 16) false else S b)) else some (n, S) := rfl
theorem rdk_le (q : List Bool) : ∀ k n S, rdk q k = some (n, S) → n ≤ q.length ∧ 16 ≤ n ∧ n ≤ 16 + 16 * k
  | 0, n, S, h => by
    rw [rdk_zero] at h
    split at h
    · cases h
    · cases h; omega
  | k + 1, n, S, h => by
    rw [rdk_succ] at h
    split at h
    · cases h
    · rename_i m T hm
      have ih := rdk_le q k m T hm
      split at h
      · split at h
        · cases h
        · cases h; omega
      · cases h; omega
theorem rdk_out (q : List Bool) : ∀ k n S, rdk q k = some (n, S) → ∀ b, 16 * k ≤ b → S b = false
  | 0, n, S, h, b, _ => by
    rw [rdk_zero] at h
    split at h
    · cases h
    · cases h; rfl
  | k + 1, n, S, h, b, hb => by
    rw [rdk_succ] at h
    split at h
    · cases h
    · rename_i m T hm
      have ih := rdk_out q k m T hm b (by omega)
      split at h
      · split at h
        · cases h
        · cases h
          have : ¬ (b / 16 = k) := by omega
          simp [this, ih]
      · cases h; exact ih
/-- The set below 16 k. -/
def cut (S : Nat → Bool) (k : Nat) : Nat → Bool := fun b => decide (b < 16 * k) && S b
theorem cut_all (S : Nat → Bool) (h : ∀ b, 256 ≤ b → S b = false) : cut S 16 = S := by
  funext b
  unfold cut
  by_cases hb : b < 16 * 16
  · simp [hb]
  · simp [hb, h b (by omega)]
theorem some_false (S : Nat → Bool) (i : Nat) (h : some_ S i = false) (j : Nat) (hj : j < 16) : S (16 * i + j) = false := by
  unfold some_ row at h
  rw [List.any_eq_false] at h
  have := h (S (16 * i + j)) (List.mem_map.2 ⟨j, List.mem_range.2 hj, rfl⟩)
  simpa using this
theorem rows_pre (S : Nat → Bool) : ∀ (d k : Nat), ∃ t, rows S (k + d) = rows S k ++ t
  | 0, k => ⟨[], by simp⟩
  | d + 1, k => by
    obtain ⟨t, ht⟩ := rows_pre S d k
    rw [show k + (d + 1) = (k + d) + 1 by omega, rows_succ, ht]
    cases some_ S (k + d)
    · exact ⟨t, rfl⟩
    · exact ⟨t ++ row S (k + d), by simp⟩
theorem rdk_ubits (S : Nat → Bool) (m : List Bool) : ∀ k, k ≤ 16 → rdk (ubits S ++ m) k = some (16 + 16 * cnt S k, cut S k)
  | 0, _ => by
    rw [rdk_zero]
    have h1 : ¬ ((ubits S ++ m).length < 16) := by rw [List.length_append, ubits_length]; omega
    rw [if_neg h1]
    have : cut S 0 = fun _ => false := by funext b; simp [cut]
    rw [this]
    rfl
  | k + 1, hk => by
    have ih := rdk_ubits S m k (by omega)
    have hw : (ubits S ++ m).getD k false = some_ S k := by
      unfold ubits
      rw [List.append_assoc, List.getD_eq_getElem?_getD, List.getElem?_append_left (by rw [which_length]; omega)]
      unfold which
      rw [List.getElem?_map, List.getElem?_range (by omega)]
      rfl
    rw [rdk_succ, ih, cnt_succ]
    simp only [hw]
    cases hs : some_ S k
    · simp only [Bool.false_eq_true, if_false]
      congr 2
      funext b
      unfold cut
      by_cases hb : b < 16 * k
      · have : b < 16 * (k + 1) := by omega
        simp [hb, this]
      · by_cases hb2 : b < 16 * (k + 1)
        · have := some_false S k hs (b - 16 * k) (by omega)
          rw [show 16 * k + (b - 16 * k) = b by omega] at this
          simp [hb, this]
        · simp [hb, hb2]
    · simp only [if_true]
      obtain ⟨t, ht⟩ := rows_pre S (16 - (k + 1)) (k + 1)
      rw [show k + 1 + (16 - (k + 1)) = 16 by omega, rows_succ S k, hs] at ht
      simp only [if_true] at ht
      have hlen : ¬ ((ubits S ++ m).length < 16 + 16 * cnt S k + 16) := by
        unfold ubits
        rw [ht]
        simp only [List.length_append, which_length, rows_length, row_length]
        omega
      rw [if_neg hlen]
      congr 2
      funext b
      by_cases e : b / 16 = k
      · rw [if_pos e]
        have hb : b = 16 * k + b % 16 := by omega
        have hc : cut S (k + 1) b = S b := by
          unfold cut
          have : b < 16 * (k + 1) := by omega
          simp [this]
        rw [hc]
        unfold ubits
        rw [ht, List.getD_eq_getElem?_getD]
        have e1 : which S ++ (rows S k ++ row S k ++ t) ++ m = (which S ++ rows S k) ++ (row S k ++ (t ++ m)) := by simp
        have e2 : (which S ++ rows S k).length = 16 + 16 * cnt S k := by rw [List.length_append, which_length, rows_length]
        rw [e1, List.getElem?_append_right (by rw [e2]; omega), e2, show 16 + 16 * cnt S k + b % 16 - (16 + 16 * cnt S k) = b % 16 by omega,
          List.getElem?_append_left (by rw [row_length]; omega), List.getElem?_eq_getElem (by rw [row_length]; omega), Option.getD_some, row_get S k (b % 16) (by omega), ← hb]
      · rw [if_neg e]
        unfold cut
        by_cases hb : b < 16 * k
        · have : b < 16 * (k + 1) := by omega
          simp [hb, this]
        · have : ¬ (b < 16 * (k + 1)) := by omega
          simp [hb, this]
end UsedM
end Go.Proofs.Ytfckghaigbmeaaa

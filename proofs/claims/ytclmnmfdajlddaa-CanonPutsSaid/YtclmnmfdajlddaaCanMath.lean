/-
  PLAIN MATHEMATICS OF LAYER 10 (canon): the codes of a whole code: where each begins among rows of 20 bits, that they part these rows, and how one follows the other. No program is named here.
-/
import Derived.Test.YtclmnmfdajlddaaLenMath
import Derived.Test.YtclmnmfdajlddaaBitsMath
namespace Go.Proofs.Ytclmnmfdajlddaa
namespace CanM
open Go.RowKit HufM BitM
set_option linter.unusedVariables false

/-- How many rows of 20 bits a code of n bits begins. -/
def sz (n : Nat) : Nat := 2 ^ (20 - n)
/-- A symbol's length, and the symbol: in the order in which codes are given. -/
def ent (l : List Int) : List Tr := ini l
theorem sorted_is : ∀ (n : Nat) (l : List Tr), l.length = n → Dis l → ∃ os, l.Perm os ∧ os.Pairwise lt
  | 0, l, hl, _ => ⟨[], by rw [List.eq_nil_of_length_eq_zero hl], List.Pairwise.nil⟩
  | n + 1, l, hl, hd => by
    obtain ⟨x, r, hp, hx⟩ := least_mem l (by rintro rfl; simp at hl) hd
    have hlr := hp.length_eq
    obtain ⟨os, h1, h2⟩ := sorted_is n r (by simp at hlr; omega) (List.pairwise_cons.1 (hd.perm hp)).2
    exact ⟨x :: os, hp.trans (h1.cons x), List.pairwise_cons.2 ⟨fun t ht => hx t (h1.mem_iff.2 ht), h2⟩⟩
instance (a b : Tr) : Decidable (lt a b) := by unfold lt; exact inferInstance
/-- Where a symbol's code begins: behind all that stand ahead of it. -/
def frm (l : List Int) (x : Tr) : Nat := sumN (fun y : Tr => if lt y x then sz y.1 else 0) (ent l)
def siz (y : Tr) : Nat := sz y.1
theorem frm_split {l : List Int} {os s t : List Tr} {x : Tr} (hp : (ent l).Perm os) (hs : os.Pairwise lt) (he : os = s ++ x :: t) : frm l x = sumN siz s := by
  unfold frm
  rw [sumN_perm _ hp, he, sumN_append]
  subst he
  obtain ⟨h1, h2, h3⟩ := List.pairwise_append.1 hs
  obtain ⟨h4, h5⟩ := List.pairwise_cons.1 h2
  have e1 : sumN (fun y : Tr => if lt y x then sz y.1 else 0) s = sumN siz s := sumN_congr (fun y hy => by
    rw [if_pos (h3 y hy x (List.mem_cons_self ..))]
    rfl)
  have e2 : sumN (fun y : Tr => if lt y x then sz y.1 else 0) (x :: t) = 0 := by
    have : ∀ y ∈ x :: t, (fun y : Tr => if lt y x then sz y.1 else 0) y = (fun _ => 0) y := fun y hy => by
      simp only
      refine if_neg ?_
      rcases List.mem_cons.1 hy with rfl | hy
      · unfold lt; omega
      · exact lt_asym (h4 y hy)
    rw [sumN_congr this]
    have := sumN_le (f := fun _ : Tr => 0) (l := x :: t) (c := 0) (fun _ _ => Nat.le_refl _)
    omega
  rw [e1, e2]
  omega
theorem ent_siz (l : List Int) : sumN siz (ent l) = shr l := by
  unfold ent ini shr
  rw [sumN_map]
  have e : l = (List.range l.length).map fun i => l.getD i 0 := by
    apply List.ext_getElem
    · simp
    · intro j h1 h2
      rw [List.getElem_map, List.getElem_range, List.getD_eq_getElem?_getD, List.getElem?_eq_getElem h1]
      rfl
  conv => rhs; rw [e, sumN_map]
  rfl
theorem find : ∀ (os : List Tr) (a v : Nat), a ≤ v → v < a + sumN siz os → ∃ s x t, os = s ++ x :: t ∧ a + sumN siz s ≤ v ∧ v < a + sumN siz s + siz x
  | [], a, v, h1, h2 => by simp [sumN] at h2; omega
  | x :: t, a, v, h1, h2 => by
    by_cases h : v < a + siz x
    · exact ⟨[], x, t, rfl, by simpa [sumN] using h1, by simpa [sumN] using h⟩
    · obtain ⟨s, y, u, he, h3, h4⟩ := find t (a + siz x) v (by omega) (by simp only [sumN] at h2; omega)
      exact ⟨x :: s, y, u, by rw [he]; rfl, by simp only [sumN]; omega, by simp only [sumN]; omega⟩
/-- Each row of 20 bits begins with a code. -/
theorem cover {l : List Int} {v : Nat} (hv : v < shr l) : ∃ i, i < l.length ∧ frm l ((l.getD i 0).toNat, i) ≤ v ∧ v < frm l ((l.getD i 0).toNat, i) + sz (l.getD i 0).toNat := by
  obtain ⟨os, hp, hs⟩ := sorted_is (ent l).length (ent l) rfl (ini_dis l)
  rw [← ent_siz, sumN_perm _ hp] at hv
  obtain ⟨s, x, t, he, h1, h2⟩ := find os 0 v (Nat.zero_le _) (by omega)
  have hf := frm_split hp hs he
  have hx : x ∈ ent l := hp.mem_iff.2 (by rw [he]; exact List.mem_append_right _ (List.mem_cons_self ..))
  obtain ⟨h3, h4⟩ := ini_mem hx
  have ex : ((l.getD x.2 0).toNat, x.2) = x := by rw [← h4]
  refine ⟨x.2, h3, ?_, ?_⟩
  · rw [ex, hf]; omega
  · have h6 : siz x = sz x.1 := rfl
    rw [ex, hf, ← h4]; omega
/-- One that stands ahead ends ahead. -/
theorem apart {l : List Int} {x y : Tr} (hx : x ∈ ent l) (hy : y ∈ ent l) (h : lt x y) : frm l x + siz x ≤ frm l y := by
  obtain ⟨os, hp, hs⟩ := sorted_is (ent l).length (ent l) rfl (ini_dis l)
  obtain ⟨s, t, he⟩ := List.append_of_mem (hp.mem_iff.1 hy)
  rw [frm_split hp hs he]
  have hxs : x ∈ s := by
    have h1 : x ∈ s ++ y :: t := by rw [← he]; exact hp.mem_iff.1 hx
    rcases List.mem_append.1 h1 with h2 | h2
    · exact h2
    · exfalso
      rcases List.mem_cons.1 h2 with rfl | h2
      · unfold lt at h; omega
      · rw [he] at hs
        obtain ⟨_, h3, _⟩ := List.pairwise_append.1 hs
        exact lt_asym h ((List.pairwise_cons.1 h3).1 x h2)
  obtain ⟨s1, s2, hse⟩ := List.append_of_mem hxs
  have he2 : os = s1 ++ x :: (s2 ++ y :: t) := by rw [he, hse]; simp
  rw [frm_split hp hs he2, hse, sumN_append]
  simp only [sumN]
  omega
theorem within {l : List Int} {x : Tr} (hx : x ∈ ent l) : frm l x + siz x ≤ shr l := by
  obtain ⟨os, hp, hs⟩ := sorted_is (ent l).length (ent l) rfl (ini_dis l)
  obtain ⟨s, t, he⟩ := List.append_of_mem (hp.mem_iff.1 hx)
  rw [frm_split hp hs he, ← ent_siz, sumN_perm _ hp, he, sumN_append]
  simp only [sumN]
  omega
theorem sum_dvd {α : Type} {f : α → Nat} {c : Nat} {l : List α} (h : ∀ x ∈ l, c ∣ f x) : c ∣ sumN f l := by
  induction l with
  | nil => exact Nat.dvd_zero _
  | cons x t ih => exact Nat.dvd_add (h x (List.mem_cons_self ..)) (ih (fun y hy => h y (List.mem_cons_of_mem _ hy)))
theorem frm_dvd (l : List Int) (x : Tr) : sz x.1 ∣ frm l x := by
  refine sum_dvd (fun y hy => ?_)
  split
  · rename_i h
    have := lt_le h
    exact Nat.pow_dvd_pow 2 (by omega)
  · exact Nat.dvd_zero _
/-- A symbol's code, as a number. -/
def cod (l : List Int) (x : Tr) : Nat := frm l x / sz x.1
theorem sz_pos (n : Nat) : 0 < sz n := Nat.pow_pos (by decide)
theorem cod_mul (l : List Int) (x : Tr) : cod l x * sz x.1 = frm l x := Nat.div_mul_cancel (frm_dvd l x)
theorem cod_lt {l : List Int} {x : Tr} (hx : x ∈ ent l) (hw : shr l = 2 ^ 20) (hn : x.1 ≤ 20) : cod l x < 2 ^ x.1 := by
  have h1 := within hx
  rw [hw, ← cod_mul l x] at h1
  have e : (2 : Nat) ^ 20 = 2 ^ x.1 * sz x.1 := by unfold sz; rw [← Nat.pow_add]; congr 1; omega
  rw [e] at h1
  have h2 := sz_pos x.1
  unfold siz at h1
  have h3 : (cod l x + 1) * sz x.1 ≤ 2 ^ x.1 * sz x.1 := by rw [Nat.add_mul]; omega
  exact Nat.le_of_mul_le_mul_right h3 h2
/-- The code of the symbol that stands next. -/
theorem cod_next {l : List Int} {os s t : List Tr} {x y : Tr} (hp : (ent l).Perm os) (hs : os.Pairwise lt) (he : os = s ++ x :: y :: t) (hy : y.1 ≤ 20) : cod l y = (cod l x + 1) * 2 ^ (y.1 - x.1) := by
  have h1 := frm_split hp hs he
  have h2 := frm_split (s := s ++ [x]) (x := y) (t := t) hp hs (by rw [he]; simp)
  rw [sumN_append] at h2
  simp only [sumN, Nat.add_zero] at h2
  have hxy : lt x y := by
    rw [he] at hs
    obtain ⟨_, h3, _⟩ := List.pairwise_append.1 hs
    exact (List.pairwise_cons.1 h3).1 y (List.mem_cons_self ..)
  have hle := lt_le hxy
  have e : sz x.1 = 2 ^ (y.1 - x.1) * sz y.1 := by unfold sz; rw [← Nat.pow_add]; congr 1; omega
  have h3 : frm l y = (cod l x + 1) * 2 ^ (y.1 - x.1) * sz y.1 := by
    rw [h2, ← h1, ← cod_mul l x, Nat.mul_assoc, ← e, Nat.add_mul]
    unfold siz
    omega
  unfold cod at h3 ⊢
  rw [h3, Nat.mul_div_cancel _ (sz_pos _)]
theorem cod_first {l : List Int} {os t : List Tr} {x : Tr} (hp : (ent l).Perm os) (hs : os.Pairwise lt) (he : os = x :: t) : cod l x = 0 := by
  have h1 := frm_split (s := []) hp hs he
  unfold cod
  rw [h1]
  simp [sumN]

/-! ### Bits that begin with a code -/
/-- The bits q begin with the code of symbol x. -/
def Begins (l : List Int) (x : Tr) (q : List Bool) : Prop := x.1 ≤ q.length ∧ num (q.take x.1) = cod l x
theorem begins_row {l : List Int} {x : Tr} {q r : List Bool} (h : Begins l x q) (h20 : (q ++ r).length = 20) (hx : x.1 ≤ 20) : frm l x ≤ num (q ++ r) ∧ num (q ++ r) < frm l x + siz x := by
  obtain ⟨h1, h2⟩ := h
  have e : q ++ r = q.take x.1 ++ (q.drop x.1 ++ r) := by rw [← List.append_assoc, List.take_append_drop]
  have hl : (q.drop x.1 ++ r).length = 20 - x.1 := by
    rw [List.length_append, List.length_drop]; rw [List.length_append] at h20; omega
  have h3 := num_lt (q.drop x.1 ++ r)
  rw [e, num_append, h2, hl, ← cod_mul l x]
  rw [hl] at h3
  unfold siz sz
  unfold sz at *
  omega
/-- No two codes stand at one place. -/
theorem begins_one {l : List Int} {x y : Tr} {q : List Bool} (hx : x ∈ ent l) (hy : y ∈ ent l) (hx2 : x.1 ≤ 20) (hy2 : y.1 ≤ 20) (h : Begins l x q) (k : Begins l y q) : x = y := by
  have trim : ∀ z : Tr, z.1 ≤ 20 → Begins l z q → Begins l z (q.take 20) := fun z hz hb => ⟨by rw [List.length_take]; have := hb.1; omega, by rw [List.take_take, Nat.min_eq_left hz]; exact hb.2⟩
  have hlen : (q.take 20 ++ List.replicate (20 - (q.take 20).length) false).length = 20 := by simp; omega
  obtain ⟨h1, h2⟩ := begins_row (trim x hx2 h) hlen hx2
  obtain ⟨k1, k2⟩ := begins_row (trim y hy2 k) hlen hy2
  by_cases e : x.2 = y.2
  · obtain ⟨_, hxw⟩ := ini_mem hx
    obtain ⟨_, hyw⟩ := ini_mem hy
    exact Prod.ext (by rw [hxw, hyw, e]) e
  · exfalso
    rcases lt_or x y e with h5 | h5
    · have := apart hx hy h5; omega
    · have := apart hy hx h5; omega
/-- Twenty bits begin with a code. -/
theorem begins_is {l : List Int} (hw : shr l = 2 ^ 20) (h20 : ∀ x ∈ ent l, x.1 ≤ 20) {q : List Bool} (hq : 20 ≤ q.length) : ∃ x ∈ ent l, Begins l x q := by
  have hl : (q.take 20).length = 20 := by rw [List.length_take]; omega
  have hv := num_lt (q.take 20)
  rw [hl] at hv
  obtain ⟨i, hi, h1, h2⟩ := cover (l := l) (v := num (q.take 20)) (by rw [hw]; exact hv)
  have hm := ini_of hi
  have hn := h20 _ hm
  refine ⟨_, hm, by simp only at hn ⊢; omega, ?_⟩
  have e : q.take 20 = q.take (l.getD i 0).toNat ++ (q.take 20).drop (l.getD i 0).toNat := by
    conv => lhs; rw [← List.take_append_drop (l.getD i 0).toNat (q.take 20)]
    rw [List.take_take, Nat.min_eq_left hn]
  have hld : ((q.take 20).drop (l.getD i 0).toNat).length = 20 - (l.getD i 0).toNat := by rw [List.length_drop, hl]
  have hd := num_lt ((q.take 20).drop (l.getD i 0).toNat)
  rw [hld] at hd
  rw [e, num_append, hld, ← cod_mul l ((l.getD i 0).toNat, i)] at h1 h2
  simp only at h1 h2 ⊢
  have hs := sz_pos (l.getD i 0).toNat
  unfold sz at h1 h2 hs
  generalize num (q.take (l.getD i 0).toNat) = a at *
  generalize num ((q.take 20).drop (l.getD i 0).toNat) = b at *
  generalize cod l ((l.getD i 0).toNat, i) = c at *
  generalize 2 ^ (20 - (l.getD i 0).toNat) = S at *
  have h3 : c * S < (a + 1) * S := by rw [Nat.add_mul]; omega
  have h4 : a * S < (c + 1) * S := by rw [Nat.add_mul]; omega
  have h5 := Nat.lt_of_mul_lt_mul_right h3
  have h6 := Nat.lt_of_mul_lt_mul_right h4
  omega

/-! ### Symbols of one length stand side by side -/
/-- Where the codes of n bits begin. -/
def fst_ (l : List Int) (n : Nat) : Nat := sumN (fun y : Tr => if y.1 < n then sz y.1 else 0) (ent l)
/-- How many symbols ahead of i have n bits. -/
def rank (l : List Int) (n i : Nat) : Nat := sumN (fun j => if (l.getD j 0).toNat = n then 1 else 0) (List.range i)
theorem rank_succ (l : List Int) (n i : Nat) : rank l n (i + 1) = rank l n i + if (l.getD i 0).toNat = n then 1 else 0 := sumN_range _ _
theorem sumN_add {α : Type} (f g : α → Nat) (l : List α) : sumN (fun x => f x + g x) l = sumN f l + sumN g l := by
  induction l with
  | nil => rfl
  | cons x t ih => simp only [sumN, ih]; omega
theorem rank_is (l : List Int) (n i : Nat) : ∀ e : Nat, sumN (fun j => if (l.getD j 0).toNat = n ∧ j < i then sz n else 0) (List.range (i + e)) = rank l n i * sz n
  | 0 => by
    unfold rank
    rw [Nat.add_zero]
    have h : ∀ k, k ≤ i → sumN (fun j => if (l.getD j 0).toNat = n ∧ j < i then sz n else 0) (List.range k) = sumN (fun j => if (l.getD j 0).toNat = n then 1 else 0) (List.range k) * sz n := by
      intro k
      induction k with
      | zero => intro _; simp [sumN]
      | succ k ih =>
        intro hk
        rw [sumN_range, sumN_range, ih (by omega), Nat.add_mul]
        by_cases e : (l.getD k 0).toNat = n
        · rw [if_pos ⟨e, by omega⟩, if_pos e, Nat.one_mul]
        · rw [if_neg (fun h => e h.1), if_neg e, Nat.zero_mul]
    exact h i (Nat.le_refl _)
  | e + 1 => by
    rw [← Nat.add_assoc, sumN_range, rank_is l n i e, if_neg (by omega)]
    rfl
theorem frm_rank {l : List Int} {i : Nat} (hi : i < l.length) (n : Nat) (hn : (l.getD i 0).toNat = n) : frm l (n, i) = fst_ l n + rank l n i * sz n := by
  unfold frm fst_ ent ini
  rw [sumN_map, sumN_map]
  have h := rank_is l n i (l.length - i)
  rw [show i + (l.length - i) = l.length by omega] at h
  rw [← h, ← sumN_add]
  refine sumN_congr (fun j hj => ?_)
  have e : lt ((l.getD j 0).toNat, j) (n, i) ↔ (l.getD j 0).toNat < n ∨ ((l.getD j 0).toNat = n ∧ j < i) := Iff.rfl
  by_cases h1 : (l.getD j 0).toNat < n
  · rw [if_pos (e.2 (Or.inl h1)), if_pos h1, if_neg (by omega)]
    rfl
  · by_cases h2 : (l.getD j 0).toNat = n ∧ j < i
    · rw [if_pos (e.2 (Or.inr h2)), if_neg h1, if_pos h2, h2.1]
      exact (Nat.zero_add _).symm
    · rw [if_neg (fun h => by rcases e.1 h with h | h; exact h1 h; exact h2 h), if_neg h1, if_neg h2]
theorem fst_dvd (l : List Int) (n : Nat) : sz n ∣ fst_ l n := by
  refine sum_dvd (fun y hy => ?_)
  split
  · exact Nat.pow_dvd_pow 2 (by omega)
  · exact Nat.dvd_zero _
/-- The first code of n bits. -/
def fcod (l : List Int) (n : Nat) : Nat := fst_ l n / sz n
theorem cod_rank {l : List Int} {i : Nat} (hi : i < l.length) (n : Nat) (hn : (l.getD i 0).toNat = n) : cod l (n, i) = fcod l n + rank l n i := by
  unfold cod fcod
  rw [frm_rank hi n hn, Nat.add_mul_div_right _ _ (sz_pos n)]
/-- How the first code of more bits comes of that of fewer. -/
theorem fcod_succ (l : List Int) {n : Nat} (hn : n < 20) : fcod l (n + 1) = 2 * (fcod l n + rank l n l.length) := by
  have h1 : fst_ l (n + 1) = fst_ l n + rank l n l.length * sz n := by
    have h := rank_is l n l.length 0
    rw [Nat.add_zero] at h
    rw [← h]
    unfold fst_ ent ini
    rw [sumN_map, sumN_map, ← sumN_add]
    refine sumN_congr (fun j hj => ?_)
    have hj' := List.mem_range.1 hj
    by_cases h1 : (l.getD j 0).toNat < n
    · rw [if_pos (by simp only; omega), if_pos h1, if_neg (by omega)]; rfl
    · by_cases h2 : (l.getD j 0).toNat = n
      · rw [if_pos (by simp only; omega), if_neg h1, if_pos ⟨h2, hj'⟩]; simp only [h2]; omega
      · rw [if_neg (by simp only; omega), if_neg h1, if_neg (fun h => h2 h.1)]
  have e : sz n = 2 * sz (n + 1) := by
    unfold sz
    rw [show 20 - n = 20 - (n + 1) + 1 by omega, Nat.pow_succ]; omega
  have h2 := Nat.div_mul_cancel (fst_dvd l n)
  have h3 : fst_ l (n + 1) = 2 * (fcod l n + rank l n l.length) * sz (n + 1) := by
    rw [h1]
    conv => lhs; rw [← h2]
    show fcod l n * sz n + rank l n l.length * sz n = _
    rw [← Nat.add_mul, e, ← Nat.mul_assoc, Nat.mul_comm (fcod l n + rank l n l.length) 2]
  unfold fcod at h3 ⊢
  rw [h3, Nat.mul_div_cancel _ (sz_pos _)]
theorem rank_mono (l : List Int) (n : Nat) : ∀ (i e : Nat), rank l n i ≤ rank l n (i + e)
  | i, 0 => Nat.le_refl _
  | i, e + 1 => by
    rw [← Nat.add_assoc, rank_succ]
    have := rank_mono l n i e
    omega
/-- The symbol of a rank. -/
theorem rank_find (l : List Int) (n : Nat) : ∀ (N r : Nat), r < rank l n N → ∃ i, i < N ∧ (l.getD i 0).toNat = n ∧ rank l n i = r
  | 0, r, h => by simp [rank, sumN] at h
  | N + 1, r, h => by
    rw [rank_succ] at h
    by_cases h1 : r < rank l n N
    · obtain ⟨i, hi, h2, h3⟩ := rank_find l n N r h1
      exact ⟨i, by omega, h2, h3⟩
    · by_cases h2 : (l.getD N 0).toNat = n
      · rw [if_pos h2] at h
        exact ⟨N, by omega, h2, by omega⟩
      · rw [if_neg h2] at h
        omega
/-- n bits are a code, if they stand between the first one and the last one of n bits. -/
theorem begins_rank {l : List Int} {n : Nat} {q : List Bool} (hq : n ≤ q.length) : (∃ i, i < l.length ∧ (l.getD i 0).toNat = n ∧ Begins l (n, i) q ∧ rank l n i = num (q.take n) - fcod l n) ↔ fcod l n ≤ num (q.take n) ∧ num (q.take n) < fcod l n + rank l n l.length := by
  constructor
  · rintro ⟨i, hi, h1, h2, h3⟩
    have h4 := cod_rank hi n h1
    rw [← h2.2] at h4
    simp only at h4
    have h5 := rank_mono l n (i + 1) (l.length - (i + 1))
    rw [show i + 1 + (l.length - (i + 1)) = l.length by omega, rank_succ, if_pos h1] at h5
    omega
  · rintro ⟨h1, h2⟩
    obtain ⟨i, hi, h3, h4⟩ := rank_find l n l.length (num (q.take n) - fcod l n) (by omega)
    refine ⟨i, hi, h3, ⟨hq, ?_⟩, h4⟩
    rw [cod_rank hi n h3, h4]
    simp only
    omega
end CanM
end Go.Proofs.Ytclmnmfdajlddaa

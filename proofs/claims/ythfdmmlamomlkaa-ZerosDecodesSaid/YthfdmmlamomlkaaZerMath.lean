/-
  PLAIN MATHEMATICS OF LAYER 7 (zeros): rows of zeros as codes, places as codes, and back. No program is named here.
-/
import Derived.Test.YthfdmmlamomlkaaLawKit
namespace Go.Proofs.Ythfdmmlamomlkaa
namespace ZerM
open Go.RowKit

/-! ### A row -/
/-- The codes of a row of m places 0. -/
def rowC (m : Nat) : List Int := if _h : m = 0 then [] else (if m % 2 = 1 then 0 else 1) :: rowC ((m - 1) / 2)
termination_by m
decreasing_by omega
theorem rowC_zero : rowC 0 = [] := by rw [rowC]; rfl
theorem rowC_pos (m : Nat) (h : 0 < m) : rowC m = (if m % 2 = 1 then 0 else 1) :: rowC ((m - 1) / 2) := by
  rw [rowC, dif_neg (by omega)]
theorem rowC_odd (m : Nat) (h : m % 2 = 1) : rowC m = 0 :: rowC ((m - 1) / 2) := by
  rw [rowC_pos m (by omega), if_pos h]
theorem rowC_even (m : Nat) (h0 : 0 < m) (h : m % 2 = 0) : rowC m = 1 :: rowC ((m - 1) / 2) := by
  rw [rowC_pos m h0, if_neg (by omega)]
/-- How many places 0 codes stand for. -/
def val : List Int → Nat
  | [] => 0
  | c :: t => 1 + c.toNat + 2 * val t
def Bin (l : List Int) : Prop := ∀ c ∈ l, c = 0 ∨ c = 1
theorem Bin.nil : Bin [] := fun c h => by cases h
theorem Bin.snoc {l : List Int} (h : Bin l) {c : Int} (hc : c = 0 ∨ c = 1) : Bin (l ++ [c]) := fun x hx => by
  rcases List.mem_append.1 hx with h1 | h1
  · exact h x h1
  · rw [List.mem_singleton] at h1; rw [h1]; exact hc
theorem val_rowC (m : Nat) : val (rowC m) = m := by
  induction m using Nat.strongRecOn with
  | _ m ih =>
    by_cases h0 : m = 0
    · subst h0; rw [rowC_zero]; rfl
    · rw [rowC_pos m (by omega)]
      unfold val
      rw [ih ((m - 1) / 2) (by omega)]
      by_cases h1 : m % 2 = 1
      · rw [if_pos h1]; simp; omega
      · rw [if_neg h1]; simp; omega
theorem bin_rowC (m : Nat) : Bin (rowC m) := by
  induction m using Nat.strongRecOn with
  | _ m ih =>
    by_cases h0 : m = 0
    · subst h0; rw [rowC_zero]; exact Bin.nil
    · rw [rowC_pos m (by omega)]
      intro c hc
      rcases List.mem_cons.1 hc with h | h
      · rw [h]; by_cases h1 : m % 2 = 1
        · rw [if_pos h1]; exact Or.inl rfl
        · rw [if_neg h1]; exact Or.inr rfl
      · exact ih _ (by omega) c h
theorem rowC_val (l : List Int) (h : Bin l) : rowC (val l) = l := by
  induction l with
  | nil => exact rowC_zero
  | cons c t ih =>
    have ht := ih (fun x hx => h x (List.mem_cons_of_mem _ hx))
    unfold val
    rcases h c (List.mem_cons_self ..) with rfl | rfl
    · rw [rowC_odd _ (by simp)]
      rw [show (1 + (0 : Int).toNat + 2 * val t - 1) / 2 = val t by simp, ht]
    · rw [rowC_even _ (by omega) (by simp)]
      rw [show (1 + (1 : Int).toNat + 2 * val t - 1) / 2 = val t by simp; omega, ht]
theorem val_append (a b : List Int) : val (a ++ b) = val a + 2 ^ a.length * val b := by
  induction a with
  | nil => simp [val]
  | cons c t ih =>
    show 1 + c.toNat + 2 * val (t ++ b) = 1 + c.toNat + 2 * val t + 2 ^ (t.length + 1) * val b
    rw [ih, Nat.mul_add, Nat.pow_succ, Nat.mul_comm (2 ^ t.length) 2, Nat.mul_assoc]
    omega
theorem val_snoc (a : List Int) (c : Int) : val (a ++ [c]) = val a + (1 + c.toNat) * 2 ^ a.length := by
  rw [val_append, Nat.mul_comm]
  rfl
theorem val_pow (a : List Int) : 2 ^ a.length ≤ val a + 1 := by
  induction a with
  | nil => simp [val]
  | cons c t ih =>
    show 2 ^ (t.length + 1) ≤ 1 + c.toNat + 2 * val t + 1
    rw [Nat.pow_succ]
    omega
theorem val_len (a : List Int) : a.length ≤ val a := by
  induction a with
  | nil => simp [val]
  | cons c t ih =>
    show t.length + 1 ≤ 1 + c.toNat + 2 * val t
    omega
theorem len_le {a : List Int} {e : Nat} (h : val a + 1 ≤ 2 ^ e) : a.length ≤ e := by
  have := Nat.le_trans (val_pow a) h
  exact (Nat.pow_le_pow_iff_right (by omega)).1 this
theorem rowC_len (m : Nat) : (rowC m).length ≤ m := by
  have := val_len (rowC m)
  rw [val_rowC] at this
  exact this
theorem rowC_small (m : Nat) (h : m < 1099511627777) : (rowC m).length ≤ 41 := len_le (by rw [val_rowC]; simp; omega)
theorem rowC_4 : rowC 4 = [1, 0] := by
  rw [rowC_even 4 (by omega) rfl, rowC_odd 1 rfl, rowC_zero]

/-! ### Places as codes -/
def encS (s : List Int × Nat) (p : Int) : List Int × Nat := if p = 0 then (s.1, s.2 + 1) else (s.1 ++ rowC s.2 ++ [p + 1], 0)
def encF (l : List Int) : List Int × Nat := l.foldl encS ([], 0)
def enc (l : List Int) (n : Int) : List Int := (encF l).1 ++ rowC (encF l).2 ++ [n + 1]
theorem encF_take (l : List Int) (k : Nat) (h : k < l.length) : encF (l.take (k + 1)) = encS (encF (l.take k)) (l.getD k 0) := by
  unfold encF
  rw [List.take_succ_eq_append_getElem h, List.foldl_append, List.getD_eq_getElem?_getD, List.getElem?_eq_getElem h]
  rfl
theorem encF_len : ∀ (l : List Int) (s : List Int × Nat), (l.foldl encS s).1.length + (l.foldl encS s).2 ≤ s.1.length + s.2 + l.length
  | [], s => by simp
  | p :: t, s => by
    have ih := encF_len t (encS s p)
    simp only [List.foldl_cons, List.length_cons]
    have : (encS s p).1.length + (encS s p).2 ≤ s.1.length + s.2 + 1 := by
      unfold encS
      by_cases h : p = 0
      · rw [if_pos h]; simp; omega
      · rw [if_neg h]
        have := rowC_len s.2
        simp; omega
    omega
theorem encF_le (l : List Int) : (encF l).1.length + (encF l).2 ≤ l.length := by
  have := encF_len l ([], 0)
  simpa [encF] using this
theorem enc_len (l : List Int) (n : Int) : (enc l n).length ≤ l.length + 1 := by
  have h1 := encF_le l
  have h2 := rowC_len (encF l).2
  unfold enc
  simp
  omega
/-- May places be told, of n symbols? -/
def EncOk (l : List Int) (n : Int) : Prop := 1 ≤ n ∧ n ≤ 256 ∧ ∀ p ∈ l, 0 ≤ p ∧ p < n
/-- What Encode tells. -/
def EncP (l : List Int) (n : Int) (zs : List Int) (err : Nat) : Prop := (¬ EncOk l n ∧ zs = [] ∧ err = 1) ∨ (EncOk l n ∧ zs = enc l n ∧ err = 0)
theorem EncP.same {l : List Int} {n : Int} {zs ys : List Int} {e f : Nat} (h : EncP l n zs e) (k : EncP l n ys f) : zs = ys ∧ e = f := by
  rcases h with ⟨h1, rfl, rfl⟩ | ⟨h1, rfl, rfl⟩ <;> rcases k with ⟨k1, rfl, rfl⟩ | ⟨k1, rfl, rfl⟩
  · exact ⟨rfl, rfl⟩
  · exact absurd k1 h1
  · exact absurd h1 k1
  · exact ⟨rfl, rfl⟩
/-- The same, from left to right. -/
def encR (n : Int) : Nat → List Int → List Int
  | z, [] => rowC z ++ [n + 1]
  | z, p :: t => if p = 0 then encR n (z + 1) t else rowC z ++ (p + 1) :: encR n 0 t
theorem enc_fold (n : Int) : ∀ (l : List Int) (s : List Int × Nat), (l.foldl encS s).1 ++ rowC (l.foldl encS s).2 ++ [n + 1] = s.1 ++ encR n s.2 l
  | [], s => by simp [encR]
  | p :: t, s => by
    rw [List.foldl_cons, enc_fold n t (encS s p)]
    unfold encS
    by_cases h : p = 0
    · rw [if_pos h]
      show s.1 ++ encR n (s.2 + 1) t = s.1 ++ (if p = 0 then _ else _)
      rw [if_pos h]
    · rw [if_neg h]
      show s.1 ++ rowC s.2 ++ [p + 1] ++ encR n 0 t = s.1 ++ (if p = 0 then _ else _)
      rw [if_neg h]
      simp
theorem enc_eq (l : List Int) (n : Int) : enc l n = encR n 0 l := by
  have := enc_fold n l ([], 0)
  simpa [enc, encF] using this
theorem encR_zeros (n : Int) (t : List Int) : ∀ (v z : Nat), encR n z (List.replicate v 0 ++ t) = encR n (z + v) t
  | 0, z => rfl
  | v + 1, z => by
    rw [List.replicate_succ]
    show (if (0 : Int) = 0 then encR n (z + 1) (List.replicate v 0 ++ t) else _) = _
    rw [if_pos rfl, encR_zeros n t v (z + 1), show z + 1 + v = z + (v + 1) by omega]

/-! ### Codes, one by one -/
/-- What a reader has: the places that are told, the codes of the row that has not ended, and whether the end came. -/
structure St where
  out : List Int
  rc : List Int
  done : Bool
def ini : St := ⟨[], [], false⟩
def cnt (s : St) : Nat := s.out.length + val s.rc
def putS (n : Int) (s : St) (c : Int) : St :=
  if c < 2 then ⟨s.out, s.rc ++ [c], false⟩
  else if c = n + 1 then ⟨s.out ++ List.replicate (val s.rc) 0, [], true⟩
  else ⟨s.out ++ List.replicate (val s.rc) 0 ++ [c - 1], [], false⟩
def putE (n : Int) (most : Nat) (s : St) (c : Int) : Nat :=
  if s.done = true then 7 else if c < 0 ∨ n + 1 < c then 25 else if most < cnt (putS n s c) then 2 else 0
def putZ (s : St) (c : Int) : Nat := if c < 2 then 0 else val s.rc
def putP (n : Int) (c : Int) : Int := if c < 2 ∨ c = n + 1 then -1 else c - 1
theorem putS_part {n : Int} {s : St} {c : Int} (h : c < 2) : putS n s c = ⟨s.out, s.rc ++ [c], false⟩ := by unfold putS; rw [if_pos h]
theorem putS_end {n : Int} {s : St} {c : Int} (h : ¬ c < 2) (he : c = n + 1) : putS n s c = ⟨s.out ++ List.replicate (val s.rc) 0, [], true⟩ := by unfold putS; rw [if_neg h, if_pos he]
theorem putS_one {n : Int} {s : St} {c : Int} (h : ¬ c < 2) (he : c ≠ n + 1) : putS n s c = ⟨s.out ++ List.replicate (val s.rc) 0 ++ [c - 1], [], false⟩ := by unfold putS; rw [if_neg h, if_neg he]
theorem cnt_part {n : Int} {s : St} {c : Int} (h : c < 2) : cnt (putS n s c) = cnt s + (1 + c.toNat) * 2 ^ s.rc.length := by
  rw [putS_part h]; unfold cnt; rw [val_snoc]; simp only []; omega
theorem cnt_end {n : Int} {s : St} {c : Int} (h : ¬ c < 2) (he : c = n + 1) : cnt (putS n s c) = cnt s := by
  rw [putS_end h he]; unfold cnt; simp [val]
theorem cnt_one {n : Int} {s : St} {c : Int} (h : ¬ c < 2) (he : c ≠ n + 1) : cnt (putS n s c) = cnt s + 1 := by
  rw [putS_one h he]; unfold cnt; simp [val]; omega
structure Ok (most : Nat) (s : St) : Prop where
  bin : Bin s.rc
  le : cnt s ≤ most
  fin : s.done = true → s.rc = []
theorem Ok.ini (most : Nat) : Ok most ini := ⟨Bin.nil, Nat.zero_le _, fun _ => rfl⟩
theorem Ok.put {n : Int} {most : Nat} {s : St} {c : Int} (h : Ok most s) (he : putE n most s c = 0) : Ok most (putS n s c) := by
  unfold putE at he
  split at he
  · cases he
  · split at he
    · cases he
    · rename_i hc
      split at he
      · cases he
      · rename_i hm
        by_cases h2 : c < 2
        · refine ⟨?_, by omega, fun h3 => ?_⟩
          · rw [putS_part h2]
            exact h.bin.snoc (by omega)
          · rw [putS_part h2] at h3; cases h3
        · by_cases h3 : c = n + 1
          · exact ⟨by rw [putS_end h2 h3]; exact Bin.nil, by omega, fun _ => by rw [putS_end h2 h3]⟩
          · exact ⟨by rw [putS_one h2 h3]; exact Bin.nil, by omega, fun _ => by rw [putS_one h2 h3]⟩
theorem Ok.len {most : Nat} {s : St} (h : Ok most s) (hm : most ≤ 1099511627776) : s.rc.length ≤ 40 := by
  have h1 := h.le
  unfold cnt at h1
  have h2 := val_pow s.rc
  by_cases h3 : s.rc.length ≤ 40
  · exact h3
  · exfalso
    have : 2 ^ 41 ≤ 2 ^ s.rc.length := Nat.pow_le_pow_right (by omega) (by omega)
    simp at this
    omega
theorem putE_zero {n : Int} {most : Nat} {s : St} {c : Int} (hd : s.done = false) (h0 : 0 ≤ c) (h1 : c ≤ n + 1) (hm : cnt (putS n s c) ≤ most) : putE n most s c = 0 := by
  unfold putE
  rw [if_neg (by simp [hd]), if_neg (by omega), if_neg (by omega)]
theorem putE_of {n : Int} {most : Nat} {s : St} {c : Int} (h : putE n most s c = 0) : s.done = false ∧ 0 ≤ c ∧ c ≤ n + 1 := by
  unfold putE at h
  split at h
  · cases h
  · rename_i hd
    split at h
    · cases h
    · exact ⟨by simpa using hd, by omega, by omega⟩
theorem putE_cases (n : Int) (most : Nat) (s : St) (c : Int) : putE n most s c = 7 ∨ putE n most s c = 25 ∨ putE n most s c = 2 ∨ putE n most s c = 0 := by
  unfold putE
  split
  · exact Or.inl rfl
  · split
    · exact Or.inr (Or.inl rfl)
    · split
      · exact Or.inr (Or.inr (Or.inl rfl))
      · exact Or.inr (Or.inr (Or.inr rfl))
/-- What Decode tells, of what is left. -/
def dec (n : Int) (most : Nat) : St → List Int → List Int × Nat
  | s, [] => if s.done = true then (s.out, 0) else ([], 24)
  | s, c :: cs => if putE n most s c = 0 then dec n most (putS n s c) cs else ([], if putE n most s c = 7 then 25 else putE n most s c)
theorem dec_go {n : Int} {most : Nat} {s : St} {c : Int} {cs : List Int} (h : putE n most s c = 0) : dec n most s (c :: cs) = dec n most (putS n s c) cs := by
  show (if _ then _ else _) = _
  rw [if_pos h]
theorem dec_stop {n : Int} {most : Nat} {s : St} {c : Int} {cs : List Int} (h : putE n most s c ≠ 0) : dec n most s (c :: cs) = ([], if putE n most s c = 7 then 25 else putE n most s c) := by
  show (if _ then _ else _) = _
  rw [if_neg h]
theorem out_put (n : Int) (s : St) (c : Int) : ∃ t, (putS n s c).out = s.out ++ t := by
  by_cases h2 : c < 2
  · exact ⟨[], by rw [putS_part h2]; simp⟩
  · by_cases h3 : c = n + 1
    · exact ⟨_, by rw [putS_end h2 h3]⟩
    · exact ⟨_, by rw [putS_one h2 h3, List.append_assoc]⟩
theorem dec_pre (n : Int) (most : Nat) : ∀ (cs : List Int) (s : St) (zs : List Int), dec n most s cs = (zs, 0) → ∃ t, zs = s.out ++ t
  | [], s, zs, h => by
    simp only [dec] at h
    split at h
    · cases h; exact ⟨[], by simp⟩
    · cases h
  | c :: cs, s, zs, h => by
    by_cases he : putE n most s c = 0
    · rw [dec_go he] at h
      obtain ⟨t, ht⟩ := dec_pre n most cs _ zs h
      obtain ⟨u, hu⟩ := out_put n s c
      exact ⟨u ++ t, by rw [ht, hu, List.append_assoc]⟩
    · rw [dec_stop he] at h
      exfalso
      have := congrArg Prod.snd h
      simp only at this
      split at this
      · cases this
      · exact he this
theorem dec_len (n : Int) (most : Nat) : ∀ (cs : List Int) (s : St) (zs : List Int), Ok most s → dec n most s cs = (zs, 0) → zs.length ≤ most
  | [], s, zs, hs, h => by
    simp only [dec] at h
    split at h
    · cases h
      have := hs.le
      unfold cnt at this
      omega
    · cases h
  | c :: cs, s, zs, hs, h => by
    by_cases he : putE n most s c = 0
    · rw [dec_go he] at h
      exact dec_len n most cs _ zs (hs.put he) h
    · rw [dec_stop he] at h
      exfalso
      have := congrArg Prod.snd h
      simp only at this
      split at this
      · cases this
      · exact he this
theorem dec_nil (n : Int) (most : Nat) : ∀ (cs : List Int) (s : St) (zs : List Int) (e : Nat), dec n most s cs = (zs, e) → e ≠ 0 → zs = []
  | [], s, zs, e, h, h0 => by
    simp only [dec] at h
    split at h
    · cases h; exact absurd rfl h0
    · cases h; rfl
  | c :: cs, s, zs, e, h, h0 => by
    by_cases he : putE n most s c = 0
    · rw [dec_go he] at h
      exact dec_nil n most cs _ zs e h h0
    · rw [dec_stop he] at h
      cases h; rfl
def DecOk (n most : Int) : Prop := 1 ≤ n ∧ n ≤ 256 ∧ 0 ≤ most ∧ most ≤ 1099511627776
def DecP (l : List Int) (n most : Int) (zs : List Int) (err : Nat) : Prop := (¬ DecOk n most ∧ zs = [] ∧ err = 1) ∨ (DecOk n most ∧ (zs, err) = dec n most.toNat ini l)
theorem DecP.same {l : List Int} {n most : Int} {zs ys : List Int} {e f : Nat} (h : DecP l n most zs e) (k : DecP l n most ys f) : zs = ys ∧ e = f := by
  rcases h with ⟨h1, rfl, rfl⟩ | ⟨h1, h2⟩ <;> rcases k with ⟨k1, rfl, rfl⟩ | ⟨k1, k2⟩
  · exact ⟨rfl, rfl⟩
  · exact absurd k1 h1
  · exact absurd h1 k1
  · rw [← k2] at h2; cases h2; exact ⟨rfl, rfl⟩

/-! ### There and back -/
theorem dec_row (n : Int) (most : Nat) (hn : 1 ≤ n) (cs : List Int) : ∀ (r : List Int) (out rc : List Int), Bin r → out.length + val (rc ++ r) ≤ most →
    dec n most ⟨out, rc, false⟩ (r ++ cs) = dec n most ⟨out, rc ++ r, false⟩ cs
  | [], out, rc, _, _ => by simp
  | c :: r, out, rc, hb, hm => by
    have hc := hb c (List.mem_cons_self ..)
    have h2 : c < 2 := by omega
    have e1 : rc ++ c :: r = (rc ++ [c]) ++ r := by simp
    have hle : out.length + val (rc ++ [c]) ≤ most := by
      rw [e1, val_append] at hm
      omega
    have he : putE n most ⟨out, rc, false⟩ c = 0 := putE_zero rfl (by omega) (by omega) (by rw [putS_part h2]; exact hle)
    rw [List.cons_append, dec_go he, putS_part h2, e1]
    exact dec_row n most hn cs r out (rc ++ [c]) (fun x hx => hb x (List.mem_cons_of_mem _ hx)) (by rw [← e1]; exact hm)
theorem dec_encR (n : Int) (most : Nat) (hn : 1 ≤ n) : ∀ (l out : List Int) (z : Nat), (∀ p ∈ l, 0 ≤ p ∧ p < n) → out.length + z + l.length ≤ most →
    dec n most ⟨out, [], false⟩ (encR n z l) = (out ++ List.replicate z 0 ++ l, 0)
  | [], out, z, _, hm => by
    simp only [encR, List.length_nil] at hm ⊢
    have hv := val_rowC z
    rw [dec_row n most hn _ _ _ _ (bin_rowC z) (by simp [hv]; omega)]
    have he : putE n most ⟨out, [] ++ rowC z, false⟩ (n + 1) = 0 := putE_zero rfl (by omega) (by omega) (by
      rw [cnt_end (by omega) rfl]; unfold cnt; simp [hv]; omega)
    rw [dec_go he, putS_end (by omega) rfl]
    simp [dec, hv]
  | p :: t, out, z, hp, hm => by
    have hp0 := hp p (List.mem_cons_self ..)
    have hpt : ∀ q ∈ t, 0 ≤ q ∧ q < n := fun q hq => hp q (List.mem_cons_of_mem _ hq)
    simp only [List.length_cons] at hm
    by_cases h : p = 0
    · subst h
      show dec n most ⟨out, [], false⟩ (if (0 : Int) = 0 then encR n (z + 1) t else _) = _
      rw [if_pos rfl, dec_encR n most hn t out (z + 1) hpt (by omega), List.replicate_succ']
      simp
    · show dec n most ⟨out, [], false⟩ (if p = 0 then _ else rowC z ++ (p + 1) :: encR n 0 t) = _
      rw [if_neg h]
      have hv := val_rowC z
      rw [dec_row n most hn _ _ _ _ (bin_rowC z) (by simp [hv]; omega)]
      have he : putE n most ⟨out, [] ++ rowC z, false⟩ (p + 1) = 0 := putE_zero rfl (by omega) (by omega) (by
        rw [cnt_one (by omega) (by omega)]; unfold cnt; simp [hv]; omega)
      rw [dec_go he, putS_one (by omega) (by omega)]
      have := dec_encR n most hn t (out ++ List.replicate (val ([] ++ rowC z)) 0 ++ [p + 1 - 1]) 0 hpt (by simp [hv]; omega)
      simp only at this ⊢
      rw [this]
      simp [hv]
theorem dec_enc {l : List Int} {n : Int} (h : EncOk l n) : dec n l.length ini (enc l n) = (l, 0) := by
  rw [enc_eq]
  have := dec_encR n l.length h.1 l [] 0 h.2.2 (by simp)
  simpa [ini] using this
theorem dec_forth (n : Int) (most : Nat) (hn : 1 ≤ n) : ∀ (cs : List Int) (out rc p : List Int), Bin rc → dec n most ⟨out, rc, false⟩ cs = (p, 0) →
    ∃ t, p = out ++ t ∧ rc ++ cs = encR n 0 t ∧ ∀ q ∈ t, 0 ≤ q ∧ q < n
  | [], out, rc, p, _, h => by simp [dec] at h
  | c :: cs, out, rc, p, hb, h => by
    by_cases he : putE n most ⟨out, rc, false⟩ c = 0
    · obtain ⟨_, h0, h1⟩ := putE_of he
      rw [dec_go he] at h
      by_cases h2 : c < 2
      · rw [putS_part h2] at h
        obtain ⟨t, ht, hr, hq⟩ := dec_forth n most hn cs out (rc ++ [c]) p (hb.snoc (by omega)) h
        exact ⟨t, ht, by rw [← hr]; simp, hq⟩
      · have hz : ∀ x ∈ List.replicate (val rc) (0 : Int), 0 ≤ x ∧ x < n := fun x hx => by
          rw [(List.mem_replicate.1 hx).2]; omega
        by_cases h3 : c = n + 1
        · rw [putS_end h2 h3] at h
          cases cs with
          | cons d ds =>
            rw [dec_stop (by simp [putE])] at h
            have := congrArg Prod.snd h
            simp [putE] at this
          | nil =>
            simp only [dec, if_true, Prod.mk.injEq, and_true] at h
            refine ⟨List.replicate (val rc) 0, h.symm, ?_, hz⟩
            have e := encR_zeros n [] (val rc) 0
            rw [List.append_nil, Nat.zero_add] at e
            rw [e]
            show rc ++ [c] = rowC (val rc) ++ [n + 1]
            rw [rowC_val rc hb, h3]
        · rw [putS_one h2 h3] at h
          obtain ⟨t, ht, hr, hq⟩ := dec_forth n most hn cs _ [] p Bin.nil h
          refine ⟨List.replicate (val rc) 0 ++ (c - 1) :: t, by rw [ht]; simp, ?_, ?_⟩
          · rw [encR_zeros, Nat.zero_add]
            show rc ++ c :: cs = if c - 1 = 0 then _ else _
            rw [if_neg (by omega), rowC_val rc hb, show c - 1 + 1 = c by omega, ← hr]
            rfl
          · intro q hq2
            rcases List.mem_append.1 hq2 with hq2 | hq2
            · exact hz q hq2
            · rcases List.mem_cons.1 hq2 with rfl | hq2
              · omega
              · exact hq q hq2
    · rw [dec_stop he] at h
      exfalso
      have := congrArg Prod.snd h
      simp only at this
      split at this
      · cases this
      · exact he this
theorem enc_dec {cs p : List Int} {n : Int} {most : Nat} (hn : 1 ≤ n) (hn2 : n ≤ 256) (h : dec n most ini cs = (p, 0)) : EncOk p n ∧ enc p n = cs := by
  obtain ⟨t, ht, hr, hq⟩ := dec_forth n most hn cs [] [] p Bin.nil h
  simp only [List.nil_append] at ht hr
  subst ht
  exact ⟨⟨hn, hn2, hq⟩, by rw [enc_eq, ← hr]⟩
end ZerM
end Go.Proofs.Ythfdmmlamomlkaa

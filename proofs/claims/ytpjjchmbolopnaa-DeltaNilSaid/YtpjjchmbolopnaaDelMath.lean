/-
  PLAIN MATHEMATICS OF LAYER 11 (delta): lengths as bits, and lengths read of bits. No program is named here.
-/
import Derived.Test.YtpjjchmbolopnaaBitsMath
namespace Go.Proofs.Ytpjjchmbolopnaa
namespace DelM
open Go.RowKit BitM
set_option linter.unusedVariables false

/-! ### Lengths as bits -/
def two (b : Bool) : Nat → List Bool
  | 0 => []
  | k + 1 => two b k ++ [true, b]
theorem two_length (b : Bool) : ∀ k, (two b k).length = 2 * k
  | 0 => rfl
  | k + 1 => by
    rw [two, List.length_append, two_length b k]
    show 2 * k + 2 = _
    omega
theorem two_cons (b : Bool) : ∀ k, two b (k + 1) = true :: b :: two b k
  | 0 => rfl
  | k + 1 => by
    show two b (k + 1) ++ [true, b] = true :: b :: (two b k ++ [true, b])
    rw [two_cons b k]
    rfl
/-- From the length told last to the next one. -/
def mv (last x : Int) : List Bool := two false (x - last).toNat ++ two true (last - x).toNat
theorem mv_length (last x : Int) : ((mv last x).length : Int) = 2 * max (x - last) (last - x) := by
  unfold mv
  rw [List.length_append, two_length, two_length]
  omega
/-- The length told last ahead of symbol k. -/
def prv (zs : List Int) (k : Nat) : Int := zs.getD (k - 1) 0
/-- The bits of the first k symbols. -/
def encK (zs : List Int) : Nat → List Bool
  | 0 => []
  | k + 1 => encK zs k ++ (mv (prv zs k) (zs.getD k 0) ++ [false])
/-- All bits. -/
def allB (zs : List Int) : List Bool := field (zs.getD 0 0).toNat 5 ++ encK zs zs.length
theorem prv_succ (zs : List Int) (k : Nat) : prv zs (k + 1) = zs.getD k 0 := rfl
def May (zs : List Int) : Prop := 3 ≤ zs.length ∧ zs.length ≤ 258 ∧ ∀ z ∈ zs, 1 ≤ z ∧ z ≤ 20
theorem May.at_ {zs : List Int} (h : May zs) {k : Nat} (hk : k < zs.length) : 1 ≤ zs.getD k 0 ∧ zs.getD k 0 ≤ 20 :=
  h.2.2 _ (by rw [List.getD_eq_getElem?_getD, List.getElem?_eq_getElem hk]; exact List.getElem_mem hk)
theorem May.prv {zs : List Int} (h : May zs) {k : Nat} (hk : k ≤ zs.length) : 1 ≤ prv zs k ∧ prv zs k ≤ 20 := by
  have h3 := h.1
  exact h.at_ (show k - 1 < zs.length by omega)
theorem encK_le {zs : List Int} (h : May zs) : ∀ {k : Nat}, k ≤ zs.length → (encK zs k).length ≤ 39 * k ∧ k ≤ (encK zs k).length
  | 0, _ => ⟨Nat.le_refl _, Nat.le_refl _⟩
  | k + 1, hk => by
    have h1 := encK_le h (k := k) (by omega)
    have h2 := mv_length (prv zs k) (zs.getD k 0)
    have h3 := h.at_ (show k < zs.length by omega)
    have h4 := h.prv (show k ≤ zs.length by omega)
    rw [encK, List.length_append, List.length_append]
    show _ + (_ + 1) ≤ _ ∧ _ ≤ _ + (_ + 1)
    omega
theorem allB_length (zs : List Int) : (allB zs).length = 5 + (encK zs zs.length).length := by
  unfold allB
  rw [List.length_append, field_length]
theorem encK_len (zs : List Int) (k : Nat) : ((encK zs (k + 1)).length : Int) = ((encK zs k).length : Int) + (2 * max (zs.getD k 0 - prv zs k) (prv zs k - zs.getD k 0) + 1) := by
  have h2 := mv_length (prv zs k) (zs.getD k 0)
  rw [encK, List.length_append, List.length_append]
  show ((_ + (_ + 1) : Nat) : Int) = _
  omega

/-! ### Lengths read of bits -/
/-- What is told of bits: that they end, that a length is none, or the lengths, and how many bits they took. -/
inductive Res where
  | short : Res
  | table : Res
  | ok : List Int → Nat → Res
deriving DecidableEq
def Res.add (l : List Int) (k : Nat) : Res → Res
  | .short => .short
  | .table => .table
  | .ok l' k' => .ok (l ++ l') (k + k')
theorem add_add (r : Res) (l l' : List Int) (k k' : Nat) : (r.add l k).add l' k' = r.add (l' ++ l) (k' + k) := by
  cases r with
  | short => rfl
  | table => rfl
  | ok a b => simp [Res.add, Nat.add_assoc]
/-- The length behind a step. -/
def nx (now : Int) (b : Bool) : Int := if b then now - 1 else now + 1
def run : List Bool → Nat → Int → Res
  | _, 0, _ => .ok [] 0
  | [], _ + 1, _ => .short
  | [true], _ + 1, _ => .short
  | false :: t, m + 1, now => (run t m now).add [now] 1
  | true :: b :: t, m + 1, now => if nx now b < 1 ∨ 20 < nx now b then .table else (run t (m + 1) (nx now b)).add [] 2
def rd (q : List Bool) (m : Nat) : Res :=
  if q.length < 5 then .short else if (num (q.take 5) : Int) < 1 ∨ 20 < (num (q.take 5) : Int) then .table else (run (q.drop 5) m (num (q.take 5))).add [] 5
theorem run_zero (q : List Bool) (now : Int) : run q 0 now = .ok [] 0 := by
  cases q with
  | nil => rfl
  | cons a t => cases t with
    | nil => cases a <;> rfl
    | cons b u => cases a <;> rfl
theorem run_same (t : List Bool) (m : Nat) (now : Int) : run (false :: t) (m + 1) now = (run t m now).add [now] 1 := by
  cases t <;> rfl
theorem run_bad (b : Bool) (t : List Bool) (m : Nat) (now : Int) (h : nx now b < 1 ∨ 20 < nx now b) : run (true :: b :: t) (m + 1) now = .table := by
  show (if nx now b < 1 ∨ 20 < nx now b then Res.table else _) = _
  rw [if_pos h]
theorem run_move (b : Bool) (t : List Bool) (m : Nat) (now : Int) (h : ¬ (nx now b < 1 ∨ 20 < nx now b)) : run (true :: b :: t) (m + 1) now = (run t (m + 1) (nx now b)).add [] 2 := by
  show (if nx now b < 1 ∨ 20 < nx now b then Res.table else _) = _
  rw [if_neg h]
theorem run_up (q : List Bool) (m : Nat) : ∀ (k : Nat) (now : Int), 1 ≤ now → now + (k : Int) ≤ 20 → run (two false k ++ q) (m + 1) now = (run q (m + 1) (now + k)).add [] (2 * k)
  | 0, now, _, _ => by
    show run q (m + 1) now = _
    have e : now + ((0 : Nat) : Int) = now := by omega
    rw [e]
    cases run q (m + 1) now with
    | short => rfl
    | table => rfl
    | ok a b => show Res.ok a b = Res.ok ([] ++ a) (2 * 0 + b); simp
  | k + 1, now, h1, h2 => by
    rw [two_cons]
    show run (true :: false :: (two false k ++ q)) (m + 1) now = _
    have e1 : nx now false = now + 1 := rfl
    rw [run_move _ _ _ _ (by rw [e1]; omega), e1, run_up q m k (now + 1) (by omega) (by omega), add_add]
    have e2 : now + 1 + (k : Int) = now + ((k + 1 : Nat) : Int) := by omega
    rw [e2]
    congr 1
    omega
theorem run_down (q : List Bool) (m : Nat) : ∀ (k : Nat) (now : Int), now ≤ 20 → 1 ≤ now - (k : Int) → run (two true k ++ q) (m + 1) now = (run q (m + 1) (now - k)).add [] (2 * k)
  | 0, now, _, _ => by
    show run q (m + 1) now = _
    have e : now - ((0 : Nat) : Int) = now := by omega
    rw [e]
    cases run q (m + 1) now with
    | short => rfl
    | table => rfl
    | ok a b => show Res.ok a b = Res.ok ([] ++ a) (2 * 0 + b); simp
  | k + 1, now, h1, h2 => by
    rw [two_cons]
    show run (true :: true :: (two true k ++ q)) (m + 1) now = _
    have e1 : nx now true = now - 1 := rfl
    rw [run_move _ _ _ _ (by rw [e1]; omega), e1, run_down q m k (now - 1) (by omega) (by omega), add_add]
    have e2 : now - 1 - (k : Int) = now - ((k + 1 : Nat) : Int) := by omega
    rw [e2]
    congr 1
    omega
theorem run_mv (q : List Bool) (m : Nat) (last x : Int) (h1 : 1 ≤ last ∧ last ≤ 20) (h2 : 1 ≤ x ∧ x ≤ 20) : run (mv last x ++ (false :: q)) (m + 1) last = (run q m x).add [x] ((mv last x).length + 1) := by
  have hl := mv_length last x
  unfold mv at hl ⊢
  rw [List.append_assoc, run_up _ _ _ _ h1.1 (by omega), run_down _ _ _ _ (by omega) (by omega), run_same, add_add, add_add]
  have e : last + ((x - last).toNat : Int) - ((last - x).toNat : Int) = x := by omega
  rw [e]
  congr 1
  rw [List.length_append, two_length, two_length]
theorem run_len : ∀ (q : List Bool) (m : Nat) (now : Int) (l : List Int) (n : Nat), run q m now = .ok l n → l.length = m
  | q, 0, now, l, n, h => by
    rw [run_zero] at h
    cases h
    rfl
  | [], m + 1, now, l, n, h => by cases h
  | [true], m + 1, now, l, n, h => by cases h
  | false :: t, m + 1, now, l, n, h => by
    rw [run_same] at h
    cases hr : run t m now with
    | short => rw [hr] at h; cases h
    | table => rw [hr] at h; cases h
    | ok a c =>
      rw [hr] at h
      have := run_len t m now a c hr
      cases h
      rw [List.length_append, this]
      show 1 + m = _
      omega
  | true :: b :: t, m + 1, now, l, n, h => by
    by_cases hb : nx now b < 1 ∨ 20 < nx now b
    · rw [run_bad _ _ _ _ hb] at h
      cases h
    · rw [run_move _ _ _ _ hb] at h
      cases hr : run t (m + 1) (nx now b) with
      | short => rw [hr] at h; cases h
      | table => rw [hr] at h; cases h
      | ok a c =>
        rw [hr] at h
        have := run_len t (m + 1) (nx now b) a c hr
        cases h
        exact this
theorem rd_len {q : List Bool} {m : Nat} {l : List Int} {n : Nat} (h : rd q m = .ok l n) : l.length = m := by
  unfold rd at h
  split at h
  · cases h
  · split at h
    · cases h
    · cases hr : run (q.drop 5) m (num (q.take 5)) with
      | short => rw [hr] at h; cases h
      | table => rw [hr] at h; cases h
      | ok a c =>
        rw [hr] at h
        have := run_len _ _ _ _ _ hr
        cases h
        exact this
/-- What is read of what was written. -/
theorem run_enc {zs : List Int} (h : May zs) (q : List Bool) : ∀ (e k : Nat), k + e = zs.length → ∃ s, encK zs zs.length = encK zs k ++ s ∧ run (s ++ q) e (prv zs k) = .ok (zs.drop k) s.length
  | 0, k, hk => by
    obtain rfl : k = zs.length := by omega
    refine ⟨[], by simp, ?_⟩
    rw [run_zero, List.drop_length]
    rfl
  | e + 1, k, hk => by
    obtain ⟨s, h1, h2⟩ := run_enc h q e (k + 1) (by omega)
    have hk2 : k < zs.length := by omega
    refine ⟨mv (prv zs k) (zs.getD k 0) ++ (false :: s), ?_, ?_⟩
    · rw [h1, encK]
      simp
    · rw [List.append_assoc]
      show run (mv (prv zs k) (zs.getD k 0) ++ (false :: (s ++ q))) (e + 1) (prv zs k) = _
      rw [run_mv _ _ _ _ (h.prv (by omega)) (h.at_ hk2)]
      rw [prv_succ] at h2
      rw [h2]
      show Res.ok ([zs.getD k 0] ++ zs.drop (k + 1)) _ = _
      have e1 : zs.drop k = zs.getD k 0 :: zs.drop (k + 1) := by
        rw [List.getD_eq_getElem?_getD, List.getElem?_eq_getElem hk2]
        exact List.drop_eq_getElem_cons hk2
      rw [e1]
      congr 1
      rw [List.length_append]
      show _ + 1 + s.length = _ + (s.length + 1)
      omega
theorem rd_all {zs : List Int} (h : May zs) (q : List Bool) : rd (allB zs ++ q) zs.length = .ok zs (allB zs).length := by
  obtain ⟨s, h1, h2⟩ := run_enc h q zs.length 0 (by omega)
  have h3 := h.1
  have h0 := h.at_ (show 0 < zs.length by omega)
  have hs : encK zs zs.length = s := by rw [h1]; rfl
  have hl := allB_length zs
  have hf : (field (zs.getD 0 0).toNat 5).length = 5 := field_length _ _
  have ht : (allB zs ++ q).take 5 = field (zs.getD 0 0).toNat 5 := by
    unfold allB
    rw [List.append_assoc, List.take_append_of_le_length (by omega), List.take_of_length_le (by omega)]
  have hd : (allB zs ++ q).drop 5 = s ++ q := by
    unfold allB
    rw [List.append_assoc, List.drop_append_of_le_length (by omega), List.drop_of_length_le (by omega), hs]
    rfl
  have hn : (num (field (zs.getD 0 0).toNat 5) : Int) = zs.getD 0 0 := by
    rw [field_num]
    have : (zs.getD 0 0).toNat < 32 := by omega
    omega
  unfold rd
  rw [if_neg (by rw [List.length_append, hl]; omega), ht, hd, hn, if_neg (by omega)]
  have e0 : prv zs 0 = zs.getD 0 0 := rfl
  rw [e0] at h2
  rw [h2]
  show Res.ok ([] ++ zs.drop 0) _ = _
  rw [hl, hs]
  rfl
end DelM
end Go.Proofs.Ytpjjchmbolopnaa

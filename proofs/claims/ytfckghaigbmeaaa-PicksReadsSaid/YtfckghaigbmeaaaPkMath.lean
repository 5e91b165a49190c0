/-
  PLAIN MATHEMATICS OF LAYER 13 (picks): places in a list in which what was told goes to the front, as bits; reading them. No program is named here.
-/
import Derived.Test.YtfckghaigbmeaaaBitsMath
namespace Go.Proofs.Ytfckghaigbmeaaa
namespace PkM
open Go.RowKit BitM
set_option linter.unusedVariables false
/-- What stands at place i goes to the front. -/
def tch (o : List Nat) (i : Nat) : List Nat := (o.drop i).take 1 ++ o.take i ++ o.drop (i + 1)
theorem tch_cons (o : List Nat) (i : Nat) (h : i < o.length) : tch o i = o[i] :: (o.take i ++ o.drop (i + 1)) := by
  unfold tch
  rw [List.drop_eq_getElem_cons h, List.append_assoc]
  rfl
theorem tch_length (o : List Nat) (i : Nat) (h : i < o.length) : (tch o i).length = o.length := by
  rw [tch_cons o i h]
  simp
  omega
/-- How many bits 1 bits begin with. -/
def lead : List Bool → Nat
  | true :: q => lead q + 1
  | _ => 0
theorem lead_le : ∀ q : List Bool, lead q ≤ q.length
  | [] => Nat.le_refl _
  | false :: q => Nat.zero_le _
  | true :: q => by
    have := lead_le q
    simp only [lead, List.length_cons]
    omega
theorem lead_rep (q : List Bool) : ∀ n, lead (List.replicate n true ++ false :: q) = n
  | 0 => rfl
  | n + 1 => by
    rw [List.replicate_succ, List.cons_append, lead, lead_rep q n]
/-- Bits that come behind change nothing where a 0 is there. -/
theorem lead_app : ∀ (q r : List Bool), lead q < q.length → lead (q ++ r) = lead q
  | [], r, h => absurd h (Nat.lt_irrefl _)
  | false :: q, r, _ => rfl
  | true :: q, r, h => by
    simp only [lead, List.length_cons] at h
    rw [List.cons_append, lead, lead, lead_app q r (by omega)]
theorem lead_ge : ∀ (q r : List Bool), lead q ≤ lead (q ++ r)
  | [], r => Nat.zero_le _
  | false :: q, r => Nat.zero_le _
  | true :: q, r => by
    rw [List.cons_append, lead, lead]
    have := lead_ge q r
    omega
/-! ### Writing -/
def enc : List Nat → List Nat → List Bool
  | _, [] => []
  | o, p :: t => List.replicate (o.idxOf p) true ++ false :: enc (tch o (o.idxOf p)) t
/-- The order behind picks. -/
def ord : List Nat → List Nat → List Nat
  | o, [] => o
  | o, p :: t => ord (tch o (o.idxOf p)) t
theorem enc_app : ∀ (o l m : List Nat), enc o (l ++ m) = enc o l ++ enc (ord o l) m
  | o, [], m => rfl
  | o, p :: t, m => by
    rw [List.cons_append, enc, enc, ord, enc_app, List.append_assoc]
    rfl
theorem ord_app : ∀ (o l m : List Nat), ord o (l ++ m) = ord (ord o l) m
  | o, [], m => rfl
  | o, p :: t, m => by rw [List.cons_append, ord, ord, ord_app]
/-- The first t places hold the numbers below t, and nothing else. -/
def Ord (t : Nat) (o : List Nat) : Prop := o.length = 6 ∧ ∀ x, x < t ↔ x ∈ o.take t
theorem Ord.start {t : Nat} (h : t ≤ 6) : Ord t [0, 1, 2, 3, 4, 5] := by
  refine ⟨rfl, fun x => ?_⟩
  rcases (by omega : t = 0 ∨ t = 1 ∨ t = 2 ∨ t = 3 ∨ t = 4 ∨ t = 5 ∨ t = 6) with rfl | rfl | rfl | rfl | rfl | rfl | rfl <;> simp <;> omega
theorem Ord.place {t : Nat} {o : List Nat} (h : Ord t o) (ht : t ≤ 6) {p : Nat} (hp : p < t) : o.idxOf p < t ∧ o[o.idxOf p]? = some p := by
  have hm := (h.2 p).1 hp
  have h1 : o.idxOf p = (o.take t).idxOf p := by
    conv => lhs; rw [← List.take_append_drop t o]
    rw [List.idxOf_append, if_pos hm]
  have h2 : (o.take t).idxOf p < (o.take t).length := List.idxOf_lt_length_of_mem hm
  have h3 : (o.take t).length = t := by rw [List.length_take, h.1]; omega
  refine ⟨by omega, ?_⟩
  have h4 : p ∈ o := List.mem_of_mem_take hm
  rw [List.getElem?_eq_getElem (List.idxOf_lt_length_of_mem h4), List.getElem_idxOf]
theorem Ord.tch {t : Nat} {o : List Nat} (h : Ord t o) (ht : t ≤ 6) {i : Nat} (hi : i < t) : Ord t (tch o i) := by
  have hl := h.1
  have hio : i < o.length := by omega
  refine ⟨by rw [tch_length o i hio, hl], fun x => ?_⟩
  rw [h.2 x, tch_cons o i hio]
  obtain ⟨s, rfl⟩ : ∃ s, t = i + 1 + s := ⟨t - (i + 1), by omega⟩
  have e1 : o.take (i + 1 + s) = o.take i ++ o[i] :: (o.drop (i + 1)).take s := by
    rw [List.take_add, List.take_succ_eq_append_getElem hio, List.append_assoc]
    rfl
  have e2 : (o[i] :: (o.take i ++ o.drop (i + 1))).take (i + 1 + s) = o[i] :: (o.take i ++ (o.drop (i + 1)).take s) := by
    rw [show i + 1 + s = (i + s) + 1 by omega, List.take_succ_cons, List.take_append, List.length_take, Nat.min_eq_left (by omega), List.take_of_length_le (by rw [List.length_take]; omega), show i + s - i = s by omega]
  rw [e1, e2]
  simp only [List.mem_append, List.mem_cons]
  constructor
  · rintro (h | h | h)
    · exact Or.inr (Or.inl h)
    · exact Or.inl h
    · exact Or.inr (Or.inr h)
  · rintro (h | h | h)
    · exact Or.inr (Or.inl h)
    · exact Or.inl h
    · exact Or.inr (Or.inr h)
/-! ### Reading -/
inductive Res where
  | ok (l : List Nat) (n : Nat)
  | bad (to : Nat)
  | short
def Res.add (l : List Nat) (k : Nat) : Res → Res
  | .ok l' n => .ok (l ++ l') (k + n)
  | .bad to => .bad (k + to)
  | .short => .short
theorem add_add (r : Res) (l l' : List Nat) (k k' : Nat) : (r.add l k).add l' k' = r.add (l' ++ l) (k' + k) := by
  cases r <;> simp [Res.add, Nat.add_assoc]
/-- m picks of bits. -/
def run (t : Nat) : List Bool → Nat → List Nat → Res
  | _, 0, _ => .ok [] 0
  | q, m + 1, o =>
    if t ≤ lead q then .bad t
    else if lead q = q.length then .short
    else (run t (q.drop (lead q + 1)) m (tch o (lead q))).add [o.getD (lead q) 0] (lead q + 1)
theorem run_one {t : Nat} {o : List Nat} (h : Ord t o) (ht : t ≤ 6) {p : Nat} (hp : p < t) (q : List Bool) (m : Nat) :
    run t (List.replicate (o.idxOf p) true ++ false :: q) (m + 1) o = (run t q m (tch o (o.idxOf p))).add [p] (o.idxOf p + 1) := by
  obtain ⟨h1, h2⟩ := h.place ht hp
  rw [run, lead_rep, if_neg (by omega), if_neg (by simp), List.drop_append, List.length_replicate, List.drop_of_length_le (by simp), Nat.add_sub_cancel_left, List.getD_eq_getElem?_getD, h2]
  rfl
/-- What was written is read. -/
theorem run_enc {t : Nat} (ht : t ≤ 6) (q : List Bool) : ∀ (ps o : List Nat), Ord t o → (∀ p ∈ ps, p < t) → run t (enc o ps ++ q) ps.length o = .ok ps (enc o ps).length
  | [], o, _, _ => rfl
  | p :: ps, o, h, hp => by
    have hpt := hp p (List.mem_cons_self)
    have h1 := h.place ht hpt
    rw [enc, List.append_assoc, List.cons_append, List.length_cons, run_one h ht hpt, run_enc ht q ps _ (h.tch ht h1.1) (fun x hx => hp x (List.mem_cons_of_mem _ hx))]
    simp [Res.add]
    try omega
theorem run_len {t : Nat} : ∀ (m : Nat) (q : List Bool) (o l : List Nat) (n : Nat), run t q m o = .ok l n → l.length = m ∧ n ≤ q.length
  | 0, q, o, l, n, h => by
    simp only [run, Res.ok.injEq] at h
    obtain ⟨rfl, rfl⟩ := h
    exact ⟨rfl, Nat.zero_le _⟩
  | m + 1, q, o, l, n, h => by
    rw [run] at h
    split at h
    · cases h
    · split at h
      · cases h
      · rename_i h1 h2
        have hle := lead_le q
        generalize hr : run t (q.drop (lead q + 1)) m (tch o (lead q)) = r at h
        cases r with
        | ok l' n' =>
          simp only [Res.add, Res.ok.injEq] at h
          obtain ⟨rfl, rfl⟩ := h
          have := run_len m _ _ _ _ hr
          rw [List.length_drop] at this
          refine ⟨by simp [this.1], by omega⟩
        | bad _ => cases h
        | short => cases h
/-- All: the two fields and the picks. -/
def rd (q : List Bool) : Res :=
  if q.length < 18 then .short
  else if num (q.take 3) < 2 ∨ 6 < num (q.take 3) ∨ num ((q.drop 3).take 15) = 0 then .bad 18
  else (run (num (q.take 3)) (q.drop 18) (num ((q.drop 3).take 15)) [0, 1, 2, 3, 4, 5]).add [] 18
def allB (ps : List Nat) (t : Nat) : List Bool := field t 3 ++ field ps.length 15 ++ enc [0, 1, 2, 3, 4, 5] ps
def May (ps : List Nat) (t : Nat) : Prop := 2 ≤ t ∧ t ≤ 6 ∧ 1 ≤ ps.length ∧ ps.length ≤ 32767 ∧ ∀ p ∈ ps, p < t
theorem allB_length (ps : List Nat) (t : Nat) : (allB ps t).length = 18 + (enc [0, 1, 2, 3, 4, 5] ps).length := by
  unfold allB
  rw [List.length_append, List.length_append, field_length, field_length]
theorem rd_all {ps : List Nat} {t : Nat} (h : May ps t) (q : List Bool) : rd (allB ps t ++ q) = .ok ps (allB ps t).length ∧ num ((allB ps t ++ q).take 3) = t ∧ num (((allB ps t ++ q).drop 3).take 15) = ps.length := by
  obtain ⟨h2, h6, h1, hm, hp⟩ := h
  have f3 : (field t 3).length = 3 := field_length _ _
  have f15 : (field ps.length 15).length = 15 := field_length _ _
  have hl := allB_length ps t
  have e3 : (allB ps t ++ q).take 3 = field t 3 := by
    unfold allB
    rw [List.append_assoc, List.append_assoc, List.take_append_of_le_length (by omega), List.take_of_length_le (by omega)]
  have e15 : ((allB ps t ++ q).drop 3).take 15 = field ps.length 15 := by
    unfold allB
    rw [List.append_assoc, List.append_assoc, List.drop_append_of_le_length (by omega), List.drop_of_length_le (by omega), List.nil_append, List.take_append_of_le_length (by omega), List.take_of_length_le (by omega)]
  have e18 : (allB ps t ++ q).drop 18 = enc [0, 1, 2, 3, 4, 5] ps ++ q := by
    unfold allB
    have e : (field t 3 ++ field ps.length 15).length = 18 := by rw [List.length_append, f3, f15]
    rw [List.append_assoc, List.drop_append_of_le_length (by omega), List.drop_of_length_le (by omega), List.nil_append]
  have n3 : num (field t 3) = t := by
    rw [field_num]
    omega
  have n15 : num (field ps.length 15) = ps.length := by
    rw [field_num]
    omega
  refine ⟨?_, by rw [e3, n3], by rw [e15, n15]⟩
  unfold rd
  rw [if_neg (by rw [List.length_append]; omega), e3, e15, e18, n3, n15, if_neg (by omega), run_enc h6 q ps _ (Ord.start h6) hp, hl]
  rfl
/-- A step of the bits that are there: the error, how many bits it read, the picks and the order behind it. -/
theorem run_step {t : Nat} (q r : List Bool) (m : Nat) (o : List Nat) (hl : lead q < t) (hq : lead q < q.length) :
    run t (q ++ r) (m + 1) o = (run t (q.drop (lead q + 1) ++ r) m (tch o (lead q))).add [o.getD (lead q) 0] (lead q + 1) := by
  have h1 := lead_app q r hq
  rw [run, h1, if_neg (by omega), if_neg (by rw [List.length_append]; omega), List.drop_append_of_le_length (by omega)]
theorem run_wrong {t : Nat} (q r : List Bool) (m : Nat) (o : List Nat) (hl : t ≤ lead q) : run t (q ++ r) (m + 1) o = .bad t := by
  have h1 := lead_ge q r
  rw [run, if_pos (by omega)]
theorem run_short {t : Nat} (q : List Bool) (m : Nat) (o : List Nat) (hl : lead q < t) (hq : lead q = q.length) : run t q (m + 1) o = .short := by
  rw [run, if_neg (by omega), if_pos hq]
end PkM
end Go.Proofs.Ytfckghaigbmeaaa

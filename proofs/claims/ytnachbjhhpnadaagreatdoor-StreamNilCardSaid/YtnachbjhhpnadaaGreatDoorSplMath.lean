/-
  PLAIN MATHEMATICS OF LAYER 19 (split): blocks as rows of pieces. No program is named here.
-/
import Derived.Test.YtnachbjhhpnadaaGreatDoorRleMath
namespace Go.Proofs.YtnachbjhhpnadaaGreatDoor
open RleM
set_option linter.unusedVariables false
set_option linter.unusedSimpArgs false
namespace SplM
/-- One more piece goes into the block that was begun last, or begins a further one. -/
def stepS (room : Nat) (st : List (List Pc) × List Pc) (p : Pc) : List (List Pc) × List Pc :=
  if (pack st.2).length + (packP p).length > room then (st.1 ++ [st.2], [p]) else (st.1, st.2 ++ [p])
def runS (room : Nat) (ps : List Pc) : List (List Pc) × List Pc := ps.foldl (stepS room) ([], [])
def endS (st : List (List Pc) × List Pc) : List (List Pc) := st.1 ++ (if st.2 = [] then [] else [st.2])
/-- The blocks of a text. -/
def blks (room : Nat) (l : List UInt8) : List (List Pc) := endS (runS room (pieces l))
theorem runS_snoc (room : Nat) (ps : List Pc) (p : Pc) : runS room (ps ++ [p]) = stepS room (runS room ps) p := by
  unfold runS; rw [List.foldl_append]; rfl
theorem packP_le (p : Pc) : (packP p).length ≤ 5 := by
  rw [packP_length]; split <;> omega
theorem packP_pos {p : Pc} (h : 1 ≤ p.2) : 1 ≤ (packP p).length := by
  rw [packP_length]; split <;> omega
theorem pack_pos {ps : List Pc} (h : ps ≠ []) (hp : ∀ p ∈ ps, 1 ≤ p.2) : 1 ≤ (pack ps).length := by
  cases ps with
  | nil => exact absurd rfl h
  | cons p r =>
    rw [pack_cons, List.length_append]
    have := packP_pos (hp p (List.mem_cons_self ..))
    omega
/-- What is right of the blocks so far. -/
structure RightS (room : Nat) (ps : List Pc) (st : List (List Pc) × List Pc) : Prop where
  all : st.1.flatten ++ st.2 = ps
  now : (pack st.2).length ≤ room
  full : ∀ b ∈ st.1, b ≠ [] ∧ (pack b).length ≤ room
  none : st.2 = [] → ps = []
  next : ∀ i b p r, (st.1 ++ [st.2])[i]? = some b → (st.1 ++ [st.2])[i + 1]? = some (p :: r) → room < (pack b).length + (packP p).length
theorem rightS_nil (room : Nat) : RightS room [] (runS room []) := ⟨rfl, by simp [runS, pack], fun b hb => by simp [runS] at hb, fun _ => rfl, fun i b p r h1 h2 => by simp [runS] at h2⟩
theorem rightS_snoc {room : Nat} (hr : 5 ≤ room) {ps : List Pc} (p : Pc) (ih : RightS room ps (runS room ps)) : RightS room (ps ++ [p]) (runS room (ps ++ [p])) := by
    obtain ⟨h1, h2, h3, h4, h5⟩ := ih
    rw [runS_snoc]
    generalize runS room ps = st at *
    obtain ⟨os, now⟩ := st
    simp only at h1 h2 h3 h4 h5
    unfold stepS
    simp only
    by_cases hc : (pack now).length + (packP p).length > room
    · rw [if_pos hc]
      have hnn : now ≠ [] := by
        rintro rfl
        have := packP_le p
        simp [pack] at hc
        omega
      refine ⟨?_, ?_, ?_, ?_, ?_⟩
      · simp only [List.flatten_append, List.flatten_cons, List.flatten_nil, List.append_nil]
        rw [h1]
      · show (pack [p]).length ≤ room
        rw [pack_one]
        exact Nat.le_trans (packP_le p) hr
      · intro b hb
        simp only [List.mem_append, List.mem_singleton] at hb
        rcases hb with hb | rfl
        · exact h3 b hb
        · exact ⟨hnn, h2⟩
      · intro h; simp at h
      · intro i b q r hi hj
        simp only at hi hj
        by_cases hi2 : i + 1 < (os ++ [now]).length
        · rw [List.getElem?_append_left (by omega)] at hi
          rw [List.getElem?_append_left hi2] at hj
          exact h5 i b q r hi hj
        · have hlt := (List.getElem?_eq_some_iff.1 hj).1
          simp only [List.length_append, List.length_cons, List.length_nil] at hi2 hlt
          have e : i = os.length := by omega
          subst e
          rw [List.getElem?_append_left (by simp), List.getElem?_append_right (Nat.le_refl _)] at hi
          rw [List.getElem?_append_right (by simp)] at hj
          simp at hi hj
          obtain ⟨rfl, _⟩ := hj
          rw [← hi]
          exact hc
    · rw [if_neg hc]
      refine ⟨?_, ?_, h3, ?_, ?_⟩
      · rw [← List.append_assoc, h1]
      · show (pack (now ++ [p])).length ≤ room
        rw [pack_append, List.length_append, pack_one]
        omega
      · intro h; simp at h
      · intro i b q r hi hj
        simp only at hi hj
        have hlt := (List.getElem?_eq_some_iff.1 hj).1
        simp only [List.length_append, List.length_cons, List.length_nil] at hlt
        rw [List.getElem?_append_left (by omega)] at hi
        by_cases hi2 : i + 1 < os.length
        · rw [List.getElem?_append_left hi2] at hj
          exact h5 i b q r (by rw [List.getElem?_append_left (by omega)]; exact hi) (by rw [List.getElem?_append_left hi2]; exact hj)
        · have e : i + 1 = os.length := by omega
          rw [e, List.getElem?_append_right (Nat.le_refl _)] at hj
          simp at hj
          cases now with
          | nil =>
            have hps := h4 rfl
            rw [hps] at h1
            have hos : os = [] := by
              cases os with
              | nil => rfl
              | cons x xs =>
                have := (h3 x (List.mem_cons_self ..)).1
                simp at h1
                exact absurd h1.1 this
            rw [hos] at e
            simp at e
          | cons a as =>
            simp at hj
            obtain ⟨rfl, _⟩ := hj
            exact h5 i b a as (by rw [List.getElem?_append_left (by omega)]; exact hi) (by rw [e, List.getElem?_append_right (Nat.le_refl _)]; simp)
theorem rightS (room : Nat) (hr : 5 ≤ room) (ps : List Pc) : RightS room ps (runS room ps) := by
  have key : ∀ n, n ≤ ps.length → RightS room (ps.take n) (runS room (ps.take n)) := by
    intro n
    induction n with
    | zero => intro _; exact rightS_nil room
    | succ n ih =>
      intro h
      rw [List.take_succ_eq_append_getElem (by omega)]
      exact rightS_snoc hr _ (ih (by omega))
  have := key ps.length (Nat.le_refl _)
  rwa [List.take_length] at this
theorem endS_flat {room : Nat} {ps : List Pc} {st : List (List Pc) × List Pc} (h : RightS room ps st) : (endS st).flatten = ps := by
  unfold endS
  rw [← h.all]
  by_cases e : st.2 = []
  · rw [if_pos e, e]; simp
  · rw [if_neg e]; simp
theorem endS_ok {room : Nat} {ps : List Pc} {st : List (List Pc) × List Pc} (h : RightS room ps st) : ∀ b ∈ endS st, b ≠ [] ∧ (pack b).length ≤ room := by
  unfold endS
  intro b hb
  by_cases e : st.2 = []
  · rw [if_pos e, List.append_nil] at hb
    exact h.full b hb
  · rw [if_neg e] at hb
    rcases List.mem_append.1 hb with hb | hb
    · exact h.full b hb
    · rw [List.mem_singleton] at hb
      subst hb
      exact ⟨e, h.now⟩
theorem endS_next {room : Nat} {ps : List Pc} {st : List (List Pc) × List Pc} (h : RightS room ps st) : ∀ i b p r, (endS st)[i]? = some b → (endS st)[i + 1]? = some (p :: r) → room < (pack b).length + (packP p).length := by
  unfold endS
  intro i b p r hi hj
  by_cases e : st.2 = []
  · rw [if_pos e, List.append_nil] at hi hj
    have l1 := (List.getElem?_eq_some_iff.1 hi).1
    have l2 := (List.getElem?_eq_some_iff.1 hj).1
    exact h.next i b p r (by rw [List.getElem?_append_left l1]; exact hi) (by rw [List.getElem?_append_left l2]; exact hj)
  · rw [if_neg e] at hi hj
    exact h.next i b p r hi hj
theorem good_right : ∀ {ps qs : List Pc}, RleM.Good (ps ++ qs) → RleM.Good qs := by
  intro ps
  induction ps with
  | nil => intro qs h; exact h
  | cons p r ih =>
    intro qs h
    refine ih (qs := qs) ?_
    simp only [List.cons_append] at h
    unfold RleM.Good at h
    exact h.2.2.2
/-- Each block of good pieces is of good pieces. -/
theorem good_blk : ∀ {bs : List (List Pc)} {b : List Pc}, RleM.Good bs.flatten → b ∈ bs → RleM.Good b := by
  intro bs
  induction bs with
  | nil => intro b h hb; cases hb
  | cons x xs ih =>
    intro b h hb
    rw [List.flatten_cons] at h
    rcases List.mem_cons.1 hb with rfl | hb
    · exact good_left h
    · exact ih (good_right h) hb
theorem blk_dec {b : List Pc} (h : RleM.Good b) : dec (pack b) = (flat b, 0) := by
  have := dec_encode (flat b)
  unfold encode at this
  rwa [pieces_flat b h] at this
theorem flat_flatten : ∀ bs : List (List Pc), flat bs.flatten = (bs.map flat).flatten
  | [] => rfl
  | b :: bs => by
    rw [List.flatten_cons, flat_append, flat_flatten bs]
    rfl
theorem blks_flat (room : Nat) (hr : 5 ≤ room) (l : List UInt8) : ((blks room l).map flat).flatten = l := by
  rw [← flat_flatten]
  unfold blks
  rw [endS_flat (rightS room hr (pieces l)), flat_pieces]
theorem blks_good (room : Nat) (hr : 5 ≤ room) (l : List UInt8) {b : List Pc} (h : b ∈ blks room l) : RleM.Good b := by
  refine good_blk (bs := blks room l) ?_ h
  unfold blks
  rw [endS_flat (rightS room hr (pieces l))]
  exact good l
/-- The first piece of bytes. -/
def firstM : List UInt8 → List UInt8
  | [] => []
  | c :: l => if 5 ≤ (c :: l).length ∧ four (c :: l) = true then (c :: l).take 5 else (c :: l).take (like c (c :: l))
end SplM
end Go.Proofs.YtnachbjhhpnadaaGreatDoor

/-
  LAYER 4's packer: its row; over a text; what it tells are the pieces (cut out of XFeedB, XFeedC, XFeedLawA).
-/
import Derived.Test.YtnachbjhhpnadaaGreatDoorFeed
import Derived.Test.YtnachbjhhpnadaaGreatDoorRleF
namespace Go.Proofs.YtnachbjhhpnadaaGreatDoor
open Go.RowKit RleM
set_option linter.unusedVariables false
/-- A packer over a text. -/
def prun : UInt8 × Nat → List UInt8 → List UInt8 × (UInt8 × Nat)
  | st, [] => ([], st)
  | st, x :: l => ((pstep st.1 st.2 x).1 ++ (prun (pstep st.1 st.2 x).2 l).1, (prun (pstep st.1 st.2 x).2 l).2)
theorem prun_snoc : ∀ (l : List UInt8) (st : UInt8 × Nat) (x : UInt8), prun st (l ++ [x]) = ((prun st l).1 ++ (pstep (prun st l).2.1 (prun st l).2.2 x).1, (pstep (prun st l).2.1 (prun st l).2.2 x).2)
  | [], st, x => by simp [prun]
  | y :: l, st, x => by simp [prun, prun_snoc l, List.append_assoc]
structure PInv (st : UInt8 × Nat) : Prop where
  le : st.2 ≤ 254
  zero : st.2 = 0 → st.1 = 0
theorem pstep_inv {c : UInt8} {n : Nat} (h : PInv (c, n)) (x : UInt8) : PInv (pstep c n x).2 ∧ (pstep c n x).1.length ≤ 10 := by
  have h1 := h.le
  have h2 := packR_le c n
  have h3 := packP_sz (x, 255)
  simp only at h1 h3
  have h4 := rlsz_le 255
  unfold pstep
  simp only
  have ho : (if x = c then ([] : List UInt8) else packR c n).length ≤ 5 := by
    split
    · simp
    · exact h2
  have hm : 1 ≤ (if x = c then n + 1 else 1) ∧ (if x = c then n + 1 else 1) ≤ 255 := by split <;> omega
  generalize (if x = c then ([] : List UInt8) else packR c n) = o at *
  generalize (if x = c then n + 1 else 1) = m at *
  split
  · exact ⟨⟨by simp, fun _ => rfl⟩, by simp only [List.length_append]; omega⟩
  · exact ⟨⟨by simp only; omega, fun e => by simp only at e; omega⟩, by simp only; omega⟩
theorem prun_inv : ∀ (l : List UInt8) (st : UInt8 × Nat), PInv st → PInv (prun st l).2 ∧ (prun st l).1.length ≤ 10 * l.length
  | [], st, h => ⟨h, by simp [prun]⟩
  | x :: l, st, h => by
    obtain ⟨h1, h2⟩ := pstep_inv (c := st.1) (n := st.2) h x
    obtain ⟨h3, h4⟩ := prun_inv l _ h1
    exact ⟨h3, by simp only [prun, List.length_append, List.length_cons]; omega⟩
theorem pinv0 : PInv (0, 0) := ⟨by decide, fun _ => rfl⟩
theorem prun_step {s : ByteArray} {k : Nat} (hk : k < s.size) : prun (0, 0) (s.data.toList.take (k + 1)) = ((prun (0, 0) (s.data.toList.take k)).1 ++ (pstep (prun (0, 0) (s.data.toList.take k)).2.1 (prun (0, 0) (s.data.toList.take k)).2.2 s[k]).1, (pstep (prun (0, 0) (s.data.toList.take k)).2.1 (prun (0, 0) (s.data.toList.take k)).2.2 s[k]).2) := by
  rw [List.take_add_one, show s.data.toList[k]? = some s[k] from byte_at rfl hk]
  simp only [Option.toList]
  rw [prun_snoc]
/-- WHAT A PACKING LOOP KNOWS. -/
structure PkSt (w wr : World) (pb : Nat) (l : List UInt8) : Prop where
  row : IsPacker wr pb (prun (0, 0) l).2.1 (prun (0, 0) l).2.2
  below : Below w.heap.size w wr
theorem pput_run {w wr : World} {pb : Nat} {s : ByteArray} {k : Nat} (hk : k < s.size) (h : PkSt w wr pb (s.data.toList.take k)) (hT : Sizes w) (hpb : w.heap.size ≤ pb) :
    Calls Tryz.prog 267 #[.pointer (some ⟨pb, 0, none⟩), .int .u8 (s[k].toNat : Int)] wr fun e w' => ∃ A : List UInt8, e = .returned (.string ⟨A.toArray⟩) ∧ A.length ≤ 10 ∧ (prun (0, 0) (s.data.toList.take (k + 1))).1 = (prun (0, 0) (s.data.toList.take k)).1 ++ A ∧ PkSt w w' pb (s.data.toList.take (k + 1)) := by
  obtain ⟨hi1, hi2⟩ := prun_inv (s.data.toList.take k) (0, 0) pinv0
  have hlt := hT.lt
  refine (pput_any pb _ _ s[k] wr h.row (hT.below h.below hlt) (by omega) hi1.zero hi1.le).mono ?_
  rintro e w' ⟨rfl, h1, h2⟩
  refine ⟨_, rfl, (pstep_inv hi1 s[k]).2, by rw [prun_step hk], ?_, h.below.trans (h2.below h.below.size (fun i hi => by have : i = pb := hi; omega))⟩
  rw [prun_step hk]
  exact h1
/-! ### A packer's text are the pieces -/
/-- What a packer has told, and its row, of a text. -/
structure SureP (l : List UInt8) (T : List UInt8) (c : UInt8) (n : Nat) (QS : List Pc) : Prop where
  pieces : pieces l = QS ++ (if n = 0 then [] else [(c, n)])
  told : T = pack QS
  le : n ≤ 254
  none : n = 0 → c = 0 ∧ ∀ p, QS.getLast? = some p → p.2 = 255
theorem sure_snoc {l T : List UInt8} {c : UInt8} {n : Nat} {QS : List Pc} (h : SureP l T c n QS) (x : UInt8) : ∃ QS2, SureP (l ++ [x]) (T ++ (pstep c n x).1) (pstep c n x).2.1 (pstep c n x).2.2 QS2 := by
  obtain ⟨h1, h2, h3, h4⟩ := h
  by_cases hn : n = 0
  · subst hn
    obtain ⟨rfl, h5⟩ := h4 rfl
    rw [if_pos rfl, List.append_nil] at h1
    have hp := pieces_new l x (fun p hp => Or.inr (h5 p (by rw [← h1]; exact hp)))
    have e : pstep 0 0 x = ([], (x, 1)) := by
      unfold pstep
      by_cases hx : x = 0
      · rw [if_pos hx, if_pos hx]; rfl
      · rw [if_neg hx, if_neg hx]; rfl
    rw [e]
    refine ⟨QS, ?_, by simp [h2], by show 1 ≤ 254; omega, fun h => by cases h⟩
    rw [hp, h1]; rfl
  · rw [if_neg hn] at h1
    by_cases hx : x = c
    · subst hx
      have hp := pieces_grow l QS x n h1 (by omega)
      by_cases hm : n + 1 = 255
      · have e : pstep x n x = ([] ++ packP (x, 255), (0, 0)) := by
          unfold pstep; rw [if_pos rfl, if_pos rfl]; simp only; rw [if_pos hm]
        rw [e]
        refine ⟨QS ++ [(x, 255)], ?_, ?_, Nat.zero_le _, fun _ => ⟨rfl, fun p hp => ?_⟩⟩
        · rw [hp, hm]; simp
        · rw [pack_append, pack_one, h2]; simp
        · have : (x, 255) = p := by simpa using hp
          rw [← this]
      · have e : pstep x n x = ([], (x, n + 1)) := by
          unfold pstep; rw [if_pos rfl, if_pos rfl]; simp only; rw [if_neg hm]
        rw [e]
        exact ⟨QS, by rw [hp]; simp, by simp [h2], by simp only; omega, fun h => by simp at h⟩
    · have hp := pieces_new l x (fun p hp => by
        rw [h1] at hp
        have : (c, n) = p := by simpa using hp
        rw [← this]
        exact Or.inl hx)
      have e : pstep c n x = (packP (c, n), (x, 1)) := by
        unfold pstep; rw [if_neg hx, if_neg hx]
        show (if 1 = 255 then _ else _) = _
        rw [if_neg (by decide)]
        unfold packR; rw [if_neg hn]
      rw [e]
      exact ⟨QS ++ [(c, n)], by rw [hp, h1]; simp, by rw [pack_append, pack_one, h2], by show 1 ≤ 254; omega, fun h => by cases h⟩
theorem sure_run (l : List UInt8) : ∀ k, k ≤ l.length → ∃ QS, SureP (l.take k) (prun (0, 0) (l.take k)).1 (prun (0, 0) (l.take k)).2.1 (prun (0, 0) (l.take k)).2.2 QS
  | 0, _ => ⟨[], rfl, rfl, Nat.zero_le _, fun _ => ⟨rfl, fun p h => by cases h⟩⟩
  | k + 1, hk => by
    obtain ⟨QS, h⟩ := sure_run l k (by omega)
    have e : l.take (k + 1) = l.take k ++ [l[k]] := List.take_succ_eq_append_getElem (by omega)
    rw [e, prun_snoc]
    exact sure_snoc h l[k]
theorem sure_all {l T : List UInt8} {c : UInt8} {n : Nat} {QS : List Pc} (h : SureP l T c n QS) : T ++ packR c n = encode l := by
  unfold encode
  rw [h.pieces, pack_append, h.told]
  unfold packR
  split
  · simp [pack]
  · rw [pack_one]
theorem sure_encode (l : List UInt8) : (prun (0, 0) l).1 ++ packR (prun (0, 0) l).2.1 (prun (0, 0) l).2.2 = encode l := by
  obtain ⟨QS, h⟩ := sure_run l l.length (Nat.le_refl _)
  rw [List.take_length] at h
  exact sure_all h
end Go.Proofs.YtnachbjhhpnadaaGreatDoor

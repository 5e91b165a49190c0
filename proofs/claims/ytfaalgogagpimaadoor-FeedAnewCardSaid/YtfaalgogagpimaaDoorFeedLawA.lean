/-
  LAYER 4's STATEMENTS: FeedNil, FeedBack.
-/
import Derived.Test.YtfaalgogagpimaaDoorFeedC
import Derived.Test.YtfaalgogagpimaaDoorRleF
namespace Go.Proofs.YtfaalgogagpimaaDoor
open Go.RowKit RleM
set_option linter.unusedVariables false
set_option maxRecDepth 100000 in
set_option maxHeartbeats 1000000 in
theorem feedNil.walk (B : Int) (w : World) (hT : Sizes w) (w0 : (Lit.int .u8 B).wf = true) :
    Calls Tryd.prog 12 #[.int .u8 B] w fun e w' => e = .returned (.bool true) ∧ Below w.heap.size w w' := by
  have HT := Lib.hid hT
  have hgl := hT.lt
  clear hT w0
  go_enter Tryd.func12, Tryd.ntmps12
  go_wp2_with fail
  refine (uput_nil _ w).mono ?_
  rintro e w' ⟨rfl, rfl⟩
  go_wp2_with fail
  refine (pput_nil _ w).mono ?_
  rintro e w1 ⟨rfl, hb1⟩
  have B1 := Lib.hid hb1
  clear hb1
  go_wp2_with fail
  refine (pend_nil w1).mono ?_
  rintro e w' ⟨rfl, rfl⟩
  go_wp2_with fail
  refine (prow_nil w1).mono ?_
  rintro e w2 ⟨rfl, hb2⟩
  have B2 := Lib.hid (B1.out.trans (hb2.mono B1.out.size))
  clear hb2
  go_wp2_with fail
  refine (uend_nil w2).mono ?_
  rintro e w' ⟨rfl, rfl⟩
  go_wp2_with fail
  refine (wants_nil w2).mono ?_
  rintro e w' ⟨rfl, rfl⟩
  go_wp2_with fail
  refine (five4_any w2 (HT.out.below B2.out hgl)).mono ?_
  rintro e w3 ⟨rfl, hb3⟩
  have B3 := Lib.hid (B2.out.trans (hb3.mono B2.out.size))
  clear hb3
  go_wp2_with fail
  go_ret
  exact ⟨rfl, B3.out⟩
/-! ### A packer's text are the pieces -/
/-- What a packer has told, and its row, of a text. -/
structure SureP (l : List UInt8) (T : List UInt8) (c : UInt8) (n : Nat) (QS : List Pc) : Prop where
  pieces : pieces l = QS ++ (if n = 0 then [] else [(c, n)])
  told : T = pack QS
  le : n ≤ 254
  none : n = 0 → c = 0 ∧ ∀ p, QS.getLast? = some p → p.2 = 255
theorem sure_snoc {l T : List UInt8} {c : UInt8} {n : Nat} {QS : List Pc} (h : SureP l T c n QS) (x : UInt8) : ∃ QS2, SureP (l ++ [x]) (T ++ (pstep c n x).1) (pstep c n x).2.1 (pstep c n x).2.2 QS2 := by
  obtain ⟨h1, h2, h3, h4⟩ := h
  by_cases hn : n = 0
  · subst hn
    obtain ⟨rfl, h5⟩ := h4 rfl
    rw [if_pos rfl, List.append_nil] at h1
    have hp := pieces_new l x (fun p hp => Or.inr (h5 p (by rw [← h1]; exact hp)))
    have e : pstep 0 0 x = ([], (x, 1)) := by
      unfold pstep
      by_cases hx : x = 0
      · rw [if_pos hx, if_pos hx]; rfl
      · rw [if_neg hx, if_neg hx]; rfl
    rw [e]
    refine ⟨QS, ?_, by simp [h2], by show 1 ≤ 254; omega, fun h => by cases h⟩
    rw [hp, h1]; rfl
  · rw [if_neg hn] at h1
    by_cases hx : x = c
    · subst hx
      have hp := pieces_grow l QS x n h1 (by omega)
      by_cases hm : n + 1 = 255
      · have e : pstep x n x = ([] ++ packP (x, 255), (0, 0)) := by
          unfold pstep; rw [if_pos rfl, if_pos rfl]; simp only; rw [if_pos hm]
        rw [e]
        refine ⟨QS ++ [(x, 255)], ?_, ?_, Nat.zero_le _, fun _ => ⟨rfl, fun p hp => ?_⟩⟩
        · rw [hp, hm]; simp
        · rw [pack_append, pack_one, h2]; simp
        · have : (x, 255) = p := by simpa using hp
          rw [← this]
      · have e : pstep x n x = ([], (x, n + 1)) := by
          unfold pstep; rw [if_pos rfl, if_pos rfl]; simp only; rw [if_neg hm]
        rw [e]
        exact ⟨QS, by rw [hp]; simp, by simp [h2], by simp only; omega, fun h => by simp at h⟩
    · have hp := pieces_new l x (fun p hp => by
        rw [h1] at hp
        have : (c, n) = p := by simpa using hp
        rw [← this]
        exact Or.inl hx)
      have e : pstep c n x = (packP (c, n), (x, 1)) := by
        unfold pstep; rw [if_neg hx, if_neg hx]
        show (if 1 = 255 then _ else _) = _
        rw [if_neg (by decide)]
        unfold packR; rw [if_neg hn]
      rw [e]
      exact ⟨QS ++ [(c, n)], by rw [hp, h1]; simp, by rw [pack_append, pack_one, h2], by show 1 ≤ 254; omega, fun h => by cases h⟩
theorem sure_run (l : List UInt8) : ∀ k, k ≤ l.length → ∃ QS, SureP (l.take k) (prun (0, 0) (l.take k)).1 (prun (0, 0) (l.take k)).2.1 (prun (0, 0) (l.take k)).2.2 QS
  | 0, _ => ⟨[], rfl, rfl, Nat.zero_le _, fun _ => ⟨rfl, fun p h => by cases h⟩⟩
  | k + 1, hk => by
    obtain ⟨QS, h⟩ := sure_run l k (by omega)
    have e : l.take (k + 1) = l.take k ++ [l[k]] := List.take_succ_eq_append_getElem (by omega)
    rw [e, prun_snoc]
    exact sure_snoc h l[k]
theorem sure_all {l T : List UInt8} {c : UInt8} {n : Nat} {QS : List Pc} (h : SureP l T c n QS) : T ++ packR c n = encode l := by
  unfold encode
  rw [h.pieces, pack_append, h.told]
  unfold packR
  split
  · simp [pack]
  · rw [pack_one]
theorem sure_encode (l : List UInt8) : (prun (0, 0) l).1 ++ packR (prun (0, 0) l).2.1 (prun (0, 0) l).2.2 = encode l := by
  obtain ⟨QS, h⟩ := sure_run l l.length (Nat.le_refl _)
  rw [List.take_length] at h
  exact sure_all h
end Go.Proofs.YtfaalgogagpimaaDoor

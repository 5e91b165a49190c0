/-
  THE WALKS OF LAYER 15's CODE (package rotate) AND THE DOCUMENT's ANSWER: rotations as texts, Ahead, Period, Least.
-/
import Derived.Test.YtfedhppcmmponaaRot
import Derived.Test.YtfedhppcmmponaaTextEq
import Derived.Test.YtfedhppcmmponaaToI
import Derived.StillTailTactics
namespace Go.Proofs.Ytfedhppcmmponaa
open Go.RowKit BwtM
set_option linter.unusedVariables false
/-- The rotation as a text. -/
def rotT (s : ByteArray) (i : Nat) : ByteArray := s.extract i s.size ++ s.extract 0 i
theorem rot_dataD (t : ByteArray) (n : Nat) : (t.extract n t.size).data.toList = t.data.toList.drop n := by
  have e : t.size = t.data.toList.length := rfl
  rw [ByteArray.data_extract, e]
  simp only [Array.toList_extract, List.extract_eq_take_drop]
  rw [List.take_of_length_le (by simp)]
theorem rot_takeD (s : ByteArray) (c : Nat) : (s.extract 0 c).data.toList = s.data.toList.take c := by
  rw [ByteArray.data_extract]
  simp only [Array.toList_extract, List.extract_eq_take_drop, List.drop_zero, Nat.sub_zero]
theorem rotT_data (s : ByteArray) (i : Nat) : (rotT s i).data.toList = rot s.data.toList i := by
  unfold rotT rot
  rw [ByteArray.data_append, Array.toList_append, rot_dataD, rot_takeD]
theorem text_inj {a b : ByteArray} : a = b ↔ a.data.toList = b.data.toList := by
  constructor
  · rintro rfl; rfl
  · intro h
    apply ByteArray.ext
    exact Array.toList_inj.1 h
theorem rotT_eq (s : ByteArray) (i k : Nat) : rotT s i = rotT s k ↔ rot s.data.toList i = rot s.data.toList k := by rw [text_inj, rotT_data, rotT_data]
theorem rotT_self (s : ByteArray) (i : Nat) : rotT s i = s ↔ rot s.data.toList i = s.data.toList := by rw [text_inj, rotT_data]
theorem rotT_size (s : ByteArray) (i : Nat) (h : i ≤ s.size) : (rotT s i).size = s.size := by
  have h1 : (rotT s i).size = (rotT s i).data.toList.length := by simp
  rw [h1, rotT_data, rot_len _ _ (by rw [txt_len]; exact h), txt_len]
theorem bytesLess_iff : ∀ (x y : List UInt8), Op.bytesLess x y = true ↔ lle x y ∧ x ≠ y
  | [], [] => by simp [Op.bytesLess, lle]
  | _ :: _, [] => by simp [Op.bytesLess, lle]
  | [], _ :: _ => by simp [Op.bytesLess, lle]
  | a :: x, b :: y => by
    have ih := bytesLess_iff x y
    simp only [Op.bytesLess, lle, Bool.or_eq_true, Bool.and_eq_true, decide_eq_true_eq, beq_iff_eq, ih, ne_eq, List.cons.injEq, not_and, UInt8.lt_iff_toNat_lt]
    constructor
    · rintro (h | ⟨rfl, h1, h2⟩)
      · exact ⟨Or.inl h, fun e => by subst e; exact absurd h (Nat.lt_irrefl _)⟩
      · exact ⟨Or.inr ⟨rfl, h1⟩, fun _ => h2⟩
    · rintro ⟨h | ⟨rfl, h⟩, h2⟩
      · exact Or.inl h
      · exact Or.inr ⟨rfl, h, h2 rfl⟩
theorem bl_rot (s : ByteArray) (i k : Nat) : Op.bytesLess (rotT s i).toList (rotT s k).toList = true ↔ lle (rot s.data.toList i) (rot s.data.toList k) ∧ rot s.data.toList i ≠ rot s.data.toList k := by
  rw [bytesLess_iff, ByteArray.toList_eq, ByteArray.toList_eq, rotT_data, rotT_data]
set_option maxHeartbeats 1000000 in
theorem rrotation_any (s : ByteArray) (i : Nat) (w : World) (hs : s.size ≤ 1099511627776) (hi : i ≤ s.size) :
    Calls Try.prog 42 #[.string s, .int .i64 (i : Int)] w fun e w' => e = .returned (.string (rotT s i)) ∧ Below w.heap.size w w' := by
  have hR : s.extract i s.size ++ s.extract 0 i = rotT s i := rfl
  have hx1s : (s.extract i s.size).size ≤ s.size := by rw [ByteArray.size_extract]; omega
  have hx2s : (s.extract 0 i).size ≤ s.size := by rw [ByteArray.size_extract]; omega
  have hii : (i : Int) ≤ (s.size : Int) := by omega
  have hi0 : (0 : Int) ≤ (i : Int) := by omega
  go_enter Try.func42, Try.ntmps42
  go_wp2_with fail
  go_quiet (fail)
  go_wp2_with fail
  go_ret
  exact ⟨rfl, rfl, rfl, rfl, Nat.le_refl _, fun _ _ => rfl⟩
theorem isCmp_ahead {T : List UInt8} {i k : Nat} {c : Int} (hi : i ≤ T.length) (hk : k ≤ T.length) (h : IsCmp T i k c) : Ahead T i k ↔ c = -1 ∨ (c = 0 ∧ i < k) := by
  rw [ahead_iff hi hk]
  rcases h with ⟨rfl, h⟩ | ⟨rfl, h⟩ | ⟨rfl, h⟩
  · exact ⟨fun _ => Or.inl rfl, fun _ => Or.inl h⟩
  · constructor
    · rintro (g | ⟨_, g⟩)
      · exact absurd h g.noteq
      · exact Or.inr ⟨rfl, g⟩
    · rintro (g | ⟨_, g⟩)
      · exact absurd g (by decide)
      · exact Or.inr ⟨h, g⟩
  · constructor
    · rintro (g | ⟨g, _⟩)
      · exact absurd g h.asym
      · exact absurd g.symm h.noteq
    · rintro (g | ⟨g, _⟩)
      · exact absurd g (by decide)
      · exact absurd g (by decide)
theorem isCmp_range {T : List UInt8} {i k : Nat} {c : Int} (h : IsCmp T i k c) : c = -1 ∨ c = 0 ∨ c = 1 := by
  rcases h with ⟨rfl, _⟩ | ⟨rfl, _⟩ | ⟨rfl, _⟩ <;> simp
set_option maxHeartbeats 1000000 in
theorem rahead_any (s : ByteArray) (i k : Nat) (r : Bool) (w : World) (hs : s.size ≤ 1099511627776) (hi : i < s.size) (hk : k < s.size) (hr : r = true ↔ Ahead s.data.toList i k) :
    Calls Try.prog 44 #[.string s, .int .i64 (i : Int), .int .i64 (k : Int)] w fun e w' => e = .returned (.bool r) ∧ Below w.heap.size w w' := by
  have H1 := Lib.hid (fun W => rrotation_any s i W hs (Nat.le_of_lt hi))
  have H2 := Lib.hid (fun W => rrotation_any s k W hs (Nat.le_of_lt hk))
  have hbl := bl_rot s i k
  have heq : ∀ b : Bool, (b = true ↔ rot s.data.toList i = rot s.data.toList k) → ((rotT s i).toList == (rotT s k).toList) = b := fun b hb => list_eq_test _ _ _ (by rw [hb, rotT_eq])
  unfold Ahead at hr
  rw [← hbl] at hr
  generalize rotT s i = A at *
  generalize rotT s k = B at *
  cases hl : Op.bytesLess A.toList B.toList with
  | true =>
    obtain rfl : r = true := hr.2 (Or.inl hl)
    clear hr hbl heq hi hk hs
    go_enter Try.func44, Try.ntmps44
    go_wp2_with fail
    refine (H1.out _).mono ?_
    rintro e w1 ⟨rfl, hb1⟩
    have HB1 := Lib.hid hb1
    clear hb1
    go_wp2_with fail
    refine (H2.out _).mono ?_
    rintro e w2 ⟨rfl, hb2⟩
    have HB2 := Lib.hid (HB1.out.trans (hb2.mono HB1.out.size))
    clear hb2
    go_wp2_with fail
    go_ret
    exact ⟨rfl, HB2.out⟩
  | false =>
    rw [hl] at hr
    by_cases he : rot s.data.toList i = rot s.data.toList k
    · have hE := heq true ⟨fun _ => he, fun _ => rfl⟩
      by_cases hik : i < k
      · obtain rfl : r = true := hr.2 (Or.inr ⟨he, hik⟩)
        have h2 : (i : Int) < (k : Int) := by omega
        clear hr hbl heq hi hk hs he hik
        go_enter Try.func44, Try.ntmps44
        go_wp2_with fail
        refine (H1.out _).mono ?_
        rintro e w1 ⟨rfl, hb1⟩
        have HB1 := Lib.hid hb1
        clear hb1
        go_wp2_with fail
        refine (H2.out _).mono ?_
        rintro e w2 ⟨rfl, hb2⟩
        have HB2 := Lib.hid (HB1.out.trans (hb2.mono HB1.out.size))
        clear hb2
        go_wp2_with fail
        go_ret
        exact ⟨rfl, HB2.out⟩
      · obtain rfl : r = false := by
          cases r
          · rfl
          · rcases hr.1 rfl with h | h
            · cases h
            · exact absurd h.2 hik
        have h2 : decide (i < k) = false := by simp only [decide_eq_false_iff_not]; exact hik
        clear hr hbl heq hi hk hs he hik
        go_enter Try.func44, Try.ntmps44
        go_wp2_with fail
        refine (H1.out _).mono ?_
        rintro e w1 ⟨rfl, hb1⟩
        have HB1 := Lib.hid hb1
        clear hb1
        go_wp2_with fail
        refine (H2.out _).mono ?_
        rintro e w2 ⟨rfl, hb2⟩
        have HB2 := Lib.hid (HB1.out.trans (hb2.mono HB1.out.size))
        clear hb2
        go_wp2_with fail
        go_ret
        exact ⟨rfl, HB2.out⟩
    · have hE := heq false ⟨fun e => (by cases e), fun e => absurd e he⟩
      obtain rfl : r = false := by
        cases r
        · rfl
        · rcases hr.1 rfl with h | h
          · cases h
          · exact absurd h.1 he
      clear hr hbl heq hi hk hs he
      go_enter Try.func44, Try.ntmps44
      go_wp2_with fail
      refine (H1.out _).mono ?_
      rintro e w1 ⟨rfl, hb1⟩
      have HB1 := Lib.hid hb1
      clear hb1
      go_wp2_with fail
      refine (H2.out _).mono ?_
      rintro e w2 ⟨rfl, hb2⟩
      have HB2 := Lib.hid (HB1.out.trans (hb2.mono HB1.out.size))
      clear hb2
      go_wp2_with fail
      go_ret
      exact ⟨rfl, HB2.out⟩
end Go.Proofs.Ytfedhppcmmponaa

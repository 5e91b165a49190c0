/-
  THE WALKS OF LAYER 3's CODE (package rle): a row of like bytes, the rows of a text.
-/
import Derived.Test.YtfaalgogagpimaaDoorRow
import Derived.Test.YtfaalgogagpimaaDoorRleMath
import Derived.Deep.RegionLaw
import Derived.Deep.QuietTactic
import Derived.Outline
namespace Go.Proofs.YtfaalgogagpimaaDoor
open Go.RowKit RleM
set_option linter.unusedVariables false

/-- Bytes k of a text. -/
theorem byte_at {s : ByteArray} {L : List UInt8} (h : s.data.toList = L) {k : Nat} (hk : k < s.size) : L[k]? = some s[k] := by
  subst h
  simp [ByteArray.getElem_eq_getElem_data, hk]
theorem text_cons {s : ByteArray} (h0 : 0 < s.size) : ∃ c l, s.data.toList = c :: l := by
  cases h : s.data.toList with
  | nil =>
    have h1 : s.data.toList.length = 0 := by rw [h]; rfl
    have h2 : s.size = 0 := h1
    omega
  | cons c l => exact ⟨c, l, rfl⟩
theorem byte_ne {a b : UInt8} (h : a ≠ b) : ((a.toNat : Int) == (b.toNat : Int)) = false := by
  rw [beq_eq_false_iff_ne]
  intro e
  exact h (UInt8.toNat_inj.1 (by omega))
theorem byte_eq {a b : UInt8} (h : a = b) : ((a.toNat : Int) == (b.toNat : Int)) = true := by rw [h]; simp
theorem ints_inj {k : IntKind} {a b : Int} (h : a = b) : Ending.returned (.int k a) = .returned (.int k b) := by rw [h]
set_option maxHeartbeats 400000 in
theorem row_any (s : ByteArray) (w : World) (h0 : 0 < s.size) (hs : s.size ≤ maxLen) : Calls Tryd.prog 53 #[.string s] w fun e w' => e = .returned (.int .i64 (row s.data.toList : Int)) ∧ ∃ n, w' = w.drewN n := by
  unfold maxLen at hs
  obtain ⟨c, l, hL⟩ := text_cons h0
  have hc : s[0] = c := by have := byte_at hL h0; simpa using this.symm
  have HZ : Hid (s.size = (c :: l).length) := Lib.hid (by rw [← hL]; rfl)
  have HL := Lib.hid hL
  have HC := Lib.hid hc
  clear hL hc
  obtain ⟨M, hM⟩ : ∃ M : Int, (if 255 < (s.size : Int) then (255 : Int) else (s.size : Int)) = M := ⟨_, rfl⟩
  have m1 : M ≤ 255 := by rw [← hM]; split <;> omega
  have m2 : M ≤ s.size := by rw [← hM]; split <;> omega
  have m3 : Hid (M = 255 ∨ M = s.size) := Lib.hid (by rw [← hM]; split; exact Or.inl rfl; exact Or.inr rfl)
  go_enter Tryd.func53, Tryd.ntmps53
  go_wp2_with fail
  go_loopw [3] (fun n wr => ∃ k m : Nat, (k : Int) ≤ M ∧ Hid (∀ j, j < k → (c :: l)[j]? = some c) ∧ n = .int .i64 k ∧ wr = w.drewN m) (fun n _ => 255 - (intOf n).toNat)
  case atStart => exact ⟨0, 0, by rw [← hM]; split <;> omega, Lib.hid (fun j hj => by omega), rfl, rfl⟩
  case round =>
    obtain ⟨k, m, hk, hall, rfl, rfl⟩ := hrel
    by_cases hlt : (k : Int) < M
    · have hks : k < s.size := by omega
      by_cases he : s[k] = s[0]
      · have hb := byte_eq he
        have HE := Lib.hid he
        clear he
        go_wp2_with fail
        go_quiet (fail)
        go_wp2_with fail
        go_roundw
        case rel => exact ⟨k + 1, _, by omega, Lib.hid (fun j hj => by
          rcases Nat.lt_or_ge j k with h | h
          · exact hall.out j h
          · obtain rfl : j = k := by omega
            rw [byte_at HL.out hks, HE.out, HC.out]), by go_num, rfl⟩
        case measure => simp [intOf]; omega
      · have hb := byte_ne he
        have HE := Lib.hid he
        clear he
        go_wp2_with fail
        go_quiet (fail)
        go_wp2_with fail
        go_ret
        refine ⟨ints_inj ?_, _, World.drewN_drewN ..⟩
        rw [HL.out, row_of c l k (by omega) hall.out (Or.inr (Or.inr ⟨s[k], byte_at HL.out hks, by rw [← HC.out]; exact HE.out⟩))]
    · have hd : decide ((k : Int) < M) = false := by simp only [decide_eq_false_iff_not]; exact hlt
      go_wp2_with fail
      go_quiet (fail)
      go_wp2_with fail
      go_ret
      refine ⟨ints_inj ?_, _, World.drewN_drewN ..⟩
      rw [HL.out, row_of c l k (by omega) hall.out (by have := HZ.out; rcases m3.out with h | h; exact Or.inl (by omega); exact Or.inr (Or.inl (by omega)))]
set_option maxHeartbeats 400000 in
theorem refRow_any (s : ByteArray) (w : World) (h0 : 0 < s.size) (hs : s.size ≤ maxLen) : Calls Tryd.prog 38 #[.string s] w fun e w' => e = .returned (.int .i64 (row s.data.toList : Int)) ∧ ∃ n, w' = w.drewN n := by
  unfold maxLen at hs
  obtain ⟨c, l, hL⟩ := text_cons h0
  have hc : s[0] = c := by have := byte_at hL h0; simpa using this.symm
  have HZ : Hid (s.size = (c :: l).length) := Lib.hid (by rw [← hL]; rfl)
  have HL := Lib.hid hL
  have HC := Lib.hid hc
  clear hL hc
  go_enter Tryd.func38, Tryd.ntmps38
  go_wp2_with fail
  go_loopw [3] (fun n wr => ∃ k m : Nat, k ≤ s.size ∧ k ≤ 255 ∧ Hid (∀ j, j < k → (c :: l)[j]? = some c) ∧ n = .int .i64 k ∧ wr = w.drewN m) (fun n _ => 255 - (intOf n).toNat)
  case atStart => exact ⟨0, 0, by omega, by omega, Lib.hid (fun j hj => by omega), rfl, rfl⟩
  case round =>
    obtain ⟨k, m, hk, hk2, hall, rfl, rfl⟩ := hrel
    by_cases hks : k < s.size
    · by_cases h255 : (k : Int) < 255
      · have hk0 : (0 : Int) ≤ (k : Int) := by omega
        by_cases he : s[k] = s[0]
        · have hb := byte_eq he
          have HE := Lib.hid he
          clear he
          go_wp2_with fail
          go_quiet (fail)
          go_wp2_with fail
          go_roundw
          case rel => exact ⟨k + 1, _, by omega, by omega, Lib.hid (fun j hj => by
            rcases Nat.lt_or_ge j k with h | h
            · exact hall.out j h
            · obtain rfl : j = k := by omega
              rw [byte_at HL.out hks, HE.out, HC.out]), by go_num, rfl⟩
          case measure => simp [intOf]; omega
        · have hb := byte_ne he
          have HE := Lib.hid he
          clear he
          go_wp2_with fail
          go_quiet (fail)
          go_wp2_with fail
          go_ret
          refine ⟨ints_inj ?_, _, World.drewN_drewN ..⟩
          rw [HL.out, row_of c l k (by omega) hall.out (Or.inr (Or.inr ⟨s[k], byte_at HL.out hks, by rw [← HC.out]; exact HE.out⟩))]
      · have hd : decide ((k : Int) < 255) = false := by simp only [decide_eq_false_iff_not]; exact h255
        go_wp2_with fail
        go_quiet (fail)
        go_wp2_with fail
        go_ret
        refine ⟨ints_inj ?_, _, World.drewN_drewN ..⟩
        rw [HL.out, row_of c l k (by omega) hall.out (Or.inl (by omega))]
    · have hd : decide ((k : Int) < (s.size : Int)) = false := by simp only [decide_eq_false_iff_not]; omega
      have hd2 : decide (k < s.size) = false := by simp only [decide_eq_false_iff_not]; omega
      go_wp2_with fail
      go_quiet (fail)
      go_wp2_with fail
      go_ret
      refine ⟨ints_inj ?_, _, World.drewN_drewN ..⟩
      rw [HL.out, row_of c l k (by omega) hall.out (Or.inr (Or.inl (by have := HZ.out; omega)))]

/-- A piece as a value. -/
def pcCells (p : Pc) : List Value := [.int .u8 (p.1.toNat : Int), .int .i64 (p.2 : Int)]
def pcv (p : Pc) : Value := .agg #[.int .u8 (p.1.toNat : Int), .int .i64 (p.2 : Int)]
def vsize : Value → Nat
  | .string t => t.size
  | _ => 0
theorem ext_data (t : ByteArray) (n : Nat) : (t.extract n t.size).data.toList = t.data.toList.drop n := by
  have e : t.size = t.data.toList.length := rfl
  rw [ByteArray.data_extract, e]
  simp only [Array.toList_extract, List.extract_eq_take_drop]
  rw [List.take_of_length_le (by simp)]
set_option maxRecDepth 100000 in
set_option maxHeartbeats 400000 in
/-- THE ROWS OF A TEXT, HANDED ON: I is what the one that is told keeps. -/
theorem rows_any (F : FuncId) (caps : Array Value) (I : List Pc → World → Prop) (s : ByteArray) (w : World) (hs : s.size ≤ maxLen)
    (he : ∀ args w, (callFunc F args).run Tryd.prog w = .ok (.enter F args) w) (hd : ∀ ps w n, I ps w → I ps (w.drewN n))
    (hI : ∀ ps p qs w, pieces s.data.toList = ps ++ p :: qs → I ps w → Calls Tryd.prog F (#[pcv p] ++ caps) w fun e w' => e = .returned (.tuple #[]) ∧ I (ps ++ [p]) w')
    (h0 : I [] w) : Calls Tryd.prog 36 #[.string s, .func (.func F) #[] caps] w fun e w' => e = .returned (.tuple #[]) ∧ I (pieces s.data.toList) w' := by
  have HI := Lib.hid hI
  have HD := Lib.hid hd
  have H0 := Lib.hid h0
  unfold maxLen at hs
  clear hI hd h0
  go_enter Tryd.func36, Tryd.ntmps36
  go_wp2_with fail
  go_loopw [0] (fun v wr => ∃ (t : ByteArray) (ps : List Pc), v = .string t ∧ t.size ≤ s.size ∧ Hid (pieces s.data.toList = ps ++ pieces t.data.toList) ∧ Hid (I ps wr)) (fun v _ => vsize v)
  case atStart => exact ⟨s, [], rfl, Nat.le_refl _, Lib.hid rfl, H0⟩
  case round =>
    obtain ⟨t, ps, rfl, ht, hps, hI⟩ := hrel
    by_cases h0 : 0 < t.size
    · obtain ⟨c, l, hL⟩ := text_cons h0
      have hc : t[0] = c := by have := byte_at hL h0; simpa using this.symm
      have HL := Lib.hid hL
      have HC := Lib.hid hc
      have hr1 : 1 ≤ row t.data.toList := by rw [hL]; exact row_pos c l
      have hr2 : row t.data.toList ≤ t.size := row_le _
      have hr3 : row t.data.toList ≤ 255 := row_255 _
      clear hL hc
      go_wp2_with fail
      refine (row_any t wr h0 (by unfold maxLen; omega)).mono ?_
      rintro e w' ⟨rfl, m, rfl⟩
      generalize hR : row t.data.toList = R at *
      have HR := Lib.hid hR
      clear hR
      go_wp2_with fail
      refine (HI.out ps (t[0], R) (pieces ((c :: l).drop R)) _ (by rw [hps.out, HL.out, pieces_cons, ← HL.out, HR.out, HC.out]) (HD.out _ _ _ hI.out)).mono ?_
      rintro e w2 ⟨rfl, hI2⟩
      have HI2 := Lib.hid hI2
      clear hI2
      go_wp2_with fail
      go_roundw
      case rel => exact ⟨_, ps ++ [(t[0], R)], rfl, by simp [ByteArray.size_extract]; omega, Lib.hid (by rw [hps.out, ext_data, HL.out, pieces_cons, ← HL.out, HR.out, HC.out]; simp), HI2⟩
      case measure => simp [vsize, ByteArray.size_extract]; omega
    · have hz : t.size = 0 := by omega
      have hnil : t.data.toList = [] := List.eq_nil_of_length_eq_zero hz
      have HN := Lib.hid hnil
      clear hz hnil
      go_wp2_with fail
      go_end0
      rw [hps.out, HN.out, pieces_nil, List.append_nil]
      exact ⟨rfl, hI.out⟩
end Go.Proofs.YtfaalgogagpimaaDoor

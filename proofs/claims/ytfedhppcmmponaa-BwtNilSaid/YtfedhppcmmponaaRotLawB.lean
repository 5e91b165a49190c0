/-
  LAYER 15's STATEMENTS: RotatePeriods, RotateSorts, RotateAlike, RotateOne.
-/
import Derived.Test.YtfedhppcmmponaaRotLawA
namespace Go.Proofs.Ytfedhppcmmponaa
open Go.RowKit BwtM PkM
set_option linter.unusedVariables false
theorem no_bytes (s : ByteArray) (h : s.size = 0) : s = ByteArray.empty := by
  apply ByteArray.ext
  apply Array.toList_inj.1
  have h2 := txt_len s
  rw [h] at h2
  rw [List.eq_nil_of_length_eq_zero h2]
  rfl
theorem some_bytes (s : ByteArray) (h : 0 < s.size) : s.toList.isEmpty = false := by
  rw [ByteArray.toList_eq]
  have h2 := txt_len s
  cases hl : s.data.toList with
  | nil => rw [hl] at h2; simp at h2; omega
  | cons a t => rfl
theorem sorts_iff (s : ByteArray) (zs : List Int) : SortsP s.data.toList zs ↔ zs = toI (sortP s.data.toList s.size) := by
  have h := sortP_is s.data.toList
  rw [txt_len] at h
  constructor
  · rintro ⟨P, hP, rfl⟩
    rw [hP.same h]
  · rintro rfl
    exact ⟨_, h, rfl⟩
theorem alike_cmp {T : List UInt8} {i k p : Nat} {c : Int} (hi : i < T.length) (hk : k < T.length) (hp : IsPeriod T p) (h : IsCmp T i k c) : c = 0 ↔ ((i : Int) - (k : Int)).tmod (p : Int) = 0 := by
  have h2 : c = 0 ↔ eqH T T.length i k := by
    rcases h with ⟨rfl, h⟩ | ⟨rfl, h⟩ | ⟨rfl, h⟩
    · exact ⟨fun e => absurd e (by decide), fun e => absurd e h.noteq⟩
    · exact ⟨fun _ => h, fun _ => rfl⟩
    · exact ⟨fun e => absurd e (by decide), fun e => absurd e.symm h.noteq⟩
  rw [h2, eqH_rot (by omega) (by omega), alike hp hi hk, ← Int.dvd_iff_emod_eq_zero, Int.dvd_iff_tmod_eq_zero]
end Go.Proofs.Ytfedhppcmmponaa

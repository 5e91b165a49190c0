/-
  THE WALKS OF THE DOCUMENT's ANSWERS OF LAYER 10 (balerref10): does a text begin with another one; the symbol with which bits begin.
-/
import Derived.Test.YtclmnmfdajlddaaCanRefB
import Derived.Test.YtclmnmfdajlddaaCanLawB
namespace Go.Proofs.Ytclmnmfdajlddaa
open Go.RowKit CanM HufM BitM
set_option linter.unusedVariables false
theorem begins_iff {zs : List Int} (hwh : WholeP zs) {i : Nat} (hi : i < zs.length) (q : List Bool) : CanM.Begins zs (ln zs i, i) q ↔ (code zs i).length ≤ q.length ∧ q.take (code zs i).length = code zs i := by
  rw [code_length]
  unfold CanM.Begins
  refine and_congr_right fun hl => ?_
  have hc : cod zs (ln zs i, i) < 2 ^ ln zs i := cod_lt (x := (ln zs i, i)) (ent_of hi) hwh.2 (ln_bd (fun z hz => hwh.1 z hz) hi).2
  have hlen : (q.take (ln zs i)).length = ln zs i := by rw [List.length_take]; exact Nat.min_eq_left hl
  constructor
  · intro h
    have h2 := field_of (q.take (ln zs i))
    rw [hlen, h] at h2
    exact h2.symm
  · intro h
    show num (q.take (ln zs i)) = _
    rw [h]
    unfold code
    rw [field_num, Nat.mod_eq_of_lt hc]
set_option maxHeartbeats 1000000 in
theorem begins_any (q C : List Bool) (r : Bool) (w : World) (hq : q.length ≤ 1099511627776) (hr : r = true ↔ C.length ≤ q.length ∧ q.take C.length = C) :
    Calls Try.prog 63 #[.string (txt q), .string (txt C)] w fun e w' => e = .returned (.bool r) ∧ w' = w := by
  have hsq := txt_size q
  have hsc := txt_size C
  by_cases hl : C.length ≤ q.length
  · have hb := txt_test (q.take C.length) C r (by rw [hr]; exact ⟨fun h => h.2, fun h => ⟨hl, h⟩⟩)
    rw [← txt_take q C.length hl, ← hsc] at hb
    have hli : ((txt C).size : Int) ≤ (txt q).size := by omega
    have hqb : (txt q).size ≤ 1099511627776 := by omega
    clear hr hl hsq hsc
    generalize txt q = S at *
    generalize txt C = T at *
    go_enter Try.func63, Try.ntmps63
    go_wp2_with fail
    go_ret
    exact ⟨rfl, rfl⟩
  · obtain rfl : r = false := by rw [Bool.eq_false_iff, Ne, hr]; exact fun h => hl h.1
    have hli : ¬ ((txt C).size : Int) ≤ (txt q).size := by omega
    have hqb : (txt q).size ≤ 1099511627776 := by omega
    clear hr hl hsq hsc
    generalize txt q = S at *
    generalize txt C = T at *
    go_enter Try.func63, Try.ntmps63
    go_wp2_with fail
    go_ret
    exact ⟨rfl, rfl⟩
/-- The symbol with which bits begin. -/
def GetR (zs : List Int) (q : List Bool) (x : Int) : Prop := (∃ i, i < zs.length ∧ CanM.Begins zs (ln zs i, i) q ∧ x = (i : Int)) ∨ ((∀ i, i < zs.length → ¬ CanM.Begins zs (ln zs i, i) q) ∧ x = -1)
set_option maxRecDepth 100000 in
set_option maxHeartbeats 1000000 in
theorem rget_any (g N : Nat) (zs : List Int) (q : List Bool) (w : World) (hN : zs.length = N) (h258 : N ≤ 258) (hwh : WholeP zs) (hR : RowS w g N (fun j => txt (code zs j))) (hq : q.length ≤ 1099511627776) :
    Calls Try.prog 45 #[.slice (some ⟨g, 0, none⟩) N N, .string (txt q)] w fun e w' => ∃ x : Int, e = .returned (.int .i64 x) ∧ GetR zs q x ∧ w' = w := by
  have HN := Lib.hid hN
  have HW := Lib.hid hwh
  have HR := Lib.hid hR
  clear hN hwh hR
  have hqs : (txt q).size ≤ 1099511627776 := by rw [txt_size]; exact hq
  go_enter Try.func45, Try.ntmps45
  go_wp2_with fail
  go_loopw [9] (fun vi wr => ∃ i : Nat, vi = .int .i64 (i : Int) ∧ i ≤ N ∧ (∀ j, j < i → ¬ CanM.Begins zs (ln zs j, j) q) ∧ wr = w) (fun vi _ => N - (intOf vi).toNat)
  case atStart => exact ⟨0, rfl, by omega, fun j hj => by omega, rfl⟩
  case round =>
    obtain ⟨i, rfl, hi, hno, rfl⟩ := hrel
    have HNO := Lib.hid hno
    clear hno
    by_cases hlk : i < N
    · have hki : (i : Int) < (N : Int) := by omega
      have hlz : i < zs.length := by rw [HN.out]; exact hlk
      obtain ⟨d0, _, _⟩ := HR.out.cell (i := i) hlk
      have hcl : (code zs i).length ≤ 20 := by rw [code_length]; exact (ln_bd (fun z hz => HW.out.1 z hz) hlz).2
      obtain ⟨C, hC⟩ : ∃ C, code zs i = C := ⟨_, rfl⟩
      rw [hC] at d0
      have HC := Lib.hid hC
      have hcs : (txt C).size ≤ 20 := by rw [txt_size, ← hC]; exact hcl
      clear hC hcl
      by_cases hb : CanM.Begins zs (ln zs i, i) q
      · have HB := Lib.hid hb
        have HBG := Lib.hid (begins_any q C true wr hq ⟨fun _ => by rw [← HC.out]; exact (begins_iff HW.out hlz q).1 hb, fun _ => rfl⟩)
        clear hb
        go_wp2_with fail
        refine HBG.out.mono ?_
        rintro e w2 ⟨rfl, rfl⟩
        go_wp2_with fail
        go_ret
        exact ⟨(i : Int), rfl, Or.inl ⟨i, hlz, HB.out, rfl⟩, rfl⟩
      · have HNX : Hid (∀ j, j < i + 1 → ¬ CanM.Begins zs (ln zs j, j) q) := Lib.hid (fun j hj => by
          rcases Nat.lt_succ_iff_lt_or_eq.1 hj with h | h
          · exact HNO.out j h
          · rw [h]; exact hb)
        have HBG := Lib.hid (begins_any q C false wr hq ⟨fun h => (by cases h), fun h => absurd ((begins_iff HW.out hlz q).2 (by rw [HC.out]; exact h)) hb⟩)
        clear hb
        go_wp2_with fail
        refine HBG.out.mono ?_
        rintro e w2 ⟨rfl, rfl⟩
        go_wp2_with fail
        go_roundw
        case rel => exact ⟨i + 1, by go_num, by omega, HNX.out, by first | rfl | trivial⟩
        case measure => simp [intOf]; omega
    · obtain rfl : i = N := by omega
      go_wp2_with fail
      go_ret
      exact ⟨-1, rfl, Or.inr ⟨fun j hj => HNO.out j (by rw [← HN.out]; exact hj), rfl⟩, rfl⟩
end Go.Proofs.Ytclmnmfdajlddaa

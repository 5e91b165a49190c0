/-
  THE DOCUMENT's Pack (balerref01): the bytes of bits, the last one filled.
-/
import Derived.Test.YtpjjchmbolopnaaBitsRefB
namespace Go.Proofs.Ytpjjchmbolopnaa
open Go.RowKit BitM
set_option linter.unusedVariables false
set_option maxHeartbeats 400000 in
theorem pack_any (q : List Bool) (w : World) (hq : q.length ≤ 1099511620000) : Calls Try.prog 19 #[.string (txt q)] w fun e w' => e = .returned (.string ⟨(byts (q ++ padding q)).toArray⟩) ∧ Below w.heap.size w w' := by
  have HP : Hid (Calls Try.prog 39 #[.string (txt q)] w fun e w' => e = .returned (.string (txt (q ++ padding q))) ∧ w = w') := Lib.hid (padded_any q w (by omega))
  have HBY := Lib.hid (bytes_any (q ++ padding q) w (by
    have h1 : (padding q).length < 8 := by unfold padding; rw [field_length]; omega
    rw [List.length_append]; omega))
  go_enter Try.func19, Try.ntmps19
  go_wp2_with fail
  refine HP.out.mono ?_
  rintro e w1 ⟨rfl, rfl⟩
  go_wp2_with fail
  refine HBY.out.mono ?_
  rintro e w2 ⟨rfl, hb⟩
  have HB := Lib.hid hb
  clear hb
  go_wp2_with fail
  go_ret
  exact ⟨rfl, HB.out⟩
end Go.Proofs.Ytpjjchmbolopnaa

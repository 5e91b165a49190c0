/-
  THE DOCUMENT's Pack (balerref01): the bytes of bits, the last one filled.
-/
import Derived.Test.YtnachbjhhpnadaaGreatDoorBitsRefB
namespace Go.Proofs.YtnachbjhhpnadaaGreatDoor
open Go.RowKit BitM
set_option linter.unusedVariables false
set_option maxHeartbeats 400000 in
theorem pack_any (q : List Bool) (w : World) (hq : q.length ≤ 1099511620000) : Calls Tryz.prog 18 #[.string (txt q)] w fun e w' => e = .returned (.string ⟨(byts (q ++ padding q)).toArray⟩) ∧ Below w.heap.size w w' := by
  have HP : Hid (Calls Tryz.prog 50 #[.string (txt q)] w fun e w' => e = .returned (.string (txt (q ++ padding q))) ∧ w = w') := Lib.hid (padded_any q w (by omega))
  have HBY := Lib.hid (bytes_any (q ++ padding q) w (by
    have h1 : (padding q).length < 8 := by unfold padding; rw [field_length]; omega
    rw [List.length_append]; omega))
  go_enter Tryz.func18, Tryz.ntmps18
  go_wp2_with fail
  refine HP.out.mono ?_
  rintro e w1 ⟨rfl, rfl⟩
  go_wp2_with fail
  refine HBY.out.mono ?_
  rintro e w2 ⟨rfl, hb⟩
  have HB := Lib.hid hb
  clear hb
  go_wp2_with fail
  go_ret
  exact ⟨rfl, HB.out⟩
theorem pad_bytes (Q : List Bool) : ∃ n, (Q ++ padding Q).length = 8 * n ∧ 8 * n ≤ Q.length + 7 := by
  have h : (Q ++ padding Q).length = Q.length + (8 - Q.length % 8) % 8 := by
    rw [List.length_append]
    unfold padding
    rw [field_length]
  exact ⟨(Q.length + (8 - Q.length % 8) % 8) / 8, by omega, by omega⟩
theorem app_list (a b : ByteArray) : (a ++ b).data.toList = a.data.toList ++ b.data.toList := by
  rw [ByteArray.data_append, Array.toList_append]
/-- The bits of the taken bytes and what is behind them. -/
theorem taken_bits (Q : List Bool) (s : ByteArray) : bitsOf ((⟨(byts (Q ++ padding Q)).toArray⟩ : ByteArray) ++ s).data.toList = Q ++ (padding Q ++ bitsOf s.data.toList) := by
  obtain ⟨n, hn, _⟩ := pad_bytes Q
  rw [app_list, bitsOf_append]
  show bitsOf (byts (Q ++ padding Q)) ++ _ = _
  rw [bitsOf_byts n _ hn, List.append_assoc]
end Go.Proofs.YtnachbjhhpnadaaGreatDoor

/-
  THE WALKS OF THE DOCUMENT's ANSWERS OF LAYER 1 (balerref01): bytes of bits.
-/
import Derived.Test.YtnachbjhhpnadaaGreatDoorBitsRef
namespace Go.Proofs.YtnachbjhhpnadaaGreatDoor
open Go.RowKit BitM
set_option linter.unusedVariables false
theorem field_zero_succ (k : Nat) : field 0 k ++ [false] = field 0 (k + 1) := by
  show _ = field (0 / 2) k ++ [0 % 2 == 1]
  rfl
set_option maxHeartbeats 400000 in
theorem padded_any (q : List Bool) (w : World) (hq : q.length ≤ 1099511627776) : Calls Tryz.prog 50 #[.string (txt q)] w fun e w' => e = .returned (.string (txt (q ++ padding q))) ∧ w = w' := by
  have H0 := Lib.hid (show txt (q ++ field 0 0) = txt q by simp [field])
  go_enter Tryz.func50, Tryz.ntmps50
  go_wp2_with fail
  go_loop [0] (fun s => ∃ k : Nat, k ≤ (8 - q.length % 8) % 8 ∧ s = .string (txt (q ++ field 0 k))) (fun s => match s with | .string s => q.length + 8 - s.size | _ => 0)
  case atStart => exact ⟨0, by omega, by rw [H0.out]⟩
  case round =>
    obtain ⟨k, hk, rfl⟩ := hrel
    have hsz : (txt (q ++ field 0 k)).size = q.length + k := by rw [txt_size, List.length_append, field_length]
    have HS1 : Hid (txt (q ++ field 0 k) ++ ⟨#[48]⟩ = txt (q ++ field 0 (k + 1))) := Lib.hid (by
      rw [← field_zero_succ, ← List.append_assoc, show (⟨#[48]⟩ : ByteArray) = txt [false] from rfl, txt_append])
    have hsz1 : (txt (q ++ field 0 (k + 1))).size = q.length + (k + 1) := by rw [txt_size, List.length_append, field_length]
    have HSE : Hid (k = (8 - q.length % 8) % 8 → txt (q ++ field 0 k) = txt (q ++ padding q)) := Lib.hid (fun h => by rw [h]; rfl)
    generalize txt (q ++ field 0 k) = T at *
    obtain ⟨T1, hT1⟩ : ∃ T1, txt (q ++ field 0 (k + 1)) = T1 := ⟨_, rfl⟩
    rw [hT1] at HS1 hsz1
    have HT1 := Lib.hid hT1
    clear hT1
    by_cases hlt : k < (8 - q.length % 8) % 8
    · have hc : ((T.size : Int) % 8 != 0) = true := by simp only [bne_iff_ne]; omega
      have h1 : (⟨#[48]⟩ : ByteArray).size = 1 := rfl
      go_wp2_with fail
      rw [HS1.out]
      exact ⟨⟨k + 1, by omega, by rw [HT1.out]⟩, by show q.length + 8 - T1.size < q.length + 8 - T.size; omega⟩
    · have hc : ((T.size : Int) % 8 != 0) = false := by simp only [bne_eq_false_iff_eq]; omega
      go_wp2_with fail
      go_ret
      rw [HSE.out (by omega)]
      exact ⟨rfl, rfl⟩
theorem txt_take (q : List Bool) (n : Nat) (h : n ≤ q.length) : (txt q).extract 0 n = txt (q.take n) := by
  apply ByteArray.ext
  simp [txt]
theorem txt_drop (q : List Bool) (n : Nat) (h : n ≤ q.length) : (txt q).extract n (txt q).size = txt (q.drop n) := by
  apply ByteArray.ext
  have e : (txt q).size = q.length := txt_size q
  rw [e]
  simp only [txt, ByteArray.data_extract, List.extract_toArray, List.extract_eq_take_drop, List.map_drop]
  rw [List.take_of_length_le (by simp)]
theorem byts_get (q : List Bool) (k : Nat) (h : k < q.length / 8) : ∃ x : UInt8, (byts q)[k]? = some x ∧ num ((q.drop (8 * k)).take 8) = x.toNat := by
  refine ⟨UInt8.ofNat (num ((q.drop (8 * k)).take 8)), ?_, ?_⟩
  · unfold byts
    rw [List.getElem?_map, List.getElem?_range h]; rfl
  · have hlt := num_lt ((q.drop (8 * k)).take 8)
    have hl : ((q.drop (8 * k)).take 8).length = 8 := by simp; omega
    rw [hl] at hlt
    rw [UInt8.toNat_ofNat']; exact (Nat.mod_eq_of_lt hlt).symm
set_option maxHeartbeats 400000 in
theorem bytes_any (q : List Bool) (w : World) (hq : q.length ≤ 1099511627776) : Calls Tryz.prog 49 #[.string (txt q)] w fun e w' => e = .returned (.string ⟨(byts q).toArray⟩) ∧ Below w.heap.size w w' := by
  go_enter Tryz.func49, Tryz.ntmps49
  go_wp2_with fail
  go_loopw [0, 3] (fun s o wr => ∃ k : Nat, k ≤ q.length / 8 ∧ s = .string (txt (q.drop (8 * k))) ∧ o = .string ⟨((byts q).take k).toArray⟩ ∧ Below w.heap.size w wr) (fun s _ _ => match s with | .string s => s.size | _ => 0)
  case atStart => exact ⟨0, by omega, rfl, rfl, Below.refl _ _⟩
  case round =>
    obtain ⟨k, hk, rfl, rfl, hB⟩ := hrel
    have HB := Lib.hid hB
    clear hB
    have hsz : (txt (q.drop (8 * k))).size = q.length - 8 * k := by rw [txt_size, List.length_drop]
    by_cases hlt : k < q.length / 8
    · have HT8 : Hid ((txt (q.drop (8 * k))).extract 0 8 = txt ((q.drop (8 * k)).take 8)) := Lib.hid (txt_take _ _ (by simp; omega))
      have HD8 : Hid ((txt (q.drop (8 * k))).extract 8 (txt (q.drop (8 * k))).size = txt (q.drop (8 * (k + 1)))) := Lib.hid (by
        rw [txt_drop _ _ (by simp; omega), List.drop_drop]; rfl)
      obtain ⟨x, hx, hn⟩ := byts_get q k hlt
      have HNUM : ∀ w, Calls Tryz.prog 69 #[.string ((txt (q.drop (8 * k))).extract 0 8)] w fun e w' => e = .returned (.int .u32 (x.toNat : Int)) ∧ w = w' := fun w => by
        rw [HT8.out, ← hn]; exact number_any _ w (by simp; omega)
      have hnum := Lib.hid HNUM
      have hos : (⟨((byts q).take k).toArray⟩ : ByteArray).size ≤ 1099511627776 := by show ((byts q).take k).toArray.size ≤ _; simp [byts_length]; omega
      have HX : Hid ((⟨((byts q).take k).toArray⟩ : ByteArray) ++ ⟨#[x]⟩ = ⟨((byts q).take (k + 1)).toArray⟩) := Lib.hid (by
        apply ByteArray.ext
        rw [List.take_add_one, hx]; simp)
      have hx1 : (⟨#[x]⟩ : ByteArray).size = 1 := rfl
      have hxt := x.toNat_lt
      clear HNUM hn hx
      generalize txt (q.drop (8 * k)) = T at *
      generalize (⟨((byts q).take k).toArray⟩ : ByteArray) = O at *
      go_wp2_with fail
      refine (hnum.out wr).mono ?_
      rintro e w' ⟨rfl, rfl⟩
      have hcv : (convert 71 9 (.slice (some ⟨wr.heap.size, 0, none⟩) 1 1)).run Tryz.prog (wr.alloc (.cells #[.int .u8 (x.toNat : Int)] 5)) = .ok (.string ⟨#[x]⟩) (wr.alloc (.cells #[.int .u8 (x.toNat : Int)] 5)) := run_convert_bytes_back (P := Tryz.prog) (wr.alloc (.cells #[.int .u8 (x.toNat : Int)] 5)) 71 9 5 ⟨wr.heap.size, 0, none⟩ 1 [x] Tryz.underlying71 Tryz.underlying5 Tryz.underlying9 (fun j hj => by
        obtain rfl : j = 0 := by simpa using hj
        have hb : (wr.alloc (.cells #[.int .u8 (x.toNat : Int)] 5)).heap[wr.heap.size]? = some (.cells #[.int .u8 (x.toNat : Int)] 5) := by show (wr.heap.push _)[_]? = _; simp
        rw [Addr.add_lit, cell_of_row _ _ _ _ _ _ hb]; rfl)
      have h8 : 8 ≤ T.size := by omega
      have HTS := Lib.hid hsz
      have HE : Hid ((T.extract 8 T.size).size = T.size - 8) := Lib.hid (by rw [ByteArray.size_extract]; omega)
      clear hsz
      go_wp2_with fail
      refine ⟨⟨k + 1, by omega, ?_, by rw [HX.out], HB.out.alloc HB.out.size _⟩, ?_⟩
      · first
          | rw [HD8.out]
          | (have := HD8.out; have := HTS.out; simp_all)
      · show (T.extract 8 _).size < T.size
        rw [ByteArray.size_extract]
        omega
    · obtain rfl : k = q.length / 8 := by omega
      have HO : Hid ((byts q).take (q.length / 8) = byts q) := Lib.hid (List.take_of_length_le (by rw [byts_length]; exact Nat.le_refl _))
      rw [HO.out]
      go_wp2_with fail
      go_ret
      exact ⟨rfl, HB.out⟩
end Go.Proofs.YtnachbjhhpnadaaGreatDoor

/-
  THE WALKS OF THE DOCUMENT's ANSWERS OF LAYER 5 (balerref05): bytes one by one.
-/
import Derived.Test.YthpgddodfnjmbaaUsedG
import Derived.Test.YthpgddodfnjmbaaBitsRefB
namespace Go.Proofs.Ythpgddodfnjmbaa
open Go.RowKit BitM UsedM
set_option linter.unusedVariables false
theorem has_take (l : List UInt8) (k : Nat) (h : k < l.length) : has (l.take (k + 1)) = put (has (l.take k)) l[k].toNat := by
  rw [List.take_succ_eq_append_getElem h, has_snoc]
set_option maxHeartbeats 1000000 in
theorem there_any (s : ByteArray) (n : Nat) (w : World) (hs : s.size ≤ 9223372036854775807) :
    Calls Try.prog 37 #[.string s, .int .i64 (n : Int)] w fun e w' => e = .returned (.bool (has s.data.toList n)) ∧ w = w' := by
  go_enter Try.func37, Try.ntmps37
  go_wp2_with fail
  go_loop [5] (fun i => ∃ k : Nat, k ≤ s.size ∧ i = .int .i64 k ∧ has (s.data.toList.take k) n = false) (fun i => s.size - (intOf i).toNat)
  case atStart => exact ⟨0, by omega, rfl, by simp [has]⟩
  case round =>
    obtain ⟨k, hk, rfl, hn⟩ := hrel
    by_cases hlt : k < s.size
    · have ht := has_take s.data.toList k (by simpa using hlt)
      have hc := s[k].toNat_lt
      have hsk : s.data.toList[k]'(by simpa using hlt) = s[k] := rfl
      rw [hsk] at ht
      by_cases he : s[k].toNat = n
      · have hr : has s.data.toList n = true := by
          have h1 := has_mem s.data.toList s[k]
          rw [he] at h1
          rw [h1, ← hsk]
          exact List.getElem_mem _
        have hd : ((s[k].toNat : Int) == (n : Int)) = true := by rw [beq_iff_eq]; omega
        have HRR := Lib.hid hr
        clear hn ht hsk hr
        go_wp2_with fail
        go_ret
        exact ⟨by rw [HRR.out]; rfl, rfl⟩
      · have hd : ((s[k].toNat : Int) == (n : Int)) = false := by rw [beq_eq_false_iff_ne]; omega
        have hn2 : has (s.data.toList.take (k + 1)) n = false := by
          rw [ht]
          unfold put
          rw [hn]
          simp only [Bool.false_or, beq_eq_false_iff_ne]
          omega
        have HN := Lib.hid hn2
        clear hn ht hsk hn2
        go_wp2_with fail
        go_round
        case rel => exact ⟨k + 1, by omega, by go_num, HN.out⟩
        case measure => simp [intOf]; omega
    · obtain rfl : k = s.size := by omega
      rw [List.take_of_length_le (by simp)] at hn
      have HRR := Lib.hid hn
      clear hn
      go_wp2_with fail
      go_ret
      exact ⟨by rw [HRR.out]; rfl, rfl⟩
theorem list_eq_test (a b : ByteArray) (r : Bool) (h : r = true ↔ a = b) : (a.toList == b.toList) = r := by
  rw [Bool.eq_iff_iff, beq_iff_eq, ByteArray.toList_eq, ByteArray.toList_eq, h]
  constructor
  · intro h
    apply ByteArray.ext
    exact Array.toList_inj.1 h
  · rintro rfl
    rfl
set_option maxRecDepth 100000 in
set_option maxHeartbeats 1000000 in
theorem refSymbols_any (s : ByteArray) (w : World) (hs : s.size ≤ 9223372036854775807) :
    Calls Try.prog 18 #[.string s] w fun e w' => e = .returned (.string ⟨(syms (has s.data.toList) 256).toArray⟩) ∧ Below w.heap.size w w' := by
  have HT := Lib.hid (fun n w => there_any s n w hs)
  obtain ⟨S, hS⟩ : ∃ S, has s.data.toList = S := ⟨_, rfl⟩
  simp only [hS] at HT ⊢
  clear hS
  go_enter Try.func18, Try.ntmps18
  go_wp2_with fail
  go_loopw [3, 5] (fun o i wr => ∃ k : Nat, k ≤ 256 ∧ i = .int .i64 k ∧ o = .string ⟨(syms S k).toArray⟩ ∧ Below w.heap.size w wr) (fun _ i _ => 256 - (intOf i).toNat)
  case atStart => exact ⟨0, by omega, rfl, rfl, Below.refl _ _⟩
  case round =>
    obtain ⟨k, hk, rfl, rfl, hB⟩ := hrel
    have HB := Lib.hid hB
    clear hB
    by_cases hlt : k < 256
    · have hk2 : (k : Int) < 256 := by omega
      have hw : IntKind.u8.wrap (k : Int) = (k : Int) := IntWalk.u8_in _ (by omega)
      have HSU := Lib.hid (syms_succ S k)
      have hlen : (⟨(syms S k).toArray⟩ : ByteArray).size ≤ 256 := by rw [text_size]; exact Nat.le_trans (syms_le S k) hk
      have hx : (UInt8.ofNat k).toNat = k := by rw [UInt8.toNat_ofNat', Nat.mod_eq_of_lt (by omega)]
      have hx1 : (⟨#[UInt8.ofNat k]⟩ : ByteArray).size = 1 := rfl
      have hcv := one_conv wr (UInt8.ofNat k) (k : Int) (by rw [hx])
      have HAP := Lib.hid (text_append (syms S k) [UInt8.ofNat k])
      by_cases hsk : S k = true
      · have HS2 := HSU.out
        rw [if_pos hsk] at HS2
        have HS3 := Lib.hid HS2
        generalize hO : (⟨(syms S k).toArray⟩ : ByteArray) = O at *
        clear HS2 hx
        go_wp2_with fail
        refine (HT.out k wr).mono ?_
        rw [hsk]
        clear hsk
        rintro e w' ⟨rfl, rfl⟩
        go_wp2_with fail
        go_roundw
        case rel => exact ⟨k + 1, by omega, by go_num, by rw [HS3.out]; exact congrArg Value.string HAP.out, HB.out.alloc HB.out.size _⟩
        case measure => simp [intOf]; omega
      · have hsf : S k = false := by simpa using hsk
        have HS2 := HSU.out
        rw [hsf] at HS2
        have HS3 := Lib.hid HS2
        clear HS2 hx hsk hcv
        go_wp2_with fail
        refine (HT.out k wr).mono ?_
        rw [hsf]
        clear hsf
        rintro e w' ⟨rfl, rfl⟩
        go_wp2_with fail
        go_roundw
        case rel => exact ⟨k + 1, by omega, by go_num, by rw [HS3.out]; rfl, HB.out⟩
        case measure => simp [intOf]; omega
    · obtain rfl : k = 256 := by omega
      go_wp2_with fail
      go_ret
      exact ⟨rfl, HB.out⟩
set_option maxHeartbeats 1000000 in
theorem refIs_any (s : ByteArray) (r : Bool) (w : World) (hs : s.size ≤ 9223372036854775807) (hr : r = true ↔ IsSyms s.data.toList) :
    Calls Try.prog 20 #[.string s] w fun e w' => e = .returned (.bool r) ∧ Below w.heap.size w w' := by
  by_cases h0 : 0 < s.size
  · have heq := list_eq_test ⟨(syms (has s.data.toList) 256).toArray⟩ s r (by
      rw [hr, isSyms_iff]
      constructor
      · intro h
        rw [h.2]
      · intro h
        have h2 : (syms (has s.data.toList) 256) = s.data.toList := congrArg (fun b : ByteArray => b.data.toList) h
        refine ⟨fun e => ?_, h2⟩
        have : s.data.toList.length = s.size := rfl
        rw [e] at this
        simp at this
        omega)
    have HT := Lib.hid (refSymbols_any s w hs)
    generalize (⟨(syms (has s.data.toList) 256).toArray⟩ : ByteArray) = T at *
    go_enter Try.func20, Try.ntmps20
    go_wp2_with fail
    refine HT.out.mono ?_
    rintro e w1 ⟨rfl, hb⟩
    have HB := Lib.hid hb
    clear hb
    go_wp2_with fail
    go_ret
    exact ⟨rfl, HB.out⟩
  · have hz : s.size = 0 := by omega
    have hrf : r = false := by
      rw [Bool.eq_false_iff, Ne, hr]
      intro h
      exact h.2 (List.eq_nil_of_length_eq_zero hz)
    subst hrf
    obtain rfl : s = ⟨#[]⟩ := ByteArray.ext (Array.eq_empty_of_size_eq_zero hz)
    clear hr hz h0 hs
    go_enter Try.func20, Try.ntmps20
    go_wp2_with fail
    go_ret
    exact ⟨rfl, Below.refl _ _⟩
end Go.Proofs.Ythpgddodfnjmbaa

/-
  THE WALKS OF THE DOCUMENT's ANSWERS OF LAYER 10 (balerref10): the code behind one; a text that begins with another.
-/
import Derived.Test.YtclmnmfdajlddaaCanD
import Derived.Test.YtclmnmfdajlddaaCanMathD
import Derived.Test.YtclmnmfdajlddaaBitsRefB
namespace Go.Proofs.Ytclmnmfdajlddaa
open Go.RowKit CanM HufM BitM
set_option linter.unusedVariables false
theorem txt_get1 (q : List Bool) (k : Nat) (hk : k < q.length) (h : k < (txt q).size) : (txt q)[k] = chr q[k] := by
  have h2 : (txt q).data[k]'(by simpa [txt] using hk) = chr q[k] := by simp [txt]
  exact h2
theorem chr_eq (b : Bool) (x : Int) (h : x = ((chr b).toNat : Int)) : (x == 49) = b := by
  subst h
  cases b <;> rfl
theorem txt_one (b : Bool) (q : List Bool) : txt [b] ++ txt q = txt (b :: q) := txt_append [b] q
theorem txt_zero (q : List Bool) : txt q ++ txt [false] = txt (q ++ [false]) := txt_append q [false]
set_option maxRecDepth 100000 in
set_option maxHeartbeats 2000000 in
theorem next_any (C : List Bool) (n : Nat) (w : World) (hC : C.length ≤ n) (hn : n ≤ 20) :
    Calls Try.prog 54 #[.string (txt C), .int .i64 (n : Int)] w fun e w' => e = .returned (.string (txt (nxtC C n))) ∧ w' = w := by
  obtain ⟨m, hm⟩ : ∃ m, C.length = m := ⟨_, rfl⟩
  have hsz : (txt C).size = m := by rw [txt_size, hm]
  have HM := Lib.hid hm
  rw [hm] at hC
  clear hm
  go_enter Try.func54, Try.ntmps54
  go_wp2_with fail
  go_loopw [5, 6, 7] (fun vo vc vi wr => ∃ t : Nat, vi = .int .i64 ((t : Int) - 1) ∧ t ≤ m ∧ vo = .string (txt (nxtL (C.drop t)).1) ∧ vc = .bool (nxtL (C.drop t)).2 ∧ wr = w) (fun _ _ vi _ => (intOf vi + 1).toNat)
  case atStart =>
    have e : C.drop m = [] := List.drop_of_length_le (by rw [HM.out]; exact Nat.le_refl _)
    exact ⟨m, rfl, Nat.le_refl _, by rw [e]; rfl, by rw [e]; rfl, rfl⟩
  case round =>
    obtain ⟨t, rfl, ht, rfl, rfl, rfl⟩ := hrel
    have hol : (nxtL (C.drop t)).1.length ≤ 20 := by rw [nxtL_length, List.length_drop, HM.out]; omega
    by_cases ht0 : 0 < t
    · obtain ⟨s, rfl⟩ : ∃ s, t = s + 1 := ⟨t - 1, by omega⟩
      have hi : (((s + 1 : Nat) : Int) - 1) = (s : Int) := by omega
      rw [hi]
      have hsC : s < C.length := by rw [HM.out]; omega
      have hsm : (s : Int) < (m : Int) := by omega
      have hdrop : C.drop s = C[s] :: C.drop (s + 1) := List.drop_eq_getElem_cons hsC
      obtain ⟨b, hb⟩ : ∃ b, C[s] = b := ⟨_, rfl⟩
      have hidx : ∀ h : s < (txt C).size, (((txt C)[s]'h).toNat : Int) = ((chr b).toNat : Int) := fun h => by rw [txt_get1 C s hsC h, hb]
      rw [hb] at hdrop
      have HN : Hid ((nxtL (C.drop s)).1 = (b != (nxtL (C.drop (s + 1))).2) :: (nxtL (C.drop (s + 1))).1 ∧ (nxtL (C.drop s)).2 = ((nxtL (C.drop (s + 1))).2 && b)) := Lib.hid (by rw [hdrop]; exact ⟨rfl, rfl⟩)
      obtain ⟨o, ho⟩ : ∃ o, (nxtL (C.drop (s + 1))).1 = o := ⟨_, rfl⟩
      obtain ⟨cc, hcc⟩ : ∃ cc, (nxtL (C.drop (s + 1))).2 = cc := ⟨_, rfl⟩
      rw [ho, hcc] at HN
      rw [ho] at hol
      rw [ho, hcc]
      have hos : (txt o).size ≤ 20 := by rw [txt_size]; exact hol
      clear hdrop hb ho hcc hi hol hsC
      cases b
      · have hidx0 : ∀ h : s < (txt C).size, (((txt C)[s]'h).toNat : Int) = 48 := hidx
        clear hidx
        cases cc
        · go_wp2_with fail
          go_roundw
          case rel => exact ⟨s, by go_num, by omega, by rw [HN.out.1]; exact congrArg Value.string (txt_one false o), by rw [HN.out.2]; rfl, by first | rfl | trivial⟩
          case measure => first | (simp [intOf]; done) | (simp [intOf]; omega)
        · go_wp2_with fail
          go_roundw
          case rel => exact ⟨s, by go_num, by omega, by rw [HN.out.1]; exact congrArg Value.string (txt_one true o), by rw [HN.out.2]; rfl, by first | rfl | trivial⟩
          case measure => first | (simp [intOf]; done) | (simp [intOf]; omega)
      · have hidx0 : ∀ h : s < (txt C).size, (((txt C)[s]'h).toNat : Int) = 49 := hidx
        clear hidx
        cases cc
        · go_wp2_with fail
          go_roundw
          case rel => exact ⟨s, by go_num, by omega, by rw [HN.out.1]; exact congrArg Value.string (txt_one true o), by rw [HN.out.2]; rfl, by first | rfl | trivial⟩
          case measure => first | (simp [intOf]; done) | (simp [intOf]; omega)
        · go_wp2_with fail
          go_roundw
          case rel => exact ⟨s, by go_num, by omega, by rw [HN.out.1]; exact congrArg Value.string (txt_one false o), by rw [HN.out.2]; rfl, by first | rfl | trivial⟩
          case measure => first | (simp [intOf]; done) | (simp [intOf]; omega)
    · obtain rfl : t = 0 := by omega
      rw [List.drop_zero] at hol ⊢
      obtain ⟨o, ho⟩ : ∃ o, (nxtL C).1 = o := ⟨_, rfl⟩
      obtain ⟨cc, hcc⟩ : ∃ cc, (nxtL C).2 = cc := ⟨_, rfl⟩
      have HOL : Hid (o.length = m) := Lib.hid (by rw [← ho, nxtL_length, HM.out])
      have HRES : Hid (nxtC C n = o ++ List.replicate (n - m) false) := Lib.hid (by unfold nxtC; rw [ho, HM.out])
      rw [ho, hcc]
      clear ho hcc hol
      go_wp2_with fail
      obtain ⟨wz, hwz⟩ : ∃ wz : World, wz = wr := ⟨_, rfl⟩
      subst hwz
      go_loopw [5] (fun vo wr => ∃ e : Nat, m + e ≤ n ∧ vo = .string (txt (o ++ List.replicate e false)) ∧ wr = wz) (fun vo _ => n - (match vo with | .string s => s.size | _ => 0))
      case atStart => exact ⟨0, by omega, by simp, rfl⟩
      case round =>
        obtain ⟨e, he, rfl, rfl⟩ := hrel
        have hs1 : (txt (o ++ List.replicate e false)).size = m + e := by rw [txt_size, List.length_append, List.length_replicate, HOL.out]
        have HT : Hid (txt (o ++ List.replicate e false) ++ txt [false] = txt (o ++ List.replicate (e + 1) false)) := Lib.hid (by rw [txt_append, List.append_assoc, List.replicate_succ'])
        have hs2 : Hid ((txt (o ++ List.replicate (e + 1) false)).size = m + (e + 1)) := Lib.hid (by rw [txt_size, List.length_append, List.length_replicate, HOL.out])
        by_cases hen : m + e < n
        · have heni : ((m + e : Nat) : Int) < (n : Int) := by omega
          generalize txt (o ++ List.replicate e false) = T at *
          go_wp2_with fail
          go_roundw
          case rel => exact ⟨e + 1, by omega, congrArg Value.string HT.out, by first | rfl | trivial⟩
          case measure => 
            have h2 := hs2.out
            rw [← HT.out] at h2
            have h3 : (T ++ (⟨#[48]⟩ : ByteArray)).size = m + (e + 1) := h2
            simp only [h3, hs1]
            omega
        · have heni : ¬ ((m + e : Nat) : Int) < (n : Int) := by omega
          have HE : Hid (nxtC C n = o ++ List.replicate e false) := Lib.hid (by rw [HRES.out, show n - m = e by omega])
          go_wp2_with fail
          go_ret
          rw [HE.out]
          exact ⟨rfl, rfl⟩
end Go.Proofs.Ytclmnmfdajlddaa

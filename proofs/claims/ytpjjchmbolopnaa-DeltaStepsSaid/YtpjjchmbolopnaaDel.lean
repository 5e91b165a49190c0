/-
  THE WALKS OF LAYER 11's CODE (package delta): may lengths be written; Write, Bits.
-/
import Derived.Test.YtpjjchmbolopnaaInts
import Derived.Test.YtpjjchmbolopnaaDelMath
import Derived.Test.YtpjjchmbolopnaaLenF
import Derived.Test.YtpjjchmbolopnaaBitsR
import Derived.Test.YtpjjchmbolopnaaBitsL
namespace Go.Proofs.Ytpjjchmbolopnaa
open Go.RowKit DelM BitM
set_option linter.unusedVariables false
theorem dlen_any (n : Int) (r : Bool) (w : World) (hr : r = true ↔ 1 ≤ n ∧ n ≤ 20) : Calls Try.prog 48 #[.int .i64 n] w fun e w' => e = .returned (.bool r) ∧ w' = w := by
  by_cases h1 : 1 ≤ n
  · by_cases h2 : n ≤ 20
    · obtain rfl : r = true := hr.2 ⟨h1, h2⟩
      clear hr
      go_enter Try.func48, Try.ntmps48
      go_wp2_with fail
      go_ret
      exact ⟨rfl, rfl⟩
    · obtain rfl : r = false := by rw [Bool.eq_false_iff]; intro h; exact h2 (hr.1 h).2
      clear hr
      go_enter Try.func48, Try.ntmps48
      go_wp2_with fail
      go_ret
      exact ⟨rfl, rfl⟩
  · obtain rfl : r = false := by rw [Bool.eq_false_iff]; intro h; exact h1 (hr.1 h).1
    clear hr
    go_enter Try.func48, Try.ntmps48
    go_wp2_with fail
    go_ret
    exact ⟨rfl, rfl⟩
theorem dnum_any (n : Int) (r : Bool) (w : World) (hr : r = true ↔ 3 ≤ n ∧ n ≤ 258) : Calls Try.prog 42 #[.int .i64 n] w fun e w' => e = .returned (.bool r) ∧ w' = w := by
  by_cases h1 : 3 ≤ n
  · by_cases h2 : n ≤ 258
    · obtain rfl : r = true := hr.2 ⟨h1, h2⟩
      clear hr
      go_enter Try.func42, Try.ntmps42
      go_wp2_with fail
      go_ret
      exact ⟨rfl, rfl⟩
    · obtain rfl : r = false := by rw [Bool.eq_false_iff]; intro h; exact h2 (hr.1 h).2
      clear hr
      go_enter Try.func42, Try.ntmps42
      go_wp2_with fail
      go_ret
      exact ⟨rfl, rfl⟩
  · obtain rfl : r = false := by rw [Bool.eq_false_iff]; intro h; exact h1 (hr.1 h).1
    clear hr
    go_enter Try.func42, Try.ntmps42
    go_wp2_with fail
    go_ret
    exact ⟨rfl, rfl⟩
set_option maxRecDepth 100000 in
set_option maxHeartbeats 1000000 in
theorem dmay_any (v : Value) (zs : List Int) (r : Bool) (w : World) (hv : IsInts w v zs) (hr : r = true ↔ May zs) (hz : zs.length ≤ 9223372036854775807) :
    Calls Try.prog 35 #[v] w fun e w' => e = .returned (.bool r) ∧ w' = w := by
  have HV := Lib.hid hv
  have HRR := Lib.hid hr
  obtain ⟨ad, cap, rfl, _⟩ := hv
  clear hr
  go_enter Try.func35, Try.ntmps35
  go_wp2_with fail
  go_loopw [7] (fun i wr => ∃ k : Nat, k ≤ zs.length ∧ i = .int .i64 k ∧ wr = w ∧ ∀ j, j < k → 1 ≤ zs.getD j 0 ∧ zs.getD j 0 ≤ 20) (fun i _ => zs.length - (intOf i).toNat)
  case atStart => exact ⟨0, by omega, rfl, rfl, fun j hj => by omega⟩
  case round =>
    obtain ⟨k, hk, rfl, rfl, hA⟩ := hrel
    have HA := Lib.hid hA
    clear hA
    by_cases hlk : k < zs.length
    · have hki : (k : Int) < (zs.length : Int) := by omega
      obtain ⟨b1, o1, k1, he1, c1⟩ := HV.out.cell hlk
      simp only [Value.slice.injEq] at he1
      obtain ⟨rfl, _, rfl⟩ := he1
      obtain ⟨x, hx⟩ : ∃ x, zs.getD k 0 = x := ⟨_, rfl⟩
      rw [hx] at c1
      have HX := Lib.hid hx
      clear hx
      by_cases h1 : 1 ≤ x ∧ x ≤ 20
      · have HL := Lib.hid (fun W => dlen_any x true W ⟨fun _ => h1, fun _ => rfl⟩)
        go_wp2_with fail
        refine (HL.out _).mono ?_
        rintro e w' ⟨rfl, rfl⟩
        go_wp2_with fail
        go_roundw
        case rel => exact ⟨k + 1, by omega, by go_num, (by first | rfl | trivial), fun j hj => by
            by_cases e : j = k
            · subst e; rw [HX.out]; omega
            · exact HA.out j (by omega)⟩
        case measure => simp [intOf]; omega
      · have HL := Lib.hid (fun W => dlen_any x false W ⟨fun e => (by cases e), fun e => absurd e h1⟩)
        have hrf : r = false := by
          rw [Bool.eq_false_iff, Ne, HRR.out]
          intro h
          have := h.2.2 _ (getD_mem hlk)
          rw [HX.out] at this
          exact h1 this
        subst hrf
        clear h1
        go_wp2_with fail
        refine (HL.out _).mono ?_
        rintro e w' ⟨rfl, rfl⟩
        go_wp2_with fail
        go_ret
        exact ⟨rfl, rfl⟩
    · have hki : ¬ (k : Int) < (zs.length : Int) := by omega
      have hw : ∀ z ∈ zs, 1 ≤ z ∧ z ≤ 20 := within_of (fun j hj => HA.out j (by omega))
      have HL := Lib.hid (fun W => dnum_any (zs.length : Int) r W ⟨fun e => by have := HRR.out.1 e; exact ⟨by have := this.1; omega, by have := this.2.1; omega⟩, fun e => HRR.out.2 ⟨by omega, by omega, hw⟩⟩)
      clear hw
      go_wp2_with fail
      refine (HL.out _).mono ?_
      rintro e w' ⟨rfl, rfl⟩
      go_wp2_with fail
      go_ret
      exact ⟨rfl, rfl⟩
/-! ### What is written -/
/-- From the world w the writer g, whose row was v, went on: it has the bits q. -/
def Wrote (w : World) (g : Nat) (v : Value) (tk : Nat) (q : List Bool) (w' : World) : Prop :=
  ∃ v1, IsWriter w' g v1 q tk ∧ Touch (foot g v) w w' ∧ (∀ k, v1.ownBlock = some k → v.ownBlock = some k ∨ w.heap.size ≤ k)
theorem Wrote.start {w : World} {g : Nat} {v : Value} {tk : Nat} {q : List Bool} (h : IsWriter w g v q tk) : Wrote w g v tk q w := ⟨v, h, Touch.refl _ _, fun k hk => Or.inl hk⟩
theorem Wrote.put {w w' : World} {g : Nat} {v : Value} {tk : Nat} {q : List Bool} (h : Wrote w g v tk q w') (X n : Nat) (hn : n ≤ 32) (hX : X < 2 ^ n) (hq : q.length ≤ 1099511627776) :
    Calls Try.prog 11 #[.pointer (some ⟨g, 0, none⟩), .int .u32 (X : Int), .int .i64 (n : Int)] w' fun e w2 => e = .returned (.int .i64 0) ∧ Wrote w g v tk (q ++ field X n) w2 := by
  obtain ⟨v1, h1, h2, h3⟩ := h
  refine (put_any g v1 q tk X n w' h1 hn hX hq).mono ?_
  rintro e w2 ⟨rfl, v2, k1, k2, k3⟩
  refine ⟨rfl, v2, k1, h2.trans k2 (fun j hj => ?_), fun k hk => ?_⟩
  · rcases hj with hj | hj
    · exact Or.inl (Or.inl hj)
    · rcases h3 j hj with h | h
      · exact Or.inl (Or.inr h)
      · exact Or.inr h
  · rcases k3 k hk with h | h
    · exact h3 k h
    · exact Or.inr (Nat.le_trans h2.size h)
theorem Wrote.touch {w w' : World} {g : Nat} {v : Value} {tk : Nat} {q : List Bool} (h : Wrote w g v tk q w') : Touch (foot g v) w w' := by
  obtain ⟨v1, h1, h2, h3⟩ := h
  exact h2
theorem two_put (b : Bool) (k : Nat) : two b k ++ field (if b then 3 else 2) 2 = two b (k + 1) := by
  cases b <;> rfl
theorem q2_put (q : List Bool) (b : Bool) (k : Nat) : q ++ two b k ++ field (if b then 3 else 2) 2 = q ++ two b (k + 1) := by rw [List.append_assoc, two_put]
set_option maxRecDepth 100000 in
set_option maxHeartbeats 4000000 in
theorem dwrite_any (g : Nat) (v l : Value) (zs : List Int) (q : List Bool) (tk : Nat) (w : World) (hw : IsWriter w g v q tk) (hst : ∀ w', Touch (foot g v) w w' → IsInts w' l zs) (hm : May zs) (hq : q.length ≤ 1099511600000) :
    Calls Try.prog 12 #[.pointer (some ⟨g, 0, none⟩), l] w fun e w' => e = .returned (.int .i64 0) ∧ Wrote w g v tk (q ++ allB zs) w' := by
  have hv := hst w (Touch.refl _ _)
  have HV := Lib.hid hv
  have HST := Lib.hid hst
  have HM := Lib.hid hm
  have HMAY := Lib.hid (dmay_any l zs true w hv ⟨fun _ => hm, fun _ => rfl⟩ (by have := hm.2.1; omega))
  have HS := Lib.hid (Wrote.start hw)
  have h3 := hm.1
  have h258 := hm.2.1
  obtain ⟨ad, cap, rfl, _⟩ := hv
  have HL : Hid (∀ k, k ≤ zs.length → (encK zs k).length ≤ 11000) := Lib.hid (fun k hk => by have := (encK_le HM.out hk).1; omega)
  obtain ⟨N, hN⟩ : ∃ N, zs.length = N := ⟨_, rfl⟩
  have HN := Lib.hid hN
  rw [hN] at h3 h258 HMAY HV HST ⊢
  clear hst hm hw hN
  obtain ⟨b1, o1, k1, he1, c1⟩ := HV.out.cell (k := 0) (by rw [HN.out]; omega)
  rw [HN.out] at he1
  simp only [Value.slice.injEq] at he1
  obtain ⟨rfl, _, rfl⟩ := he1
  have hz0 := HM.out.at_ (k := 0) (by rw [HN.out]; omega)
  obtain ⟨x0, hx0⟩ : ∃ x0, zs.getD 0 0 = x0 := ⟨_, rfl⟩
  rw [hx0] at c1 hz0
  rw [Nat.add_zero] at c1
  obtain ⟨X0, rfl⟩ : ∃ X0 : Nat, x0 = (X0 : Int) := ⟨x0.toNat, by omega⟩
  have hX20 : X0 ≤ 20 := by omega
  have HALL : Hid (allB zs = field X0 5 ++ encK zs N) := Lib.hid (by unfold allB; rw [hx0, HN.out]; rfl)
  have HPRV : Hid (prv zs 0 = (X0 : Int)) := Lib.hid hx0
  have HP1 := Lib.hid (fun W (hh : Wrote w g v tk q W) => hh.put X0 5 (by omega) (show X0 < 32 by omega) (by omega))
  have hc32 : IntKind.u32.wrap (X0 : Int) = (X0 : Int) := by simp [IntKind.wrap, IntKind.bits, IntKind.signed]; omega
  clear hx0 hz0
  have hN0 : (0 : Int) < (N : Int) := by omega
  go_enter Try.func12, Try.ntmps12
  go_wp2_with fail
  refine HMAY.out.mono ?_
  rintro e w' ⟨rfl, rfl⟩
  go_wp2_with fail
  refine (HP1.out _ HS.out).mono ?_
  rintro e w1 ⟨rfl, hW1⟩
  have HW1 := Lib.hid hW1
  clear hW1 HP1 c1
  go_wp2_with fail
  go_loopw [5, 22] (fun vl vk wr => ∃ k : Nat, vk = .int .i64 (k : Int) ∧ k ≤ N ∧ vl = .int .i64 (prv zs k) ∧ Wrote w' g v tk (q ++ field X0 5 ++ encK zs k) wr) (fun _ vk _ => N - (intOf vk).toNat)
  case atStart => exact ⟨0, rfl, by omega, by rw [HPRV.out], by rw [show encK zs 0 = [] from rfl, List.append_nil]; exact HW1.out⟩
  case round =>
    clear HW1 HS
    obtain ⟨k, rfl, hk, rfl, hW⟩ := hrel
    have HW := Lib.hid hW
    clear hW
    by_cases hlk : k < N
    · have hki : (k : Int) < (N : Int) := by omega
      have hkz : k < zs.length := by rw [HN.out]; exact hlk
      have HVk := Lib.hid (HST.out wr HW.out.touch)
      obtain ⟨b1, o1, k1, he1, c1⟩ := HVk.out.cell hkz
      rw [HN.out] at he1
      simp only [Value.slice.injEq] at he1
      obtain ⟨he1, _, rfl⟩ := he1
      simp only [Option.some.injEq, Addr.mk.injEq, and_true] at he1
      obtain ⟨rfl, rfl⟩ := he1
      have hzk := HM.out.at_ hkz
      have hpk := HM.out.prv (k := k) (by omega)
      have HLk := Lib.hid (HL.out k (by rw [HN.out]; omega))
      have HEN : Hid (encK zs (k + 1) = encK zs k ++ (mv (prv zs k) (zs.getD k 0) ++ [false])) := Lib.hid rfl
      have HPS : Hid (prv zs (k + 1) = zs.getD k 0) := Lib.hid rfl
      obtain ⟨x, hx⟩ : ∃ x, zs.getD k 0 = x := ⟨_, rfl⟩
      obtain ⟨p, hp⟩ : ∃ p, prv zs k = p := ⟨_, rfl⟩
      rw [hx] at c1 hzk HEN HPS
      rw [hp] at hpk HEN ⊢
      obtain ⟨Q, hQ⟩ : ∃ Q, q ++ field X0 5 ++ encK zs k = Q := ⟨_, rfl⟩
      have HQ := Lib.hid hQ
      have hQl : Q.length ≤ 1099511620000 := by
        have := HLk.out
        rw [← hQ, List.length_append, List.length_append, field_length]
        omega
      rw [hQ] at HW
      clear hx hp hQ HVk
      go_wp2_with fail
      go_loopw [5] (fun vl wr2 => ∃ j : Nat, j ≤ (x - p).toNat ∧ vl = .int .i64 (p + (j : Int)) ∧ Wrote w' g v tk (Q ++ two false j) wr2) (fun vl _ => (x - intOf vl).toNat)
      case atStart => exact ⟨0, by omega, by simp, by rw [show two false 0 = [] from rfl, List.append_nil]; exact HW.out⟩
      case round =>
        clear HW c1
        obtain ⟨j, hj, rfl, hWj⟩ := hrel
        have HWj := Lib.hid hWj
        clear hWj
        have hl2 : (Q ++ two false j).length ≤ 1099511627776 := by rw [List.length_append, two_length]; omega
        have HP2 := Lib.hid (HWj.out.put 2 2 (by omega) (by decide) hl2)
        clear hl2
        by_cases hlt : p + (j : Int) < x
        · go_wp2_with fail
          refine HP2.out.mono ?_
          rintro e w3 ⟨rfl, hW3⟩
          have HW3 : Hid (Wrote w' g v tk (Q ++ two false (j + 1)) w3) := Lib.hid (by rw [← q2_put Q false j]; exact hW3)
          clear hW3
          go_wp2_with fail
          go_roundw
          case rel => exact ⟨j + 1, by omega, by go_num, HW3.out⟩
          case measure => simp [intOf]; omega
        · have hge : ¬ p + (j : Int) < x := hlt
          obtain ⟨Q2, hQ2⟩ : ∃ Q2, Q ++ two false j = Q2 := ⟨_, rfl⟩
          have HQ2 : Hid (Q2 = Q ++ two false (x - p).toNat) := Lib.hid (by rw [← hQ2]; congr 2; omega)
          have hQ2l : Q2.length ≤ 1099511625000 := by rw [← hQ2, List.length_append, two_length]; omega
          rw [hQ2] at HWj
          clear hQ2 HP2
          obtain ⟨p2, hp2⟩ : ∃ p2, p + (j : Int) = p2 := ⟨_, rfl⟩
          rw [hp2] at hlt hge ⊢
          have HPM : Hid (p2 = max p x) := Lib.hid (by omega)
          have hp2b : 1 ≤ p2 ∧ p2 ≤ 20 := by omega
          clear hp2
          go_wp2_with fail
          obtain ⟨wz, rfl⟩ : ∃ wz : World, wz = wr := ⟨_, rfl⟩
          go_loopw [5] (fun vl wr3 => ∃ i : Nat, i ≤ (p - x).toNat ∧ vl = .int .i64 (p2 - (i : Int)) ∧ Wrote w' g v tk (Q2 ++ two true i) wr3) (fun vl _ => (intOf vl - x).toNat)
          case atStart => exact ⟨0, by omega, by simp, by rw [show two true 0 = [] from rfl, List.append_nil]; exact HWj.out⟩
          case round =>
            clear HWj
            obtain ⟨i, hi, rfl, hWi⟩ := hrel
            have HWi := Lib.hid hWi
            clear hWi
            have hl2 : (Q2 ++ two true i).length ≤ 1099511627776 := by rw [List.length_append, two_length]; omega
            have HP2 := Lib.hid (HWi.out.put 3 2 (by omega) (by decide) hl2)
            have HP3 := Lib.hid (HWi.out.put 0 1 (by omega) (by decide) hl2)
            clear hl2
            by_cases hgt : x < p2 - (i : Int)
            · go_wp2_with fail
              refine HP2.out.mono ?_
              rintro e w3 ⟨rfl, hW3⟩
              have HW3 : Hid (Wrote w' g v tk (Q2 ++ two true (i + 1)) w3) := Lib.hid (by rw [← q2_put Q2 true i]; exact hW3)
              clear hW3
              go_wp2_with fail
              go_roundw
              case rel => exact ⟨i + 1, by have := HPM.out; omega, by go_num, HW3.out⟩
              case measure => simp [intOf]; omega
            · have hge2 : ¬ x < p2 - (i : Int) := hgt
              have hlast : p2 - (i : Int) = x := by have := HPM.out; omega
              have hi2 : Hid (i = (p - x).toNat) := Lib.hid (by have := HPM.out; omega)
              rw [hlast] at hgt hge2 ⊢
              clear hlast
              go_wp2_with fail
              refine HP3.out.mono ?_
              rintro e w3 ⟨rfl, hW3⟩
              have HW3 : Hid (Wrote w' g v tk (q ++ field X0 5 ++ encK zs (k + 1)) w3) := Lib.hid (by
                rw [HEN.out, ← List.append_assoc, HQ.out]
                unfold mv
                rw [hi2.out, HQ2.out] at hW3
                rw [List.append_assoc (two false _), ← List.append_assoc, ← List.append_assoc]
                exact hW3)
              clear hW3
              go_wp2_with fail
              go_roundw
              case rel => exact ⟨k + 1, by go_num, by omega, by rw [HPS.out], HW3.out⟩
              case measure => simp [intOf]; omega
    · have hki : ¬ (k : Int) < (N : Int) := by omega
      obtain rfl : k = N := by omega
      go_wp2_with fail
      go_ret
      exact ⟨rfl, by rw [HALL.out, ← List.append_assoc]; exact HW.out⟩
end Go.Proofs.Ytpjjchmbolopnaa

/-
  THE WALKS OF LAYER 13's CODE (package picks): Step, Read.
-/
import Derived.Test.YtfckghaigbmeaaaPkE
import Derived.Outline
namespace Go.Proofs.Ytfckghaigbmeaaa
open Go.RowKit PkM BitM
set_option linter.unusedVariables false
theorem pstep_err (q : List Bool) (t n : Nat) (ps o : List Nat) : ((pstep q t n ps o false).err == 25) = (pstep q t n ps o false).bad := by
  unfold pstep
  rw [if_neg (by simp)]
  split
  · split
    · rfl
    · split
      · rfl
      · split <;> rfl
  · split
    · rfl
    · split <;> rfl
set_option maxHeartbeats 1000000 in
theorem pstep_nilp (x : Value) (w : World) : Calls Try.prog 30 #[.pointer none, x] w fun e w' => e = .returned (.int .i64 7) ∧ w' = w := by
  go_enter Try.func30, Try.ntmps30
  go_wp2_with fail
  go_ret
  exact ⟨rfl, rfl⟩
set_option maxHeartbeats 1000000 in
theorem pstep_nilr (b : Nat) (w : World) : Calls Try.prog 30 #[.pointer (some ⟨b, 0, none⟩), .pointer none] w fun e w' => e = .returned (.int .i64 7) ∧ w' = w := by
  go_enter Try.func30, Try.ntmps30
  go_wp2_with fail
  go_ret
  exact ⟨rfl, rfl⟩
set_option maxHeartbeats 1000000 in
theorem pstep_done (b rb : Nat) (pv : Value) (t n : Nat) (ps o : List Nat) (bad : Bool) (w : World) (hD : IsPk w b pv t n ps o bad) (hn : 1 ≤ n) (hl : ps.length = n) : Calls Try.prog 30 #[.pointer (some ⟨b, 0, none⟩), .pointer (some ⟨rb, 0, none⟩)] w fun e w' => e = .returned (.int .i64 7) ∧ ∃ m, w' = w.drewN m := by
  have HDN := Lib.hid (pdone_any b pv t n ps o bad true w hD ⟨fun _ => ⟨hn, hl⟩, fun _ => rfl⟩)
  clear hD hn hl
  go_enter Try.func30, Try.ntmps30
  go_wp2_with fail
  refine HDN.out.mono ?_
  rintro e w2 ⟨rfl, m, rfl⟩
  go_wp2_with fail
  go_ret
  exact ⟨rfl, m, rfl⟩
set_option maxRecDepth 100000 in
set_option maxHeartbeats 2000000 in
theorem pstepc_any (b rb : Nat) (pv : Value) (t n : Nat) (ps o : List Nat) (bad : Bool) (v : Value) (l : List UInt8) (dr sp p : Nat) (w : World) (hD : IsPk w b pv t n ps o bad) (hR : IsReader w rb v l dr sp p) (hs : dr + l.length ≤ 1099511627776)
    (hne : ∀ k, foot rb v k → ¬ foot b pv k) (hl : n = 0 ∨ (ps.length < n ∧ n ≤ 32767 ∧ t ≤ 6)) :
    Calls Try.prog 30 #[.pointer (some ⟨b, 0, none⟩), .pointer (some ⟨rb, 0, none⟩)] w fun e w' => StepK w w' b rb pv v l dr sp p (pstep ((bitsOf l).drop (p - 8 * dr)) t n ps o bad) (pstep ((bitsOf l).drop (p - 8 * dr)) t n ps o bad).bad e := by
  have HD := Lib.hid hD
  have HR := Lib.hid hR
  have HNE := Lib.hid hne
  have HDN := Lib.hid (pdone_any b pv t n ps o bad false w hD ⟨fun e => (by cases e), fun e => by omega⟩)
  clear hD hR hne
  go_enter Try.func30, Try.ntmps30
  go_wp2_with fail
  refine HDN.out.mono ?_
  rintro e w2 ⟨rfl, m, hw2⟩
  have HT2 : Hid (Touch (fun k => foot b pv k ∨ k = rb) w w2) := Lib.hid (by rw [hw2]; exact pk_d m)
  have HD2 : Hid (IsPk w2 b pv t n ps o bad) := Lib.hid (by rw [hw2]; exact HD.out.drewN m)
  have HR2 : Hid (IsReader w2 rb v l dr sp p) := Lib.hid (by rw [hw2]; exact HR.out.drewN m)
  clear hw2 HDN HD HR
  obtain ⟨c0, c1, c2, c3⟩ := HD2.out.cells
  cases bad with
  | true =>
    go_wp2_with fail
    go_ret
    rw [pstep_bad]
    exact ⟨pv, rfl, HD2.out, HR2.out, HT2.out, fun k hk => Or.inl hk⟩
  | false =>
    have HER := Lib.hid (pstep_err ((bitsOf l).drop (p - 8 * dr)) t n ps o)
    by_cases h0 : n = 0
    · subst h0
      have HF := Lib.hid (pfirst_any b rb pv t ps o v l dr sp p w2 HD2.out HR2.out hs HNE.out)
      generalize ho : pstep ((bitsOf l).drop (p - 8 * dr)) t 0 ps o false = O at *
      have HO := Lib.hid ho
      obtain ⟨oe, ou, ot, on, ops, oo, ob⟩ := O
      clear ho hl
      go_wp2_with fail
      refine HF.out.mono ?_
      rintro e w5 ⟨pv5, rfl, k1, k2, k3, k4⟩
      have K1 := Lib.hid k1
      have K2 := Lib.hid k2
      have K3 := Lib.hid k3
      have K4 := Lib.hid k4
      have f9 := k1.frozen 9 (by omega)
      obtain ⟨d0, d1, d2, d3⟩ := k1.cells
      have hee : (oe == 25) = ob := HER.out
      clear k1 k2 k3 k4 c0 c1 c2 c3
      go_wp2_with fail
      go_ret
      rw [HO.out]
      have hTS : Touch (· = b) w5 (w5.setCell ⟨b, 9, none⟩ (.bool ob)) := touch_cell (Touch.refl _ _)
      refine ⟨pv5, rfl, K1.out.setBad ob, K2.out.other hTS (fun k hk e => HNE.out k hk (Or.inl e)), pk_tr HT2.out (pk_tr K3.out (pk_l hTS)), fun k hk => ?_⟩
      rcases K4.out k hk with h | h
      · exact Or.inl h
      · exact Or.inr (Nat.le_trans HT2.out.size h)
    · have h0b : ((n : Int) == 0) = false := by rw [beq_eq_false_iff_ne]; omega
      have HF := Lib.hid (pnext_any b rb pv t n ps o v l dr sp p w2 HD2.out HR2.out hs HNE.out (by omega) (by omega) (by omega) (by omega))
      generalize ho : pstep ((bitsOf l).drop (p - 8 * dr)) t n ps o false = O at *
      have HO := Lib.hid ho
      obtain ⟨oe, ou, ot, on, ops, oo, ob⟩ := O
      clear ho hl
      go_wp2_with fail
      refine HF.out.mono ?_
      rintro e w5 ⟨pv5, rfl, k1, k2, k3, k4⟩
      have K1 := Lib.hid k1
      have K2 := Lib.hid k2
      have K3 := Lib.hid k3
      have K4 := Lib.hid k4
      have f9 := k1.frozen 9 (by omega)
      obtain ⟨d0, d1, d2, d3⟩ := k1.cells
      have hee : (oe == 25) = ob := HER.out
      clear k1 k2 k3 k4 c0 c1 c2 c3
      go_wp2_with fail
      go_ret
      rw [HO.out]
      have hTS : Touch (· = b) w5 (w5.setCell ⟨b, 9, none⟩ (.bool ob)) := touch_cell (Touch.refl _ _)
      refine ⟨pv5, rfl, K1.out.setBad ob, K2.out.other hTS (fun k hk e => HNE.out k hk (Or.inl e)), pk_tr HT2.out (pk_tr K3.out (pk_l hTS)), fun k hk => ?_⟩
      rcases K4.out k hk with h | h
      · exact Or.inl h
      · exact Or.inr (Nat.le_trans HT2.out.size h)
set_option maxHeartbeats 1000000 in
/-- A step behind an error. -/
theorem pstepb_any (b rb : Nat) (pv : Value) (t n : Nat) (ps o : List Nat) (v : Value) (l : List UInt8) (dr sp p : Nat) (w : World) (hD : IsPk w b pv t n ps o true) (hR : IsReader w rb v l dr sp p) (hl : ¬ (1 ≤ n ∧ ps.length = n)) :
    Calls Try.prog 30 #[.pointer (some ⟨b, 0, none⟩), .pointer (some ⟨rb, 0, none⟩)] w fun e w' => e = .returned (.int .i64 25) ∧ ∃ m, w' = w.drewN m := by
  have HD := Lib.hid hD
  have HDN := Lib.hid (pdone_any b pv t n ps o true false w hD ⟨fun e => (by cases e), fun e => absurd e hl⟩)
  clear hD hR hl
  go_enter Try.func30, Try.ntmps30
  go_wp2_with fail
  refine HDN.out.mono ?_
  rintro e w2 ⟨rfl, m, rfl⟩
  obtain ⟨c0, c1, c2, c3⟩ := (HD.out.drewN m).cells
  go_wp2_with fail
  go_ret
  exact ⟨rfl, m, rfl⟩
end Go.Proofs.Ytfckghaigbmeaaa

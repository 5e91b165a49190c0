/-
  THE WALKS OF LAYER 15's CODE (package rotate): what may stand just behind (follower); Sorted.
-/
import Derived.Test.YthkiaddmgggbpaaRotE
import Derived.BigQuiet
namespace Go.Proofs.Ythkiaddmgggbpaa
open Go.RowKit BwtM PkM
set_option linter.unusedVariables false
/-- A quiet call behind other draws. -/
theorem quiet_more {P : Program} {f : FuncId} {args : Array Value} {w : World} {a n : Nat} {v : Value} (h : Calls P f args (w.drewN (a + n)) fun e w' => e = .returned v ∧ ∃ m, w' = (w.drewN (a + n)).drewN m) :
    Calls P f args (w.drewN (a + n)) fun e w'' => e = .returned v ∧ ∃ m, w'' = w.drewN (a + m) :=
  h.mono fun _ _ ⟨he, m, hm⟩ => ⟨he, n + m, by rw [hm, World.drewN_drewN, Nat.add_assoc]⟩
theorem quiet_more_same {P : Program} {f : FuncId} {args : Array Value} {w : World} {a n : Nat} {v : Value} (h : Calls P f args (w.drewN (a + n)) fun e w' => e = .returned v ∧ w' = w.drewN (a + n)) :
    Calls P f args (w.drewN (a + n)) fun e w'' => e = .returned v ∧ ∃ m, w'' = w.drewN (a + m) :=
  h.mono fun _ _ ⟨he, hm⟩ => ⟨he, n, hm⟩
def PerP (T : List UInt8) (n p : Nat) : Prop := (n = 0 → p = 0) ∧ (0 < n → IsPeriod T p)
theorem per_any (s : ByteArray) (w : World) (hs : s.size ≤ 1099511627776) :
    Calls Try.prog 21 #[.string s] w fun e w' => (∃ p : Nat, e = .returned (.int .i64 (p : Int)) ∧ PerP s.data.toList s.size p) ∧ Below w.heap.size w w' := by
  by_cases h : s.size = 0
  · refine (period_nil s w h).mono ?_
    rintro e w' ⟨rfl, rfl⟩
    exact ⟨⟨0, rfl, fun _ => rfl, fun h2 => by omega⟩, Below.refl _ _⟩
  · refine (period_any s w hs (by omega)).mono ?_
    rintro e w' ⟨⟨p, rfl, hp⟩, hb⟩
    exact ⟨⟨p, rfl, fun h2 => absurd h2 h, fun _ => hp⟩, hb⟩
def rowV (b3 b6 b7 : Nat) : Value := .func (.func 52) #[] #[.pointer (some ⟨b3, 0, none⟩), .pointer (some ⟨b6, 0, none⟩), .pointer (some ⟨b7, 0, none⟩)]
def folV (b8 b7 b5 : Nat) : Value := .func (.func 53) #[] #[.pointer (some ⟨b8, 0, none⟩), .pointer (some ⟨b7, 0, none⟩), .pointer (some ⟨b5, 0, none⟩)]
/-- What the closures have caught. -/
structure Fol (w : World) (s : ByteArray) (g n p b3 b5 b6 b7 b8 bt : Nat) (L : List Int) : Prop where
  c3 : w.cell? ⟨b3, 0, none⟩ = some (.slice (some ⟨g, 0, none⟩) n n)
  c5 : w.cell? ⟨b5, 0, none⟩ = some (atV bt)
  c6 : w.cell? ⟨b6, 0, none⟩ = some (.int .i64 (n : Int))
  c7 : w.cell? ⟨b7, 0, none⟩ = some (.int .i64 (p : Int))
  c8 : w.cell? ⟨b8, 0, none⟩ = some (rowV b3 b6 b7)
  txt : Txt w bt s
  row : RowI w g L
theorem Fol.drewN {w : World} {s : ByteArray} {g n p b3 b5 b6 b7 b8 bt : Nat} {L : List Int} (h : Fol w s g n p b3 b5 b6 b7 b8 bt L) (m : Nat) : Fol (w.drewN m) s g n p b3 b5 b6 b7 b8 bt L := ⟨h.c3, h.c5, h.c6, h.c7, h.c8, h.txt, h.row⟩
theorem row_enters : ∀ args w, (callFunc 52 args).run Try.prog w = .ok (.enter 52 args) w := enters_of Try.func52 (by kernel_rfl) rfl
theorem fol_enters : ∀ args w, (callFunc 53 args).run Try.prog w = .ok (.enter 53 args) w := enters_of Try.func53 (by kernel_rfl) rfl
set_option maxRecDepth 100000 in
set_option maxHeartbeats 2000000 in
theorem row15_any (s : ByteArray) (g n p b3 b5 b6 b7 b8 bt i : Nat) (L : List Int) (w : World) (h : Fol w s g n p b3 b5 b6 b7 b8 bt L) (hn : n ≤ 1000) (h0 : 0 < p) (hp : p ≤ n) (hl : L.length = n) (hL : ∀ j, j < n → 0 ≤ L.getD j 0 ∧ L.getD j 0 < (n : Int)) (hi : i ≤ n) :
    Calls Try.prog 52 #[.int .i64 (i : Int), .pointer (some ⟨b3, 0, none⟩), .pointer (some ⟨b6, 0, none⟩), .pointer (some ⟨b7, 0, none⟩)] w fun e w' =>
      e = .returned (.int .i64 (((L.getD (i % n) 0).toNat / (n / p) : Nat) : Int)) ∧ ∃ m, w' = w.drewN m := by
  have hr : i % n < n := Nat.mod_lt _ (by omega)
  have c3 := h.c3
  have c6 := h.c6
  have c7 := h.c7
  have cr := (h.row.cell (i := i % n) (by rw [hl]; exact hr)).1
  have hx := hL (i % n) hr
  have e1 := tmod_nat i n
  have e2 := tdiv_nat n p
  have hc0 : 0 < n / p := Nat.div_pos hp h0
  have hcn : n / p ≤ n := Nat.div_le_self _ _
  obtain ⟨x, hxx⟩ : ∃ x : Nat, L.getD (i % n) 0 = (x : Int) := ⟨(L.getD (i % n) 0).toNat, by omega⟩
  rw [hxx] at cr hx ⊢
  rw [Int.toNat_natCast]
  have e3 := tdiv_nat x (n / p)
  have hqn : x / (n / p) ≤ x := Nat.div_le_self _ _
  generalize x / (n / p) = q at *
  generalize n / p = c at *
  generalize i % n = r at *
  have hn0 : ((n : Int) == 0) = false := by rw [beq_eq_false_iff_ne]; omega
  have hp0 : ((p : Int) == 0) = false := by rw [beq_eq_false_iff_ne]; omega
  have hcc0 : ((c : Int) == 0) = false := by rw [beq_eq_false_iff_ne]; omega
  have hri : (r : Int) < (n : Int) := by omega
  clear h hL hl hxx
  go_enter Try.func52, Try.ntmps52
  go_wp2_with fail
  go_quiet (fail)
  go_wp2_with fail
  go_ret
  exact ⟨rfl, _, rfl⟩
/-- The rank of a place. -/
def rk (L : List Int) (i : Nat) : Nat := (L.getD i 0).toNat
theorem follow_cases {T : List UInt8} {R : Nat → Nat} {p c i k : Nat} {r : Bool} (hr : r = true ↔ Follow T R p c i k) :
    (R i / c = R k / c ∧ (r = true ↔ k = i + p)) ∨ (R i / c ≠ R k / c ∧ bt T i ≠ bt T k ∧ (r = true ↔ bt T i < bt T k)) ∨ (R i / c ≠ R k / c ∧ bt T i = bt T k ∧ (r = true ↔ R ((i + 1) % T.length) / c < R ((k + 1) % T.length) / c)) := by
  unfold Follow at hr
  by_cases h1 : R i / c = R k / c
  · refine Or.inl ⟨h1, hr.trans ⟨fun h => h.1 h1, fun h => ⟨fun _ => h, fun h2 => absurd h1 h2, fun h2 => absurd h1 h2⟩⟩⟩
  · by_cases h2 : bt T i = bt T k
    · exact Or.inr (Or.inr ⟨h1, h2, hr.trans ⟨fun h => h.2.2 h1 h2, fun h => ⟨fun h3 => absurd h3 h1, fun _ h3 => absurd h2 h3, fun _ _ => h⟩⟩⟩)
    · exact Or.inr (Or.inl ⟨h1, h2, hr.trans ⟨fun h => h.2.1 h1 h2, fun h => ⟨fun h3 => absurd h3 h1, fun _ _ => h, fun _ h3 => absurd h3 h2⟩⟩⟩)
set_option maxRecDepth 100000 in
set_option maxHeartbeats 4000000 in
theorem fol_any (s : ByteArray) (g n p b3 b5 b6 b7 b8 tb i k : Nat) (L : List Int) (r : Bool) (w : World) (h : Fol w s g n p b3 b5 b6 b7 b8 tb L) (hs : s.size = n) (hn : n ≤ 1000) (h0 : 0 < p) (hp : p ≤ n) (hl : L.length = n) (hL : ∀ j, j < n → 0 ≤ L.getD j 0 ∧ L.getD j 0 < (n : Int))
    (hi : i < n) (hk : k < n) (hr : r = true ↔ Follow s.data.toList (rk L) p (n / p) i k) :
    Calls Try.prog 53 #[.int .i64 (i : Int), .int .i64 (k : Int), .pointer (some ⟨b8, 0, none⟩), .pointer (some ⟨b7, 0, none⟩), .pointer (some ⟨b5, 0, none⟩)] w fun e w' =>
      e = .returned (.bool r) ∧ ∃ m, w' = w.drewN m := by
  have hT : s.data.toList.length = n := by rw [txt_len, hs]
  have HROW := Lib.hid (fun j m (hj : j ≤ n) => row15_any s g n p b3 b5 b6 b7 b8 tb j L (w.drewN m) (h.drewN m) hn h0 hp hl hL hj)
  have HAT := Lib.hid (fun j m (hj : j < n) => at_any s tb j (w.drewN m) (h.drewN m).txt (by omega) (by omega))
  have he1 := row_enters
  have he2 := at_enters
  have c5 := h.c5
  have c7 := h.c7
  have c8 := h.c8
  unfold rowV at c8
  unfold atV at c5
  have hc := follow_cases hr
  have R1 : Hid (∀ j q m, (j = i ∧ q = (L.getD i 0).toNat / (n / p)) ∨ (j = k ∧ q = (L.getD k 0).toNat / (n / p)) → Calls Try.prog 52 #[.int .i64 (j : Int), .pointer (some ⟨b3, 0, none⟩), .pointer (some ⟨b6, 0, none⟩), .pointer (some ⟨b7, 0, none⟩)] (w.drewN m) fun e w' =>
      e = .returned (.int .i64 (q : Int)) ∧ ∃ m2, w' = (w.drewN m).drewN m2) := Lib.hid (fun j q m hj => by
    rcases hj with ⟨rfl, rfl⟩ | ⟨rfl, rfl⟩
    · have h := HROW.out j m (by omega)
      rw [Nat.mod_eq_of_lt hi] at h
      exact h
    · have h := HROW.out j m (by omega)
      rw [Nat.mod_eq_of_lt hk] at h
      exact h)
  have R3 : Hid (∀ j q m, (j = i + 1 ∧ q = (L.getD ((i + 1) % n) 0).toNat / (n / p)) ∨ (j = k + 1 ∧ q = (L.getD ((k + 1) % n) 0).toNat / (n / p)) → Calls Try.prog 52 #[.int .i64 (j : Int), .pointer (some ⟨b3, 0, none⟩), .pointer (some ⟨b6, 0, none⟩), .pointer (some ⟨b7, 0, none⟩)] (w.drewN m) fun e w' =>
      e = .returned (.int .i64 (q : Int)) ∧ ∃ m2, w' = (w.drewN m).drewN m2) := Lib.hid (fun j q m hj => by
    rcases hj with ⟨rfl, rfl⟩ | ⟨rfl, rfl⟩
    · exact HROW.out (i + 1) m (by omega)
    · exact HROW.out (k + 1) m (by omega))
  have A1 : Hid (∀ j q m, (j = i ∧ q = bt s.data.toList i) ∨ (j = k ∧ q = bt s.data.toList k) → Calls Try.prog 49 #[.int .i64 (j : Int), .pointer (some ⟨tb, 0, none⟩)] (w.drewN m) fun e w' =>
      e = .returned (.int .u8 (q : Int)) ∧ w' = w.drewN m) := Lib.hid (fun j q m hj => by
    rcases hj with ⟨rfl, rfl⟩ | ⟨rfl, rfl⟩
    · exact HAT.out j m hi
    · exact HAT.out j m hk)
  rw [hT] at hc
  unfold rk at hc
  clear h hr hL HROW HAT hT hs
  generalize (L.getD i 0).toNat / (n / p) = q1 at *
  generalize (L.getD k 0).toNat / (n / p) = q2 at *
  generalize (L.getD ((i + 1) % n) 0).toNat / (n / p) = q3 at *
  generalize (L.getD ((k + 1) % n) 0).toNat / (n / p) = q4 at *
  generalize bt s.data.toList i = x1 at *
  generalize bt s.data.toList k = x2 at *
  rcases hc with ⟨h1, hc⟩ | ⟨h1, h2, hc⟩ | ⟨h1, h2, hc⟩
  · have hq : ((q1 : Int) == (q2 : Int)) = true := by rw [beq_iff_eq]; omega
    have hip : (i : Int) + (p : Int) = ((i + p : Nat) : Int) := by omega
    have hkb : ((k : Int) == ((i + p : Nat) : Int)) = r := by
      rw [Bool.eq_iff_iff, hc, beq_iff_eq]
      omega
    have hb2 : i + p ≤ 2000 := by omega
    generalize i + p = ip at *
    clear hc h1
    go_enter Try.func53, Try.ntmps53
    go_wp2_with fail
    go_quiet ((exact Calls.quiet_of (R1.out _ _ _ (by first | exact Or.inl ⟨rfl, rfl⟩ | exact Or.inr ⟨rfl, rfl⟩))))
    go_wp2_with fail
    go_ret
    exact ⟨rfl, _, rfl⟩
  · have hq : ((q1 : Int) == (q2 : Int)) = false := by rw [beq_eq_false_iff_ne]; omega
    have hxb : ((x1 : Int) != (x2 : Int)) = true := by rw [bne_iff_ne]; omega
    have hlt : decide (x1 < x2) = r := by rw [Bool.eq_iff_iff, hc, decide_eq_true_eq]
    clear hc h1
    go_enter Try.func53, Try.ntmps53
    go_wp2_with fail
    go_quiet ((exact Calls.quiet_of (R1.out _ _ _ (by first | exact Or.inl ⟨rfl, rfl⟩ | exact Or.inr ⟨rfl, rfl⟩))))
    go_wp2_with fail
    go_quiet ((exact quiet_more_same (A1.out _ _ _ (by first | exact Or.inl ⟨rfl, rfl⟩ | exact Or.inr ⟨rfl, rfl⟩))))
    go_wp2_with fail
    go_quiet ((exact quiet_more_same (A1.out _ _ _ (by first | exact Or.inl ⟨rfl, rfl⟩ | exact Or.inr ⟨rfl, rfl⟩))))
    go_wp2_with fail
    go_ret
    exact ⟨rfl, _, by rw [World.drewN_drewN, World.drewN_drewN]⟩
  · have hq : ((q1 : Int) == (q2 : Int)) = false := by rw [beq_eq_false_iff_ne]; omega
    have hxb : ((x1 : Int) != (x2 : Int)) = false := by rw [bne_eq_false_iff_eq]; omega
    have hlt : decide (q3 < q4) = r := by rw [Bool.eq_iff_iff, hc, decide_eq_true_eq]
    have hi1 : (i : Int) + 1 = ((i + 1 : Nat) : Int) := by omega
    have hk1 : (k : Int) + 1 = ((k + 1 : Nat) : Int) := by omega
    have hb1 : i + 1 ≤ 2000 := by omega
    have hb2 : k + 1 ≤ 2000 := by omega
    generalize i + 1 = i1 at *
    generalize k + 1 = k1 at *
    clear hc h1
    go_enter Try.func53, Try.ntmps53
    go_wp2_with fail
    go_quiet ((exact Calls.quiet_of (R1.out _ _ _ (by first | exact Or.inl ⟨rfl, rfl⟩ | exact Or.inr ⟨rfl, rfl⟩))))
    go_wp2_with fail
    go_quiet ((exact quiet_more_same (A1.out _ _ _ (by first | exact Or.inl ⟨rfl, rfl⟩ | exact Or.inr ⟨rfl, rfl⟩))))
    go_wp2_with fail
    go_quiet ((exact quiet_more (R3.out _ _ _ (by first | exact Or.inl ⟨rfl, rfl⟩ | exact Or.inr ⟨rfl, rfl⟩))))
    go_wp2_with fail
    go_ret
    exact ⟨rfl, _, by rw [World.drewN_drewN, World.drewN_drewN]⟩
end Go.Proofs.Ythkiaddmgggbpaa

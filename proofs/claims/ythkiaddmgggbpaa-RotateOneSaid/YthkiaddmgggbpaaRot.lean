/-
  THE WALKS OF LAYER 15's CODE (package rotate): bytes going round, comparing, ahead.
-/
import Derived.Test.YthkiaddmgggbpaaRotMathB
import Derived.Test.YthkiaddmgggbpaaFoot
import Derived.Test.YthkiaddmgggbpaaRow
import Derived.Deep.RegionLaw
import Derived.Deep.QuietTactic
import Derived.Outline
import Derived.Shelf.Abstract
namespace Go.Proofs.Ythkiaddmgggbpaa
open Go.RowKit BwtM
set_option linter.unusedVariables false
theorem bt_get (s : ByteArray) {k : Nat} (h : k < s.size) : (s[k].toNat : Int) = (bt s.data.toList k : Int) := by
  have hl : k < s.data.toList.length := by simpa using h
  rw [bt_in _ hl, List.getD_eq_getElem?_getD, List.getElem?_eq_getElem hl]
  simp [ByteArray.getElem_eq_getElem_data]
theorem txt_len (s : ByteArray) : s.data.toList.length = s.size := by simp
theorem bt_sub (s : ByteArray) {k j : Nat} (h : k = s.size + j) (hj : j < s.size) : bt s.data.toList k = bt s.data.toList j := by
  rw [h, Nat.add_comm, ← txt_len s, bt_turn]
theorem bt_lt (T : List UInt8) (i : Nat) : bt T i < 256 := by unfold bt; exact UInt8.toNat_lt _
set_option maxHeartbeats 400000 in
theorem isPlace_any (s : ByteArray) (i : Int) (r : Bool) (w : World) (hr : r = true ↔ 0 ≤ i ∧ i < (s.size : Int)) : Calls Try.prog 37 #[.string s, .int .i64 i] w fun e w' => e = .returned (.bool r) ∧ w' = w := by
  by_cases h0 : 0 ≤ i
  · by_cases h1 : i < (s.size : Int)
    · obtain rfl : r = true := hr.2 ⟨h0, h1⟩
      clear hr
      go_enter Try.func37, Try.ntmps37
      go_wp2_with fail
      go_ret
      exact ⟨rfl, rfl⟩
    · obtain rfl : r = false := by cases r; rfl; exact absurd (hr.1 rfl).2 h1
      clear hr
      go_enter Try.func37, Try.ntmps37
      go_wp2_with fail
      go_ret
      exact ⟨rfl, rfl⟩
  · obtain rfl : r = false := by cases r; rfl; exact absurd (hr.1 rfl).1 h0
    clear hr
    go_enter Try.func37, Try.ntmps37
    go_wp2_with fail
    go_ret
    exact ⟨rfl, rfl⟩
set_option maxHeartbeats 400000 in
theorem lawPlace_any (s : ByteArray) (i : Int) (r : Bool) (w : World) (hr : r = true ↔ 0 ≤ i ∧ i < (s.size : Int)) : Calls Try.prog 16 #[.string s, .int .i64 i] w fun e w' => e = .returned (.bool r) ∧ w' = w := by
  by_cases h0 : 0 ≤ i
  · by_cases h1 : i < (s.size : Int)
    · obtain rfl : r = true := hr.2 ⟨h0, h1⟩
      clear hr
      go_enter Try.func16, Try.ntmps16
      go_wp2_with fail
      go_ret
      exact ⟨rfl, rfl⟩
    · obtain rfl : r = false := by cases r; rfl; exact absurd (hr.1 rfl).2 h1
      clear hr
      go_enter Try.func16, Try.ntmps16
      go_wp2_with fail
      go_ret
      exact ⟨rfl, rfl⟩
  · obtain rfl : r = false := by cases r; rfl; exact absurd (hr.1 rfl).1 h0
    clear hr
    go_enter Try.func16, Try.ntmps16
    go_wp2_with fail
    go_ret
    exact ⟨rfl, rfl⟩
/-- The closure that asks for a text's bytes, going round. -/
def atV (g : Nat) : Value := .func (.func 49) #[] #[.pointer (some ⟨g, 0, none⟩)]
def Txt (w : World) (g : Nat) (s : ByteArray) : Prop := w.cell? ⟨g, 0, none⟩ = some (.string s)
theorem Txt.below {w w' : World} {g B : Nat} {s : ByteArray} (h : Txt w g s) (hb : Below B w w') (hg : g < B) : Txt w' g s := (hb.cell (p := ⟨g, 0, none⟩) hg).trans h
set_option maxHeartbeats 400000 in
theorem round_any (s : ByteArray) (w : World) : Calls Try.prog 38 #[.string s] w fun e w' => e = .returned (atV w.heap.size) ∧ Txt w' w.heap.size s ∧ Below w.heap.size w w' ∧ w.heap.size < w'.heap.size := by
  have HT : Hid (Txt (w.alloc (.cells #[.string s] 9)) w.heap.size s) := Lib.hid (by unfold Txt; rw [cell_of_row _ _ 0 _ _ _ (heap_alloc_new _ _)]; rfl)
  have HB : Hid (Below w.heap.size w (w.alloc (.cells #[.string s] 9))) := Lib.hid ((Below.refl _ _).alloc (Nat.le_refl _) _)
  have HS : Hid (w.heap.size < (w.alloc (.cells #[.string s] 9)).heap.size) := Lib.hid (by show _ < (w.heap.push _).size; simp)
  go_enter Try.func38, Try.ntmps38
  go_wp2_with fail
  go_ret
  exact ⟨rfl, HT.out, HB.out, HS.out⟩
set_option maxHeartbeats 400000 in
theorem at_any (s : ByteArray) (g k : Nat) (w : World) (hc : Txt w g s) (hs : s.size ≤ 1099511627776) (hk : k < 2 * s.size) : Calls Try.prog 49 #[.int .i64 (k : Int), .pointer (some ⟨g, 0, none⟩)] w fun e w' => e = .returned (.int .u8 (bt s.data.toList k : Int)) ∧ w' = w := by
  unfold Txt at hc
  by_cases h : k < s.size
  · have HB := Lib.hid (bt_get s h)
    have h2 : ¬ (k : Int) ≥ (s.size : Int) := by omega
    go_enter Try.func49, Try.ntmps49
    go_wp2_with fail
    go_ret
    exact ⟨by rw [HB.out]; rfl, rfl⟩
  · obtain ⟨j, hj⟩ : ∃ j, k = s.size + j := ⟨k - s.size, by omega⟩
    have hj2 : j < s.size := by omega
    have HB : Hid ((s[j].toNat : Int) = (bt s.data.toList k : Int)) := Lib.hid (by rw [bt_sub s hj hj2, bt_get s hj2])
    have hji : (k : Int) - (s.size : Int) = (j : Int) := by omega
    have h2 : (k : Int) ≥ (s.size : Int) := by omega
    clear hj hk h
    go_enter Try.func49, Try.ntmps49
    go_wp2_with fail
    go_ret
    exact ⟨by rw [HB.out]; rfl, rfl⟩
theorem at_enters : ∀ args w, (callFunc 49 args).run Try.prog w = .ok (.enter 49 args) w := enters_of Try.func49 (by kernel_rfl) rfl
def cmpI (a b : Nat) : Int := if a < b then -1 else if b < a then 1 else 0
set_option maxHeartbeats 400000 in
theorem isNaN_any (a : Nat) (w : World) : Calls Try.prog 50 #[.int .u8 (a : Int)] w fun e w' => e = .returned (.bool false) ∧ w' = w := by
  have h : ((a : Int) != (a : Int)) = false := by simp
  go_enter Try.func50, Try.ntmps50
  go_wp2_with fail
  go_ret
  exact ⟨rfl, rfl⟩
set_option maxHeartbeats 400000 in
theorem cmp_any (a b : Nat) (w : World) : Calls Try.prog 39 #[.int .u8 (a : Int), .int .u8 (b : Int)] w fun e w' => e = .returned (.int .i64 (cmpI a b)) ∧ w' = w := by
  by_cases h1 : a < b
  · have e : cmpI a b = -1 := if_pos h1
    have h1i : (a : Int) < (b : Int) := by omega
    rw [e]
    go_enter Try.func39, Try.ntmps39
    go_wp2_with fail
    refine (isNaN_any a w).mono ?_
    rintro e w' ⟨rfl, rfl⟩
    go_wp2_with fail
    refine (isNaN_any b w').mono ?_
    rintro e w'' ⟨rfl, rfl⟩
    go_wp2_with fail
    go_ret
    exact ⟨rfl, rfl⟩
  · have h1i : ¬ (a : Int) < (b : Int) := by omega
    by_cases h2 : b < a
    · have e : cmpI a b = 1 := by unfold cmpI; rw [if_neg h1, if_pos h2]
      have h2i : (a : Int) > (b : Int) := by omega
      rw [e]
      go_enter Try.func39, Try.ntmps39
      go_wp2_with fail
      refine (isNaN_any a w).mono ?_
      rintro e w' ⟨rfl, rfl⟩
      go_wp2_with fail
      refine (isNaN_any b w').mono ?_
      rintro e w'' ⟨rfl, rfl⟩
      go_wp2_with fail
      go_ret
      exact ⟨rfl, rfl⟩
    · have e : cmpI a b = 0 := by unfold cmpI; rw [if_neg h1, if_neg h2]
      have h2i : ¬ (a : Int) > (b : Int) := by omega
      rw [e]
      go_enter Try.func39, Try.ntmps39
      go_wp2_with fail
      refine (isNaN_any a w).mono ?_
      rintro e w' ⟨rfl, rfl⟩
      go_wp2_with fail
      refine (isNaN_any b w').mono ?_
      rintro e w'' ⟨rfl, rfl⟩
      go_wp2_with fail
      go_ret
      exact ⟨rfl, rfl⟩
/-- What Compare tells of two places of a text. -/
theorem isCmp_one {T : List UInt8} {i k : Nat} {c d : Int} (h : IsCmp T i k c) (g : IsCmp T i k d) : c = d := by
  rcases h with ⟨rfl, h⟩ | ⟨rfl, h⟩ | ⟨rfl, h⟩ <;> rcases g with ⟨rfl, g⟩ | ⟨rfl, g⟩ | ⟨rfl, g⟩ <;> first | rfl | exact absurd g h.asym | exact absurd h.symm g.noteq | exact absurd h g.noteq | exact absurd g h.noteq | exact absurd g.symm h.noteq
theorem isCmp_at {T : List UInt8} {i k on : Nat} (ho : on < T.length) (h : eqH T on i k) : (cmpI (bt T (i + on)) (bt T (k + on)) = 0 ∧ eqH T (on + 1) i k) ∨ (cmpI (bt T (i + on)) (bt T (k + on)) ≠ 0 ∧ IsCmp T i k (cmpI (bt T (i + on)) (bt T (k + on)))) := by
  unfold cmpI
  by_cases h1 : bt T (i + on) < bt T (k + on)
  · rw [if_pos h1]
    exact Or.inr ⟨by decide, Or.inl ⟨rfl, on, ho, h, h1⟩⟩
  · rw [if_neg h1]
    by_cases h2 : bt T (k + on) < bt T (i + on)
    · rw [if_pos h2]
      exact Or.inr ⟨by decide, Or.inr (Or.inr ⟨rfl, on, ho, h.symm, h2⟩)⟩
    · rw [if_neg h2]
      exact Or.inl ⟨rfl, h.more (by omega)⟩
set_option maxHeartbeats 1000000 in
theorem compare_no (s : ByteArray) (i k : Int) (w : World) (h : ¬ ((0 ≤ i ∧ i < (s.size : Int)) ∧ (0 ≤ k ∧ k < (s.size : Int)))) :
    Calls Try.prog 15 #[.string s, .int .i64 i, .int .i64 k] w fun e w' => e = .returned (.tuple #[.int .i64 0, .int .i64 1]) ∧ w' = w := by
  by_cases h1 : 0 ≤ i ∧ i < (s.size : Int)
  · have H1 := Lib.hid (isPlace_any s i true w ⟨fun _ => h1, fun _ => rfl⟩)
    have H2 := Lib.hid (isPlace_any s k false w ⟨fun e => (by cases e), fun e => absurd ⟨h1, e⟩ h⟩)
    clear h h1
    go_enter Try.func15, Try.ntmps15
    go_wp2_with fail
    refine H1.out.mono ?_
    rintro e w' ⟨rfl, rfl⟩
    go_wp2_with fail
    refine H2.out.mono ?_
    rintro e w' ⟨rfl, rfl⟩
    go_wp2_with fail
    go_ret2
    exact ⟨rfl, rfl⟩
  · have H1 := Lib.hid (isPlace_any s i false w ⟨fun e => (by cases e), fun e => absurd e h1⟩)
    clear h h1
    go_enter Try.func15, Try.ntmps15
    go_wp2_with fail
    refine H1.out.mono ?_
    rintro e w' ⟨rfl, rfl⟩
    go_wp2_with fail
    go_ret2
    exact ⟨rfl, rfl⟩
set_option maxHeartbeats 1000000 in
theorem compare_any (s : ByteArray) (i k : Nat) (w : World) (hs : s.size ≤ 1099511627776) (hi : i < s.size) (hk : k < s.size) :
    Calls Try.prog 15 #[.string s, .int .i64 (i : Int), .int .i64 (k : Int)] w fun e w' => (∃ c, e = .returned (.tuple #[.int .i64 c, .int .i64 0]) ∧ IsCmp s.data.toList i k c) ∧ Below w.heap.size w w' := by
  have H1 := Lib.hid (isPlace_any s i true w ⟨fun _ => ⟨by omega, by omega⟩, fun _ => rfl⟩)
  have H2 := Lib.hid (isPlace_any s k true w ⟨fun _ => ⟨by omega, by omega⟩, fun _ => rfl⟩)
  have he := at_enters
  obtain ⟨n, hn⟩ : ∃ n, s.size = n := ⟨_, rfl⟩
  have HN := Lib.hid hn
  obtain ⟨g, hg⟩ : ∃ g, w.heap.size = g := ⟨_, rfl⟩
  have HAT := Lib.hid (fun k W (hc : Txt W g s) (hk : k < 2 * n) => at_any s g k W hc hs (by rw [hn]; exact hk))
  have HRO := Lib.hid (round_any s w)
  rw [hg] at HRO
  have HG := Lib.hid hg
  rw [hn] at hs hi hk
  go_enter Try.func15, Try.ntmps15
  go_wp2_with fail
  refine H1.out.mono ?_
  rintro e w' ⟨rfl, rfl⟩
  go_wp2_with fail
  refine H2.out.mono ?_
  rintro e w'' ⟨rfl, rfl⟩
  go_wp2_with fail
  refine HRO.out.mono ?_
  rintro e w1 ⟨rfl, ht, hb, hlt⟩
  have HT := Lib.hid ht
  have HB := Lib.hid hb
  clear ht hb hlt hg
  go_wp2_with fail
  clear hn
  unfold atV
  go_loopw [25] (fun vo wr => ∃ o : Nat, vo = .int .i64 (o : Int) ∧ o ≤ n ∧ eqH s.data.toList o i k ∧ wr = w1) (fun vo _ => n - (intOf vo).toNat)
  case atStart => exact ⟨0, rfl, by omega, fun t ht => by omega, rfl⟩
  case round =>
    obtain ⟨o, rfl, ho, hq, rfl⟩ := hrel
    have HQ := Lib.hid hq
    clear hq
    by_cases hlt : o < n
    · have hli : (o : Int) < (n : Int) := by omega
      have hio : (i : Int) + (o : Int) = ((i + o : Nat) : Int) := by omega
      have hko : (k : Int) + (o : Int) = ((k + o : Nat) : Int) := by omega
      have A1 := Lib.hid (HAT.out (i + o) _ HT.out (by omega))
      have A2 := Lib.hid (HAT.out (k + o) _ HT.out (by omega))
      have hc := isCmp_at (T := s.data.toList) (i := i) (k := k) (on := o) (by rw [txt_len, HN.out]; exact hlt) HQ.out
      have HCM := Lib.hid (cmp_any (bt s.data.toList (i + o)) (bt s.data.toList (k + o)) wr)
      obtain ⟨c, hcc⟩ : ∃ c, cmpI (bt s.data.toList (i + o)) (bt s.data.toList (k + o)) = c := ⟨_, rfl⟩
      rw [hcc] at hc HCM
      clear hcc
      generalize i + o = io at *
      generalize k + o = ko at *
      go_wp2_with fail
      refine A1.out.mono ?_
      rintro e w' ⟨rfl, rfl⟩
      go_wp2_with fail
      refine A2.out.mono ?_
      rintro e w'' ⟨rfl, rfl⟩
      go_wp2_with fail
      refine HCM.out.mono ?_
      rintro e w3 ⟨rfl, rfl⟩
      rcases hc with ⟨rfl, hq2⟩ | ⟨hc0, hq2⟩
      · have HQ2 := Lib.hid hq2
        clear hq2
        go_wp2_with fail
        go_roundw
        case rel => exact ⟨o + 1, by go_num, by omega, HQ2.out, trivial⟩
        case measure => simp [intOf]; omega
      · have HQ2 := Lib.hid hq2
        have hcb : (c != 0) = true := by simpa using hc0
        clear hq2 hc0
        go_wp2_with fail
        go_ret2
        exact ⟨⟨c, rfl, HQ2.out⟩, by rw [HG.out]; exact HB.out⟩
    · have hli : ¬ (o : Int) < (n : Int) := by omega
      obtain rfl : o = n := by omega
      go_wp2_with fail
      go_ret2
      exact ⟨⟨0, rfl, Or.inr (Or.inl ⟨rfl, by rw [txt_len, HN.out]; exact HQ.out⟩)⟩, by rw [HG.out]; exact HB.out⟩
end Go.Proofs.Ythkiaddmgggbpaa

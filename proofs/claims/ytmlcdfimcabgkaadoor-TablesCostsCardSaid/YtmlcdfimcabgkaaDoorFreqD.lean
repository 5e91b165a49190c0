/-
  THE WALKS OF LAYER 8's CODE (package freq): rows together, groups.
-/
import Derived.Test.YtmlcdfimcabgkaaDoorFreqC
import Derived.Test.YtmlcdfimcabgkaaDoorClone
import Derived.Lib.SliceRun
namespace Go.Proofs.YtmlcdfimcabgkaaDoor
open Go.RowKit FreqM
set_option linter.unusedVariables false
def AddOk (a b : List Int) : Prop := a.length = b.length ∧ Nums a ∧ Nums b
def AddP (a b : List Int) (zs : List Int) (err : Nat) : Prop := (¬ AddOk a b ∧ zs = [] ∧ err = 1) ∨ (AddOk a b ∧ zs = adds a b ∧ err = 0)
theorem adds_next (a b : List Int) (k : Nat) (h : k < a.length) (h2 : k < b.length) : (adds (a.take k) (b.take k) ++ List.replicate (a.length - k) 0).set k (cap (a.getD k 0 + b.getD k 0)) = adds (a.take (k + 1)) (b.take (k + 1)) ++ List.replicate (a.length - (k + 1)) 0 := by
  have hl : (adds (a.take k) (b.take k)).length = k := by rw [adds_len _ _ (by simp; omega), List.length_take]; omega
  have := set_next (adds (a.take k) (b.take k)) (a.length - (k + 1)) (cap (a.getD k 0 + b.getD k 0))
  rw [hl, show a.length - (k + 1) + 1 = a.length - k by omega] at this
  rw [this, adds_take a b k h h2]
/-- How many groups n symbols have. -/
def gn (n : Int) : Int := if n ≤ 0 then 0 else (n - 1) / 50 + 1
theorem gn_nat (n : Nat) : gn (n : Int) = (ng n : Int) := by
  unfold gn
  by_cases h : n = 0
  · subst h; rfl
  · rw [if_neg (by omega), ng_pos n (by omega)]
set_option maxHeartbeats 400000 in
theorem groups_any (n : Int) (w : World) (h1 : -9223372036854775808 ≤ n) (h2 : n ≤ 9223372036854775807) : Calls Tryd.prog 34 #[.int .i64 n] w fun e w' => e = .returned (.int .i64 (gn n)) ∧ w = w' := by
  by_cases h : n ≤ 0
  · rw [show gn n = 0 from if_pos h]
    go_enter Tryd.func34, Tryd.ntmps34
    go_wp2_with fail
    go_ret
    exact ⟨rfl, rfl⟩
  · rw [show gn n = (n - 1) / 50 + 1 from if_neg h]
    have w1 : IntKind.i64.wrap (n - 1) = n - 1 := IntWalk.i64_in _ (by omega)
    have w2 : (n - 1).tdiv 50 = (n - 1) / 50 := Int.tdiv_eq_ediv_of_nonneg (by omega)
    have w3 : IntKind.i64.wrap ((n - 1) / 50) = (n - 1) / 50 := IntWalk.i64_in _ (by omega)
    have w4 : IntKind.i64.wrap ((n - 1) / 50 + 1) = (n - 1) / 50 + 1 := IntWalk.i64_in _ (by omega)
    go_enter Tryd.func34, Tryd.ntmps34
    go_wp2_with fail
    go_ret
    exact ⟨rfl, rfl⟩
set_option maxRecDepth 100000 in
set_option maxHeartbeats 1000000 in
theorem group1_any (b off len c : Nat) (zs : List Int) (i : Nat) (w : World) (hI : IsInts w (.slice (some ⟨b, off, none⟩) len c) zs) (hlen : zs.length = len) (hm : len ≤ 1000000) (hc : len ≤ c) (hc2 : c ≤ 9223372036854775807) (hi : 50 * i < len) :
    Calls Tryd.prog 52 #[.slice (some ⟨b, off, none⟩) len c, .int .i64 (i : Int)] w fun e w' => ∃ v, e = .returned v ∧ OwnI w' w.heap.size v (grp zs i) ∧ Below w.heap.size w w' := by
  have hgl := grp_len zs i
  rw [hlen] at hgl
  have HG : Hid (∀ m, m = min 50 (len - 50 * i) → (zs.drop (50 * i)).take m = grp zs i) := Lib.hid (fun m hmm => by
    unfold grp
    rw [hmm, ← hlen, ← List.length_drop]
    by_cases h : (zs.drop (50 * i)).length ≤ 50
    · rw [Nat.min_eq_right h, List.take_of_length_le (Nat.le_refl _), List.take_of_length_le h]
    · rw [Nat.min_eq_left (by omega)])
  obtain ⟨q, hq⟩ : ∃ q, 50 * i = q := ⟨_, rfl⟩
  rw [hq] at HG hi hgl
  have HC := Lib.hid (fun m (hmm : m = min 50 (len - q)) => clone_any b (off + q) m (c - q) (grp zs i) w (by rw [← HG.out m hmm]; exact hI.part q m (c - q) (by omega)) (by omega))
  have hw : IntKind.i64.wrap ((i : Int) * 50) = (q : Int) := by rw [show (i : Int) * 50 = (q : Int) by omega]; exact IntWalk.i64_in _ (by omega)
  have hqI : (i : Int) * 50 = (q : Int) := by omega
  have b0 : (0 : Int) ≤ (q : Int) := by omega
  have b1 : (q : Int) ≤ (len : Int) := by omega
  have b2 : (len : Int) ≤ (c : Int) := by omega
  clear hI hq
  go_enter Tryd.func52, Tryd.ntmps52
  go_wp2_with fail
  all_goals
    refine (HC.out _ (by omega)).mono ?_
    rintro e w2 ⟨v, rfl, hO, hB⟩
    have HO := Lib.hid hO
    have HB := Lib.hid hB
    clear hO hB
    go_wp2_with fail
    go_ret
    exact ⟨_, rfl, HO.out, HB.out⟩
/-- What Group tells. -/
def GrpP (l : List Int) (i : Int) (zs : List Int) (err : Nat) : Prop := ((i < 0 ∨ (ng l.length : Int) ≤ i) ∧ zs = [] ∧ err = 1) ∨ (0 ≤ i ∧ i < (ng l.length : Int) ∧ zs = grp l i.toNat ∧ err = 0)
set_option maxRecDepth 100000 in
set_option maxHeartbeats 1000000 in
theorem group_any (a : Option Addr) (len c : Nat) (zs : List Int) (i : Int) (w : World) (hI : IsInts w (.slice a len c) zs) (hlen : zs.length = len) (hm : len ≤ 1000000) (hc : len ≤ c) (hc2 : c ≤ 9223372036854775807) :
    Calls Tryd.prog 41 #[.slice a len c, .int .i64 i] w fun e w' => ∃ (v : Value) (ys : List Int) (err : Nat), e = .returned (.tuple #[v, .int .i64 (err : Int)]) ∧ IsInts w' v ys ∧ Below w.heap.size w w' ∧ GrpP zs i ys err := by
  have HGR := Lib.hid (groups_any (len : Int) w (by omega) (by omega))
  rw [gn_nat] at HGR
  have HI := Lib.hid hI
  by_cases h0 : i < 0
  · go_enter Tryd.func41, Tryd.ntmps41
    go_wp2_with fail
    go_ret2
    exact ⟨_, [], 1, rfl, IsInts.nil _, Below.refl _ _, Or.inl ⟨Or.inl h0, rfl, rfl⟩⟩
  · by_cases h1 : (ng len : Int) ≤ i
    · generalize hN : ng len = N at *
      go_enter Tryd.func41, Tryd.ntmps41
      go_wp2_with fail
      refine HGR.out.mono ?_
      rintro e w' ⟨rfl, rfl⟩
      go_wp2_with fail
      go_ret2
      exact ⟨_, [], 1, rfl, IsInts.nil _, Below.refl _ _, Or.inl ⟨Or.inr (by rw [hlen, hN]; exact h1), rfl, rfl⟩⟩
    · obtain ⟨k, rfl⟩ : ∃ k : Nat, i = (k : Int) := ⟨i.toNat, by omega⟩
      have hkl : 50 * k < len := by unfold ng at h1; omega
      obtain ⟨b, off, rfl⟩ : ∃ b off, a = some ⟨b, off, none⟩ := by
        obtain ⟨a1, cap1, he, hcc⟩ := hI
        simp only [Value.slice.injEq] at he
        obtain ⟨rfl, _, _⟩ := he
        obtain ⟨b, off, h, _⟩ := hcc 0 _ (List.getElem?_eq_getElem (show 0 < zs.length by omega))
        exact ⟨b, off, h⟩
      have HG1 := Lib.hid (group1_any b off len c zs k w hI hlen hm hc hc2 hkl)
      generalize hN : ng len = N at *
      go_enter Tryd.func41, Tryd.ntmps41
      go_wp2_with fail
      refine HGR.out.mono ?_
      rintro e w' ⟨rfl, rfl⟩
      go_wp2_with fail
      refine HG1.out.mono ?_
      rintro e w2 ⟨v, rfl, hO, hB⟩
      have HO := Lib.hid hO
      have HB := Lib.hid hB
      clear hO hB
      go_wp2_with fail
      go_ret2
      exact ⟨_, _, 0, rfl, HO.out.ints, HB.out, Or.inr ⟨by omega, by rw [hlen, hN]; omega, by simp, rfl⟩⟩
end Go.Proofs.YtmlcdfimcabgkaaDoor

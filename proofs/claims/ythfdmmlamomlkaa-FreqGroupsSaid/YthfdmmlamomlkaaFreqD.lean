/-
  THE WALKS OF LAYER 8's CODE (package freq): rows together, groups.
-/
import Derived.Test.YthfdmmlamomlkaaFreqC
import Derived.Lib.SliceRun
namespace Go.Proofs.Ythfdmmlamomlkaa
open Go.RowKit FreqM
set_option linter.unusedVariables false
def AddOk (a b : List Int) : Prop := a.length = b.length ∧ Nums a ∧ Nums b
def AddP (a b : List Int) (zs : List Int) (err : Nat) : Prop := (¬ AddOk a b ∧ zs = [] ∧ err = 1) ∨ (AddOk a b ∧ zs = adds a b ∧ err = 0)
theorem adds_next (a b : List Int) (k : Nat) (h : k < a.length) (h2 : k < b.length) : (adds (a.take k) (b.take k) ++ List.replicate (a.length - k) 0).set k (cap (a.getD k 0 + b.getD k 0)) = adds (a.take (k + 1)) (b.take (k + 1)) ++ List.replicate (a.length - (k + 1)) 0 := by
  have hl : (adds (a.take k) (b.take k)).length = k := by rw [adds_len _ _ (by simp; omega), List.length_take]; omega
  have := set_next (adds (a.take k) (b.take k)) (a.length - (k + 1)) (cap (a.getD k 0 + b.getD k 0))
  rw [hl, show a.length - (k + 1) + 1 = a.length - k by omega] at this
  rw [this, adds_take a b k h h2]
set_option maxRecDepth 100000 in
set_option maxHeartbeats 2000000 in
theorem add_any (v u : Value) (zs ys : List Int) (w : World) (hv : IsInts w v zs) (hu : IsInts w u ys) (hz : zs.length ≤ 1000000) (hz2 : ys.length ≤ 1000000) :
    Calls Try.prog 42 #[v, u] w fun e w' => ∃ (r : Value) (rs : List Int) (err : Nat), e = .returned (.tuple #[r, .int .i64 (err : Int)]) ∧ IsInts w' r rs ∧ Below w.heap.size w w' ∧ AddP zs ys rs err := by
  have HV := Lib.hid hv
  have HU := Lib.hid hu
  obtain ⟨a, cap1, rfl, _⟩ := hv
  obtain ⟨b, cap2, rfl, _⟩ := hu
  by_cases hl : zs.length = ys.length
  · have hl1 : zs.length ≤ ys.length := Nat.le_of_eq hl
    have hl2 : ys.length ≤ zs.length := Nat.le_of_eq hl.symm
    have hlb : ((zs.length : Int) != (ys.length : Int)) = false := by rw [bne_eq_false_iff_eq]; omega
    have HL := Lib.hid hl
    clear hl
    by_cases hn1 : Nums zs
    · have HA1 := Lib.hid (areNumbers_any _ zs true w HV.out (by omega) ⟨fun _ => hn1, fun _ => rfl⟩)
      by_cases hn2 : Nums ys
      · have HA2 := Lib.hid (areNumbers_any _ ys true w HU.out (by omega) ⟨fun _ => hn2, fun _ => rfl⟩)
        have HN1 := Lib.hid hn1
        have HN2 := Lib.hid hn2
        have HOK : Hid (AddOk zs ys) := Lib.hid ⟨HL.out, hn1, hn2⟩
        obtain ⟨N, hN⟩ : ∃ N, zs.length = N := ⟨_, rfl⟩
        have hNI : (zs.length : Int) ≤ 1000000 := by omega
        have hmk := make_ints zs.length hz w
        have HR0 := Lib.hid (RowI.made w zs.length)
        have HB0 := Lib.hid ((Below.refl w.heap.size w).alloc (Nat.le_refl _) (.cells (madeCells #[Value.int .i64 0] zs.length) 3))
        clear hn1 hn2 hN
        generalize hw1 : w.alloc (.cells (madeCells #[Value.int .i64 0] zs.length) 3) = w1 at *
        clear hw1
        go_enter Try.func42, Try.ntmps42
        go_wp2_with fail
        refine HA1.out.mono ?_
        rintro e w' ⟨rfl, rfl⟩
        go_wp2_with fail
        refine HA2.out.mono ?_
        rintro e w' ⟨rfl, rfl⟩
        clear HA1 HA2
        go_wp2_with fail
        generalize hg : w.heap.size = g at *
        go_loopw [28] (fun i wr => ∃ k : Nat, k ≤ zs.length ∧ i = .int .i64 k ∧ RowI wr g (adds (zs.take k) (ys.take k) ++ List.replicate (zs.length - k) 0) ∧ Below g w wr) (fun i _ => zs.length - (intOf i).toNat)
        case atStart => exact ⟨0, by omega, rfl, HR0.out, HB0.out⟩
        case round =>
          clear HR0 HB0
          obtain ⟨k, hk, rfl, hR, hB⟩ := hrel
          have HR := Lib.hid hR
          have HB := Lib.hid hB
          clear hR hB
          by_cases hlk : k < zs.length
          · have hki : (k : Int) < (zs.length : Int) := by omega
            have hki2 : (k : Int) < (ys.length : Int) := by omega
            have HV2 := Lib.hid (HV.out.below (hg ▸ HB.out))
            have HU2 := Lib.hid (HU.out.below (hg ▸ HB.out))
            obtain ⟨b1, o1, k1, he1, c1⟩ := HV2.out.cell hlk
            obtain ⟨b2, o2, k2, he2, c2⟩ := HU2.out.cell (show k < ys.length by omega)
            simp only [Value.slice.injEq] at he1 he2
            obtain ⟨rfl, _, rfl⟩ := he1
            obtain ⟨rfl, _, rfl⟩ := he2
            have hal : (adds (zs.take k) (ys.take k)).length = k := by rw [adds_len _ _ (by simp; omega), List.length_take]; omega
            obtain ⟨d0, d1, d2⟩ := HR.out.cell (i := k) (by simp [hal]; omega)
            have HNX := Lib.hid (adds_next zs ys k hlk (by omega))
            have hx := HN1.out _ (getD_mem zs k hlk)
            have hy := HN2.out _ (getD_mem ys k (by omega))
            generalize zs.getD k 0 = x at *
            generalize ys.getD k 0 = y at *
            have hd2 := d2 (FreqM.cap (x + y))
            rw [HNX.out] at hd2
            have HD2 := Lib.hid hd2
            have HB2 := Lib.hid (HB.out.setCell (p := ⟨g, k, none⟩) (Nat.le_refl _) (.int .i64 (FreqM.cap (x + y))))
            generalize (adds (zs.take k) (ys.take k) ++ List.replicate (zs.length - k) 0).getD k 0 = old at *
            have HTO := Lib.hid (fun W => together_any x y W hx hy)
            generalize FreqM.cap (x + y) = z at *
            clear hx hy hal d2 hd2 HNX
            go_wp2_with fail
            refine wp_region_still_tail 12 (by kernel_rfl) (by kernel_rfl) ?_
            simp only [List.take_succ_cons, List.take_zero, List.drop_succ_cons, List.drop_zero]
            repeat still_step
            still_call ((HTO.out _).mono fun _ _ h => ⟨h.1, h.2.symm⟩)
            repeat still_step
            refine wpStill_nil ?_
            change wpList _ _ _ _ _ (wr.drewN 1)
            go_wp2_with fail
            go_roundw
            case rel => exact ⟨k + 1, by omega, by go_num, HD2.out, HB2.out.trans ⟨rfl, rfl, rfl, Nat.le_refl _, fun _ _ => rfl⟩⟩
            case measure => simp [intOf]; omega
          · obtain rfl : k = zs.length := by omega
            rw [List.take_of_length_le (Nat.le_refl _), List.take_of_length_le (by omega), Nat.sub_self, List.replicate_zero, List.append_nil] at HR
            have hal : zs.length = (adds zs ys).length := (adds_len zs ys HL.out).symm
            have HI := Lib.hid (HR.out.ints zs.length zs.length hal)
            clear hal
            go_wp2_with fail
            go_ret2
            exact ⟨_, adds zs ys, 0, rfl, HI.out, hg ▸ HB.out, Or.inr ⟨HOK.out, rfl, rfl⟩⟩
      · have HA2 := Lib.hid (areNumbers_any _ ys false w HU.out (by omega) ⟨fun e => (by cases e), fun e => absurd e hn2⟩)
        have HNO : Hid (¬ AddOk zs ys) := Lib.hid (fun h => hn2 h.2.2)
        clear hn1 hn2
        go_enter Try.func42, Try.ntmps42
        go_wp2_with fail
        refine HA1.out.mono ?_
        rintro e w' ⟨rfl, rfl⟩
        go_wp2_with fail
        refine HA2.out.mono ?_
        rintro e w' ⟨rfl, rfl⟩
        go_wp2_with fail
        go_ret2
        exact ⟨_, [], 1, rfl, IsInts.nil _, Below.refl _ _, Or.inl ⟨HNO.out, rfl, rfl⟩⟩
    · have HA1 := Lib.hid (areNumbers_any _ zs false w HV.out (by omega) ⟨fun e => (by cases e), fun e => absurd e hn1⟩)
      have HNO : Hid (¬ AddOk zs ys) := Lib.hid (fun h => hn1 h.2.1)
      clear hn1
      go_enter Try.func42, Try.ntmps42
      go_wp2_with fail
      refine HA1.out.mono ?_
      rintro e w' ⟨rfl, rfl⟩
      go_wp2_with fail
      go_ret2
      exact ⟨_, [], 1, rfl, IsInts.nil _, Below.refl _ _, Or.inl ⟨HNO.out, rfl, rfl⟩⟩
  · have hlb : ((zs.length : Int) != (ys.length : Int)) = true := by rw [bne_iff_ne]; omega
    have HNO : Hid (¬ AddOk zs ys) := Lib.hid (fun h => hl h.1)
    clear hl
    go_enter Try.func42, Try.ntmps42
    go_wp2_with fail
    go_ret2
    exact ⟨_, [], 1, rfl, IsInts.nil _, Below.refl _ _, Or.inl ⟨HNO.out, rfl, rfl⟩⟩
/-- How many groups n symbols have. -/
def gn (n : Int) : Int := if n ≤ 0 then 0 else (n - 1) / 50 + 1
theorem gn_nat (n : Nat) : gn (n : Int) = (ng n : Int) := by
  unfold gn
  by_cases h : n = 0
  · subst h; rfl
  · rw [if_neg (by omega), ng_pos n (by omega)]
set_option maxHeartbeats 400000 in
theorem groups_any (n : Int) (w : World) (h1 : -9223372036854775808 ≤ n) (h2 : n ≤ 9223372036854775807) : Calls Try.prog 38 #[.int .i64 n] w fun e w' => e = .returned (.int .i64 (gn n)) ∧ w = w' := by
  by_cases h : n ≤ 0
  · rw [show gn n = 0 from if_pos h]
    go_enter Try.func38, Try.ntmps38
    go_wp2_with fail
    go_ret
    exact ⟨rfl, rfl⟩
  · rw [show gn n = (n - 1) / 50 + 1 from if_neg h]
    have w1 : IntKind.i64.wrap (n - 1) = n - 1 := IntWalk.i64_in _ (by omega)
    have w2 : (n - 1).tdiv 50 = (n - 1) / 50 := Int.tdiv_eq_ediv_of_nonneg (by omega)
    have w3 : IntKind.i64.wrap ((n - 1) / 50) = (n - 1) / 50 := IntWalk.i64_in _ (by omega)
    have w4 : IntKind.i64.wrap ((n - 1) / 50 + 1) = (n - 1) / 50 + 1 := IntWalk.i64_in _ (by omega)
    go_enter Try.func38, Try.ntmps38
    go_wp2_with fail
    go_ret
    exact ⟨rfl, rfl⟩
set_option maxRecDepth 100000 in
set_option maxHeartbeats 1000000 in
theorem clone_any (b off m c : Nat) (zs : List Int) (w : World) (hI : IsInts w (.slice (some ⟨b, off, none⟩) m c) zs) (hm : zs.length ≤ 1000000) :
    Calls Try.prog 58 #[.slice (some ⟨b, off, none⟩) m c] w fun e w' => ∃ v, e = .returned v ∧ OwnI w' w.heap.size v zs ∧ Below w.heap.size w w' := by
  have HI := Lib.hid hI
  have hnil : ∀ W, (binOp .eql 22 (.slice (some ⟨b, off, none⟩) m c) (.slice none 0 0)).run Try.prog W = .ok (.bool false) W := fun W => Lib.run_eql_slice_nil W _ _ _ _ _ _ _ Try.underlying22
  go_enter Try.func58, Try.ntmps58
  go_wp2_with (at_builtin; go_loud (refine push_src _ rfl _ _ rfl w.heap.size _ [] b off m c zs (OwnI.lit w w.heap.size (Nat.le_refl _)) (by exact HI.out.alloc _) rfl rfl (by simp; omega) (by simp) ?_))
  intro v' w2 hO2 hB2
  have HO2 := Lib.hid hO2
  have HB2 := Lib.hid (((Below.refl w.heap.size w).alloc (Nat.le_refl _) (.cells #[] 3)).trans hB2)
  clear hO2 hB2
  go_wp2_with fail
  go_ret
  exact ⟨_, rfl, HO2.out, HB2.out⟩
set_option maxRecDepth 100000 in
set_option maxHeartbeats 1000000 in
theorem group1_any (b off len c : Nat) (zs : List Int) (i : Nat) (w : World) (hI : IsInts w (.slice (some ⟨b, off, none⟩) len c) zs) (hlen : zs.length = len) (hm : len ≤ 1000000) (hc : len ≤ c) (hc2 : c ≤ 9223372036854775807) (hi : 50 * i < len) :
    Calls Try.prog 54 #[.slice (some ⟨b, off, none⟩) len c, .int .i64 (i : Int)] w fun e w' => ∃ v, e = .returned v ∧ OwnI w' w.heap.size v (grp zs i) ∧ Below w.heap.size w w' := by
  have hgl := grp_len zs i
  rw [hlen] at hgl
  have HG : Hid (∀ m, m = min 50 (len - 50 * i) → (zs.drop (50 * i)).take m = grp zs i) := Lib.hid (fun m hmm => by
    unfold grp
    rw [hmm, ← hlen, ← List.length_drop]
    by_cases h : (zs.drop (50 * i)).length ≤ 50
    · rw [Nat.min_eq_right h, List.take_of_length_le (Nat.le_refl _), List.take_of_length_le h]
    · rw [Nat.min_eq_left (by omega)])
  obtain ⟨q, hq⟩ : ∃ q, 50 * i = q := ⟨_, rfl⟩
  rw [hq] at HG hi hgl
  have HC := Lib.hid (fun m (hmm : m = min 50 (len - q)) => clone_any b (off + q) m (c - q) (grp zs i) w (by rw [← HG.out m hmm]; exact hI.part q m (c - q) (by omega)) (by omega))
  have hw : IntKind.i64.wrap ((i : Int) * 50) = (q : Int) := by rw [show (i : Int) * 50 = (q : Int) by omega]; exact IntWalk.i64_in _ (by omega)
  have hqI : (i : Int) * 50 = (q : Int) := by omega
  have b0 : (0 : Int) ≤ (q : Int) := by omega
  have b1 : (q : Int) ≤ (len : Int) := by omega
  have b2 : (len : Int) ≤ (c : Int) := by omega
  clear hI hq
  go_enter Try.func54, Try.ntmps54
  go_wp2_with fail
  all_goals
    refine (HC.out _ (by omega)).mono ?_
    rintro e w2 ⟨v, rfl, hO, hB⟩
    have HO := Lib.hid hO
    have HB := Lib.hid hB
    clear hO hB
    go_wp2_with fail
    go_ret
    exact ⟨_, rfl, HO.out, HB.out⟩
/-- What Group tells. -/
def GrpP (l : List Int) (i : Int) (zs : List Int) (err : Nat) : Prop := ((i < 0 ∨ (ng l.length : Int) ≤ i) ∧ zs = [] ∧ err = 1) ∨ (0 ≤ i ∧ i < (ng l.length : Int) ∧ zs = grp l i.toNat ∧ err = 0)
set_option maxRecDepth 100000 in
set_option maxHeartbeats 1000000 in
theorem group_any (a : Option Addr) (len c : Nat) (zs : List Int) (i : Int) (w : World) (hI : IsInts w (.slice a len c) zs) (hlen : zs.length = len) (hm : len ≤ 1000000) (hc : len ≤ c) (hc2 : c ≤ 9223372036854775807) :
    Calls Try.prog 37 #[.slice a len c, .int .i64 i] w fun e w' => ∃ (v : Value) (ys : List Int) (err : Nat), e = .returned (.tuple #[v, .int .i64 (err : Int)]) ∧ IsInts w' v ys ∧ Below w.heap.size w w' ∧ GrpP zs i ys err := by
  have HGR := Lib.hid (groups_any (len : Int) w (by omega) (by omega))
  rw [gn_nat] at HGR
  have HI := Lib.hid hI
  by_cases h0 : i < 0
  · go_enter Try.func37, Try.ntmps37
    go_wp2_with fail
    go_ret2
    exact ⟨_, [], 1, rfl, IsInts.nil _, Below.refl _ _, Or.inl ⟨Or.inl h0, rfl, rfl⟩⟩
  · by_cases h1 : (ng len : Int) ≤ i
    · generalize hN : ng len = N at *
      go_enter Try.func37, Try.ntmps37
      go_wp2_with fail
      refine HGR.out.mono ?_
      rintro e w' ⟨rfl, rfl⟩
      go_wp2_with fail
      go_ret2
      exact ⟨_, [], 1, rfl, IsInts.nil _, Below.refl _ _, Or.inl ⟨Or.inr (by rw [hlen, hN]; exact h1), rfl, rfl⟩⟩
    · obtain ⟨k, rfl⟩ : ∃ k : Nat, i = (k : Int) := ⟨i.toNat, by omega⟩
      have hkl : 50 * k < len := by unfold ng at h1; omega
      obtain ⟨b, off, rfl⟩ : ∃ b off, a = some ⟨b, off, none⟩ := by
        obtain ⟨a1, cap1, he, hcc⟩ := hI
        simp only [Value.slice.injEq] at he
        obtain ⟨rfl, _, _⟩ := he
        obtain ⟨b, off, h, _⟩ := hcc 0 _ (List.getElem?_eq_getElem (show 0 < zs.length by omega))
        exact ⟨b, off, h⟩
      have HG1 := Lib.hid (group1_any b off len c zs k w hI hlen hm hc hc2 hkl)
      generalize hN : ng len = N at *
      go_enter Try.func37, Try.ntmps37
      go_wp2_with fail
      refine HGR.out.mono ?_
      rintro e w' ⟨rfl, rfl⟩
      go_wp2_with fail
      refine HG1.out.mono ?_
      rintro e w2 ⟨v, rfl, hO, hB⟩
      have HO := Lib.hid hO
      have HB := Lib.hid hB
      clear hO hB
      go_wp2_with fail
      go_ret2
      exact ⟨_, _, 0, rfl, HO.out.ints, HB.out, Or.inr ⟨by omega, by rw [hlen, hN]; omega, by simp, rfl⟩⟩
end Go.Proofs.Ythfdmmlamomlkaa

/-
  THE WALKS OF LAYER 15's CODE (package rotate) AND THE DOCUMENT's ANSWER: Period, Least.
-/
import Derived.Test.YthkiaddmgggbpaaRotB
namespace Go.Proofs.Ythkiaddmgggbpaa
open Go.RowKit BwtM
set_option linter.unusedVariables false
theorem tmod_nat (n p : Nat) : (n : Int).tmod (p : Int) = ((n % p : Nat) : Int) := by rw [Int.tmod_eq_emod_of_nonneg (by omega)]; omega
theorem tdiv_nat (n p : Nat) : (n : Int).tdiv (p : Int) = ((n / p : Nat) : Int) := by rw [Int.tdiv_eq_ediv_of_nonneg (by omega)]; omega
set_option maxHeartbeats 1000000 in
theorem period_nil (s : ByteArray) (w : World) (h : s.size = 0) : Calls Try.prog 21 #[.string s] w fun e w' => e = .returned (.int .i64 0) ∧ w' = w := by
  go_enter Try.func21, Try.ntmps21
  go_wp2_with fail
  go_loopw [4] (fun vp wr => vp = .int .i64 1 ∧ wr = w) (fun vp _ => 0)
  case atStart => exact ⟨rfl, rfl⟩
  case round =>
    obtain ⟨rfl, rfl⟩ := hrel
    go_wp2_with fail
    go_ret
    exact ⟨rfl, rfl⟩
theorem not_half {T : List UInt8} {n : Nat} (hn : n = T.length) (h0 : 0 < n) (h : ∀ q, 0 < q → q ≤ n / 2 → ¬ (q ∣ n ∧ rot T q = T)) : IsPeriod T n := by
  subst hn
  exact period_all h0 (fun q h1 h2 ⟨h3, h4⟩ => h q h1 (dvd_half h3 h2) ⟨h3, h4⟩)
set_option maxHeartbeats 2000000 in
theorem period_any (s : ByteArray) (w : World) (hs : s.size ≤ 1099511627776) (h0 : 0 < s.size) :
    Calls Try.prog 21 #[.string s] w fun e w' => (∃ p : Nat, e = .returned (.int .i64 (p : Int)) ∧ IsPeriod s.data.toList p) ∧ Below w.heap.size w w' := by
  have hN0 := txt_len s
  obtain ⟨n, hn⟩ : ∃ n, s.size = n := ⟨_, rfl⟩
  rw [hn] at hs h0 hN0
  have HN := Lib.hid hN0
  have hh : (n : Int).tdiv 2 = ((n / 2 : Nat) : Int) := tdiv_nat n 2
  have hh2 : n / 2 ≤ n := Nat.div_le_self _ _
  have HX : Hid (∀ d : Nat, (s.extract d n).data.toList = s.data.toList.drop d ∧ (s.extract 0 d).data.toList = s.data.toList.take d) := Lib.hid (fun d => ⟨by rw [← hn]; exact rot_dataD s d, rot_takeD s d⟩)
  obtain ⟨m, hm⟩ : ∃ m, n / 2 = m := ⟨_, rfl⟩
  rw [hm] at hh hh2
  have HM := Lib.hid hm
  clear hm hN0
  go_enter Try.func21, Try.ntmps21
  go_wp2_with fail
  go_loopw [4] (fun vp wr => ∃ p : Nat, vp = .int .i64 (p : Int) ∧ 1 ≤ p ∧ p ≤ m + 1 ∧ Hid (∀ q, 0 < q → q < p → ¬ (q ∣ n ∧ rot s.data.toList q = s.data.toList)) ∧ ∃ k, wr = w.drewN k) (fun vp _ => m + 1 - (intOf vp).toNat)
  case atStart => exact ⟨1, rfl, by omega, by omega, Lib.hid (fun q h1 h2 => by omega), 0, rfl⟩
  case round =>
    obtain ⟨p, rfl, hp1, hpm, hno, k, rfl⟩ := hrel
    by_cases hlt : p ≤ m
    · have hli : (p : Int) ≤ (m : Int) := by omega
      have hp0 : ((p : Int) == 0) = false := by rw [beq_eq_false_iff_ne]; omega
      have hpn : p ≤ n := by omega
      have hr := tmod_nat n p
      by_cases hd : n % p = 0
      · rw [hd] at hr
        have hdv : p ∣ n := Nat.dvd_of_mod_eq_zero hd
        obtain ⟨d, hde⟩ : ∃ d, n - p = d := ⟨_, rfl⟩
        have hdi : (n : Int) - (p : Int) = (d : Int) := by omega
        have hsh := shift_rot (T := s.data.toList) (p := p) hp1 (by rw [HN.out]; exact hdv) (by rw [HN.out]; exact hpn)
        rw [HN.out, hde, ← (HX.out p).1, ← (HX.out d).2, ← text_inj] at hsh
        have hx1 : (s.extract p n).size ≤ n := by rw [ByteArray.size_extract]; omega
        have hx2 : (s.extract 0 d).size ≤ n := by rw [ByteArray.size_extract]; omega
        have hpi : (p : Int) ≤ (n : Int) := by omega
        have hp0i : (0 : Int) ≤ (p : Int) := by omega
        have hd0 : (0 : Int) ≤ (d : Int) := by omega
        have hdni : (d : Int) ≤ (n : Int) := by omega
        have hdn : d ≤ n := by omega
        by_cases hq : rot s.data.toList p = s.data.toList
        · have hte := list_eq_test _ _ true ⟨fun _ => hsh.2 hq, fun _ => rfl⟩
          have HP : Hid (IsPeriod s.data.toList p) := Lib.hid (period_at hp1 (by rw [HN.out]; exact hdv) hq (fun q h1 h2 => by rw [HN.out]; exact hno.out q h1 h2))
          clear hsh hq hde hdv hd hno
          go_wp2_with fail
          go_quiet (fail)
          go_wp2_with fail
          go_ret
          exact ⟨⟨p, rfl, HP.out⟩, rfl, rfl, rfl, Nat.le_refl _, fun _ _ => rfl⟩
        · have hte := list_eq_test _ _ false ⟨fun e => (by cases e), fun e => absurd (hsh.1 e) hq⟩
          have HNO : Hid (∀ q, 0 < q → q < p + 1 → ¬ (q ∣ n ∧ rot s.data.toList q = s.data.toList)) := Lib.hid (fun q h1 h2 h3 => by
            rcases Nat.lt_or_ge q p with g | g
            · exact hno.out q h1 g h3
            · obtain rfl : q = p := by omega
              exact hq h3.2)
          clear hsh hq hde hdv hd hno
          go_wp2_with fail
          go_quiet (fail)
          go_wp2_with fail
          go_roundw
          case rel => exact ⟨p + 1, by go_num, by omega, by omega, HNO, _, rfl⟩
          case measure => simp [intOf]; omega
      · have hr0 : (((n % p : Nat) : Int) == 0) = false := by rw [beq_eq_false_iff_ne]; omega
        have HNO : Hid (∀ q, 0 < q → q < p + 1 → ¬ (q ∣ n ∧ rot s.data.toList q = s.data.toList)) := Lib.hid (fun q h1 h2 h3 => by
          rcases Nat.lt_or_ge q p with g | g
          · exact hno.out q h1 g h3
          · obtain rfl : q = p := by omega
            exact hd (Nat.mod_eq_zero_of_dvd h3.1))
        have hrn : n % p < p := Nat.mod_lt _ (by omega)
        generalize n % p = R at *
        clear hd hno
        go_wp2_with fail
        go_quiet (fail)
        go_wp2_with fail
        go_roundw
        case rel => exact ⟨p + 1, by go_num, by omega, by omega, HNO, _, rfl⟩
        case measure => simp [intOf]; omega
    · have hli : ¬ (p : Int) ≤ (m : Int) := by omega
      have HP : Hid (IsPeriod s.data.toList n) := Lib.hid (not_half (by rw [HN.out]) h0 (fun q h1 h2 => hno.out q h1 (by have := HM.out; omega)))
      go_wp2_with fail
      go_ret
      exact ⟨⟨n, rfl, HP.out⟩, rfl, rfl, rfl, Nat.le_refl _, fun _ _ => rfl⟩
set_option maxHeartbeats 2000000 in
theorem rperiod_any (s : ByteArray) (w : World) (hs : s.size ≤ 1099511627776) (h0 : 0 < s.size) :
    Calls Try.prog 22 #[.string s] w fun e w' => (∃ p : Nat, e = .returned (.int .i64 (p : Int)) ∧ IsPeriod s.data.toList p) ∧ Below w.heap.size w w' := by
  have hN0 := txt_len s
  obtain ⟨n, hn⟩ : ∃ n, s.size = n := ⟨_, rfl⟩
  have HR := Lib.hid (fun p W (hp : p ≤ n) => rrotation_any s p W hs (by rw [hn]; exact hp))
  rw [hn] at hs h0 hN0
  have HN := Lib.hid hN0
  clear hN0
  go_enter Try.func22, Try.ntmps22
  go_wp2_with fail
  go_loopw [6] (fun vp wr => ∃ p : Nat, vp = .int .i64 (p : Int) ∧ p ≤ n ∧ Hid (∀ q, 0 < q → q < p → ¬ (q ∣ n ∧ rot s.data.toList q = s.data.toList)) ∧ Below w.heap.size w wr) (fun vp _ => n - (intOf vp).toNat)
  case atStart => exact ⟨0, rfl, by omega, Lib.hid (fun q h1 h2 => by omega), Below.refl _ _⟩
  case round =>
    obtain ⟨p, rfl, hpm, hno, hb⟩ := hrel
    have HB := Lib.hid hb
    clear hb
    by_cases hlt : p < n
    · have hli : (p : Int) < (n : Int) := by omega
      by_cases hp0 : 0 < p
      · have hpi : (p : Int) > 0 := by omega
        have hpe : ((p : Int) == 0) = false := by rw [beq_eq_false_iff_ne]; omega
        have hr := tmod_nat n p
        by_cases hd : n % p = 0
        · rw [hd] at hr
          have hdv : p ∣ n := Nat.dvd_of_mod_eq_zero hd
          have hself := rotT_self s p
          have HRP := Lib.hid (HR.out p wr (Nat.le_of_lt hlt))
          obtain ⟨A, hA⟩ : ∃ A, rotT s p = A := ⟨_, rfl⟩
          rw [hA] at hself HRP
          clear hA
          by_cases hq : rot s.data.toList p = s.data.toList
          · have hte := list_eq_test A s true ⟨fun _ => hself.2 hq, fun _ => rfl⟩
            have HP : Hid (IsPeriod s.data.toList p) := Lib.hid (period_at hp0 (by rw [HN.out]; exact hdv) hq (fun q h1 h2 => by rw [HN.out]; exact hno.out q h1 h2))
            clear hself hq hdv hd hno
            go_wp2_with fail
            refine HRP.out.mono ?_
            rintro e w1 ⟨rfl, hb1⟩
            have HB1 := Lib.hid (HB.out.trans (hb1.mono HB.out.size))
            clear hb1
            go_wp2_with fail
            go_ret
            exact ⟨⟨p, rfl, HP.out⟩, HB1.out⟩
          · have hte := list_eq_test A s false ⟨fun e => (by cases e), fun e => absurd (hself.1 e) hq⟩
            have HNO : Hid (∀ q, 0 < q → q < p + 1 → ¬ (q ∣ n ∧ rot s.data.toList q = s.data.toList)) := Lib.hid (fun q h1 h2 h3 => by
              rcases Nat.lt_or_ge q p with g | g
              · exact hno.out q h1 g h3
              · obtain rfl : q = p := by omega
                exact hq h3.2)
            clear hself hq hdv hd hno
            go_wp2_with fail
            refine HRP.out.mono ?_
            rintro e w1 ⟨rfl, hb1⟩
            have HB1 := Lib.hid (HB.out.trans (hb1.mono HB.out.size))
            clear hb1
            go_wp2_with fail
            go_roundw
            case rel => exact ⟨p + 1, by go_num, by omega, HNO, HB1.out⟩
            case measure => simp [intOf]; omega
        · have hr0 : (((n % p : Nat) : Int) == 0) = false := by rw [beq_eq_false_iff_ne]; omega
          have HNO : Hid (∀ q, 0 < q → q < p + 1 → ¬ (q ∣ n ∧ rot s.data.toList q = s.data.toList)) := Lib.hid (fun q h1 h2 h3 => by
            rcases Nat.lt_or_ge q p with g | g
            · exact hno.out q h1 g h3
            · obtain rfl : q = p := by omega
              exact hd (Nat.mod_eq_zero_of_dvd h3.1))
          have hrn : n % p < p := Nat.mod_lt _ (by omega)
          generalize n % p = R at *
          clear hd hno
          go_wp2_with fail
          go_roundw
          case rel => exact ⟨p + 1, by go_num, by omega, HNO, HB.out⟩
          case measure => simp [intOf]; omega
      · obtain rfl : p = 0 := by omega
        go_wp2_with fail
        go_roundw
        case rel => exact ⟨1, by go_num, by omega, Lib.hid (fun q h1 h2 => by omega), HB.out⟩
        case measure => simp [intOf]; omega
    · have hli : ¬ (p : Int) < (n : Int) := by omega
      have HP : Hid (IsPeriod s.data.toList n) := Lib.hid (not_half (by rw [HN.out]) h0 (fun q h1 h2 => hno.out q h1 (by omega)))
      obtain rfl : p = n := by omega
      go_wp2_with fail
      go_ret
      exact ⟨⟨p, rfl, HP.out⟩, HB.out⟩
set_option maxHeartbeats 1000000 in
theorem least_nil (s : ByteArray) (w : World) (h : s.size = 0) : Calls Try.prog 20 #[.string s] w fun e w' => e = .returned (.int .i64 (-1)) ∧ w' = w := by
  obtain rfl : s = ByteArray.empty := by
    apply ByteArray.ext
    apply Array.toList_inj.1
    have h2 := txt_len s
    rw [h] at h2
    rw [List.eq_nil_of_length_eq_zero h2]
    rfl
  go_enter Try.func20, Try.ntmps20
  go_wp2_with fail
  go_ret
  exact ⟨rfl, rfl⟩
theorem vie_next {T : List UInt8} {a k on : Nat} (h : Vie T a k on) (ho : on < T.length) (hk : k < T.length) :
    (cmpI (bt T (a + on)) (bt T (k + on)) = 0 ∧ Vie T a k (on + 1)) ∨ (cmpI (bt T (a + on)) (bt T (k + on)) = -1 ∧ Vie T a (k + on + 1) 0) ∨ (cmpI (bt T (a + on)) (bt T (k + on)) = 1 ∧ Vie T (max (a + on + 1) k) (max (a + on + 1) k + 1) 0) := by
  unfold cmpI
  by_cases h1 : bt T (a + on) < bt T (k + on)
  · rw [if_pos h1]
    exact Or.inr (Or.inl ⟨rfl, h.less ho hk h1⟩)
  · rw [if_neg h1]
    by_cases h2 : bt T (k + on) < bt T (a + on)
    · rw [if_pos h2]
      exact Or.inr (Or.inr ⟨rfl, h.greater ho hk h2⟩)
    · rw [if_neg h2]
      exact Or.inl ⟨rfl, h.same (by omega)⟩
set_option maxHeartbeats 2000000 in
theorem least_any (s : ByteArray) (w : World) (hs : s.size ≤ 1099511627776) (h0 : 0 < s.size) :
    Calls Try.prog 20 #[.string s] w fun e w' => (∃ a : Nat, e = .returned (.int .i64 (a : Int)) ∧ IsLeast s.data.toList a) ∧ Below w.heap.size w w' := by
  have he := at_enters
  have hemp : s.toList.isEmpty = false := by
    rw [ByteArray.toList_eq]
    have h2 := txt_len s
    cases hl : s.data.toList with
    | nil => rw [hl] at h2; simp at h2; omega
    | cons a t => rfl
  have hN0 := txt_len s
  obtain ⟨n, hn⟩ : ∃ n, s.size = n := ⟨_, rfl⟩
  rw [hn] at hN0
  have HN := Lib.hid hN0
  obtain ⟨g, hg⟩ : ∃ g, w.heap.size = g := ⟨_, rfl⟩
  have HG := Lib.hid hg
  have HAT := Lib.hid (fun k W (hc : Txt W g s) (hk : k < 2 * n) => at_any s g k W hc hs (by rw [hn]; exact hk))
  have HRO := Lib.hid (round_any s w)
  rw [hg] at HRO
  rw [hn] at hs h0
  have HVS : Hid (Vie s.data.toList 0 1 0) := Lib.hid (Vie.start _ (by rw [hN0]; exact h0))
  clear hN0
  go_enter Try.func20, Try.ntmps20
  go_wp2_with fail
  refine HRO.out.mono ?_
  rintro e w1 ⟨rfl, ht, hb, hlt⟩
  have HT := Lib.hid ht
  have HB := Lib.hid hb
  clear ht hb hlt hg
  go_wp2_with fail
  unfold atV
  go_loopw [4, 5, 6] (fun va vk vo wr => ∃ a k o : Nat, va = .int .i64 (a : Int) ∧ vk = .int .i64 (k : Int) ∧ vo = .int .i64 (o : Int) ∧ a < n ∧ k ≤ 2 * n ∧ o ≤ n ∧ Vie s.data.toList a k o ∧ wr = w1) (fun va vk vo _ => 4 * n - ((intOf va).toNat + (intOf vk).toNat + (intOf vo).toNat))
  case atStart => exact ⟨0, 1, 0, rfl, rfl, rfl, by omega, by omega, by omega, HVS.out, rfl⟩
  case round =>
    obtain ⟨a, k, o, rfl, rfl, rfl, han, hk2, hon, hv, rfl⟩ := hrel
    have HV := Lib.hid hv
    clear hv
    by_cases hkn : k < n
    · have hki : (k : Int) < (n : Int) := by omega
      by_cases hol : o < n
      · have hoi : (o : Int) < (n : Int) := by omega
        have hao : (a : Int) + (o : Int) = ((a + o : Nat) : Int) := by omega
        have hko : (k : Int) + (o : Int) = ((k + o : Nat) : Int) := by omega
        have A1 := Lib.hid (HAT.out (a + o) _ HT.out (by omega))
        have A2 := Lib.hid (HAT.out (k + o) _ HT.out (by omega))
        have hc := vie_next HV.out (by rw [HN.out]; exact hol) (by rw [HN.out]; exact hkn)
        have HCM := Lib.hid (cmp_any (bt s.data.toList (a + o)) (bt s.data.toList (k + o)) wr)
        obtain ⟨c, hcc⟩ : ∃ c, cmpI (bt s.data.toList (a + o)) (bt s.data.toList (k + o)) = c := ⟨_, rfl⟩
        rw [hcc] at hc HCM
        obtain ⟨ao, hao2⟩ : ∃ ao, a + o = ao := ⟨_, rfl⟩
        obtain ⟨ko, hko2⟩ : ∃ ko, k + o = ko := ⟨_, rfl⟩
        rw [hao2, hko2] at hc
        rw [hao2] at A1 hao HCM
        rw [hko2] at A2 hko HCM
        clear hcc
        rcases hc with ⟨rfl, hq2⟩ | ⟨rfl, hq2⟩ | ⟨rfl, hq2⟩
        · have HQ2 := Lib.hid hq2
          clear hq2
          go_wp2_with fail
          refine A1.out.mono ?_
          rintro e w' ⟨rfl, rfl⟩
          go_wp2_with fail
          refine A2.out.mono ?_
          rintro e w'' ⟨rfl, rfl⟩
          go_wp2_with fail
          refine HCM.out.mono ?_
          rintro e w3 ⟨rfl, rfl⟩
          go_wp2_with fail
          go_roundw
          case rel => exact ⟨a, k, o + 1, rfl, rfl, by go_num, han, hk2, by omega, HQ2.out, trivial⟩
          case measure => simp [intOf]; omega
        · have HQ2 := Lib.hid hq2
          clear hq2
          go_wp2_with fail
          refine A1.out.mono ?_
          rintro e w' ⟨rfl, rfl⟩
          go_wp2_with fail
          refine A2.out.mono ?_
          rintro e w'' ⟨rfl, rfl⟩
          go_wp2_with fail
          refine HCM.out.mono ?_
          rintro e w3 ⟨rfl, rfl⟩
          go_wp2_with fail
          go_roundw
          case rel => exact ⟨a, ko + 1, 0, rfl, by go_num, rfl, han, by omega, by omega, HQ2.out, trivial⟩
          case measure => simp [intOf]; omega
        · have HQ2 := Lib.hid hq2
          have hmn := hq2.2.1
          rw [HN.out] at hmn
          obtain ⟨m, hm⟩ : ∃ m, max (ao + 1) k = m := ⟨_, rfl⟩
          rw [hm] at HQ2 hmn
          have hm1 : ao + 1 ≤ m := by omega
          have hm2 : k ≤ m := by omega
          clear hq2
          by_cases hmk : ao + 1 < k
          · have hmi : (ao : Int) + 1 < (k : Int) := by omega
            obtain rfl : m = k := by omega
            go_wp2_with fail
            refine A1.out.mono ?_
            rintro e w' ⟨rfl, rfl⟩
            go_wp2_with fail
            refine A2.out.mono ?_
            rintro e w'' ⟨rfl, rfl⟩
            go_wp2_with fail
            refine HCM.out.mono ?_
            rintro e w3 ⟨rfl, rfl⟩
            go_wp2_with fail
            go_roundw
            case rel => exact ⟨m, m + 1, 0, by go_num, by go_num, rfl, hmn, by omega, by omega, HQ2.out, trivial⟩
            case measure => simp [intOf]; omega
          · have hmi : ¬ (ao : Int) + 1 < (k : Int) := by omega
            obtain rfl : m = ao + 1 := by omega
            go_wp2_with fail
            refine A1.out.mono ?_
            rintro e w' ⟨rfl, rfl⟩
            go_wp2_with fail
            refine A2.out.mono ?_
            rintro e w'' ⟨rfl, rfl⟩
            go_wp2_with fail
            refine HCM.out.mono ?_
            rintro e w3 ⟨rfl, rfl⟩
            go_wp2_with fail
            go_roundw
            case rel => exact ⟨ao + 1, ao + 1 + 1, 0, by go_num, by go_num, rfl, hmn, by omega, by omega, HQ2.out, trivial⟩
            case measure => simp [intOf]; omega
      · have hoi : ¬ (o : Int) < (n : Int) := by omega
        have HL : Hid (IsLeast s.data.toList a) := Lib.hid (HV.out.done (Or.inr (by rw [HN.out]; omega)))
        go_wp2_with fail
        go_ret
        exact ⟨⟨a, rfl, HL.out⟩, by rw [HG.out]; exact HB.out⟩
    · have hki : ¬ (k : Int) < (n : Int) := by omega
      have HL : Hid (IsLeast s.data.toList a) := Lib.hid (HV.out.done (Or.inl (by rw [HN.out]; omega)))
      go_wp2_with fail
      go_ret
      exact ⟨⟨a, rfl, HL.out⟩, by rw [HG.out]; exact HB.out⟩
end Go.Proofs.Ythkiaddmgggbpaa

/-
  THE WALKS OF LAYER 10's CODE (package canon): length, Put, Get.
-/
import Derived.Test.YtclmnmfdajlddaaCanC
import Derived.Test.YtclmnmfdajlddaaCanMathC
import Derived.Test.YtclmnmfdajlddaaBitsRC
import Derived.Test.YtclmnmfdajlddaaBitsL
namespace Go.Proofs.Ytclmnmfdajlddaa
open Go.RowKit CanM HufM BitM
set_option linter.unusedVariables false
set_option maxRecDepth 100000 in
set_option maxHeartbeats 1000000 in
theorem length_any (b : Nat) (zs : List Int) (V n : Nat) (w : World) (h : IsCode w b zs) (h1 : 1 ≤ n) (h20 : n ≤ 20) (hV : V < 1048576) (hs : shr zs = 1048576) (hlt : V < endc zs n) (hge : ∀ m, 1 ≤ m → m < n → endc zs m ≤ V) :
    Calls Try.prog 62 #[.pointer (some ⟨b, 0, none⟩), .int .u32 (V : Int)] w fun e w' => e = .returned (.int .i64 (n : Int)) ∧ w' = w := by
  have H := Lib.hid h
  have HLT := Lib.hid hlt
  have HGE := Lib.hid hge
  clear h hlt hge hs
  go_enter Try.func62, Try.ntmps62
  go_wp2_with fail
  go_loopw [5] (fun vm wr => ∃ m : Nat, vm = .int .i64 (m : Int) ∧ 1 ≤ m ∧ m ≤ n ∧ wr = w) (fun vm _ => 21 - (intOf vm).toNat)
  case atStart => exact ⟨1, rfl, by omega, h1, rfl⟩
  case round =>
    obtain ⟨m, rfl, hm1, hm2, rfl⟩ := hrel
    obtain ⟨A1, hA1⟩ : ∃ A1, 817 + m = A1 := ⟨_, rfl⟩
    have c1 : wr.cell? ⟨b, A1, none⟩ = some (.int .u32 (endc zs m : Int)) := by rw [← hA1]; exact (H.out.len hm1 (show m ≤ 20 by omega)).2.2
    have hm21 : (m : Int) < 21 := by omega
    by_cases hmn : m < n
    · have hle : (endc zs m : Int) ≤ (V : Int) := by have := HGE.out m hm1 hmn; omega
      generalize endc zs m = E at *
      go_wp2_with fail
      go_roundw
      case rel => exact ⟨m + 1, by go_num, by omega, by omega, by trivial⟩
      case measure => simp [intOf]; omega
    · obtain rfl : m = n := by omega
      have hle : (V : Int) < (endc zs m : Int) := by have := HLT.out; omega
      generalize endc zs m = E at *
      go_wp2_with fail
      go_ret
      exact ⟨rfl, rfl⟩
set_option maxHeartbeats 400000 in
theorem cput_nil (x y : Value) (w : World) : Calls Try.prog 36 #[x, .pointer none, y] w fun e w' => e = .returned (.int .i64 7) ∧ w' = w := by
  go_enter Try.func36, Try.ntmps36
  go_wp2_with fail
  go_ret
  exact ⟨rfl, rfl⟩
set_option maxHeartbeats 400000 in
theorem cput_none (b : Nat) (y : Value) (w : World) : Calls Try.prog 36 #[.pointer none, .pointer (some ⟨b, 0, none⟩), y] w fun e w' => e = .returned (.int .i64 7) ∧ w' = w := by
  go_enter Try.func36, Try.ntmps36
  go_wp2_with fail
  refine (of_nil _ _).mono ?_
  rintro e w' ⟨rfl, rfl⟩
  go_wp2_with fail
  go_ret
  exact ⟨rfl, rfl⟩
set_option maxHeartbeats 400000 in
theorem cput_bad (b g : Nat) (zs : List Int) (s : Int) (w : World) (h : IsCode w b zs) (h3 : 3 ≤ zs.length) (hs : s < 0 ∨ (zs.length : Int) ≤ s) :
    Calls Try.prog 36 #[.pointer (some ⟨b, 0, none⟩), .pointer (some ⟨g, 0, none⟩), .int .i64 s] w fun e w' => e = .returned (.int .i64 1) ∧ w' = w := by
  have H := Lib.hid h
  have HS := Lib.hid hs
  clear h hs
  go_enter Try.func36, Try.ntmps36
  go_wp2_with fail
  refine (of_bad b zs s _ H.out h3 HS.out).mono ?_
  rintro e w' ⟨rfl, rfl⟩
  go_wp2_with fail
  go_ret
  exact ⟨rfl, rfl⟩
theorem ln_bd {zs : List Int} (hw : ∀ z ∈ zs, 1 ≤ z ∧ z ≤ 20) {i : Nat} (hi : i < zs.length) : 1 ≤ ln zs i ∧ ln zs i ≤ 20 := by
  have h := hw (zs.getD i 0) (by rw [List.getD_eq_getElem?_getD, List.getElem?_eq_getElem hi]; exact List.getElem_mem hi)
  unfold ln
  omega
/-- Symbol i's code. -/
def code (zs : List Int) (i : Nat) : List Bool := field (cod zs (ln zs i, i)) (ln zs i)
theorem code_length (zs : List Int) (i : Nat) : (code zs i).length = ln zs i := field_length _ _
set_option maxHeartbeats 1000000 in
theorem cput_yes (b g : Nat) (zs : List Int) (i : Nat) (v : Value) (q : List Bool) (tk : Nat) (w : World) (h : IsCode w b zs) (h258 : zs.length ≤ 258) (hwh : WholeP zs) (hi : i < zs.length) (hg : IsWriter w g v q tk) (hq : q.length ≤ 1099511627776) :
    Calls Try.prog 36 #[.pointer (some ⟨b, 0, none⟩), .pointer (some ⟨g, 0, none⟩), .int .i64 (i : Int)] w fun e w' =>
      e = .returned (.int .i64 0) ∧ ∃ v1, IsWriter w' g v1 (q ++ code zs i) tk ∧ Touch (foot g v) w w' ∧ (∀ k, v1.ownBlock = some k → v.ownBlock = some k ∨ w.heap.size ≤ k) := by
  have H := Lib.hid h
  have HW := Lib.hid hwh
  have HG := Lib.hid hg
  clear h hwh hg
  go_enter Try.func36, Try.ntmps36
  go_wp2_with fail
  refine (of_yes b zs i _ H.out (fun z hz => HW.out.1 z hz) h258 hi).mono ?_
  rintro e w1 ⟨rfl, n, hw1⟩
  have HG1 : Hid (IsWriter w1 g v q tk) := Lib.hid (by rw [hw1]; exact HG.out.other (touch_drewN (fun _ => False) w n) (fun _ _ hf => hf))
  have HT1 : Hid (Touch (foot g v) w w1) := Lib.hid (by rw [hw1]; exact touch_drewN _ w n)
  have hsz : Hid (w1.heap.size = w.heap.size) := Lib.hid (by rw [hw1]; rfl)
  have hln := ln_bd (fun z hz => HW.out.1 z hz) hi
  have hcl : Hid (cod zs (ln zs i, i) < 2 ^ ln zs i) := Lib.hid (cod_lt (x := (ln zs i, i)) (ent_of hi) HW.out.2 hln.2)
  clear hw1
  go_wp2_with fail
  refine (put_any g v q tk _ _ w1 HG1.out (by omega) hcl.out hq).mono ?_
  rintro e w2 ⟨rfl, v1, k1, k2, k3⟩
  have K : Hid (IsWriter w2 g v1 (q ++ code zs i) tk ∧ Touch (foot g v) w w2 ∧ (∀ k, v1.ownBlock = some k → v.ownBlock = some k ∨ w.heap.size ≤ k)) := Lib.hid ⟨k1, HT1.out.trans k2 (fun j hj => Or.inl hj), fun k hk => by rw [← hsz.out]; exact k3 k hk⟩
  clear k1 k2 k3
  go_wp2_with fail
  go_ret
  exact ⟨rfl, v1, K.out⟩
set_option maxHeartbeats 400000 in
theorem cget_none (x : Value) (w : World) : Calls Try.prog 44 #[.pointer none, x] w fun e w' => e = .returned (.tuple #[.int .i64 0, .int .i64 7]) ∧ w' = w := by
  go_enter Try.func44, Try.ntmps44
  go_wp2_with fail
  refine (csize_nil _).mono ?_
  rintro e w' ⟨rfl, rfl⟩
  go_wp2_with fail
  go_ret2
  exact ⟨rfl, rfl⟩
set_option maxHeartbeats 400000 in
theorem cget_nil (b : Nat) (zs : List Int) (w : World) (h : IsCode w b zs) (h3 : 3 ≤ zs.length) : Calls Try.prog 44 #[.pointer (some ⟨b, 0, none⟩), .pointer none] w fun e w' => e = .returned (.tuple #[.int .i64 0, .int .i64 7]) ∧ w' = w := by
  have H := Lib.hid h
  have hz : ((zs.length : Int) == 0) = false := by rw [beq_eq_false_iff_ne]; omega
  clear h
  go_enter Try.func44, Try.ntmps44
  go_wp2_with fail
  refine (csize_any b zs _ H.out).mono ?_
  rintro e w' ⟨rfl, rfl⟩
  go_wp2_with fail
  go_ret2
  exact ⟨rfl, rfl⟩
/-- What Get tells: a symbol and nothing wrong, or that the bits end within a code; and where the reader is then. -/
def GetP (zs : List Int) (q : List Bool) (p : Nat) (x e : Int) (p' : Nat) : Prop :=
  (∃ i, i < zs.length ∧ Begins zs (ln zs i, i) q ∧ x = (i : Int) ∧ e = 0 ∧ p' = p + ln zs i) ∨ ((∀ i, i < zs.length → ¬ Begins zs (ln zs i, i) q) ∧ x = 0 ∧ e = 3 ∧ p' = p)
set_option maxRecDepth 100000 in
set_option maxHeartbeats 2000000 in
theorem cget_any (c : Nat) (zs : List Int) (b : Nat) (v : Value) (l : List UInt8) (dr sp p : Nat) (w : World) (h : IsCode w c zs) (h3 : 3 ≤ zs.length) (h258 : zs.length ≤ 258) (hwh : WholeP zs) (hr : IsReader w b v l dr sp p) (hs : dr + l.length ≤ 1099511627776) (hcb : c ≠ b) :
    Calls Try.prog 44 #[.pointer (some ⟨c, 0, none⟩), .pointer (some ⟨b, 0, none⟩)] w fun e w' =>
      ∃ (x er : Int) (p' : Nat), e = .returned (.tuple #[.int .i64 x, .int .i64 er]) ∧ GetP zs ((bitsOf l).drop (p - 8 * dr)) p x er p' ∧ IsReader w' b v l dr sp p' ∧ Touch (· = b) w w' := by
  have H := Lib.hid h
  have HR := Lib.hid hr
  have HW := Lib.hid hwh
  have hp8 : 8 * dr ≤ p := hr.2.2.2.1
  have hpe : p ≤ 8 * (dr + l.length) := hr.2.2.2.2
  obtain ⟨L, hL⟩ : ∃ L, 8 * (dr + l.length) - p = L := ⟨_, rfl⟩
  have hql : Hid (((bitsOf l).drop (p - 8 * dr)).length = L) := Lib.hid (by rw [List.length_drop, bitsOf_length]; omega)
  obtain ⟨q, hq⟩ : ∃ q, (bitsOf l).drop (p - 8 * dr) = q := ⟨_, rfl⟩
  rw [hq] at hql ⊢
  have HQ := Lib.hid hq
  obtain ⟨T, hT⟩ : ∃ T, min L 20 = T := ⟨_, rfl⟩
  obtain ⟨V, hV⟩ : ∃ V, num (q.take T) * 2 ^ (20 - T) = V := ⟨_, rfl⟩
  obtain ⟨i, hi, hn1, hn20, hV20, hend, hge, hcode, hyes, hno⟩ := row_find (fun z hz => HW.out.1 z hz) HW.out.2 q T V (by rw [hql.out, hT]) hV.symm
  have HEND := Lib.hid hend
  have HGE := Lib.hid hge
  have HCODE := Lib.hid hcode
  have HYES := Lib.hid hyes
  have HNO := Lib.hid hno
  have HV := Lib.hid hV
  obtain ⟨n, hn⟩ : ∃ n, ln zs i = n := ⟨_, rfl⟩
  have HN := Lib.hid hn
  rw [hn] at hn1 hn20
  have hz : ((zs.length : Int) == 0) = false := by rw [beq_eq_false_iff_ne]; omega
  have hTL : T ≤ L := by omega
  have hT20 : T ≤ 20 := by omega
  have HTm := Lib.hid hT
  have hLb : L ≤ 8796093022208 := by omega
  have hpb : p ≤ 8796093022208 := by omega
  have HL := Lib.hid hL
  clear h hr hwh hq hend hge hcode hyes hno hV hn hT hL
  go_enter Try.func44, Try.ntmps44
  go_wp2_with fail
  refine (csize_any c zs _ H.out).mono ?_
  rintro e w' ⟨rfl, rfl⟩
  go_wp2_with fail
  refine (rat_any b v l dr sp p _ HR.out).mono ?_
  rintro e w1 ⟨rfl, rfl⟩
  go_wp2_with fail
  refine (rleft_any b v l dr sp p L _ HR.out hs HL.out).mono ?_
  rintro e w2 ⟨rfl, m, hw2⟩
  have H2 : Hid (IsCode w2 c zs) := Lib.hid (by rw [hw2]; exact H.out.other (touch_drewN (fun _ => False) _ m) (fun hf => hf))
  have HR2 : Hid (IsReader w2 b v l dr sp p) := Lib.hid (by rw [hw2]; exact HR.out.drewN m)
  have HT2 : Hid (Touch (· = b) w' w2) := Lib.hid (by rw [hw2]; exact touch_drewN _ _ m)
  clear hw2
  go_wp2_with fail
  · obtain rfl : T = 20 := by have := HTm.out; omega
    refine (get_any b v l dr sp p 20 w2 HR2.out hs (by omega) (by have := HL.out; omega)).mono ?_
    rintro e w3 ⟨rfl, hr3, ht3⟩
    have H3 : Hid (IsCode w3 c zs) := Lib.hid (H2.out.other ht3 hcb)
    have HR3 : Hid (IsReader w3 b v l dr sp (p + 20)) := Lib.hid hr3
    have HT3 : Hid (Touch (· = b) w' w3) := Lib.hid (HT2.out.trans ht3 (fun j hj => Or.inl hj))
    rw [HQ.out]
    clear hr3 ht3
    have hXV : num (q.take 20) = V := by have h1 := HV.out; simpa using h1
    rw [hXV]
    clear hXV
    go_wp2_with fail
    refine (length_any c zs V n w3 H3.out hn1 hn20 hV20 HW.out.2 (by have := HEND.out; rw [HN.out] at this; exact this) (by have := HGE.out; rw [HN.out] at this; exact this)).mono ?_
    rintro e w4 ⟨rfl, rfl⟩
    by_cases hnT : n ≤ 20
    · have hnTi : (n : Int) ≤ 20 := by omega
      obtain ⟨P2, hP2⟩ : ∃ P2, p + n = P2 := ⟨_, rfl⟩
      have hP2i : (p : Int) + (n : Int) = (P2 : Int) := by omega
      have HP2 := Lib.hid hP2
      have hP2b : P2 ≤ 8796093022300 := by omega
      go_wp2_with fail
      refine (seek_yes b v l dr sp (p + 20) P2 w4 HR3.out hs (by omega) (by have := HL.out; omega)).mono ?_
      rintro e w5 ⟨rfl, hr5, ht5⟩
      have H5 : Hid (IsCode w5 c zs) := Lib.hid (H3.out.other ht5 hcb)
      have HR5 : Hid (IsReader w5 b v l dr sp P2) := Lib.hid hr5
      have HT5 : Hid (Touch (· = b) w' w5) := Lib.hid (HT3.out.trans ht5 (fun j hj => Or.inl hj))
      clear hr5 ht5 hP2 hP2i
      obtain ⟨S2, hS2⟩ : ∃ S2 : Nat, 20 - n = S2 := ⟨_, rfl⟩
      have hS2i : (20 : Int) - (n : Int) = (S2 : Int) := by omega
      have hS20 : ¬ (20 : Int) - (n : Int) < 0 := by omega
      have hS2b : S2 ≤ 20 := by omega
      have hpl := plc_bound zs hi
      obtain ⟨R, hR⟩ : ∃ R, rank zs n i = R := ⟨_, rfl⟩
      obtain ⟨Fc, hFc⟩ : ∃ Fc, fcod zs n = Fc := ⟨_, rfl⟩
      obtain ⟨Cl, hCl⟩ : ∃ Cl, cl zs n = Cl := ⟨_, rfl⟩
      obtain ⟨P, hP⟩ : ∃ P, plc zs i = P := ⟨_, rfl⟩
      obtain ⟨K, hK⟩ : ∃ K, V / 2 ^ S2 = K := ⟨_, rfl⟩
      have hKe : K = Fc + R := by have := HCODE.out; rw [HN.out, hS2, hK, hFc, hR] at this; exact this
      have hPe : P = Cl + R := by rw [← hP, ← hCl, ← hR, ← HN.out]; rfl
      rw [hP] at hpl
      have hKi : (V : Int) / 2 ^ S2 = (K : Int) := by rw [← hK]; simp
      have hKb : K ≤ V := by rw [← hK]; exact Nat.div_le_self _ _
      have hKF : (K : Int) - (Fc : Int) = (R : Int) := by omega
      have hFK : (Fc : Int) ≤ (K : Int) := by omega
      have hPi : (Cl : Int) + (R : Int) = (P : Int) := by omega
      have hP258 : (P : Int) < 258 := by omega
      have hn21 : (n : Int) < 21 := by omega
      obtain ⟨B1, hB1⟩ : ∃ B1, 796 + n = B1 := ⟨_, rfl⟩
      obtain ⟨B2, hB2⟩ : ∃ B2, 775 + n = B2 := ⟨_, rfl⟩
      obtain ⟨B3, hB3⟩ : ∃ B3, 517 + P = B3 := ⟨_, rfl⟩
      have d1 : w5.cell? ⟨c, B1, none⟩ = some (.int .i64 (Cl : Int)) := by rw [← hB1, ← hCl]; exact (H5.out.len hn1 hn20).2.1
      have d2 : w5.cell? ⟨c, B2, none⟩ = some (.int .u32 (Fc : Int)) := by rw [← hB2, ← hFc]; exact (H5.out.len hn1 hn20).1
      have d3 : w5.cell? ⟨c, B3, none⟩ = some (.int .i64 (i : Int)) := by rw [← hB3, ← hP]; exact (H5.out.sym (fun z hz => HW.out.1 z hz) h258 hi).2.2
      clear hKe hPe hK hP hCl hR hFc hS2
      go_wp2_with fail
      go_quiet (fail)
      go_wp2_with fail
      go_ret2
      exact ⟨(i : Int), 0, P2, rfl, Or.inl ⟨i, hi, HYES.out (by rw [HN.out]; exact hnT), rfl, rfl, by rw [HN.out]; exact HP2.out.symm⟩, HR5.out.drewN _, HT5.out.trans (touch_drewN _ _ _) (fun j hj => Or.inl hj)⟩
    · have hnTi : (20 : Int) < n := by omega
      go_wp2_with fail
      refine (seek_yes b v l dr sp (p + 20) p w4 HR3.out hs (by omega) (by have := HL.out; omega)).mono ?_
      rintro e w5 ⟨rfl, hr5, ht5⟩
      have HR5 : Hid (IsReader w5 b v l dr sp p) := Lib.hid hr5
      have HT5 : Hid (Touch (· = b) w' w5) := Lib.hid (HT3.out.trans ht5 (fun j hj => Or.inl hj))
      clear hr5 ht5
      go_wp2_with fail
      go_ret2
      exact ⟨0, 3, p, rfl, Or.inr ⟨HNO.out (by rw [HN.out]; omega), rfl, rfl, rfl⟩, HR5.out, HT5.out⟩
  · obtain rfl : T = L := by have := HTm.out; omega
    refine (get_any b v l dr sp p T w2 HR2.out hs (by omega) (by have := HL.out; omega)).mono ?_
    rintro e w3 ⟨rfl, hr3, ht3⟩
    have H3 : Hid (IsCode w3 c zs) := Lib.hid (H2.out.other ht3 hcb)
    have HR3 : Hid (IsReader w3 b v l dr sp (p + T)) := Lib.hid hr3
    have HT3 : Hid (Touch (· = b) w' w3) := Lib.hid (HT2.out.trans ht3 (fun j hj => Or.inl hj))
    rw [HQ.out]
    clear hr3 ht3
    obtain ⟨X, hX⟩ : ∃ X, num (q.take T) = X := ⟨_, rfl⟩
    obtain ⟨S, hS⟩ : ∃ S : Nat, 20 - T = S := ⟨_, rfl⟩
    have hSI : (20 : Int) - (T : Int) = (S : Int) := by omega
    have hS0 : ¬ (20 : Int) - (T : Int) < 0 := by omega
    have hSb : S ≤ 20 := by omega
    have HVm : (X : Int) * 2 ^ S % 4294967296 = (V : Int) := by
      have h1 := HV.out
      rw [hX, hS] at h1
      have h2 : (X : Int) * 2 ^ S = (V : Int) := by rw [← h1]; rw [Int.natCast_mul, Int.natCast_pow]; rfl
      rw [h2]; omega
    rw [hX]
    clear hS
    go_wp2_with fail
    refine (length_any c zs V n w3 H3.out hn1 hn20 hV20 HW.out.2 (by have := HEND.out; rw [HN.out] at this; exact this) (by have := HGE.out; rw [HN.out] at this; exact this)).mono ?_
    rintro e w4 ⟨rfl, rfl⟩
    by_cases hnT : n ≤ T
    · have hnTi : (n : Int) ≤ T := by omega
      obtain ⟨P2, hP2⟩ : ∃ P2, p + n = P2 := ⟨_, rfl⟩
      have hP2i : (p : Int) + (n : Int) = (P2 : Int) := by omega
      have HP2 := Lib.hid hP2
      have hP2b : P2 ≤ 8796093022300 := by omega
      go_wp2_with fail
      refine (seek_yes b v l dr sp (p + T) P2 w4 HR3.out hs (by omega) (by have := HL.out; omega)).mono ?_
      rintro e w5 ⟨rfl, hr5, ht5⟩
      have H5 : Hid (IsCode w5 c zs) := Lib.hid (H3.out.other ht5 hcb)
      have HR5 : Hid (IsReader w5 b v l dr sp P2) := Lib.hid hr5
      have HT5 : Hid (Touch (· = b) w' w5) := Lib.hid (HT3.out.trans ht5 (fun j hj => Or.inl hj))
      clear hr5 ht5 hP2 hP2i
      obtain ⟨S2, hS2⟩ : ∃ S2 : Nat, 20 - n = S2 := ⟨_, rfl⟩
      have hS2i : (20 : Int) - (n : Int) = (S2 : Int) := by omega
      have hS20 : ¬ (20 : Int) - (n : Int) < 0 := by omega
      have hS2b : S2 ≤ 20 := by omega
      have hpl := plc_bound zs hi
      obtain ⟨R, hR⟩ : ∃ R, rank zs n i = R := ⟨_, rfl⟩
      obtain ⟨Fc, hFc⟩ : ∃ Fc, fcod zs n = Fc := ⟨_, rfl⟩
      obtain ⟨Cl, hCl⟩ : ∃ Cl, cl zs n = Cl := ⟨_, rfl⟩
      obtain ⟨P, hP⟩ : ∃ P, plc zs i = P := ⟨_, rfl⟩
      obtain ⟨K, hK⟩ : ∃ K, V / 2 ^ S2 = K := ⟨_, rfl⟩
      have hKe : K = Fc + R := by have := HCODE.out; rw [HN.out, hS2, hK, hFc, hR] at this; exact this
      have hPe : P = Cl + R := by rw [← hP, ← hCl, ← hR, ← HN.out]; rfl
      rw [hP] at hpl
      have hKi : (V : Int) / 2 ^ S2 = (K : Int) := by rw [← hK]; simp
      have hKb : K ≤ V := by rw [← hK]; exact Nat.div_le_self _ _
      have hKF : (K : Int) - (Fc : Int) = (R : Int) := by omega
      have hFK : (Fc : Int) ≤ (K : Int) := by omega
      have hPi : (Cl : Int) + (R : Int) = (P : Int) := by omega
      have hP258 : (P : Int) < 258 := by omega
      have hn21 : (n : Int) < 21 := by omega
      obtain ⟨B1, hB1⟩ : ∃ B1, 796 + n = B1 := ⟨_, rfl⟩
      obtain ⟨B2, hB2⟩ : ∃ B2, 775 + n = B2 := ⟨_, rfl⟩
      obtain ⟨B3, hB3⟩ : ∃ B3, 517 + P = B3 := ⟨_, rfl⟩
      have d1 : w5.cell? ⟨c, B1, none⟩ = some (.int .i64 (Cl : Int)) := by rw [← hB1, ← hCl]; exact (H5.out.len hn1 hn20).2.1
      have d2 : w5.cell? ⟨c, B2, none⟩ = some (.int .u32 (Fc : Int)) := by rw [← hB2, ← hFc]; exact (H5.out.len hn1 hn20).1
      have d3 : w5.cell? ⟨c, B3, none⟩ = some (.int .i64 (i : Int)) := by rw [← hB3, ← hP]; exact (H5.out.sym (fun z hz => HW.out.1 z hz) h258 hi).2.2
      clear hKe hPe hK hP hCl hR hFc hS2
      go_wp2_with fail
      go_quiet (fail)
      go_wp2_with fail
      go_ret2
      exact ⟨(i : Int), 0, P2, rfl, Or.inl ⟨i, hi, HYES.out (by rw [HN.out]; exact hnT), rfl, rfl, by rw [HN.out]; exact HP2.out.symm⟩, HR5.out.drewN _, HT5.out.trans (touch_drewN _ _ _) (fun j hj => Or.inl hj)⟩
    · have hnTi : (T : Int) < n := by omega
      go_wp2_with fail
      refine (seek_yes b v l dr sp (p + T) p w4 HR3.out hs (by omega) (by have := HL.out; omega)).mono ?_
      rintro e w5 ⟨rfl, hr5, ht5⟩
      have HR5 : Hid (IsReader w5 b v l dr sp p) := Lib.hid hr5
      have HT5 : Hid (Touch (· = b) w' w5) := Lib.hid (HT3.out.trans ht5 (fun j hj => Or.inl hj))
      clear hr5 ht5
      go_wp2_with fail
      go_ret2
      exact ⟨0, 3, p, rfl, Or.inr ⟨HNO.out (by rw [HN.out]; omega), rfl, rfl, rfl⟩, HR5.out, HT5.out⟩
end Go.Proofs.Ytclmnmfdajlddaa

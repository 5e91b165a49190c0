/-
  THE WALKS OF LAYER 16's CODE (package sorter): classes are made anew.
-/
import Derived.Test.YtfedhppcmmponaaSrtH
namespace Go.Proofs.Ytfedhppcmmponaa
open Go.RowKit BwtM SrtM PkM
set_option linter.unusedVariables false
set_option linter.unusedSimpArgs false
section
variable {B : Nat} {b bo bc ba n : Nat} {vk vw : Value} {kb Z : List Nat} {S : SS}
/-- j more classes are made. -/
def numS (S : SS) (l : List Nat) (j : Nat) : SS := { S with asd := l, made := S.made + j }
/-- What some steps leave: g were gone. -/
def SomeP (B : Nat) (w w' : World) (b n : Nat) (T : List UInt8) (Z : List Nat) (st R k : Nat) (e : Ending) : Prop :=
  ∃ g : Nat, e = .returned (.int .i64 (g : Int)) ∧ (1 ≤ g ∧ g ≤ k ∧ g ≤ R) ∧ SoSt B w' b n T Z st (R - g) ∧ Below B w w' ∧ KbSame w w' Z
theorem IsSo.putClass {wr : World} (h : IsSo B wr b bo bc ba vk vw n kb S) (i x : Nat) (hi : i < n) :
    IsSo B ((wr.setCell ⟨ba, i, none⟩ (.int .i64 (x : Int))).setCell ⟨b, 9, none⟩ (.int .i64 ((S.made + 1 : Nat) : Int))) b bo bc ba vk vw n kb { S with asd := S.asd.set i x, made := S.made + 1 } ∧
    Touch (fun k => k = ba ∨ k = b) wr ((wr.setCell ⟨ba, i, none⟩ (.int .i64 (x : Int))).setCell ⟨b, 9, none⟩ (.int .i64 ((S.made + 1 : Nat) : Int))) := by
  have hr := (h.ra.cell (i := i) (by rw [toI_length, h.la]; exact hi)).2.2 (x : Int)
  have e : (toI S.asd).set i (x : Int) = toI (S.asd.set i x) := by unfold toI; rw [List.map_set]
  rw [e] at hr
  have h1 := h.inAsd (touch_cell (Touch.refl _ _)) (S.asd.set i x) (by rw [List.length_set]; exact h.la) hr
  refine ⟨h1.own (touch_cell (Touch.refl _ _)) (h1.obj.set9 (S.made + 1)) rfl rfl rfl rfl, ?_⟩
  have t1 : Touch (· = ba) wr (wr.setCell ⟨ba, i, none⟩ (.int .i64 (x : Int))) := touch_cell (Touch.refl _ _)
  have t2 : Touch (· = b) (wr.setCell ⟨ba, i, none⟩ (.int .i64 (x : Int))) ((wr.setCell ⟨ba, i, none⟩ (.int .i64 (x : Int))).setCell ⟨b, 9, none⟩ (.int .i64 ((S.made + 1 : Nat) : Int))) := touch_cell (Touch.refl _ _)
  exact (t1.mono (fun _ h => Or.inl h)).trans (t2.mono (fun _ h => Or.inr h)) (fun _ h => Or.inl h)
/-- Where making classes stands: j are made. -/
def NumAtP (B : Nat) (w wr : World) (b bo bc ba n : Nat) (vk vw : Value) (kb : List Nat) (T : List UInt8) (K : Nat → Nat) (S : SS) (m R j : Nat) : Prop :=
  ∃ l, IsSo B wr b bo bc ba vk vw n kb (numS S l j) ∧ Num T K (numS S l j) m (R - j) ∧ j ≤ R ∧ Below B w wr ∧ KbSame w wr kb
set_option maxRecDepth 100000 in
set_option maxHeartbeats 8000000 in
theorem snumber_any (T : List UInt8) (K : Nat → Nat) (w : World) (m R k : Nat) (h : IsSo B w b bo bc ba vk vw n (kb ++ Z) S) (hK : KeyH T (bytesBy S.reach) K) (hkey : KeyV w vk kb bc n S.cls K) (hKb : ∀ i, i < n → K i ≤ 1000000000000) (hN : Num T K S m R) (hmd : S.made < n) (hT : T.length = n) (h0 : 0 < n) (hn : n ≤ 900000) (hrc : S.reach ≤ 2 * n) (hkz : ∀ g ∈ kb, g ∉ Z)
    (hk1 : 1 ≤ k) (hk : k ≤ 9223372036854775807) (hb : B ≤ w.heap.size) :
    Calls Try.prog 56 #[.pointer (some ⟨b, 0, none⟩), .int .i64 (k : Int)] w fun e w' => SomeP B w w' b n T Z S.steps R k e := by
  obtain ⟨F, caps, rfl, he, hcall⟩ := hkey
  have HCALL := Lib.hid hcall
  have HKAP := Lib.hid h.kap
  have HKH := Lib.hid hK
  have HHT := Lib.hid hT
  have H0 := Lib.hid h
  have HN := Lib.hid hN
  have hperm := hN.ord.1
  have HORD : Hid (∀ i, i < n → S.ord.getD i 0 < n) := Lib.hid (fun i hi => by
    have := perm_getD hperm (j := i) (by omega)
    omega)
  obtain ⟨md, hmdE⟩ : ∃ md, S.made = md := ⟨_, rfl⟩
  have HMD := Lib.hid hmdE
  rw [hmdE] at hmd
  obtain ⟨lf, hlf⟩ : ∃ lf, n - md = lf := ⟨_, rfl⟩
  have hlfi : (n : Int) - (md : Int) = (lf : Int) := by omega
  have hlfw : IntKind.i64.wrap (lf : Int) = (lf : Int) := IntWalk.i64_in _ (by omega)
  obtain ⟨g, hg⟩ : ∃ g, min k lf = g := ⟨_, rfl⟩
  have hgk : g ≤ k ∧ g ≤ lf ∧ 1 ≤ g ∧ (g < k → g = lf) := by omega
  have hmin : (if lf < k then (lf : Int) else (k : Int)) = (g : Int) := by rw [← hg]; split <;> omega
  have HG := Lib.hid hgk
  have HLF := Lib.hid hlf
  have HB0 : Hid (Below B w w) := Lib.hid (Below.refl _ _)
  obtain ⟨d0, _, _, _, _, _, _, _, _, d9, _⟩ := h.obj.cells
  rw [hmdE] at d9
  clear h hK hN hcall hT hperm hmdE hlf
  go_enter Try.func56, Try.ntmps56
  go_wp2_with fail
  go_quiet (fail)
  have HQ : Hid (NumAtP B w (w.drewN nq) b bo bc ba n (.func (.func F) #[] caps) vw (kb ++ Z) T K S m R 0) := Lib.hid ⟨S.asd, H0.out.drewN nq, HN.out, Nat.zero_le _, belowB_drewN _ _ _, KbSame.refl _ _⟩
  clear d0 d9 hmin hlfi
  generalize w.drewN nq = wq at *
  go_wp2_with fail
  go_loopw [22] (fun vg wr => ∃ (j : Nat), vg = .int .i64 (j : Int) ∧ j ≤ g ∧ NumAtP B w wr b bo bc ba n (.func (.func F) #[] caps) vw (kb ++ Z) T K S m R j) (fun vg _ => g - (intOf vg).toNat)
  case atStart => exact ⟨0, rfl, by omega, HQ.out⟩
  case round =>
    clear HQ
    obtain ⟨j, rfl, hjg, l, hI, hS, hjR, hB, hKB⟩ := hrel
    have HI := Lib.hid hI
    have HS := Lib.hid hS
    have HB := Lib.hid hB
    have HKS := Lib.hid hKB
    obtain ⟨d0, _, d2, _, d4, _, _, _, _, d9, _⟩ := hI.obj.cells
    obtain ⟨M, hM⟩ : ∃ M, md + j = M := ⟨_, rfl⟩
    have HME : Hid (S.made + j = M) := Lib.hid (by rw [HMD.out]; exact hM)
    rw [show (numS S l j).made = M from HME.out] at d9
    have hMn := HG.out
    have hlf := HLF.out
    clear hI hS hB hKB
    by_cases hjl : j < g
    · have hji : (j : Int) < (g : Int) := by omega
      have hMl : M < n := by omega
      have hMi : (M : Int) < (n : Int) := by omega
      have hil := HORD.out M hMl
      obtain ⟨i, hi⟩ : ∃ i, S.ord.getD M 0 = i := ⟨_, rfl⟩
      rw [hi] at hil
      have hii : (i : Int) < (n : Int) := by omega
      have cI := (HI.out.ro.cell (i := M) (by rw [toI_length, HI.out.lo]; exact hMl)).1
      rw [toI_getD, show (numS S l j).ord.getD M 0 = i from hi] at cI
      have cA := (HI.out.ra.cell (i := i) (by rw [toI_length, HI.out.la]; exact hil)).1
      have fA := (HI.out.ra.cell (i := i) (by rw [toI_length, HI.out.la]; exact hil)).2.1
      have f9 := HI.out.obj.frozen 9 (by omega)
      have hbba : ¬ b = ba := HI.out.apart.2.2.1
      obtain ⟨x, hx⟩ : ∃ x, cN K S.ord M = x := ⟨_, rfl⟩
      have hxM : x ≤ M := by rw [← hx]; exact cN_le K S.ord M
      have HTL : Hid (∀ W, Below wr.heap.size wr W → NumAtP B w ((W.setCell ⟨ba, i, none⟩ (.int .i64 (x : Int))).setCell ⟨b, 9, none⟩ (.int .i64 ((M + 1 : Nat) : Int))) b bo bc ba n (.func (.func F) #[] caps) vw (kb ++ Z) T K S m R (j + 1)) := Lib.hid (fun W hW => by
        have h1 := HI.out.below hW
        have h2 := h1.putClass i x hil
        have h3 := HS.out.next (S' := numS S (l.set i x) (j + 1)) (by rw [HHT.out]; show S.made + j < n; rw [HME.out]; exact hMl) (by rw [HHT.out]; exact HI.out.la) rfl ⟨rfl, rfl, rfl⟩ rfl rfl rfl (by
          show l.set i x = l.set (S.ord.getD (S.made + j) 0) (cN K S.ord (S.made + j))
          rw [HME.out, hi, hx])
        rw [show (numS S l j).made = M from HME.out] at h2
        refine ⟨l.set i x, ?_, by rw [show R - (j + 1) = R - j - 1 by omega]; exact h3.2, by have := h3.1; omega, ?_, ?_⟩
        · have e : ({ (numS S l j) with asd := (numS S l j).asd.set i x, made := M + 1 } : SS) = numS S (l.set i x) (j + 1) := by
            show ({ S with asd := l.set i x, made := M + 1 } : SS) = { S with asd := l.set i x, made := S.made + (j + 1) }
            rw [show S.made + (j + 1) = M + 1 by rw [← HME.out]; omega]
          rw [e] at h2
          exact h2.1
        · exact (HB.out.trans (hW.mono (Nat.le_trans hb HB.out.size))).trans (h2.2.below (Nat.le_trans (Nat.le_trans hb HB.out.size) hW.size) (fun y hy => by
            obtain ⟨b1, b2, b3, b4⟩ := HI.out.base
            rcases hy with e | e
            · omega
            · omega))
        · intro y hy
          obtain ⟨k1, k2, k3, k4, k5, _⟩ := HI.out.kap y hy
          rw [h2.2.block y (Nat.lt_of_lt_of_le k1 hW.size) (fun e => by
            rcases e with e | e
            · exact k5 e
            · exact k2 e), hW.block y k1]
          exact HKS.out y hy)
      have HCC : Hid (∀ q m2, q < n → Calls Try.prog F (#[.int .i64 (q : Int)] ++ caps) (wr.drewN m2) fun e w' => e = .returned (.int .i64 (K q : Int)) ∧ ∃ m3, w' = (wr.drewN m2).drewN m3) := Lib.hid (fun q m2 hq => HCALL.out (wr.drewN m2) (fun x hx => HKS.out x (List.mem_append_left _ hx)) HI.out.rc q hq)
      have HXN := Lib.hid hx
      have HIE := Lib.hid hi
      clear hx hi
      by_cases hM0 : M = 0
      · have hx0 : x = 0 := by rw [← HXN.out, hM0]; rfl
        have hMg : ¬ (M : Int) > 0 := by omega
        clear hM0
        subst hx0
        go_wp2_with fail
        go_quiet (fail)
        have HRR : Hid (NumAtP B w (((wr.drewN nq).setCell ⟨ba, i, none⟩ (.int .i64 ((0 : Nat) : Int))).setCell ⟨b, 9, none⟩ (.int .i64 ((M + 1 : Nat) : Int))) b bo bc ba n (.func (.func F) #[] caps) vw (kb ++ Z) T K S m R (j + 1)) := Lib.hid (HTL.out _ (below_drewN _ _))
        clear HTL
        go_wp2_with fail
        go_roundw
        case rel => exact ⟨j + 1, by go_num, by omega, HRR.out⟩
        case measure => simp [intOf]; omega
      · have hMg : (M : Int) > 0 := by omega
        obtain ⟨M1, hM1⟩ : ∃ M1, M - 1 = M1 := ⟨_, rfl⟩
        have hM1i : (M : Int) - 1 = (M1 : Int) := by omega
        have hM1w : IntKind.i64.wrap (M1 : Int) = (M1 : Int) := IntWalk.i64_in _ (by omega)
        have hM1n : (M1 : Int) < (n : Int) := by omega
        have hal := HORD.out M1 (by omega)
        obtain ⟨a, ha⟩ : ∃ a, S.ord.getD M1 0 = a := ⟨_, rfl⟩
        rw [ha] at hal
        have hai : (a : Int) < (n : Int) := by omega
        have cM := (HI.out.ro.cell (i := M1) (by rw [toI_length, HI.out.lo]; omega)).1
        rw [toI_getD, show (numS S l j).ord.getD M1 0 = a from ha] at cM
        have cC := (HI.out.ra.cell (i := a) (by rw [toI_length, HI.out.la]; exact hal)).1
        rw [toI_getD] at cC
        have hca : (numS S l j).asd.getD a 0 = cN K S.ord M1 := by
          have := HS.out.num M1 (by show M1 < S.made + j; rw [HME.out]; omega)
          rw [show (numS S l j).ord = S.ord from rfl, ha] at this
          exact this
        rw [hca] at cC
        obtain ⟨ca, hcaE⟩ : ∃ ca, cN K S.ord M1 = ca := ⟨_, rfl⟩
        rw [hcaE] at cC
        have hcaM : ca ≤ M1 := by rw [← hcaE]; exact cN_le K S.ord M1
        have hxc : x = if K i = K a then ca else ca + 1 := by
          rw [← HXN.out, show M = M1 + 1 by omega]
          show (if K (S.ord.getD (M1 + 1) 0) = K (S.ord.getD M1 0) then cN K S.ord M1 else cN K S.ord M1 + 1) = _
          rw [ha, hcaE, show M1 + 1 = M by omega, HIE.out]
        obtain ⟨ki, hki⟩ : ∃ ki, K i = ki := ⟨_, rfl⟩
        obtain ⟨ka, hka⟩ : ∃ ka, K a = ka := ⟨_, rfl⟩
        rw [hki, hka] at hxc
        have HCI : Hid (∀ m2, Calls Try.prog F (#[.int .i64 (i : Int)] ++ caps) (wr.drewN m2) fun e w' => e = .returned (.int .i64 (ki : Int)) ∧ ∃ m3, w' = (wr.drewN m2).drewN m3) := Lib.hid (fun m2 => by rw [← hki]; exact HCC.out i m2 hil)
        have HCA : Hid (∀ m2, Calls Try.prog F (#[.int .i64 (a : Int)] ++ caps) (wr.drewN m2) fun e w' => e = .returned (.int .i64 (ka : Int)) ∧ ∃ m3, w' = (wr.drewN m2).drewN m3) := Lib.hid (fun m2 => by rw [← hka]; exact HCC.out a m2 hal)
        clear HCC hca hcaE ha hki hka hM1
        by_cases hkk : ki = ka
        · have hT1 : ((ki : Int) != (ka : Int)) = false := by rw [bne_eq_false_iff_eq]; omega
          rw [if_pos hkk] at hxc
          subst hxc
          go_wp2_with fail
          go_quiet (fail)
          revert nq
          intro na
          go_wp2_with fail
          go_quiet (fail)
          revert nq
          intro nb
          go_wp2_with fail
          go_quiet ((first | exact quiet_more (HCI.out _) | exact quiet_more (HCA.out _)))
          revert nq
          intro nc
          have HRR : Hid (NumAtP B w (((wr.drewN (na + nb + nc)).setCell ⟨ba, i, none⟩ (.int .i64 ((x : Nat) : Int))).setCell ⟨b, 9, none⟩ (.int .i64 ((M + 1 : Nat) : Int))) b bo bc ba n (.func (.func F) #[] caps) vw (kb ++ Z) T K S m R (j + 1)) := Lib.hid (HTL.out _ (below_drewN _ _))
          clear HTL
          go_wp2_with fail
          go_roundw
          case rel => exact ⟨j + 1, by go_num, by omega, HRR.out⟩
          case measure => simp [intOf]; omega
        · have hT1 : ((ki : Int) != (ka : Int)) = true := by rw [bne_iff_ne]; omega
          rw [if_neg hkk] at hxc
          subst hxc
          go_wp2_with fail
          go_quiet (fail)
          revert nq
          intro na
          go_wp2_with fail
          go_quiet (fail)
          revert nq
          intro nb
          go_wp2_with fail
          go_quiet ((first | exact quiet_more (HCI.out _) | exact quiet_more (HCA.out _)))
          revert nq
          intro nc
          have HRR : Hid (NumAtP B w (((wr.drewN (na + nb + nc)).setCell ⟨ba, i, none⟩ (.int .i64 ((ca + 1 : Nat) : Int))).setCell ⟨b, 9, none⟩ (.int .i64 ((M + 1 : Nat) : Int))) b bo bc ba n (.func (.func F) #[] caps) vw (kb ++ Z) T K S m R (j + 1)) := Lib.hid (HTL.out _ (below_drewN _ _))
          clear HTL
          go_wp2_with fail
          go_roundw
          case rel => exact ⟨j + 1, by go_num, by omega, HRR.out⟩
          case measure => simp [intOf]; omega
    · have HE : Hid (j = g) := Lib.hid (by omega)
      have hjid : ¬ (j : Int) < (g : Int) := by omega
      have hgg : j = g := HE.out
      subst hgg
      by_cases hMn : M = n
      · have hE1 : ((M : Int) == (n : Int)) = true := by rw [beq_iff_eq]; omega
        go_wp2_with fail
        go_quiet (fail)
        go_wp2_with fail
        refine (send_any T K (wr.drewN nq) m (R - j) (HI.out.drewN nq) HKH.out HS.out (by show S.made + j = n; rw [HME.out]; exact hMn) HHT.out h0 hn hrc hkz (Nat.le_trans hb HB.out.size)).mono ?_
        rintro e w5 ⟨rfl, hs5, hb5, hk5⟩
        have HR5 : Hid (SomeP B w w5 b n T Z S.steps R k (.returned (.int .i64 (j : Int)))) := Lib.hid (by
          have hg := HG.out
          exact ⟨j, rfl, ⟨hg.2.2.1, hg.1, hjR⟩, hs5, HB.out.trans ((belowB_drewN _ _ nq).trans hb5), KbSame.trans (w1 := wr.drewN nq) HKS.out.part hk5⟩)
        clear hs5 hb5 hk5
        go_wp2_with fail
        go_ret
        exact HR5.out
      · have hE1 : ((M : Int) == (n : Int)) = false := by rw [beq_eq_false_iff_ne]; omega
        have HSS : Hid (∀ q, SomeP B w (wr.drewN q) b n T Z S.steps R k (.returned (.int .i64 (j : Int)))) := Lib.hid (fun q => by
          have hlt : S.made + j < n := by rw [HME.out]; omega
          have hg := HG.out
          refine ⟨j, rfl, ⟨hg.2.2.1, hg.1, hjR⟩, ⟨bo, bc, ba, _, vw, kb, numS S l j, HI.out.drewN q, ⟨rfl, hrc, hkz⟩, Or.inr ⟨K, HKH.out, ⟨F, caps, rfl, he, fun W hW hR => HCALL.out W (fun x hx => (hW x hx).trans (HKS.out x (List.mem_append_left _ hx))) hR⟩, hKb, Or.inr ⟨m, HS.out, hlt⟩⟩⟩, HB.out.trans (belowB_drewN _ _ _), HKS.out.part⟩)
        go_wp2_with fail
        go_quiet (fail)
        go_wp2_with fail
        go_ret
        exact HSS.out _
end
end Go.Proofs.Ytfedhppcmmponaa

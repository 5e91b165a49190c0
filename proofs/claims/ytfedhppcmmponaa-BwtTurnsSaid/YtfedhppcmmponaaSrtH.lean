/-
  THE WALKS OF LAYER 16's CODE (package sorter): the end of a pass.
-/
import Derived.Test.YtfedhppcmmponaaSrtG
import Derived.BigRegion
namespace Go.Proofs.Ytfedhppcmmponaa
open Go.RowKit BwtM SrtM PkM
set_option linter.unusedVariables false
set_option linter.unusedSimpArgs false
section
variable {B : Nat} {b bo bc ba n : Nat} {vk vw : Value} {kb Z : List Nat} {S : SS}
theorem belowB_drewN (B : Nat) (w : World) (k : Nat) : Below B w (w.drewN k) := ⟨rfl, rfl, rfl, Nat.le_refl _, fun _ _ => rfl⟩
def EndP (B : Nat) (w w' : World) (b n : Nat) (T : List UInt8) (Z : List Nat) (st R : Nat) (e : Ending) : Prop :=
  e = .returned (.tuple #[]) ∧ SoSt B w' b n T Z st R ∧ Below B w w' ∧ KbSame w w' Z
/-- A further pass has begun. -/
theorem end_tail (T : List UInt8) (K : Nat → Nat) (w5 w6 : World) (m R r2 g1 g2 g3 : Nat) (vk2 vw2 : Value) (hN : Num T K S m R) (hK : KeyH T (bytesBy S.reach) K) (hmd : S.made = n) (hT : T.length = n) (h0 : 0 < n) (hn : n ≤ 900000) (hla : S.asd.length = n) (hne : ¬ SrtM.Ends T S.reach) (hr : r2 = bytesBy S.reach)
    (hvk : vk2 = .func (.func 68) #[] #[.pointer (some ⟨g1, 0, none⟩), .pointer (some ⟨g2, 0, none⟩), .pointer (some ⟨g3, 0, none⟩)]) (hC : Caught16 w5 g1 g2 g3 ba n r2) (hI : IsSo B w6 b bo ba bc vk2 vw2 n ([g1, g2, g3] ++ Z) (passSS (swapS S) r2 [⟨0, n, false⟩])) (hkb : KbSame w5 w6 ([g1, g2, g3] ++ Z)) (hkz : ∀ g ∈ [g1, g2, g3], g ∉ Z) : SoSt B w6 b n T Z S.steps R := by
  subst hT hr hvk
  have hnum := hN.num
  rw [hmd] at hnum
  have hck := (classes_key hK hN.ord hnum).2
  obtain ⟨hk2, m2, hs⟩ := hN.pass hK hmd hne (S' := passSS (swapS S) (bytesBy S.reach) [⟨0, T.length, false⟩]) rfl ⟨rfl, rfl, rfl⟩ rfl rfl rfl
  have hrn : S.reach < T.length := by
    rcases Nat.lt_or_ge S.reach T.length with c | c
    · exact c
    · exact absurd (Or.inr c) hne
  refine ⟨bo, ba, bc, _, vw2, [g1, g2, g3], _, hI, ⟨rfl, ?_, hkz⟩, Or.inr ⟨_, hk2, ((keyV_classes w5 g1 g2 g3 ba T.length _ S.asd hC hla (by omega) h0 hck).same (fun g hg => hkb g (List.mem_append_left _ hg))), ?_, Or.inl ⟨[], _, S.ord, m2, hs, fun e => by cases e⟩⟩⟩
  · show bytesBy S.reach ≤ _
    unfold bytesBy
    split <;> omega
  · intro i hi
    show S.asd.getD i 0 * T.length + S.asd.getD ((i + bytesBy S.reach) % T.length) 0 ≤ _
    have a1 := hck i hi
    have a2 := hck ((i + bytesBy S.reach) % T.length) (Nat.mod_lt _ h0)
    have a3 : S.asd.getD i 0 * T.length ≤ 900000 * 900000 := Nat.mul_le_mul (by omega) hn
    omega
set_option maxRecDepth 100000 in
set_option maxHeartbeats 8000000 in
theorem send_any (T : List UInt8) (K : Nat → Nat) (w : World) (m R : Nat) (h : IsSo B w b bo bc ba vk vw n (kb ++ Z) S) (hK : KeyH T (bytesBy S.reach) K) (hN : Num T K S m R) (hmd : S.made = n) (hT : T.length = n) (h0 : 0 < n) (hn : n ≤ 900000) (hrc : S.reach ≤ 2 * n) (hkz : ∀ g ∈ kb, g ∉ Z) (hb : B ≤ w.heap.size) :
    Calls Try.prog 65 #[.pointer (some ⟨b, 0, none⟩)] w fun e w' => EndP B w w' b n T Z S.steps R e := by
  have hnum := hN.num
  rw [hmd, ← hT] at hnum
  have hck := classes_key hK hN.ord hnum
  have hcu := classes_unlike hK hN.ord hnum (by omega)
  rw [hT] at hcu hck
  obtain ⟨nm, hnm⟩ : ∃ nm, n - 1 = nm := ⟨_, rfl⟩
  rw [hnm] at hcu
  obtain ⟨o, ho⟩ : ∃ o, S.ord.getD nm 0 = o := ⟨_, rfl⟩
  rw [ho] at hcu
  obtain ⟨c, hc⟩ : ∃ c, S.asd.getD o 0 = c := ⟨_, rfl⟩
  rw [hc] at hcu
  have hon : o < n := by
    have := perm_getD hN.ord.1 (j := nm) (by omega)
    rw [ho] at this
    omega
  have hcn : c < n := by
    have := hck.2 o hon
    rw [hc] at this
    exact this
  have HCK := Lib.hid hck.2
  have HBS := Lib.hid h.base.1
  have HKAP := Lib.hid h.kap
  have HN := Lib.hid hN
  have HK := Lib.hid hK
  have HCU := Lib.hid hcu
  have HHT := Lib.hid hT
  have HMD := Lib.hid hmd
  have HPS := Lib.hid hN.stk
  have HB := Lib.hid h.obj.lt
  obtain ⟨d0, d1, d2, d3, d4, _, _, _, _, d9, _⟩ := h.obj.cells
  have e1 := h.obj.frozen 1 (by omega)
  have e2 := h.obj.frozen 2 (by omega)
  have e9 := h.obj.frozen 9 (by omega)
  have HSW := Lib.hid h.swapped
  obtain ⟨rr, hrr⟩ : ∃ rr, S.reach = rr := ⟨_, rfl⟩
  have HRR := Lib.hid hrr
  rw [hrr] at d3 hrc
  rw [hmd] at d9
  clear hck hcu hN hK hmd h hT hrr hnum
  go_enter Try.func65, Try.ntmps65
  go_wp2_with fail
  go_region
  have HT2 := Lib.hid HSW.out.2
  have H2 := Lib.hid HSW.out.1
  clear HSW d0 d1 d2 d3 d4 d9 e1 e2 e9
  generalize (((w.setCell ⟨b, 1, none⟩ (.slice (some ⟨ba, 0, none⟩) n n)).setCell ⟨b, 2, none⟩ (.slice (some ⟨bc, 0, none⟩) n n)).setCell ⟨b, 9, none⟩ (.int .i64 0)) = w2 at *
  have H3 : Hid (IsSo B w2.drew b bo ba bc vk vw n (kb ++ Z) (swapS S)) := Lib.hid (H2.out.drewN 1)
  have HT3 : Hid (Touch (· = b) w w2.drew) := Lib.hid (HT2.out.trans (touch_drewN (· = b) w2 1) (fun _ h => Or.inl h))
  generalize w2.drew = w3 at *
  clear H2 HT2
  have HBS3 : Hid (Below B w w3) := Lib.hid (HT3.out.below hb (fun k hk => by have := HBS.out; have e : k = b := hk; omega))
  have HKS3 : Hid (KbSame w w3 (kb ++ Z)) := Lib.hid (fun x hx => HT3.out.block x (HKAP.out x hx).1 (HKAP.out x hx).2.1)
  obtain ⟨d0, d1, d2, d3, d4, _, _, _, _, d9, _⟩ := H3.out.obj.cells
  rw [show (swapS S).reach = rr from HRR.out] at d3
  have e4 := H3.out.obj.frozen 4 (by omega)
  have cO := (H3.out.ro.cell (i := nm) (by rw [toI_length, H3.out.lo]; omega)).1
  rw [toI_getD, show (swapS S).ord.getD nm 0 = o from ho] at cO
  have cC := (H3.out.rc.cell (i := o) (by rw [toI_length, H3.out.lc]; omega)).1
  rw [toI_getD, show (swapS S).cls.getD o 0 = c from hc] at cC
  have hnmi : (n : Int) - 1 = (nm : Int) := by omega
  have hnmw : IntKind.i64.wrap (nm : Int) = (nm : Int) := IntWalk.i64_in _ (by omega)
  have hnmn : (nm : Int) < (n : Int) := by omega
  have honi : (o : Int) < (n : Int) := by omega
  have HNMN := Lib.hid hnm
  clear d2 d9 ho hc hnm
  by_cases hcn2 : c = nm
  · have hE : ((c : Int) == (nm : Int)) = true := by rw [beq_iff_eq]; omega
    have hdone := HN.out.done (by rw [HMD.out, HHT.out]) (Or.inl (by
      have := HCU.out.1 hcn2
      unfold Unlike
      rw [HHT.out]
      exact this))
    go_wp2_with fail
    go_quiet (fail)
    have H5 := Lib.hid ((H3.out.drewN nq).keyNone)
    have HB5 : Hid (Below B w ((w3.drewN nq).setCell ⟨b, 4, none⟩ .nilFunc)) := Lib.hid ((HBS3.out.trans (belowB_drewN B w3 nq)).setCell (p := ⟨b, 4, none⟩) HBS.out _)
    have HK5 : Hid (KbSame w ((w3.drewN nq).setCell ⟨b, 4, none⟩ .nilFunc) (kb ++ Z)) := Lib.hid (HKS3.out.trans (fun x hx => H5.out.2.block x (H3.out.kap x hx).1 (H3.out.kap x hx).2.1))
    have HSS : Hid (SoSt B ((w3.drewN nq).setCell ⟨b, 4, none⟩ .nilFunc) b n T Z S.steps R) := Lib.hid ⟨bo, ba, bc, _, vw, kb, swapS S, H5.out.1, ⟨rfl, by show S.reach ≤ _; rw [HRR.out]; exact hrc, hkz⟩, Or.inl ⟨rfl, hdone.2, hdone.1⟩⟩
    clear hdone
    go_wp2_with fail
    refine bodyPost_ret (results_none rfl _ _ _) rfl ?_
    exact ⟨rfl, HSS.out, HB5.out, HK5.out.part⟩
  · have hE : ((c : Int) == (nm : Int)) = false := by rw [beq_eq_false_iff_ne]; omega
    by_cases hrn : n ≤ rr
    · have hG : (rr : Int) ≥ (n : Int) := by omega
      have hdone := HN.out.done (by rw [HMD.out, HHT.out]) (Or.inr (by rw [HHT.out, HRR.out]; exact hrn))
      go_wp2_with fail
      go_quiet (fail)
      have H5 := Lib.hid ((H3.out.drewN nq).keyNone)
      have HB5 : Hid (Below B w ((w3.drewN nq).setCell ⟨b, 4, none⟩ .nilFunc)) := Lib.hid ((HBS3.out.trans (belowB_drewN B w3 nq)).setCell (p := ⟨b, 4, none⟩) HBS.out _)
      have HK5 : Hid (KbSame w ((w3.drewN nq).setCell ⟨b, 4, none⟩ .nilFunc) (kb ++ Z)) := Lib.hid (HKS3.out.trans (fun x hx => H5.out.2.block x (H3.out.kap x hx).1 (H3.out.kap x hx).2.1))
      have HSS : Hid (SoSt B ((w3.drewN nq).setCell ⟨b, 4, none⟩ .nilFunc) b n T Z S.steps R) := Lib.hid ⟨bo, ba, bc, _, vw, kb, swapS S, H5.out.1, ⟨rfl, by show S.reach ≤ _; rw [HRR.out]; exact hrc, hkz⟩, Or.inl ⟨rfl, hdone.2, hdone.1⟩⟩
      clear hdone
      go_wp2_with fail
      refine bodyPost_ret (results_none rfl _ _ _) rfl ?_
      exact ⟨rfl, HSS.out, HB5.out, HK5.out.part⟩
    · have hG : ¬ (rr : Int) ≥ (n : Int) := by omega
      have hne : ¬ SrtM.Ends T S.reach := fun he => by
        rcases he with he | he
        · unfold Unlike at he
          rw [HHT.out] at he
          exact hcn2 (HCU.out.2 he)
        · rw [HHT.out, HRR.out] at he
          exact hrn he
      have HNE := Lib.hid hne
      obtain ⟨q, hq⟩ : ∃ q, 2 * rr = q := ⟨_, rfl⟩
      have hqi : (2 : Int) * (rr : Int) = (q : Int) := by omega
      have hqw : IntKind.i64.wrap (q : Int) = (q : Int) := IntWalk.i64_in _ (by omega)
      clear hne
      go_wp2_with fail
      go_quiet (fail)
      have HDQ : Hid (IsSo B (w3.drewN nq) b bo ba bc vk vw n (kb ++ Z) (swapS S)) := Lib.hid (H3.out.drewN nq)
      have HBQ : Hid (Below B w (w3.drewN nq)) := Lib.hid (HBS3.out.trans (belowB_drewN B w3 nq))
      have HKQ : Hid (KbSame w (w3.drewN nq) (kb ++ Z)) := Lib.hid HKS3.out
      have HTL : Hid (∀ (r2 : Nat), r2 = bytesBy S.reach → ∀ w5 g1 g2 g3, Caught16 w5 g1 g2 g3 ba n r2 → Below (w3.drewN nq).heap.size (w3.drewN nq) w5 → (∀ g ∈ [g1, g2, g3], (w3.drewN nq).heap.size ≤ g ∧ g < w5.heap.size) →
          IsSo B w5 b bo ba bc vk vw n ([g1, g2, g3] ++ Z) (swapS S) ∧ B ≤ w5.heap.size ∧ ∀ w6 vw2 vk2, vk2 = .func (.func 68) #[] #[.pointer (some ⟨g1, 0, none⟩), .pointer (some ⟨g2, 0, none⟩), .pointer (some ⟨g3, 0, none⟩)] → IsSo B w6 b bo ba bc vk2 vw2 n ([g1, g2, g3] ++ Z) (passSS (swapS S) r2 [⟨0, n, false⟩]) → Below B w5 w6 → KbSame w5 w6 ([g1, g2, g3] ++ Z) →
            EndP B w w6 b n T Z S.steps R (.returned (.tuple #[]))) := Lib.hid (by
        intro r2 hr w5 g1 g2 g3 hC hB5 hg5
        have h5 := HDQ.out.below hB5
        have hz := hB5.size
        have hz0 := HBQ.out.size
        refine ⟨h5.keyed _ ?_, by omega, ?_⟩
        · intro g hg
          rcases List.mem_append.1 hg with hg | hg
          · obtain ⟨k1, k2⟩ := hg5 g hg
            have l1 := HDQ.out.obj.lt
            have l2 := HDQ.out.ro.lt
            have l3 := HDQ.out.rc.lt
            have l4 := HDQ.out.ra.lt
            exact ⟨k2, by omega, by omega, by omega, by omega, fun e => by have := (HDQ.out.wt.lt g e).2; omega⟩
          · exact h5.kap g (List.mem_append_right _ hg)
        · intro w6 vw2 vk2 hvk hI hB6 hK6
          refine ⟨rfl, end_tail T K w5 w6 m R r2 g1 g2 g3 vk2 vw2 HN.out HK.out HMD.out HHT.out h0 hn HDQ.out.lc HNE.out hr hvk hC hI hK6 (fun g hg hz => by have h1 := (hg5 g hg).1; have h2 := (HDQ.out.kap g (List.mem_append_right _ hz)).1; omega), (HBQ.out.trans (hB5.mono (by omega))).trans hB6, ?_⟩
          exact (HKQ.out.part).trans (KbSame.trans (w1 := w5) (fun x hx => hB5.block x (HDQ.out.kap x (List.mem_append_right _ hx)).1) hK6.part))
      have HPSW : Hid ((swapS S).ps = []) := HPS
      by_cases hq1 : 1 < q
      · have hq1i : (1 : Int) < (q : Int) := by omega
        have HR2 : Hid (q = bytesBy S.reach) := Lib.hid (by rw [HRR.out, ← hq]; unfold bytesBy; split <;> omega)
        go_wp2_with fail
        refine (classesOf_any (w3.drewN nq) ba n q hn h0 (by omega)).mono ?_
        rintro e w5 ⟨g1, g2, g3, rfl, hC, hB5, hg5⟩
        have HC := Lib.hid hC
        have HT5 := Lib.hid (HTL.out q HR2.out w5 g1 g2 g3 hC hB5 hg5)
        clear hC hB5 hg5
        go_wp2_with fail
        refine (spass_any w5 q _ _ HT5.out.1 HPSW.out HT5.out.2.1 (by omega)).mono ?_
        rintro e w6 ⟨rfl, vw2, hI, hB6, hK6⟩
        have HR6 := Lib.hid (HT5.out.2.2 w6 vw2 _ rfl hI hB6 hK6)
        clear hI hB6 hK6
        go_wp2_with fail
        refine bodyPost_end (results_none rfl _ _ _) rfl ?_
        exact HR6.out
      · have hq1i : ¬ (1 : Int) < (q : Int) := by omega
        have HR2 : Hid (1 = bytesBy S.reach) := Lib.hid (by rw [HRR.out]; unfold bytesBy; split <;> omega)
        go_wp2_with fail
        refine (classesOf_any (w3.drewN nq) ba n 1 hn h0 (by omega)).mono ?_
        rintro e w5 ⟨g1, g2, g3, rfl, hC, hB5, hg5⟩
        have HC := Lib.hid hC
        have HT5 := Lib.hid (HTL.out 1 HR2.out w5 g1 g2 g3 hC hB5 hg5)
        clear hC hB5 hg5
        go_wp2_with fail
        refine (spass_any w5 1 _ _ HT5.out.1 HPSW.out HT5.out.2.1 (by omega)).mono ?_
        rintro e w6 ⟨rfl, vw2, hI, hB6, hK6⟩
        have HR6 := Lib.hid (HT5.out.2.2 w6 vw2 _ rfl hI hB6 hK6)
        clear hI hB6 hK6
        go_wp2_with fail
        refine bodyPost_end (results_none rfl _ _ _) rfl ?_
        exact HR6.out
end
end Go.Proofs.Ytfedhppcmmponaa

/-
  THE WALKS OF LAYER 16's CODE (package sorter): Step.
-/
import Derived.Test.YtfedhppcmmponaaSrtJ
namespace Go.Proofs.Ytfedhppcmmponaa
open Go.RowKit BwtM SrtM PkM
set_option linter.unusedVariables false
set_option linter.unusedSimpArgs false
section
variable {B : Nat} {b n : Nat} {Z : List Nat}
theorem Due.pos0 {T : List UInt8} {K : Nat → Nat} {S : SS} {R : Nat} (h : Due T K S n R) (hT : T.length = n) : 0 < R := by
  rcases Nat.eq_zero_or_pos n with h0 | h0
  · rcases h with ⟨ps, p, A, m, h, hp⟩ | ⟨m, h, hm⟩
    · have hl := h.left
      rw [costs_app] at hl
      have hf := h.fits p (by simp)
      have hfit := h.fit
      rcases h.top with ⟨e0, e1, e2, e3, _⟩ | ⟨hb, _⟩
      · have : 1 ≤ p.cost := by
          unfold Part.cost
          rw [e0]
          exact passS_pos _
        omega
      · have := hf.2.2 hb
        omega
    · omega
  · exact h.pos hT h0
/-- A sorter's block lies in the heap, and it tells whether it is done. -/
theorem SoSt.done {T : List UInt8} {w : World} {st R : Nat} (h : SoSt B w b n T Z st R) (hT : T.length = n) : Calls Try.prog 23 #[.pointer (some ⟨b, 0, none⟩)] w fun e w' => e = .returned (.bool (R == 0)) ∧ w' = w := by
  obtain ⟨bo, bc, ba, vk, vw, kb, S, h1, h2, h3⟩ := h
  rcases h3 with ⟨rfl, _, rfl⟩ | ⟨K, k1, ⟨F, caps, rfl, _⟩, k3, hd⟩
  · exact sdone_yes w h1.obj
  · have hp := hd.pos0 hT
    have e : (R == 0) = false := by rw [beq_eq_false_iff_ne]; omega
    rw [e]
    exact sdone_no F caps w h1.obj
theorem SoSt.bnd {T : List UInt8} {w : World} {st R : Nat} (h : SoSt B w b n T Z st R) : B ≤ b ∧ b < w.heap.size := by
  obtain ⟨bo, bc, ba, vk, vw, kb, S, h1, h2, h3⟩ := h
  exact ⟨h1.base.1, h1.obj.lt⟩
theorem SoSt.zlt {T : List UInt8} {w : World} {st R : Nat} (h : SoSt B w b n T Z st R) : ∀ g ∈ Z, g < w.heap.size ∧ g ≠ b := by
  obtain ⟨bo, bc, ba, vk, vw, kb, S, h1, h2, h3⟩ := h
  exact fun g hg => ⟨(h1.kap g (List.mem_append_right _ hg)).1, (h1.kap g (List.mem_append_right _ hg)).2.1⟩
theorem SoSt.someSteps {T : List UInt8} {w : World} {st R k : Nat} (h : SoSt B w b n T Z st R) (hT : T.length = n) (h0 : 0 < n) (hn : n ≤ 20000) (hR : R ≤ 800000) (hR0 : 0 < R) (hk1 : 1 ≤ k) (hk : k ≤ 9223372036854775807) (hb : B ≤ w.heap.size) :
    Calls Try.prog 49 #[.pointer (some ⟨b, 0, none⟩), .int .i64 (k : Int)] w fun e w' => SomeP B w w' b n T Z st R k e := by
  obtain ⟨bo, bc, ba, vk, vw, kb, S, h1, ⟨rfl, hrc, hkz⟩, h3⟩ := h
  rcases h3 with ⟨_, _, e⟩ | ⟨K, k1, k2, k3, hd⟩
  · omega
  · rcases hd with ⟨ps, p, A, m, hs, hsz⟩ | ⟨m, hN, hmd⟩
    · exact ssome_srt T K w ps p A m R k h1 k1 k2 k3 hs hsz hT h0 hn hrc hkz hR hk1 hk hb
    · exact ssome_num T K w m R k h1 k1 k2 k3 hN hmd hT h0 (by omega) hrc hkz hk1 hk hb
/-- The count of steps is stored. -/
theorem SoSt.count {T : List UInt8} {w : World} {st R : Nat} (h : SoSt B w b n T Z st R) : w.cell? ⟨b, 10, none⟩ = some (.int .i64 (st : Int)) ∧ w.frozen? ⟨b, 10, none⟩ = false ∧ ∀ x : Nat, SoSt B (w.setCell ⟨b, 10, none⟩ (.int .i64 (x : Int))) b n T Z x R ∧ Below B w (w.setCell ⟨b, 10, none⟩ (.int .i64 (x : Int))) ∧ KbSame w (w.setCell ⟨b, 10, none⟩ (.int .i64 (x : Int))) Z := by
  obtain ⟨bo, bc, ba, vk, vw, kb, S, h1, ⟨rfl, hrc, hkz⟩, h3⟩ := h
  obtain ⟨_, _, _, _, _, _, _, _, _, _, d10⟩ := h1.obj.cells
  refine ⟨d10, h1.obj.frozen 10 (by omega), fun x => ?_⟩
  have t : Touch (· = b) w (w.setCell ⟨b, 10, none⟩ (.int .i64 (x : Int))) := touch_cell (Touch.refl _ _)
  have hks : KbSame w (w.setCell ⟨b, 10, none⟩ (.int .i64 (x : Int))) (kb ++ Z) := fun g hg => t.block g (h1.kap g hg).1 (h1.kap g hg).2.1
  have h4 := h1.own t (h1.obj.set10 x) rfl rfl rfl rfl
  refine ⟨⟨bo, bc, ba, vk, vw, kb, _, h4, ⟨rfl, hrc, hkz⟩, ?_⟩, (Below.refl B w).setCell (p := ⟨b, 10, none⟩) h1.base.1 _, hks.part⟩
  rcases h3 with h3 | ⟨K, k1, k2, k3, hd⟩
  · exact Or.inl h3
  · refine Or.inr ⟨K, k1, k2.same (fun g hg => hks g (List.mem_append_left _ hg)), k3, ?_⟩
    rcases hd with ⟨ps, p, A, m, hs, hsz⟩ | ⟨m, hN, hmd⟩
    · exact Or.inl ⟨ps, p, A, m, ⟨hs.stk, hs.made, hs.perm, hs.goal, hs.rem, hs.fits, hs.top, hs.left⟩, hsz⟩
    · exact Or.inr ⟨m, ⟨hN.stk, hN.zero, hN.ord, hN.num, hN.made, hN.rem, hN.left⟩, hmd⟩
/-- What so many steps leave. -/
def StepSP (B : Nat) (w w' : World) (b n : Nat) (T : List UInt8) (Z : List Nat) (st R g : Nat) (e : Ending) : Prop :=
  e = .returned (.int .i64 (g : Int)) ∧ SoSt B w' b n T Z (st + g) (R - g) ∧ Below B w w' ∧ KbSame w w' Z
set_option maxRecDepth 100000 in
set_option maxHeartbeats 4000000 in
theorem sstep_any (T : List UInt8) (w : World) (st R k : Nat) (h : SoSt B w b n T Z st R) (hT : T.length = n) (h0 : 0 < n ∨ R = 0) (hn : n ≤ 20000) (hR : R ≤ 800000) (hst : st ≤ 1000000) (hk : k ≤ 9223372036854775807) (hb : B ≤ w.heap.size) :
    Calls Try.prog 21 #[.pointer (some ⟨b, 0, none⟩), .int .i64 (k : Int)] w fun e w' => StepSP B w w' b n T Z st R (min k R) e := by
  have H := Lib.hid h
  have HT := Lib.hid hT
  have HB0 : Hid (Below B w w) := Lib.hid (Below.refl _ _)
  clear h hT
  go_enter Try.func21, Try.ntmps21
  go_wp2_with fail
  go_loopw [5] (fun vg wr => ∃ (j : Nat), vg = .int .i64 (j : Int) ∧ j ≤ k ∧ j ≤ R ∧ SoSt B wr b n T Z st (R - j) ∧ Below B w wr ∧ KbSame w wr Z) (fun vg _ => R - (intOf vg).toNat)
  case atStart => exact ⟨0, rfl, by omega, by omega, H.out, HB0.out, KbSame.refl _ _⟩
  case round =>
    obtain ⟨j, rfl, hjk, hjR, hS, hB, hZ⟩ := hrel
    have HS := Lib.hid hS
    have HB := Lib.hid hB
    have HZ := Lib.hid hZ
    have HD := Lib.hid (hS.done HT.out)
    clear hS hB hZ
    by_cases hjl : j < k
    · have hji : (j : Int) < (k : Int) := by omega
      by_cases hd : R - j = 0
      · have e : (R - j == 0) = true := by rw [beq_iff_eq]; exact hd
        rw [e] at HD
        have HJM : Hid (min k R = j) := Lib.hid (by omega)
        obtain ⟨d10, f10, hset⟩ := HS.out.count
        have HF : Hid (∀ x : Nat, x = st + j → StepSP B w (wr.setCell ⟨b, 10, none⟩ (.int .i64 (x : Int))) b n T Z st R (min k R) (.returned (.int .i64 (j : Int)))) := Lib.hid (fun x hx => by
          subst hx
          rw [HJM.out]
          obtain ⟨h1, h2, h3⟩ := hset (st + j)
          exact ⟨rfl, h1, HB.out.trans h2, HZ.out.trans h3⟩)
        obtain ⟨sj, hsj⟩ : ∃ sj, st + j = sj := ⟨_, rfl⟩
        have hsji : (st : Int) + (j : Int) = (sj : Int) := by omega
        have hsjw : IntKind.i64.wrap (sj : Int) = (sj : Int) := IntWalk.i64_in _ (by omega)
        have HR := Lib.hid (HF.out sj hsj.symm)
        clear HF hset hsj
        go_wp2_with fail
        refine HD.out.mono ?_
        rintro e w2 ⟨rfl, rfl⟩
        go_wp2_with fail
        go_ret
        exact HR.out
      · have e : (R - j == 0) = false := by rw [beq_eq_false_iff_ne]; exact hd
        rw [e] at HD
        obtain ⟨k2, hk2⟩ : ∃ k2, k - j = k2 := ⟨_, rfl⟩
        have hk2i : (k : Int) - (j : Int) = (k2 : Int) := by omega
        have hk2w : IntKind.i64.wrap (k2 : Int) = (k2 : Int) := IntWalk.i64_in _ (by omega)
        have HC := Lib.hid (HS.out.someSteps (k := k2) HT.out (by omega) hn (by omega) (by omega) (by omega) (by omega) (Nat.le_trans hb HB.out.size))
        go_wp2_with fail
        refine HD.out.mono ?_
        rintro e w2 ⟨rfl, rfl⟩
        go_wp2_with fail
        refine HC.out.mono ?_
        rintro e w3 ⟨g, rfl, ⟨g1, g2, g3⟩, hS3, hB3, hZ3⟩
        have HS3 : Hid (SoSt B w3 b n T Z st (R - (j + g))) := Lib.hid (by rw [show R - (j + g) = R - j - g by omega]; exact hS3)
        have HB3 := Lib.hid (HB.out.trans hB3)
        have HZ3 := Lib.hid (HZ.out.trans hZ3)
        obtain ⟨jg, hjg⟩ : ∃ jg, j + g = jg := ⟨_, rfl⟩
        have hjgi : (j : Int) + (g : Int) = (jg : Int) := by omega
        have hjgw : IntKind.i64.wrap (jg : Int) = (jg : Int) := IntWalk.i64_in _ (by omega)
        have hjgb : jg ≤ k ∧ jg ≤ R ∧ j < jg := by omega
        rw [hjg] at HS3
        clear hS3 hB3 hZ3 hjg
        go_wp2_with fail
        go_roundw
        case rel => exact ⟨jg, rfl, hjgb.1, hjgb.2.1, HS3.out, HB3.out, HZ3.out⟩
        case measure => simp [intOf]; omega
    · have hji : ¬ (j : Int) < (k : Int) := by omega
      have HJM : Hid (min k R = j) := Lib.hid (by omega)
      obtain ⟨d10, f10, hset⟩ := HS.out.count
      have HF : Hid (∀ x : Nat, x = st + j → StepSP B w (wr.setCell ⟨b, 10, none⟩ (.int .i64 (x : Int))) b n T Z st R (min k R) (.returned (.int .i64 (j : Int)))) := Lib.hid (fun x hx => by
        subst hx
        rw [HJM.out]
        obtain ⟨h1, h2, h3⟩ := hset (st + j)
        exact ⟨rfl, h1, HB.out.trans h2, HZ.out.trans h3⟩)
      obtain ⟨sj, hsj⟩ : ∃ sj, st + j = sj := ⟨_, rfl⟩
      have hsji : (st : Int) + (j : Int) = (sj : Int) := by omega
      have hsjw : IntKind.i64.wrap (sj : Int) = (sj : Int) := IntWalk.i64_in _ (by omega)
      have HR := Lib.hid (HF.out sj hsj.symm)
      clear HF hset hsj
      go_wp2_with fail
      go_ret
      exact HR.out
end
end Go.Proofs.Ytfedhppcmmponaa

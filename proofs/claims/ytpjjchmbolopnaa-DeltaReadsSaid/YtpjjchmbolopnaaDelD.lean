/-
  THE WALKS OF LAYER 11's CODE (package delta): first, next.
-/
import Derived.Test.YtpjjchmbolopnaaDelC
import Derived.Outline
import Derived.Shelf.Abstract
namespace Go.Proofs.Ytpjjchmbolopnaa
open Go.RowKit DelM BitM
set_option linter.unusedVariables false
/-- What a step leaves: the reader b as o tells it, the bits' reader rb so many bits further on. -/
def StepD (w w' : World) (b rb N : Nat) (v : Value) (l : List UInt8) (dr sp p : Nat) (o : DO) (e : Ending) : Prop :=
  e = .returned (.int .i64 o.err) ∧ IsDel w' b N o.ls o.now o.bad ∧ IsReader w' rb v l dr sp (p + o.used) ∧ Touch (fun k => k = b ∨ k = rb) w w'
theorem touch_l {w w' : World} {b rb : Nat} (h : Touch (· = b) w w') : Touch (fun k => k = b ∨ k = rb) w w' := h.mono (fun _ hk => Or.inl hk)
theorem touch_r {w w' : World} {b rb : Nat} (h : Touch (· = rb) w w') : Touch (fun k => k = b ∨ k = rb) w w' := h.mono (fun _ hk => Or.inr hk)
theorem touch_tr {w w1 w2 : World} {b rb : Nat} (h : Touch (fun k => k = b ∨ k = rb) w w1) (k : Touch (fun k => k = b ∨ k = rb) w1 w2) : Touch (fun k => k = b ∨ k = rb) w w2 := h.trans k (fun _ hj => Or.inl hj)
set_option maxHeartbeats 1000000 in
theorem first_any (b rb g3 g5 N : Nat) (ls : List Int) (v : Value) (l : List UInt8) (dr sp p : Nat) (w : World) (hD : IsDel w b N ls 0 false) (hR : IsReader w rb v l dr sp p) (hC : Caught w g3 g5 rb p) (hs : dr + l.length ≤ 1099511627776)
    (hne : ∀ k, foot rb v k → k ≠ b) :
    Calls Try.prog 45 #[.pointer (some ⟨b, 0, none⟩), .func (.func 43) #[] #[.pointer (some ⟨g3, 0, none⟩), .pointer (some ⟨g5, 0, none⟩)]] w fun e w' =>
      StepD w w' b rb N v l dr sp p (dstep ((bitsOf l).drop (p - 8 * dr)) ls 0 false) e := by
  have HD := Lib.hid hD
  have HNE := Lib.hid hne
  have h1 := hR.2.2.2.1
  have h2 := hR.2.2.2.2
  have he : ∀ args w, (callFunc 43 args).run Try.prog w = .ok (.enter 43 args) w := enters_of Try.func43 (by kernel_rfl) rfl
  have hbr : Hid (b ≠ rb) := Lib.hid (fun e => hne rb (Or.inl rfl) e.symm)
  have hql : ((bitsOf l).drop (p - 8 * dr)).length = 8 * (dr + l.length) - p := by rw [List.length_drop, bitsOf_length]; omega
  by_cases h5 : ((bitsOf l).drop (p - 8 * dr)).length < 5
  · have HG := Lib.hid (dget_short g3 g5 rb p v l dr sp p 5 w hC hR hs (by omega) (by omega) h1 h2)
    have HO := Lib.hid (dstep_few ((bitsOf l).drop (p - 8 * dr)) ls h5)
    clear hD hR hC hne h1 h2 hql h5
    go_enter Try.func45, Try.ntmps45
    go_wp2_with fail
    refine HG.out.mono ?_
    rintro e w1 ⟨rfl, hr1, ht1⟩
    have K : Hid (StepD w w1 b rb N v l dr sp p (dstep ((bitsOf l).drop (p - 8 * dr)) ls 0 false) (.returned (.int .i64 3))) := Lib.hid (by
      rw [HO.out]
      exact ⟨rfl, HD.out.other ht1 hbr.out, hr1, touch_r ht1⟩)
    clear hr1 ht1
    go_wp2_with fail
    go_ret
    exact K.out
  · have HG := Lib.hid (dget_any g3 g5 rb p v l dr sp p 5 w hC hR hs (by omega) (by omega))
    have HO := Lib.hid (dstep_first ((bitsOf l).drop (p - 8 * dr)) ls h5)
    obtain ⟨X, hX⟩ : ∃ X, num (((bitsOf l).drop (p - 8 * dr)).take 5) = X := ⟨_, rfl⟩
    rw [hX] at HG HO
    clear hD hR hC hne h1 h2 hql h5 hX
    go_enter Try.func45, Try.ntmps45
    go_wp2_with fail
    refine HG.out.mono ?_
    rintro e w1 ⟨rfl, hr1, ht1⟩
    have HR1 := Lib.hid hr1
    have HT1 := Lib.hid ht1
    have HD1 := Lib.hid (HD.out.other ht1 hbr.out)
    clear hr1 ht1
    obtain ⟨E, hE⟩ : ∃ E, eOf (okLen (X : Int)) = E := ⟨_, rfl⟩
    have HE := Lib.hid hE
    have HTL := Lib.hid (dtell_any b N ls 0 (X : Int) w1 HD1.out)
    rw [hE] at HTL
    clear hE
    go_wp2_with fail
    refine HTL.out.mono ?_
    rintro e w2 ⟨rfl, hd2, ht2⟩
    have K : Hid (StepD w w2 b rb N v l dr sp p (dstep ((bitsOf l).drop (p - 8 * dr)) ls 0 false) (.returned (.int .i64 E))) := Lib.hid (by
      rw [HO.out, ← HE.out]
      exact ⟨rfl, hd2, HR1.out.other ht2 (fun k hk => HNE.out k hk), touch_tr (touch_r HT1.out) (touch_l ht2)⟩)
    clear hd2 ht2
    go_wp2_with fail
    go_ret
    exact K.out
theorem take_one {x : Bool} {t : List Bool} : num ((x :: t).take 1) = bn x := by cases x <;> rfl
theorem eOf_ret (E : Int) (b : Bool) (h : eOf b = E) : True := trivial
set_option maxRecDepth 100000 in
set_option maxHeartbeats 2000000 in
theorem next_any11 (b rb g3 g5 N : Nat) (ls : List Int) (now : Int) (v : Value) (l : List UInt8) (dr sp p : Nat) (w : World) (hD : IsDel w b N ls now false) (hR : IsReader w rb v l dr sp p) (hC : Caught w g3 g5 rb p) (hs : dr + l.length ≤ 1099511627776)
    (hne : ∀ k, foot rb v k → k ≠ b) (hl : ls.length < N) (hn : 1 ≤ now ∧ now ≤ 20) (hg : g3 ≠ b ∧ g5 ≠ b) :
    Calls Try.prog 46 #[.pointer (some ⟨b, 0, none⟩), .func (.func 43) #[] #[.pointer (some ⟨g3, 0, none⟩), .pointer (some ⟨g5, 0, none⟩)]] w fun e w' =>
      StepD w w' b rb N v l dr sp p (dstep ((bitsOf l).drop (p - 8 * dr)) ls now false) e := by
  have HD := Lib.hid hD
  have HNE := Lib.hid hne
  have HC := Lib.hid hC
  have hN := hD.le.2
  have h1 := hR.2.2.2.1
  have h2 := hR.2.2.2.2
  have he : ∀ args w, (callFunc 43 args).run Try.prog w = .ok (.enter 43 args) w := enters_of Try.func43 (by kernel_rfl) rfl
  have hbr : Hid (b ≠ rb) := Lib.hid (fun e => hne rb (Or.inl rfl) e.symm)
  have hql : ((bitsOf l).drop (p - 8 * dr)).length = 8 * (dr + l.length) - p := by rw [List.length_drop, bitsOf_length]; omega
  have hn0 : now ≠ 0 := by omega
  have hdd : (bitsOf l).drop (p + 1 - 8 * dr) = ((bitsOf l).drop (p - 8 * dr)).drop 1 := by rw [List.drop_drop]; congr 1; omega
  have HGS := fun (h : 8 * (dr + l.length) < p + 1) => dget_short g3 g5 rb p v l dr sp p 1 w hC hR hs (by omega) h h1 h2
  have HG := fun (h : p + 1 ≤ 8 * (dr + l.length)) => dget_any g3 g5 rb p v l dr sp p 1 w hC hR hs (by omega) h
  obtain ⟨q, hq⟩ : ∃ q, (bitsOf l).drop (p - 8 * dr) = q := ⟨_, rfl⟩
  rw [hq] at hql hdd HG ⊢
  match q, hql, hdd, HG with
  | [], hql, hdd, HG =>
    have HG1 := Lib.hid (HGS (by simp only [List.length_nil] at hql; omega))
    clear hD hR hC hne h1 h2 hql hdd HGS HG hq
    go_enter Try.func46, Try.ntmps46
    go_wp2_with fail
    refine HG1.out.mono ?_
    rintro e w1 ⟨rfl, hr1, ht1⟩
    have K : Hid (StepD w w1 b rb N v l dr sp p (dstep [] ls now false) (.returned (.int .i64 3))) := Lib.hid (by
      rw [dstep_nil ls hn0]
      exact ⟨rfl, HD.out.other ht1 hbr.out, hr1, touch_r ht1⟩)
    clear hr1 ht1
    go_wp2_with fail
    go_ret
    exact K.out
  | [true], hql, hdd, HG =>
    have HG1 := HG (by simp only [List.length_cons, List.length_nil] at hql; omega)
    rw [take_one] at HG1
    have HG1' := Lib.hid HG1
    have HLT : Hid (8 * (dr + l.length) < p + 1 + 1) := Lib.hid (by simp only [List.length_cons, List.length_nil] at hql; omega)
    have HB1 := Lib.hid h1
    have HB2 := Lib.hid h2
    clear hD hR hC hne h1 h2 hql hdd HGS HG HG1 hq
    go_enter Try.func46, Try.ntmps46
    go_wp2_with fail
    refine HG1'.out.mono ?_
    rintro e w1 ⟨rfl, hr1, ht1⟩
    have HG2 := Lib.hid (dget_short g3 g5 rb p v l dr sp (p + 1) 1 w1 (HC.out.other ht1 HC.out.2.2.1 HC.out.2.2.2) hr1 hs (by omega) HLT.out HB1.out HB2.out)
    have HT1 := Lib.hid ht1
    have HD1 := Lib.hid (HD.out.other ht1 hbr.out)
    clear hr1 ht1
    have hb1 : ((bn true : Nat) : Int) = 1 := rfl
    rw [hb1]
    clear hb1
    go_wp2_with fail
    refine HG2.out.mono ?_
    rintro e w2 ⟨rfl, hr2, ht2⟩
    have K : Hid (StepD w w2 b rb N v l dr sp p (dstep [true] ls now false) (.returned (.int .i64 3))) := Lib.hid (by
      rw [dstep_one ls hn0]
      exact ⟨rfl, HD1.out.other ht2 hbr.out, hr2, touch_tr (touch_r HT1.out) (touch_r ht2)⟩)
    clear hr2 ht2
    go_wp2_with fail
    go_ret
    exact K.out
  | false :: t, hql, hdd, HG =>
    have HG1 := HG (by simp only [List.length_cons] at hql; omega)
    rw [take_one] at HG1
    have HG1' := Lib.hid HG1
    clear hD hR hC hne h1 h2 hql hdd HGS HG HG1 hq
    go_enter Try.func46, Try.ntmps46
    go_wp2_with fail
    refine HG1'.out.mono ?_
    rintro e w1 ⟨rfl, hr1, ht1⟩
    have HD1 := Lib.hid (HD.out.other ht1 hbr.out)
    have HR1 := Lib.hid hr1
    have HT1 := Lib.hid ht1
    clear hr1 ht1
    have hb0 : ((bn false : Nat) : Int) = 0 := rfl
    rw [hb0]
    clear hb0
    obtain ⟨c0, c1, c2, c3⟩ := HD1.out.cells
    obtain ⟨A, hA⟩ : ∃ A, 2 + ls.length = A := ⟨_, rfl⟩
    obtain ⟨k, hk⟩ : ∃ k, ls.length = k := ⟨_, rfl⟩
    have cA : ∃ x, w1.cell? ⟨b, A, none⟩ = some x := by obtain ⟨F, h, _⟩ := HD1.out; exact ⟨_, (h.cell (i := A) (by omega)).1⟩
    obtain ⟨xA, cA⟩ := cA
    have fA : w1.frozen? ⟨b, A, none⟩ = false := by obtain ⟨F, h, _⟩ := HD1.out; exact (h.cell (i := A) (by omega)).2
    have HF : Hid (∀ m x, ((w1.setCell ⟨b, A, none⟩ x).drewN m).cell? ⟨b, 1, none⟩ = some (.int .i64 (ls.length : Int)) ∧ ((w1.setCell ⟨b, A, none⟩ x).drewN m).frozen? ⟨b, 1, none⟩ = false) := Lib.hid (by
      intro m x
      obtain ⟨F, h, h2, _⟩ := HD1.out
      have h3 := ((h.set A x).drewN m).cell (i := 1) (by omega)
      rw [upd_ne _ _ (by omega), h2.read] at h3
      exact h3)
    have HP := Lib.hid (fun m X hX => HD1.out.push hl A hA m X hX now)
    have hkN : k < 258 := by omega
    have hki : (k : Int) < 258 := by omega
    have hA2 : 2 + k = A := by omega
    rw [hk] at c1 HF HP
    have HK := Lib.hid hk
    clear hk hA
    go_wp2_with fail
    go_region
    have d1 : ((w1.setCell ⟨b, A, none⟩ (.int .i64 now)).drew).cell? ⟨b, 1, none⟩ = some (.int .i64 (k : Int)) := (HF.out 1 _).1
    have d2 : ((w1.setCell ⟨b, A, none⟩ (.int .i64 now)).drew).frozen? ⟨b, 1, none⟩ = false := (HF.out 1 _).2
    have HPP : Hid (IsDel (((w1.setCell ⟨b, A, none⟩ (.int .i64 now)).drew).setCell ⟨b, 1, none⟩ (.int .i64 ((k : Int) + 1))) b N (ls ++ [now]) now false) := Lib.hid (HP.out 1 ((k : Int) + 1) (by omega))
    have HTT : Hid (Touch (· = b) w1 ((w1.setCell ⟨b, A, none⟩ (.int .i64 now)).drew)) := Lib.hid ((touch_cell (Touch.refl _ _)).trans (touch_drewN _ _ 1) (fun j hj => Or.inl hj))
    generalize ((w1.setCell ⟨b, A, none⟩ (.int .i64 now)).drew) = w5 at *
    clear c0 c1 c2 c3 cA fA hA2
    go_wp2_with fail
    go_ret
    rw [dstep_same t ls hn0]
    exact ⟨rfl, HPP.out, HR1.out.other (touch_cell HTT.out) (fun k hk => HNE.out k hk), touch_tr (touch_r HT1.out) (touch_l (touch_cell HTT.out))⟩
  | true :: x :: t, hql, hdd, HG =>
    have HG1 := HG (by simp only [List.length_cons] at hql; omega)
    rw [take_one] at HG1
    have HG1' := Lib.hid HG1
    have HLT : Hid (p + 1 + 1 ≤ 8 * (dr + l.length)) := Lib.hid (by simp only [List.length_cons] at hql; omega)
    have hdd2 : (bitsOf l).drop (p + 1 - 8 * dr) = x :: t := hdd
    have HDD := Lib.hid hdd2
    clear hD hR hC hne h1 h2 hql hdd HGS HG HG1 hq hdd2
    go_enter Try.func46, Try.ntmps46
    go_wp2_with fail
    refine HG1'.out.mono ?_
    rintro e w1 ⟨rfl, hr1, ht1⟩
    have HG2 := dget_any g3 g5 rb p v l dr sp (p + 1) 1 w1 (HC.out.other ht1 HC.out.2.2.1 HC.out.2.2.2) hr1 hs (by omega) HLT.out
    rw [HDD.out, take_one] at HG2
    have HG2' := Lib.hid HG2
    have HT1 := Lib.hid ht1
    have HD1 := Lib.hid (HD.out.other ht1 hbr.out)
    clear hr1 ht1 HG2
    have hb1 : ((bn true : Nat) : Int) = 1 := rfl
    rw [hb1]
    clear hb1
    go_wp2_with fail
    refine HG2'.out.mono ?_
    rintro e w2 ⟨rfl, hr2, ht2⟩
    have HR2 := Lib.hid hr2
    have HT2 := Lib.hid (touch_tr (touch_r (b := b) HT1.out) (touch_r ht2))
    have HD2 := Lib.hid (HD1.out.other ht2 hbr.out)
    have c2 := HD2.out.cells.2.2.1
    clear hr2 ht2 HT1 HD1
    have HM := Lib.hid (dstep_move x t ls hn0)
    cases x with
    | false =>
      have hb2 : ((bn false : Nat) : Int) = 0 := rfl
      rw [hb2]
      clear hb2
      obtain ⟨E, hE⟩ : ∃ E, eOf (okLen (now + 1)) = E := ⟨_, rfl⟩
      have HTL := Lib.hid (dtell_any b N ls now (now + 1) w2 HD2.out)
      have HE := Lib.hid hE
      rw [hE] at HTL
      clear hE
      go_wp2_with fail
      refine HTL.out.mono ?_
      rintro e w3 ⟨rfl, hd3, ht3⟩
      have K : Hid (StepD w w3 b rb N v l dr sp p (dstep (true :: false :: t) ls now false) (.returned (.int .i64 E))) := Lib.hid (by
        rw [HM.out, ← HE.out]
        exact ⟨rfl, hd3, HR2.out.other ht3 (fun k hk => HNE.out k hk), touch_tr HT2.out (touch_l ht3)⟩)
      clear hd3 ht3
      go_wp2_with fail
      go_ret
      exact K.out
    | true =>
      have hb2 : ((bn true : Nat) : Int) = 1 := rfl
      rw [hb2]
      clear hb2
      obtain ⟨E, hE⟩ : ∃ E, eOf (okLen (now - 1)) = E := ⟨_, rfl⟩
      have HTL := Lib.hid (dtell_any b N ls now (now - 1) w2 HD2.out)
      have HE := Lib.hid hE
      rw [hE] at HTL
      clear hE
      go_wp2_with fail
      refine HTL.out.mono ?_
      rintro e w3 ⟨rfl, hd3, ht3⟩
      have K : Hid (StepD w w3 b rb N v l dr sp p (dstep (true :: true :: t) ls now false) (.returned (.int .i64 E))) := Lib.hid (by
        rw [HM.out, ← HE.out]
        exact ⟨rfl, hd3, HR2.out.other ht3 (fun k hk => HNE.out k hk), touch_tr HT2.out (touch_l ht3)⟩)
      clear hd3 ht3
      go_wp2_with fail
      go_ret
      exact K.out
end Go.Proofs.Ytpjjchmbolopnaa

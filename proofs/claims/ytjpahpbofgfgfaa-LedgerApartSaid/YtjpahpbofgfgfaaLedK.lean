/-
  LAYER 27's STATEMENTS: LedgerApart.
-/
import Derived.Test.YtjpahpbofgfgfaaLedJ
namespace Go.Proofs.Ytjpahpbofgfgfaa
open Go.RowKit Go.ChangeShapes Go.WideShapes Go.ChangeAt Go.Deep
set_option linter.unusedVariables false
set_option linter.unusedSimpArgs false
/-- A ledger of the limits L at which all is as it must be; of the tenant t, u is reserved, and was p at most. -/
def OneL (w : World) (b g n : Nat) (L : Nat → Int) (t u p : Int) : Prop := ∃ U P, IsLg w b g n L U P ∧ LgInv n L U P ∧ lk U n t = u ∧ lk P n t = p
theorem OneL.far {w w' : World} {b g n : Nat} {L : Nat → Int} {t u p : Int} (h : OneL w b g n L t u p) (hb : Below w.heap.size w w') : OneL w' b g n L t u p := by
  obtain ⟨U, P, h1, h2⟩ := h
  exact ⟨U, P, h1.far hb, h2⟩
theorem OneL.other {w w' : World} {S : Nat → Prop} {b g n : Nat} {L : Nat → Int} {t u p : Int} (h : OneL w b g n L t u p) (ht : Touch S w w') (h1 : ¬ S b) (h2 : ¬ S g) : OneL w' b g n L t u p := by
  obtain ⟨U, P, h3, h4⟩ := h
  exact ⟨U, P, h3.other ht h1 h2, h4⟩
def rsvK (n : Nat) (T l u x : Int) : Int := if ¬ (0 ≤ T ∧ T < n) then (if n = 0 then 7 else 6) else rsvE l u x
def relK (n : Nat) (T u x : Int) : Int := if ¬ (0 ≤ T ∧ T < n) then (if n = 0 then 7 else 6) else relE u x
def nuK (E u d : Int) : Int := if E = 0 then u + d else u
def npK (E u p d : Int) : Int := if E = 0 then max p (u + d) else p
theorem LgStep.same {n : Nat} {U P U' P' : Nat → Int} {T d E : Int} (h : LgStep n U P U' P' T d E) : lk U' n T = nuK E (lk U n T) d ∧ lk P' n T = npK E (lk U n T) (lk P n T) d := by
  unfold nuK npK
  rcases h with ⟨h0, rfl, rfl⟩ | ⟨h0, t, rfl, ht, rfl, rfl⟩
  · rw [if_neg h0, if_neg h0]; exact ⟨rfl, rfl⟩
  · rw [if_pos h0, if_pos h0, lk_at _ ht, lk_at _ ht, lk_at _ ht, lk_at _ ht, updI_same, updI_same]; exact ⟨rfl, rfl⟩
theorem LgStep.else_ {n : Nat} {U P U' P' : Nat → Int} {T d E : Int} (h : LgStep n U P U' P' T d E) {t : Int} (ht : T ≠ t) : lk U' n t = lk U n t ∧ lk P' n t = lk P n t := by
  rcases h with ⟨h0, rfl, rfl⟩ | ⟨h0, j, rfl, hj, rfl, rfl⟩
  · exact ⟨rfl, rfl⟩
  · unfold lk
    by_cases hr : 0 ≤ t ∧ t < (n : Int)
    · rw [if_pos hr, if_pos hr, if_pos hr, if_pos hr, updI_ne _ _ (by omega), updI_ne _ _ (by omega)]; exact ⟨rfl, rfl⟩
    · rw [if_neg hr, if_neg hr, if_neg hr, if_neg hr]; exact ⟨rfl, rfl⟩
/-- What an act of the tenant T makes of what is known of the tenant t. -/
def OneP (T t E K u p d u2 p2 : Int) : Prop := (T ≠ t → u2 = u ∧ p2 = p) ∧ (T = t → E = K ∧ u2 = nuK K u d ∧ p2 = npK K u p d)
section
variable {w0 w w' : World} {b g n : Nat} {L : Nat → Int} {t u p : Int}
theorem onel_rsv (T x : Int) (h : OneL w b g n L t u p) (hx : -9223372036854775808 ≤ x ∧ x ≤ 9223372036854775807) :
    Calls Try.prog 17 #[.pointer (some ⟨b, 0, none⟩), .int .i64 T, .int .i64 x] w fun e w' => ∃ E u2 p2, e = .returned (.int .i64 E) ∧ OneL w' b g n L t u2 p2 ∧ Touch (· = g) w w' ∧ OneP T t E (rsvK n t (lk L n t) u x) u p x u2 p2 := by
  obtain ⟨U, P, h1, h2, rfl, rfl⟩ := h
  refine (lgrsv_any T x w h1 h2 hx).mono ?_
  rintro e w' ⟨rfl, U', P', hs, hl, ht⟩
  exact ⟨_, _, _, rfl, ⟨U', P', hl, hs.inv_rsv h2, rfl, rfl⟩, ht, fun hne => hs.else_ hne, fun he => by subst he; exact ⟨rfl, hs.same⟩⟩
theorem onel_rel (T x : Int) (h : OneL w b g n L t u p) (hx : -9223372036854775808 ≤ x ∧ x ≤ 9223372036854775807) :
    Calls Try.prog 15 #[.pointer (some ⟨b, 0, none⟩), .int .i64 T, .int .i64 x] w fun e w' => ∃ E u2 p2, e = .returned (.int .i64 E) ∧ OneL w' b g n L t u2 p2 ∧ Touch (· = g) w w' ∧ OneP T t E (relK n t u x) u p (-x) u2 p2 := by
  obtain ⟨U, P, h1, h2, rfl, rfl⟩ := h
  refine (lgrel_any T x w h1 h2 hx).mono ?_
  rintro e w' ⟨rfl, U', P', hs, hl, ht⟩
  exact ⟨_, _, _, rfl, ⟨U', P', hl, hs.inv_rel h2, rfl, rfl⟩, ht, fun hne => hs.else_ hne, fun he => by subst he; exact ⟨rfl, hs.same⟩⟩
theorem onel_used (h : OneL w b g n L t u p) : Calls Try.prog 19 #[.pointer (some ⟨b, 0, none⟩), .int .i64 t] w fun e w' => e = .returned (.int .i64 u) ∧ Below w.heap.size w w' := by
  obtain ⟨U, P, h1, h2, rfl, rfl⟩ := h
  exact lgused_v t w (Or.inr ⟨b, g, rfl, h1⟩)
theorem onel_peak (h : OneL w b g n L t u p) : Calls Try.prog 21 #[.pointer (some ⟨b, 0, none⟩), .int .i64 t] w fun e w' => e = .returned (.int .i64 p) ∧ Below w.heap.size w w' := by
  obtain ⟨U, P, h1, h2, rfl, rfl⟩ := h
  exact lgpeak_v t w (Or.inr ⟨b, g, rfl, h1⟩)
end
theorem LgNewP.one {w w' : World} {zs : List Int} {e : Ending} (h : LgNewP w w' zs e) (hm : lgMay zs) (t : Int) : ∃ b g, e = .returned (.tuple #[.pointer (some ⟨b, 0, none⟩), .int .i64 0]) ∧ OneL w' b g zs.length (limF zs) t 0 0 ∧ Below w.heap.size w w' ∧ w.heap.size ≤ b ∧ w.heap.size ≤ g ∧ b < w'.heap.size ∧ g < w'.heap.size := by
  obtain ⟨b, g, rfl, hl, hb2, h1, h2⟩ := h
  refine ⟨b, g, rfl, ⟨_, _, hl, fun i hi => ?_, lk_zero _ _, lk_zero _ _⟩, hb2, h1, h2, hl.lt.1, hl.lt.2⟩
  have hx : lgIs (limF zs i) := by
    unfold limF
    rw [List.getD_eq_getElem?_getD, List.getElem?_eq_getElem hi]
    exact hm.2.2 _ (List.getElem_mem hi)
  exact ⟨Int.le_refl _, Int.le_refl _, hx.1, hx.2⟩
/-- Two ledgers of the call's own, apart from one another. -/
structure TwoL (w0 w : World) (b g b2 g2 n : Nat) (L : Nat → Int) (t u p u2 p2 : Int) : Prop where
  x : OneL w b g n L t u p
  y : OneL w b2 g2 n L t u2 p2
  below : Below w0.heap.size w0 w
  own : w0.heap.size ≤ b ∧ w0.heap.size ≤ g ∧ w0.heap.size ≤ b2 ∧ w0.heap.size ≤ g2
  ne : g ≠ b2 ∧ g ≠ g2 ∧ g2 ≠ b ∧ g2 ≠ g
section
variable {w0 w w' : World} {b g b2 g2 n : Nat} {L : Nat → Int} {t u p u2 p2 u3 p3 : Int}
theorem TwoL.next (h : TwoL w0 w b g b2 g2 n L t u p u2 p2) (hb : Below w.heap.size w w') : TwoL w0 w' b g b2 g2 n L t u p u2 p2 := ⟨h.x.far hb, h.y.far hb, h.below.trans (hb.mono h.below.size), h.own, h.ne⟩
theorem TwoL.didx (h : TwoL w0 w b g b2 g2 n L t u p u2 p2) (hx : OneL w' b g n L t u3 p3) (ht : Touch (· = g) w w') : TwoL w0 w' b g b2 g2 n L t u3 p3 u2 p2 :=
  ⟨hx, h.y.other ht (fun e => h.ne.1 e.symm) (fun e => h.ne.2.1 e.symm), h.below.trans (ht.below h.below.size (fun i hi => by have : i = g := hi; have := h.own.2.1; omega)), h.own, h.ne⟩
theorem TwoL.didy (h : TwoL w0 w b g b2 g2 n L t u p u2 p2) (hy : OneL w' b2 g2 n L t u3 p3) (ht : Touch (· = g2) w w') : TwoL w0 w' b g b2 g2 n L t u p u3 p3 :=
  ⟨h.x.other ht (fun e => h.ne.2.2.1 e.symm) (fun e => h.ne.2.2.2 e.symm), hy, h.below.trans (ht.below h.below.size (fun i hi => by have : i = g2 := hi; have := h.own.2.2.2; omega)), h.own, h.ne⟩
end
set_option maxRecDepth 100000 in
set_option maxHeartbeats 8000000 in
theorem ledgerApart.main (v : Value) (zs : List Int) (a : Option Addr) (len cap : Nat) (l : List Act3) (t : Int) (w : World) (hz : IsInts w v zs) (hzn : zs.length ≤ 9223372036854775807) (hl : IsActs3 w a len l) :
    Calls Try.prog 5 #[v, .slice a len cap, .int .i64 t] w fun e w' => e = .returned (.bool true) ∧ Below w.heap.size w w' := by
  have HRL := Lib.hid (rlimits_any v zs w hz hzn)
  have hml : len ≤ maxLen := hl.2.2
  unfold maxLen at hml
  have HL := Lib.hid hl
  have HZ := Lib.hid hz
  clear hl
  by_cases h100 : (len : Int) > 60
  · go_enter Try.func5, Try.ntmps5
    go_wp2_with fail
    refine (ten27_any _).mono ?_
    rintro e w1 ⟨rfl, hb⟩
    have HB := Lib.hid hb
    clear hb
    go_wp2_with fail
    go_ret
    exact ⟨rfl, HB.out⟩
  by_cases hm : lgMay zs
  · have HM := Lib.hid hm
    rw [decide_eq_true (show 1 ≤ zs.length ∧ zs.length ≤ 16 ∧ ∀ x ∈ zs, lgIs x from hm)] at HRL
    have HN := Lib.hid (fun W (hW : Below w.heap.size w W) => lgnew_any v zs W (hz.below hW) hm)
    have hn16 := hm.2.1
    obtain ⟨az, cz, rfl, _⟩ := hz
    obtain ⟨n, hn⟩ : ∃ n, zs.length = n := ⟨_, rfl⟩
    have HNN := Lib.hid hn
    rw [hn] at hn16
    have e0 : Value.slice az zs.length cz = Value.slice az n cz := by rw [hn]
    rw [e0] at HN HRL HZ ⊢
    clear hm hn hzn e0
    go_enter Try.func5, Try.ntmps5
    go_wp2_with fail
    refine HRL.out.mono ?_
    rintro e w1 ⟨rfl, rfl⟩
    go_wp2_with fail
    refine (HN.out _ (Below.refl _ _)).mono ?_
    rintro e w2 h2
    obtain ⟨b, g, rfl, h3, hb3, o1, o2, o3, o4⟩ := h2.one HM.out t
    rw [HNN.out] at h3
    have H3 := Lib.hid h3
    have HB3 := Lib.hid hb3
    clear h2 h3 HRL hb3
    go_wp2_with fail
    refine (HN.out _ HB3.out).mono ?_
    rintro e w3 h4
    obtain ⟨b2, g2, rfl, h5, hb5, o5, o6, o7, o8⟩ := h4.one HM.out t
    rw [HNN.out] at h5
    have H5 : Hid (TwoL w1 w3 b g b2 g2 n (limF zs) t 0 0 0 0) := Lib.hid ⟨H3.out.far hb5, h5, HB3.out.trans (hb5.mono HB3.out.size), ⟨o1, o2, by have := HB3.out.size; omega, by have := HB3.out.size; omega⟩, by omega, by omega, by omega, by omega⟩
    clear h4 h5 hb5 HN o1 o2 o3 o4 o5 o6 o7 o8
    go_wp2_with fail
    go_loopw [12, 13, 14, 15, 37] (fun _ _ _ _ vi wr => ∃ (k : Nat) (u p : Int), vi = .int .i64 (k : Int) ∧ k ≤ len ∧ Hid (TwoL w1 wr b g b2 g2 n (limF zs) t u p u p)) (fun _ _ _ _ vi _ => len - (intOf vi).toNat)
    case atStart => exact ⟨0, 0, 0, rfl, by omega, H5⟩
    case round =>
      obtain ⟨k, u, p, rfl, hk, hH⟩ := hrel
      by_cases hlt : k < len
      · have hki : (k : Int) < (len : Int) := by omega
        obtain ⟨o, bl, ol, hx, hok, rfl, _, c0, c1, c2⟩ := HL.out.at_ hH.out.below hlt
        obtain ⟨R, T, Z⟩ := o
        dsimp only at c0 c1 c2
        have hz1 : -9223372036854775808 ≤ Z ∧ Z ≤ 9223372036854775807 := ⟨hok.n1, hok.n2⟩
        obtain ⟨w4, hw4⟩ : ∃ w4, wr.alloc (.cells #[.bool R, .int .i64 T, .int .i64 Z] 32) = w4 := ⟨_, rfl⟩
        have hx4 : w4.heap[wr.heap.size]? = some (.cells #[.bool R, .int .i64 T, .int .i64 Z] 32 (0, 0)) := by rw [← hw4]; exact heap_alloc_new _ _
        have H6 := Lib.hid (hH.out.next (show Below wr.heap.size wr w4 by rw [← hw4]; exact (Below.refl _ _).alloc (Nat.le_refl _) _))
        have d0 : w4.cell? ⟨wr.heap.size, 0, none⟩ = some (.bool R) := by rw [cell_of_row _ _ 0 _ _ _ hx4]; rfl
        have d1 : w4.cell? ⟨wr.heap.size, 1, none⟩ = some (.int .i64 T) := by rw [cell_of_row _ _ 1 _ _ _ hx4]; rfl
        have d2 : w4.cell? ⟨wr.heap.size, 2, none⟩ = some (.int .i64 Z) := by rw [cell_of_row _ _ 2 _ _ _ hx4]; rfl
        have HX4 := Lib.hid hx4
        have HO1 := Lib.hid hH.out.own
        have HG : Hid (wr.heap.size ≠ g ∧ wr.heap.size ≠ g2) := Lib.hid (by
          obtain ⟨U, P, q1, _⟩ := hH.out.x
          obtain ⟨U2, P2, q2, _⟩ := hH.out.y
          have l1 := q1.lt.2
          have l2 := q2.lt.2
          omega)
        have HZ1 := Lib.hid hz1
        clear hx hok hx4 hz1
        by_cases hT : T = t
        · have HT := Lib.hid hT
          have kT : (T == t) = true := by rw [beq_iff_eq]; exact hT
          clear hT
          cases R
          · go_wp2_with fail
            refine (onel_rsv T Z H6.out.x HZ1.out).mono ?_
            rintro e w5 ⟨E1, u1, p1, rfl, h5, ht5, hp5⟩
            have H7 := Lib.hid (H6.out.didx h5 ht5)
            have hx5 := (ht5.block _ (Array.getElem?_eq_some_iff.1 HX4.out).1 HG.out.1).trans HX4.out
            have f0 : w5.cell? ⟨wr.heap.size, 0, none⟩ = some (.bool false) := by rw [cell_of_row _ _ 0 _ _ _ hx5]; rfl
            have f1 : w5.cell? ⟨wr.heap.size, 1, none⟩ = some (.int .i64 T) := by rw [cell_of_row _ _ 1 _ _ _ hx5]; rfl
            have f2 : w5.cell? ⟨wr.heap.size, 2, none⟩ = some (.int .i64 Z) := by rw [cell_of_row _ _ 2 _ _ _ hx5]; rfl
            obtain ⟨a1, a2, a3⟩ := hp5.2 HT.out
            have A1 := Lib.hid a1
            have A2 := Lib.hid a2
            have A3 := Lib.hid a3
            clear h5 ht5 hp5 hx5 a1 a2 a3 d0 d1 d2
            go_wp2_with fail
            refine (onel_rsv T Z H7.out.y HZ1.out).mono ?_
            rintro e w6 ⟨E2, u2, p2, rfl, h6, ht6, hp6⟩
            have h8 := H7.out.didy h6 ht6
            obtain ⟨a4, a5, a6⟩ := hp6.2 HT.out
            obtain rfl : E2 = E1 := a4.trans A1.out.symm
            obtain rfl : u2 = u1 := a5.trans A2.out.symm
            obtain rfl : p2 = p1 := a6.trans A3.out.symm
            have H8 := Lib.hid h8
            clear h6 ht6 hp6 h8 a4 a5 a6 A1 A2 A3 f0 f1 f2
            go_wp2_with fail
            refine (onel_used H8.out.x).mono ?_
            rintro e wa ⟨rfl, hb⟩
            have Ha := Lib.hid (H8.out.next hb)
            clear hb
            go_wp2_with fail
            refine (onel_used Ha.out.y).mono ?_
            rintro e wb ⟨rfl, hb⟩
            have Hb := Lib.hid (Ha.out.next hb)
            clear hb
            go_wp2_with fail
            refine (onel_peak Hb.out.x).mono ?_
            rintro e wc ⟨rfl, hb⟩
            have Hc := Lib.hid (Hb.out.next hb)
            clear hb
            go_wp2_with fail
            refine (onel_peak Hc.out.y).mono ?_
            rintro e wd ⟨rfl, hb⟩
            have Hd := Lib.hid (Hc.out.next hb)
            clear hb
            go_wp2_with fail
            go_roundw
            case rel => exact ⟨k + 1, _, _, by go_num, by omega, Hd⟩
            case measure => simp [intOf]; omega
          · go_wp2_with fail
            refine (onel_rel T Z H6.out.x HZ1.out).mono ?_
            rintro e w5 ⟨E1, u1, p1, rfl, h5, ht5, hp5⟩
            have H7 := Lib.hid (H6.out.didx h5 ht5)
            have hx5 := (ht5.block _ (Array.getElem?_eq_some_iff.1 HX4.out).1 HG.out.1).trans HX4.out
            have f0 : w5.cell? ⟨wr.heap.size, 0, none⟩ = some (.bool true) := by rw [cell_of_row _ _ 0 _ _ _ hx5]; rfl
            have f1 : w5.cell? ⟨wr.heap.size, 1, none⟩ = some (.int .i64 T) := by rw [cell_of_row _ _ 1 _ _ _ hx5]; rfl
            have f2 : w5.cell? ⟨wr.heap.size, 2, none⟩ = some (.int .i64 Z) := by rw [cell_of_row _ _ 2 _ _ _ hx5]; rfl
            obtain ⟨a1, a2, a3⟩ := hp5.2 HT.out
            have A1 := Lib.hid a1
            have A2 := Lib.hid a2
            have A3 := Lib.hid a3
            clear h5 ht5 hp5 hx5 a1 a2 a3 d0 d1 d2
            go_wp2_with fail
            refine (onel_rel T Z H7.out.y HZ1.out).mono ?_
            rintro e w6 ⟨E2, u2, p2, rfl, h6, ht6, hp6⟩
            have h8 := H7.out.didy h6 ht6
            obtain ⟨a4, a5, a6⟩ := hp6.2 HT.out
            obtain rfl : E2 = E1 := a4.trans A1.out.symm
            obtain rfl : u2 = u1 := a5.trans A2.out.symm
            obtain rfl : p2 = p1 := a6.trans A3.out.symm
            have H8 := Lib.hid h8
            clear h6 ht6 hp6 h8 a4 a5 a6 A1 A2 A3 f0 f1 f2
            go_wp2_with fail
            refine (onel_used H8.out.x).mono ?_
            rintro e wa ⟨rfl, hb⟩
            have Ha := Lib.hid (H8.out.next hb)
            clear hb
            go_wp2_with fail
            refine (onel_used Ha.out.y).mono ?_
            rintro e wb ⟨rfl, hb⟩
            have Hb := Lib.hid (Ha.out.next hb)
            clear hb
            go_wp2_with fail
            refine (onel_peak Hb.out.x).mono ?_
            rintro e wc ⟨rfl, hb⟩
            have Hc := Lib.hid (Hb.out.next hb)
            clear hb
            go_wp2_with fail
            refine (onel_peak Hc.out.y).mono ?_
            rintro e wd ⟨rfl, hb⟩
            have Hd := Lib.hid (Hc.out.next hb)
            clear hb
            go_wp2_with fail
            go_roundw
            case rel => exact ⟨k + 1, _, _, by go_num, by omega, Hd⟩
            case measure => simp [intOf]; omega
        · have HT := Lib.hid hT
          have kT : (T == t) = false := by rw [beq_eq_false_iff_ne]; exact hT
          clear hT
          cases R
          · go_wp2_with fail
            refine (onel_rsv T Z H6.out.x HZ1.out).mono ?_
            rintro e w5 ⟨E1, u1, p1, rfl, h5, ht5, hp5⟩
            have h7 := H6.out.didx h5 ht5
            obtain ⟨a1, a2⟩ := hp5.1 HT.out
            rw [a1, a2] at h7
            have H7 := Lib.hid h7
            clear h5 ht5 hp5 h7 a1 a2 d0 d1 d2
            go_wp2_with fail
            refine (onel_used H7.out.x).mono ?_
            rintro e wa ⟨rfl, hb⟩
            have Ha := Lib.hid (H7.out.next hb)
            clear hb
            go_wp2_with fail
            refine (onel_used Ha.out.y).mono ?_
            rintro e wb ⟨rfl, hb⟩
            have Hb := Lib.hid (Ha.out.next hb)
            clear hb
            go_wp2_with fail
            refine (onel_peak Hb.out.x).mono ?_
            rintro e wc ⟨rfl, hb⟩
            have Hc := Lib.hid (Hb.out.next hb)
            clear hb
            go_wp2_with fail
            refine (onel_peak Hc.out.y).mono ?_
            rintro e wd ⟨rfl, hb⟩
            have Hd := Lib.hid (Hc.out.next hb)
            clear hb
            go_wp2_with fail
            go_roundw
            case rel => exact ⟨k + 1, _, _, by go_num, by omega, Hd⟩
            case measure => simp [intOf]; omega
          · go_wp2_with fail
            refine (onel_rel T Z H6.out.x HZ1.out).mono ?_
            rintro e w5 ⟨E1, u1, p1, rfl, h5, ht5, hp5⟩
            have h7 := H6.out.didx h5 ht5
            obtain ⟨a1, a2⟩ := hp5.1 HT.out
            rw [a1, a2] at h7
            have H7 := Lib.hid h7
            clear h5 ht5 hp5 h7 a1 a2 d0 d1 d2
            go_wp2_with fail
            refine (onel_used H7.out.x).mono ?_
            rintro e wa ⟨rfl, hb⟩
            have Ha := Lib.hid (H7.out.next hb)
            clear hb
            go_wp2_with fail
            refine (onel_used Ha.out.y).mono ?_
            rintro e wb ⟨rfl, hb⟩
            have Hb := Lib.hid (Ha.out.next hb)
            clear hb
            go_wp2_with fail
            refine (onel_peak Hb.out.x).mono ?_
            rintro e wc ⟨rfl, hb⟩
            have Hc := Lib.hid (Hb.out.next hb)
            clear hb
            go_wp2_with fail
            refine (onel_peak Hc.out.y).mono ?_
            rintro e wd ⟨rfl, hb⟩
            have Hd := Lib.hid (Hc.out.next hb)
            clear hb
            go_wp2_with fail
            go_roundw
            case rel => exact ⟨k + 1, _, _, by go_num, by omega, Hd⟩
            case measure => simp [intOf]; omega
      · have hki : ¬ (k : Int) < (len : Int) := by omega
        go_wp2_with fail
        refine (ten27_any _).mono ?_
        rintro e w4 ⟨rfl, hb⟩
        have HB := Lib.hid (hH.out.next hb).below
        clear hb
        go_wp2_with fail
        go_ret
        exact ⟨rfl, HB.out⟩
  · rw [decide_eq_false (show ¬ (1 ≤ zs.length ∧ zs.length ≤ 16 ∧ ∀ x ∈ zs, lgIs x) from hm)] at HRL
    clear hm
    go_enter Try.func5, Try.ntmps5
    go_wp2_with fail
    refine HRL.out.mono ?_
    rintro e w1 ⟨rfl, rfl⟩
    go_wp2_with fail
    refine (ten27_any _).mono ?_
    rintro e w1 ⟨rfl, hb⟩
    have HB := Lib.hid hb
    clear hb
    go_wp2_with fail
    go_ret
    exact ⟨rfl, HB.out⟩
end Go.Proofs.Ytjpahpbofgfgfaa

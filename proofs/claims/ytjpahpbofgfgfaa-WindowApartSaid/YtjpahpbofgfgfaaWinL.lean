/-
  LAYER 28's STATEMENTS: WindowApart.
-/
import Derived.Test.YtjpahpbofgfgfaaWinK
namespace Go.Proofs.Ytjpahpbofgfgfaa
open Go.RowKit Go.ChangeShapes Go.WideShapes Go.ChangeAt Go.Deep
set_option linter.unusedVariables false
set_option linter.unusedSimpArgs false
/-- A meter at which all is as it must be; the tenant t was charged c in its window, and d ever. -/
def OneM (B : Nat) (w : World) (b : Nat) (v : Value) (zs : List Int) (S A t c d : Int) : Prop := ∃ C D, IsMt B w b v zs S A C D ∧ MtInv zs S A C D ∧ lk C zs.length t = c ∧ lk D zs.length t = d
theorem OneM.far {B : Nat} {w w' : World} {b : Nat} {v : Value} {zs : List Int} {S A t c d : Int} (h : OneM B w b v zs S A t c d) (hb : Below w.heap.size w w') : OneM B w' b v zs S A t c d := by
  obtain ⟨C, D, h1, h2⟩ := h
  exact ⟨C, D, h1.far hb, h2⟩
theorem OneM.other {T : Nat → Prop} {B : Nat} {w w' : World} {b : Nat} {v : Value} {zs : List Int} {S A t c d : Int} (h : OneM B w b v zs S A t c d) (ht : Touch T w w') (h1 : ¬ T b) (h2 : ∀ k, v.ownBlock = some k → ¬ T k) : OneM B w' b v zs S A t c d := by
  obtain ⟨C, D, h3, h4⟩ := h
  exact ⟨C, D, h3.other ht h1 h2, h4⟩
def lfK (zs : List Int) (t c : Int) : Int := if 0 ≤ t ∧ t < (zs.length : Int) then zs.getD t.toNat 0 - c else 0
def chK (zs : List Int) (T c x : Int) : Int := if ¬ (0 ≤ T ∧ T < (zs.length : Int)) then 6 else if ¬ lgIs x then 1 else if x > zs.getD T.toNat 0 - c then 33 else 0
def tkK (S A c : Int) : Int := if A = 1099511627776 then c else if (A + 1) % S = 0 then 0 else c
def cK (K c x : Int) : Int := if K = 0 then c + x else c
def dK (K d x : Int) : Int := if K = 0 then min (d + x) 1099511627776 else d
theorem chgA_K (zs : List Int) (C : Nat → Int) (T x : Int) : chgA zs C T x = chK zs T (lk C zs.length T) x := by
  unfold chgA chK leftF lk
  by_cases hT : 0 ≤ T ∧ T < (zs.length : Int)
  · have n1 : ¬ ¬ (0 ≤ T ∧ T < (zs.length : Int)) := fun h => h hT
    simp only [if_neg n1, if_pos hT]
  · simp only [if_pos hT]
theorem MtStep.same {n : Nat} {C D C' D' : Nat → Int} {T x E : Int} (h : MtStep n C D C' D' T x E) : lk C' n T = cK E (lk C n T) x ∧ lk D' n T = dK E (lk D n T) x := by
  unfold cK dK
  rcases h with ⟨h0, rfl, rfl⟩ | ⟨h0, t, rfl, ht, rfl, rfl⟩
  · rw [if_neg h0, if_neg h0]; exact ⟨rfl, rfl⟩
  · rw [if_pos h0, if_pos h0, lk_at _ ht, lk_at _ ht, lk_at _ ht, lk_at _ ht, updI_same, updI_same]; exact ⟨rfl, rfl⟩
theorem MtStep.else_ {n : Nat} {C D C' D' : Nat → Int} {T x E : Int} (h : MtStep n C D C' D' T x E) {t : Int} (ht : T ≠ t) : lk C' n t = lk C n t ∧ lk D' n t = lk D n t := by
  rcases h with ⟨h0, rfl, rfl⟩ | ⟨h0, j, rfl, hj, rfl, rfl⟩
  · exact ⟨rfl, rfl⟩
  · unfold lk
    by_cases hr : 0 ≤ t ∧ t < (n : Int)
    · rw [if_pos hr, if_pos hr, if_pos hr, if_pos hr, updI_ne _ _ (by omega), updI_ne _ _ (by omega)]; exact ⟨rfl, rfl⟩
    · rw [if_neg hr, if_neg hr, if_neg hr, if_neg hr]; exact ⟨rfl, rfl⟩
/-- What a charge to the tenant T makes of what is known of the tenant t. -/
def OnePm (T t E K c d x c2 d2 : Int) : Prop := (T ≠ t → c2 = c ∧ d2 = d) ∧ (T = t → E = K ∧ c2 = cK K c x ∧ d2 = dK K d x)
section
variable {B : Nat} {w0 w w' : World} {b : Nat} {v : Value} {zs : List Int} {S A t c d : Int}
theorem wdcharge_any (T x : Int) {C D : Nat → Int} (w : World) (h : IsMt B w b v zs S A C D) (hV : MtInv zs S A C D) :
    Calls Try.prog 30 #[.pointer (some ⟨b, 0, none⟩), .int .i64 T, .int .i64 x] w fun e w' => e = .returned (.int .i64 (chgA zs C T x)) ∧ MtDone B w w' b v zs S A C D T x (chgA zs C T x) := by
  by_cases hT : 0 ≤ T ∧ T < (zs.length : Int)
  · obtain ⟨t, rfl⟩ : ∃ t : Nat, T = (t : Int) := ⟨T.toNat, by omega⟩
    exact wdcharge_yes t x w h hV (by omega)
  · refine (wdcharge_no T x w h.mtV hT).mono ?_
    rintro e w' ⟨rfl, rfl⟩
    have h0 : ¬ zs.length = 0 := by have := hV.2.2.1.1; omega
    have e : chgA zs C T x = 6 := by unfold chgA; rw [if_pos hT]
    rw [e, if_neg h0]
    exact ⟨rfl, C, D, Or.inl ⟨by omega, rfl, rfl⟩, h, Touch.refl _ _⟩
theorem onem_charge (T x : Int) (h : OneM B w b v zs S A t c d) :
    Calls Try.prog 30 #[.pointer (some ⟨b, 0, none⟩), .int .i64 T, .int .i64 x] w fun e w' => ∃ E c2 d2, e = .returned (.int .i64 E) ∧ OneM B w' b v zs S A t c2 d2 ∧ Touch (· = b) w w' ∧ OnePm T t E (chK zs t c x) c d x c2 d2 := by
  obtain ⟨C, D, h1, h2, rfl, rfl⟩ := h
  refine (wdcharge_any T x w h1 h2).mono ?_
  rintro e w' ⟨rfl, C', D', hs, hl, ht⟩
  exact ⟨_, _, _, rfl, ⟨C', D', hl, hs.inv h2, rfl, rfl⟩, ht, fun hne => hs.else_ hne, fun he => by subst he; rw [← chgA_K]; exact ⟨rfl, hs.same⟩⟩
theorem onem_tick (h : OneM B w b v zs S A t c d) :
    Calls Try.prog 28 #[.pointer (some ⟨b, 0, none⟩)] w fun e w' => e = .returned (.tuple #[]) ∧ OneM B w' b v zs S (tkA A) t (tkK S A c) d ∧ Touch (· = b) w w' := by
  obtain ⟨C, D, h1, h2, rfl, rfl⟩ := h
  refine (wdtick_any w h1 h2).mono ?_
  rintro e w' ⟨rfl, hl, ht⟩
  refine ⟨rfl, ⟨_, D, hl, h2.tick, ?_, rfl⟩, ht⟩
  unfold tkC tkK
  by_cases hA : A = 1099511627776
  · rw [if_pos hA, if_pos hA]
  · rw [if_neg hA, if_neg hA]
    by_cases hm : (A + 1) % S = 0
    · rw [if_pos hm, if_pos hm, lk_zero]
    · rw [if_neg hm, if_neg hm]
theorem onem_left (h : OneM B w b v zs S A t c d) : Calls Try.prog 32 #[.pointer (some ⟨b, 0, none⟩), .int .i64 t] w fun e w' => e = .returned (.int .i64 (lfK zs t c)) ∧ Below w.heap.size w w' := by
  obtain ⟨C, D, h1, h2, rfl, rfl⟩ := h
  by_cases hT : 0 ≤ t ∧ t < (zs.length : Int)
  · obtain ⟨j, rfl⟩ : ∃ j : Nat, t = (j : Int) := ⟨t.toNat, by omega⟩
    have e : lfK zs (j : Int) (lk C zs.length (j : Int)) = leftF zs C j := by unfold lfK; rw [if_pos hT, lk_at C (by omega), Int.toNat_natCast]; rfl
    rw [e]
    refine (wdleft_any j w h1 h2 (by omega)).mono ?_
    rintro e w' ⟨rfl, m, rfl⟩
    exact ⟨rfl, below_drewN _ _⟩
  · have e : lfK zs t (lk C zs.length t) = 0 := by unfold lfK; rw [if_neg hT]
    rw [e]
    refine (wdleft_none t w h1.mtV hT).mono ?_
    rintro e w' ⟨rfl, rfl⟩
    exact ⟨rfl, Below.refl _ _⟩
theorem onem_total (h : OneM B w b v zs S A t c d) : Calls Try.prog 33 #[.pointer (some ⟨b, 0, none⟩), .int .i64 t] w fun e w' => e = .returned (.int .i64 d) ∧ Below w.heap.size w w' := by
  obtain ⟨C, D, h1, h2, rfl, rfl⟩ := h
  by_cases hT : 0 ≤ t ∧ t < (zs.length : Int)
  · obtain ⟨j, rfl⟩ : ∃ j : Nat, t = (j : Int) := ⟨t.toNat, by omega⟩
    rw [lk_at D (show j < zs.length by omega)]
    refine (wdtotal_any j w h1 h2 (by omega)).mono ?_
    rintro e w' ⟨rfl, rfl⟩
    exact ⟨rfl, Below.refl _ _⟩
  · have e : lk D zs.length t = 0 := by unfold lk; rw [if_neg hT]
    rw [e]
    refine (wdtotal_none t w h1.mtV hT).mono ?_
    rintro e w' ⟨rfl, rfl⟩
    exact ⟨rfl, Below.refl _ _⟩
end
/-- Two meters of the call's own, apart from one another. -/
structure TwoM (w0 w : World) (b : Nat) (v : Value) (b2 : Nat) (v2 : Value) (zs : List Int) (S A t c d c2 d2 : Int) : Prop where
  x : OneM w0.heap.size w b v zs S A t c d
  y : OneM w0.heap.size w b2 v2 zs S A t c2 d2
  below : Below w0.heap.size w0 w
  own : w0.heap.size ≤ b ∧ w0.heap.size ≤ b2
  ne : b ≠ b2 ∧ (∀ k, v.ownBlock = some k → k ≠ b2) ∧ (∀ k, v2.ownBlock = some k → k ≠ b)
section
variable {w0 w w' : World} {b b2 : Nat} {v v2 : Value} {zs : List Int} {S A A2 t c d c2 d2 c3 d3 : Int}
theorem TwoM.next (h : TwoM w0 w b v b2 v2 zs S A t c d c2 d2) (hb : Below w.heap.size w w') : TwoM w0 w' b v b2 v2 zs S A t c d c2 d2 := ⟨h.x.far hb, h.y.far hb, h.below.trans (hb.mono h.below.size), h.own, h.ne⟩
theorem TwoM.didx (h : TwoM w0 w b v b2 v2 zs S A t c d c2 d2) (hx : OneM w0.heap.size w' b v zs S A t c3 d3) (ht : Touch (· = b) w w') : TwoM w0 w' b v b2 v2 zs S A t c3 d3 c2 d2 :=
  ⟨hx, h.y.other ht (fun e => h.ne.1 e.symm) (fun k hk e => h.ne.2.2 k hk e), h.below.trans (ht.below h.below.size (fun i hi => by have : i = b := hi; have := h.own.1; omega)), h.own, h.ne⟩
theorem TwoM.didy (h : TwoM w0 w b v b2 v2 zs S A t c d c2 d2) (hy : OneM w0.heap.size w' b2 v2 zs S A t c3 d3) (ht : Touch (· = b2) w w') : TwoM w0 w' b v b2 v2 zs S A t c d c3 d3 :=
  ⟨h.x.other ht (fun e => h.ne.1 e) (fun k hk e => h.ne.2.1 k hk e), hy, h.below.trans (ht.below h.below.size (fun i hi => by have : i = b2 := hi; have := h.own.2; omega)), h.own, h.ne⟩
/-- Both have ticked. -/
theorem TwoM.ticked {w1 w2 : World} (h : TwoM w0 w b v b2 v2 zs S A t c d c2 d2) (hx : OneM w0.heap.size w1 b v zs S A2 t c3 d3) (ht : Touch (· = b) w w1) (hy : OneM w0.heap.size w2 b2 v2 zs S A2 t c3 d3) (ht2 : Touch (· = b2) w1 w2) : TwoM w0 w2 b v b2 v2 zs S A2 t c3 d3 c3 d3 := by
  have hB1 := h.below.trans (ht.below h.below.size (fun i hi => by have : i = b := hi; have := h.own.1; omega))
  exact ⟨hx.other ht2 (fun e => h.ne.1 e) (fun k hk e => h.ne.2.1 k hk e), hy, hB1.trans (ht2.below hB1.size (fun i hi => by have : i = b2 := hi; have := h.own.2; omega)), h.own, h.ne⟩
end
theorem WdNewP.one {w0 w w' : World} {S : Int} {zs : List Int} {e : Ending} (h : WdNewP w w' S zs e) (hb : Below w0.heap.size w0 w) (hm : wdMay S zs) (t : Int) : ∃ b v, e = .returned (.tuple #[.pointer (some ⟨b, 0, none⟩), .int .i64 0]) ∧ OneM w0.heap.size w' b v zs S 0 t 0 0 ∧ Below w.heap.size w w' ∧ w.heap.size ≤ b ∧ b < w'.heap.size ∧ ∀ k, v.ownBlock = some k → w.heap.size ≤ k ∧ k < w'.heap.size := by
  obtain ⟨b, v, rfl, hl, hb2⟩ := h
  exact ⟨b, v, rfl, ⟨_, _, ⟨hl.obj, hl.row.lower hb.size, hl.ne, Nat.le_trans hb.size hl.own⟩, MtInv.new hm, lk_zero _ _, lk_zero _ _⟩, hb2, hl.own, hl.lt, hl.row.lt⟩
set_option maxRecDepth 100000 in
set_option maxHeartbeats 8000000 in
theorem windowApart.main (S t : Int) (v : Value) (zs : List Int) (a : Option Addr) (len cap : Nat) (l : List Act3) (w : World) (hz : IsInts w v zs) (hzn : zs.length ≤ 9223372036854775807) (hl : IsActs3 w a len l) :
    Calls Try.prog 9 #[.agg #[.int .i64 S, .int .i64 t], v, .slice a len cap] w fun e w' => e = .returned (.bool true) ∧ Below w.heap.size w w' := by
  obtain ⟨wq, hwq⟩ : ∃ wq, w.alloc (.cells #[.int .i64 S, .int .i64 t] 61) = wq := ⟨_, rfl⟩
  have hxq : wq.heap[w.heap.size]? = some (.cells #[.int .i64 S, .int .i64 t] 61 (0, 0)) := by rw [← hwq]; exact heap_alloc_new _ _
  have hbq : Below w.heap.size w wq := by rw [← hwq]; exact (Below.refl _ _).alloc (Nat.le_refl _) _
  have q0 : wq.cell? ⟨w.heap.size, 0, none⟩ = some (.int .i64 S) := by rw [cell_of_row _ _ 0 _ _ _ hxq]; rfl
  have q1 : wq.cell? ⟨w.heap.size, 1, none⟩ = some (.int .i64 t) := by rw [cell_of_row _ _ 1 _ _ _ hxq]; rfl
  have HBQ := Lib.hid hbq
  have hzq := hz.below hbq
  have HRL := Lib.hid (rmay28_any S v zs wq hzq hzn)
  have hml : len ≤ maxLen := hl.2.2
  unfold maxLen at hml
  have HL := Lib.hid hl
  have HZ := Lib.hid hzq
  clear hl hxq hbq
  by_cases h100 : (len : Int) > 60
  · go_enter Try.func9, Try.ntmps9
    go_wp2_with fail
    refine (five28_any _).mono ?_
    rintro e w1 ⟨rfl, hb⟩
    have HB := Lib.hid (HBQ.out.trans (hb.mono HBQ.out.size))
    clear hb
    go_wp2_with fail
    go_ret
    exact ⟨rfl, HB.out⟩
  by_cases hm : wdMay S zs
  · have HM := Lib.hid hm
    rw [decide_eq_true hm] at HRL
    have HN := Lib.hid (fun W (hW : Below wq.heap.size wq W) => wdnew_any S v zs W (hzq.below hW) hm)
    obtain ⟨az, cz, rfl, _⟩ := hzq
    obtain ⟨n, hn⟩ : ∃ n, zs.length = n := ⟨_, rfl⟩
    have HNN := Lib.hid hn
    have e0 : Value.slice az zs.length cz = Value.slice az n cz := by rw [hn]
    rw [e0] at HN HRL HZ ⊢
    clear hm hn hzn e0 hz
    go_enter Try.func9, Try.ntmps9
    go_wp2_with fail
    refine HRL.out.mono ?_
    rintro e w1 ⟨rfl, hw1⟩
    obtain rfl := hw1.symm
    go_wp2_with fail
    refine (HN.out _ (Below.refl _ _)).mono ?_
    rintro e w2 h2
    obtain ⟨b, v, rfl, h3, hb3, o1, o2, o3⟩ := h2.one HBQ.out HM.out t
    have H3 := Lib.hid h3
    have HB3 := Lib.hid hb3
    have HO3 := Lib.hid o3
    clear h2 h3 HRL hb3 o3
    go_wp2_with fail
    refine (HN.out _ HB3.out).mono ?_
    rintro e w3 h4
    obtain ⟨b2, v2, rfl, h5, hb5, o5, o6, o7⟩ := h4.one (HBQ.out.trans (HB3.out.mono HBQ.out.size)) HM.out t
    have H5 : Hid (TwoM w w3 b v b2 v2 zs S 0 t 0 0 0 0) := Lib.hid ⟨H3.out.far hb5, h5, HBQ.out.trans ((HB3.out.trans (hb5.mono HB3.out.size)).mono HBQ.out.size), ⟨by have := HBQ.out.size; omega, by have := HBQ.out.size; have := HB3.out.size; omega⟩, by omega, fun k hk => by have := (HO3.out k hk).2; omega, fun k hk => by have := (o7 k hk).1; omega⟩
    clear h4 h5 hb5 HN o1 o2 o5 o6 o7 HO3
    go_wp2_with fail
    go_loopw [14, 15, 44] (fun _ _ vi wr => ∃ (k : Nat) (A c d : Int), vi = .int .i64 (k : Int) ∧ k ≤ len ∧ Hid (TwoM w wr b v b2 v2 zs S A t c d c d)) (fun _ _ vi _ => len - (intOf vi).toNat)
    case atStart => exact ⟨0, 0, 0, 0, rfl, by omega, H5⟩
    case round =>
      obtain ⟨k, A, c, d, rfl, hk, hH⟩ := hrel
      by_cases hlt : k < len
      · have hki : (k : Int) < (len : Int) := by omega
        obtain ⟨o, bl, ol, hx, hok, rfl, _, c0, c1, c2⟩ := HL.out.at_ hH.out.below hlt
        obtain ⟨R, T, Z⟩ := o
        dsimp only at c0 c1 c2
        obtain ⟨w4, hw4⟩ : ∃ w4, wr.alloc (.cells #[.bool R, .int .i64 T, .int .i64 Z] 50) = w4 := ⟨_, rfl⟩
        have hx4 : w4.heap[wr.heap.size]? = some (.cells #[.bool R, .int .i64 T, .int .i64 Z] 50 (0, 0)) := by rw [← hw4]; exact heap_alloc_new _ _
        have H6 := Lib.hid (hH.out.next (show Below wr.heap.size wr w4 by rw [← hw4]; exact (Below.refl _ _).alloc (Nat.le_refl _) _))
        have d0 : w4.cell? ⟨wr.heap.size, 0, none⟩ = some (.bool R) := by rw [cell_of_row _ _ 0 _ _ _ hx4]; rfl
        have d1 : w4.cell? ⟨wr.heap.size, 1, none⟩ = some (.int .i64 T) := by rw [cell_of_row _ _ 1 _ _ _ hx4]; rfl
        have d2 : w4.cell? ⟨wr.heap.size, 2, none⟩ = some (.int .i64 Z) := by rw [cell_of_row _ _ 2 _ _ _ hx4]; rfl
        have HX4 := Lib.hid hx4
        have HG : Hid (wr.heap.size ≠ b ∧ wr.heap.size ≠ b2) := Lib.hid (by
          obtain ⟨U, P, q1, _⟩ := hH.out.x
          obtain ⟨U2, P2, q2, _⟩ := hH.out.y
          have l1 := q1.lt
          have l2 := q2.lt
          omega)
        clear hx hok hx4
        cases R
        · by_cases hT : T = t
          · have HT := Lib.hid hT
            have kT : (T == t) = true := by rw [beq_iff_eq]; exact hT
            clear hT
            go_wp2_with fail
            refine (onem_charge T Z H6.out.x).mono ?_
            rintro e w5 ⟨E1, u1, p1, rfl, h5, ht5, hp5⟩
            have H7 := Lib.hid (H6.out.didx h5 ht5)
            have hx5 := (ht5.block _ (Array.getElem?_eq_some_iff.1 HX4.out).1 HG.out.1).trans HX4.out
            have f1 : w5.cell? ⟨wr.heap.size, 1, none⟩ = some (.int .i64 T) := by rw [cell_of_row _ _ 1 _ _ _ hx5]; rfl
            have f2 : w5.cell? ⟨wr.heap.size, 2, none⟩ = some (.int .i64 Z) := by rw [cell_of_row _ _ 2 _ _ _ hx5]; rfl
            obtain ⟨a1, a2, a3⟩ := hp5.2 HT.out
            have A1 := Lib.hid a1
            have A2 := Lib.hid a2
            have A3 := Lib.hid a3
            clear h5 ht5 hp5 hx5 a1 a2 a3 d0 d1 d2
            go_wp2_with fail
            refine (onem_charge T Z H7.out.y).mono ?_
            rintro e w6 ⟨E2, u2, p2, rfl, h6, ht6, hp6⟩
            have h8 := H7.out.didy h6 ht6
            obtain ⟨a4, a5, a6⟩ := hp6.2 HT.out
            obtain rfl : E2 = E1 := a4.trans A1.out.symm
            obtain rfl : u2 = u1 := a5.trans A2.out.symm
            obtain rfl : p2 = p1 := a6.trans A3.out.symm
            have H8 := Lib.hid h8
            clear h6 ht6 hp6 h8 a4 a5 a6 A1 A2 A3 f1 f2
            go_wp2_with fail
            refine (onem_left H8.out.x).mono ?_
            rintro e wa ⟨rfl, hb⟩
            have Ha := Lib.hid (H8.out.next hb)
            clear hb
            go_wp2_with fail
            refine (onem_left Ha.out.y).mono ?_
            rintro e wb ⟨rfl, hb⟩
            have Hb := Lib.hid (Ha.out.next hb)
            clear hb
            go_wp2_with fail
            refine (onem_total Hb.out.x).mono ?_
            rintro e wc ⟨rfl, hb⟩
            have Hc := Lib.hid (Hb.out.next hb)
            clear hb
            go_wp2_with fail
            refine (onem_total Hc.out.y).mono ?_
            rintro e wd ⟨rfl, hb⟩
            have Hd := Lib.hid (Hc.out.next hb)
            clear hb
            go_wp2_with fail
            go_roundw
            case rel => exact ⟨k + 1, _, _, _, by go_num, by omega, Hd⟩
            case measure => simp [intOf]; omega
          · have HT := Lib.hid hT
            have kT : (T == t) = false := by rw [beq_eq_false_iff_ne]; exact hT
            clear hT
            go_wp2_with fail
            refine (onem_charge T Z H6.out.x).mono ?_
            rintro e w5 ⟨E1, u1, p1, rfl, h5, ht5, hp5⟩
            have H7 := Lib.hid (H6.out.didx h5 ht5)
            have hx5 := (ht5.block _ (Array.getElem?_eq_some_iff.1 HX4.out).1 HG.out.1).trans HX4.out
            have f1 : w5.cell? ⟨wr.heap.size, 1, none⟩ = some (.int .i64 T) := by rw [cell_of_row _ _ 1 _ _ _ hx5]; rfl
            have f2 : w5.cell? ⟨wr.heap.size, 2, none⟩ = some (.int .i64 Z) := by rw [cell_of_row _ _ 2 _ _ _ hx5]; rfl
            obtain ⟨a1, a2⟩ := hp5.1 HT.out
            have h7 := H7.out
            rw [a1, a2] at h7
            have H8 := Lib.hid h7
            clear h5 ht5 hp5 h7 a1 a2 d0 d1 d2 hx5
            go_wp2_with fail
            refine (onem_left H8.out.x).mono ?_
            rintro e wa ⟨rfl, hb⟩
            have Ha := Lib.hid (H8.out.next hb)
            clear hb
            go_wp2_with fail
            refine (onem_left Ha.out.y).mono ?_
            rintro e wb ⟨rfl, hb⟩
            have Hb := Lib.hid (Ha.out.next hb)
            clear hb
            go_wp2_with fail
            refine (onem_total Hb.out.x).mono ?_
            rintro e wc ⟨rfl, hb⟩
            have Hc := Lib.hid (Hb.out.next hb)
            clear hb
            go_wp2_with fail
            refine (onem_total Hc.out.y).mono ?_
            rintro e wd ⟨rfl, hb⟩
            have Hd := Lib.hid (Hc.out.next hb)
            clear hb
            go_wp2_with fail
            go_roundw
            case rel => exact ⟨k + 1, _, _, _, by go_num, by omega, Hd⟩
            case measure => simp [intOf]; omega
        · go_wp2_with fail
          refine (onem_tick H6.out.x).mono ?_
          rintro e w5 ⟨rfl, h5, ht5⟩
          have H7 := Lib.hid h5
          have HT5 := Lib.hid ht5
          have HY5 := Lib.hid (H6.out.y.other ht5 (fun e => H6.out.ne.1 e.symm) (fun k hk e => H6.out.ne.2.2 k hk e))
          clear h5 ht5 d0 d1 d2
          go_wp2_with fail
          refine (onem_tick HY5.out).mono ?_
          rintro e w6 ⟨rfl, h6, ht6⟩
          have H8 := Lib.hid (H6.out.ticked H7.out HT5.out h6 ht6)
          clear h6 ht6
          go_wp2_with fail
          refine (onem_left H8.out.x).mono ?_
          rintro e wa ⟨rfl, hb⟩
          have Ha := Lib.hid (H8.out.next hb)
          clear hb
          go_wp2_with fail
          refine (onem_left Ha.out.y).mono ?_
          rintro e wb ⟨rfl, hb⟩
          have Hb := Lib.hid (Ha.out.next hb)
          clear hb
          go_wp2_with fail
          refine (onem_total Hb.out.x).mono ?_
          rintro e wc ⟨rfl, hb⟩
          have Hc := Lib.hid (Hb.out.next hb)
          clear hb
          go_wp2_with fail
          refine (onem_total Hc.out.y).mono ?_
          rintro e wd ⟨rfl, hb⟩
          have Hd := Lib.hid (Hc.out.next hb)
          clear hb
          go_wp2_with fail
          go_roundw
          case rel => exact ⟨k + 1, _, _, _, by go_num, by omega, Hd⟩
          case measure => simp [intOf]; omega
      · have hki : ¬ (k : Int) < (len : Int) := by omega
        go_wp2_with fail
        refine (five28_any _).mono ?_
        rintro e w4 ⟨rfl, hb⟩
        have HB := Lib.hid (hH.out.next hb).below
        clear hb
        go_wp2_with fail
        go_ret
        exact ⟨rfl, HB.out⟩
  · rw [decide_eq_false hm] at HRL
    clear hm
    go_enter Try.func9, Try.ntmps9
    go_wp2_with fail
    refine HRL.out.mono ?_
    rintro e w1 ⟨rfl, hw1⟩
    obtain rfl := hw1.symm
    go_wp2_with fail
    refine (five28_any _).mono ?_
    rintro e w1 ⟨rfl, hb⟩
    have HB := Lib.hid (HBQ.out.trans (hb.mono HBQ.out.size))
    clear hb
    go_wp2_with fail
    go_ret
    exact ⟨rfl, HB.out⟩
end Go.Proofs.Ytjpahpbofgfgfaa

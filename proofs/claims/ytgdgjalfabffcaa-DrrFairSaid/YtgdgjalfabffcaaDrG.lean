/-
  LAYER 30 (package drr): Next.
-/
import Derived.Test.YtgdgjalfabffcaaDrF
import Derived.Test.YtgdgjalfabffcaaRowsRR
namespace Go.Proofs.Ytgdgjalfabffcaa
open Go.RowKit
set_option linter.unusedVariables false
set_option linter.unusedSimpArgs false
theorem results_row_tmp {P : Program} {fn : Func} {p r : Tmp} {ty : TypeId} (h : fn.results = #[.cell p ty, .tmp r]) (tmps : Array Value) (w : World) (g : Nat) (t : TypeId) (cs : Array Value) (fr : Nat × Nat) (d : TypeDesc) (v : Value)
    (hp : tmps.getD p undef = .pointer (some ⟨g, 0, none⟩)) (hv : tmps.getD r undef = v) (hg : w.heap[g]? = some (.cells cs t fr))
    (hu : P.underlying ty = some d) (hd : (match d with | .struct _ | .array _ _ => true | _ => false) = true) (hi : (P.info? ty).map (·.size) = some cs.size) :
    (results fn tmps).run P w = .ok (.tuple #[.agg cs, v]) w := by
  have hp' : tmps[p]?.getD undef = .pointer (some ⟨g, 0, none⟩) := by simpa using hp
  have hv' : tmps[r]?.getD undef = v := by simpa using hv
  simp [results, h, hp', hv', asAddr, run_loadVar_row w g t ty cs fr d hg hu hd hi]
section
variable {w w' : World} {B s g : Nat} {Q : Nat → Nat} {V : Nat → Value} {d : DrrM.DS}
theorem jobsF_ring (d : DrrM.DS) : jobsF d d.q.length = ringI d.r := if_neg (Nat.lt_irrefl _)
theorem jobsF_job (d : DrrM.DS) {t : Nat} (ht : t < d.q.length) : jobsF d t = d.job t := if_pos ht
/-- The functions of a state that was looked at. -/
theorem looked_fun (h : DrrM.Inv d) {t : Nat} (ht : t < d.q.length) (x : Int) (r : List Nat) :
    (∀ i, i < d.q.length → updF d.crd t x i = ((d.setC t x).setR r).crd i) ∧ (∀ i, i ≤ d.q.length → updF (jobsF d) d.q.length (ringI r) i = jobsF ((d.setC t x).setR r) i) := by
  have hlc : t < d.c.length := by rw [h.lc]; exact ht
  refine ⟨fun i hi => ?_, fun i hi => ?_⟩
  · show _ = (d.setC t x).crd i
    rw [d.crd_setC t i x hlc]
    rfl
  · unfold updF jobsF
    by_cases e : i = d.q.length
    · subst e
      rw [if_pos rfl]
      show _ = if d.q.length < d.q.length then _ else ringI r
      rw [if_neg (Nat.lt_irrefl _)]
    · rw [if_neg e, if_pos (by omega)]
      show _ = if i < d.q.length then d.job i else _
      rw [if_pos (by omega)]
theorem turned_fun (h : DrrM.Inv d) {t : Nat} (ht : t < d.q.length) :
    (∀ i, i < d.q.length → turnC d.qua d.crd t i = (if d.crd t = 0 then d.setC t (d.qua t) else d).crd i) ∧ (∀ i, i ≤ d.q.length → jobsF d i = jobsF (if d.crd t = 0 then d.setC t (d.qua t) else d) i) := by
  have hlc : t < d.c.length := by rw [h.lc]; exact ht
  unfold turnC
  by_cases e : d.crd t = 0
  · rw [if_pos e, if_pos e]
    refine ⟨fun i hi => ?_, fun i hi => rfl⟩
    rw [d.crd_setC t i _ hlc]
    rfl
  · rw [if_neg e, if_neg e]
    exact ⟨fun i hi => rfl, fun i hi => rfl⟩
theorem scan_found {left : List Int} {s : DrrM.DS} {t : Nat} {r : List Nat} (hr : s.r = t :: r) (hl : ¬ left.getD t 0 < 1) (k : Nat) : DrrM.scan left (k + 1) s = ((if s.crd t = 0 then s.setC t (s.qua t) else s), some t) := by
  unfold DrrM.scan
  rw [hr]
  dsimp only
  rw [if_neg hl]
theorem scan_next {left : List Int} {s : DrrM.DS} {t : Nat} {r : List Nat} (hr : s.r = t :: r) (hl : left.getD t 0 < 1) (k : Nat) : DrrM.scan left (k + 1) s = DrrM.scan left k ((s.setC t 0).setR (DrrM.rotT s.r)) := by
  rw [DrrM.scan, hr]
  dsimp only
  rw [if_pos hl]
/-- What Next tells, and leaves. -/
def DNextP (w w' : World) (B s g : Nat) (Q : Nat → Nat) (V : Nat → Value) (d : DrrM.DS) (b : Int) (ls : List Int) (e : Ending) : Prop :=
  DrStep w w' B s g Q V (DrrM.next d b ls).1 ∧ ((DrrM.next d b ls).1.q = d.q) ∧
  (((DrrM.next d b ls).2 = none ∧ e = .returned (.tuple #[.agg (trn 0 0 0), .bool false])) ∨
   ∃ (t : Nat) (x : Int) (l : List Int), (DrrM.next d b ls).2 = some t ∧ (DrrM.next d b ls).1.job t = x :: l ∧ e = .returned (.tuple #[.agg (trn (t : Int) x (min ((DrrM.next d b ls).1.crd t) (min b (ls.getD t 0)))), .bool true]))
set_option maxRecDepth 100000 in
set_option maxHeartbeats 2000000 in
theorem dnext_nil (b : Int) (v : Value) (w : World) : Calls Try.prog 35 #[.pointer none, .int .i64 b, v] w fun e w' => e = .returned (.tuple #[.agg (trn 0 0 0), .bool false]) ∧ Below w.heap.size w w' := by
  obtain ⟨w1, hw1⟩ : ∃ w1, w.alloc (.cells #[.int .i64 0, .int .i64 0, .int .i64 0] 64) = w1 := ⟨_, rfl⟩
  obtain ⟨P, hP⟩ : ∃ P, w.heap.size = P := ⟨_, rfl⟩
  have hx1 : w1.heap[P]? = some (.cells (trn 0 0 0) 64 (0, 0)) := by rw [← hw1, ← hP]; exact heap_alloc_new _ _
  have HX1 := Lib.hid hx1
  have HB : Hid (Below w.heap.size w (w1.setRow P (trn 0 0 0))) := Lib.hid (below_setRow (by rw [← hw1]; exact (Below.refl _ _).alloc (Nat.le_refl _) _) (by omega) _)
  have HC := Lib.hid (dcount_nil w1)
  have HR : Hid ((w1.setRow P (trn 0 0 0)).heap[P]? = some (.cells (trn 0 0 0) 64 (0, 0))) := Lib.hid (setRow_heap _ _ _ _ _ _ HX1.out)
  clear hx1
  rw [hP] at HB ⊢
  go_enter Try.func35, Try.ntmps35
  go_wp2_with fail
  refine HC.out.mono ?_
  rintro e w2 ⟨rfl, hw2⟩
  obtain rfl := hw2.symm
  go_wp2_with (refine wpList_store_row rfl 64 _ _ rfl P (trn 0 0 0) rfl rfl 64 _ HX1.out info_trn rfl (trn_all _ _ _) ?_)
  refine bodyPost_ret (v := .tuple #[.agg (trn 0 0 0), .bool false]) (results_row_tmp rfl _ _ P 64 _ (0, 0) _ _ rfl rfl HR.out Try.underlying64 rfl info_trn) rfl ?_
  exact ⟨rfl, HB.out⟩
set_option maxRecDepth 100000 in
set_option maxHeartbeats 8000000 in
theorem dnext_any (b : Int) (vl : Value) (ls : List Int) (w : World) (h : IsDr w B s g Q V d) (hI : IsInts w vl ls) (hlv : ∀ k, vl.ownBlock = some k → k < w.heap.size → ¬ dfoot s g d.q.length Q V k) (hll : ls.length ≤ 9223372036854775807) :
    Calls Try.prog 35 #[.pointer (some ⟨s, 0, none⟩), .int .i64 b, vl] w fun e w' => DNextP w w' B s g Q V d b ls e := by
  obtain ⟨w1, hw1⟩ : ∃ w1, w.alloc (.cells #[.int .i64 0, .int .i64 0, .int .i64 0] 64) = w1 := ⟨_, rfl⟩
  obtain ⟨P, hP⟩ : ∃ P, w.heap.size = P := ⟨_, rfl⟩
  have hx1 : w1.heap[P]? = some (.cells (trn 0 0 0) 64 (0, 0)) := by rw [← hw1, ← hP]; exact heap_alloc_new _ _
  have hb1 : Below w.heap.size w w1 := by rw [← hw1]; exact (Below.refl _ _).alloc (Nat.le_refl _) _
  have hs1 : w1.heap.size = P + 1 := by rw [← hw1, ← hP]; simp
  have H1 := Lib.hid (h.far hb1)
  have HPF : Hid (¬ dfoot s g d.q.length Q V P) := Lib.hid (fun hf => by have := (h.dm.lt P hf).2; omega)
  have HX1 := Lib.hid hx1
  have HB1 := Lib.hid hb1
  have HI1 := Lib.hid (hI.below hb1)
  have HLV : Hid (∀ k, vl.ownBlock = some k → k < w.heap.size → ¬ dfoot s g d.q.length Q V k) := Lib.hid hlv
  have hn16 := h.n16
  obtain ⟨n, hn⟩ : ∃ n, d.q.length = n := ⟨_, rfl⟩
  have HN := Lib.hid hn
  have HC := Lib.hid (fun W (hW : Below w1.heap.size w1 W) => dcount_any W (H1.out.far hW).dm)
  have HC1 := Lib.hid (HC.out w1 (Below.refl _ _))
  rw [hn] at HC1 hn16
  have k0 : ((n : Int) == 0) = false := by rw [beq_eq_false_iff_ne]; omega
  obtain ⟨al, cl, hvl⟩ : ∃ al cl, vl = .slice al ls.length cl := by obtain ⟨a, c, e, _⟩ := hI; exact ⟨a, c, e⟩
  obtain ⟨L0, hL0⟩ : ∃ L0, ls.length = L0 := ⟨_, rfl⟩
  have HL0 := Lib.hid hL0
  rw [hL0] at hvl hll
  have HIW := Lib.hid (fun (k : Nat) (hk : vl.ownBlock = some k) (h0 : 0 < ls.length) => show k < w.heap.size by
    obtain ⟨bz, oz, cz, he, hc⟩ := hI.cell h0
    rw [he] at hk
    have : bz = k := by simpa [Value.ownBlock] using hk
    have h2 := cell_lt hc
    have h3 : bz < w.heap.size := h2
    omega)
  clear hx1 hb1 h hI hlv hn hL0
  by_cases hbad : b < 1 ∨ L0 ≠ n
  · have HNX : Hid (DrrM.next d b ls = (d, none)) := Lib.hid (by unfold DrrM.next; rw [HL0.out, HN.out, if_pos hbad])
    have HR : Hid ((w1.setRow P (trn 0 0 0)).heap[P]? = some (.cells (trn 0 0 0) 64 (0, 0))) := Lib.hid (setRow_heap _ _ _ _ _ _ HX1.out)
    have HE : Hid (DNextP w (w1.setRow P (trn 0 0 0)) B s g Q V d b ls (.returned (.tuple #[.agg (trn 0 0 0), .bool false]))) := Lib.hid (by
      unfold DNextP
      rw [HNX.out]
      refine ⟨⟨⟨V, H1.out.dm.same (fun k hk => setRow_other _ _ k _ (fun e => HPF.out (e ▸ hk))), touch_setRow (Touch.ofBelow HB1.out) (Or.inr (by omega)) _, fun k hk => Or.inl hk⟩, H1.out.inv⟩, rfl, Or.inl ⟨rfl, rfl⟩⟩)
    subst hvl
    by_cases hb : b < 1
    · clear hbad
      go_enter Try.func35, Try.ntmps35
      go_wp2_with fail
      refine HC1.out.mono ?_
      rintro e w2 ⟨rfl, hw2⟩
      obtain rfl := hw2.symm
      go_wp2_with (refine wpList_store_row rfl 64 _ _ rfl P (trn 0 0 0) rfl rfl 64 _ HX1.out info_trn rfl (trn_all _ _ _) ?_)
      refine bodyPost_ret (v := .tuple #[.agg (trn 0 0 0), .bool false]) (results_row_tmp rfl _ _ P 64 _ (0, 0) _ _ rfl rfl HR.out Try.underlying64 rfl info_trn) rfl ?_
      exact HE.out
    · have hne : ((L0 : Int) != (n : Int)) = true := by rw [bne_iff_ne]; omega
      clear hbad
      go_enter Try.func35, Try.ntmps35
      go_wp2_with fail
      refine HC1.out.mono ?_
      rintro e w2 ⟨rfl, hw2⟩
      obtain rfl := hw2.symm
      go_wp2_with fail
      refine HC1.out.mono ?_
      rintro e w2 ⟨rfl, hw2⟩
      obtain rfl := hw2.symm
      go_wp2_with (refine wpList_store_row rfl 64 _ _ rfl P (trn 0 0 0) rfl rfl 64 _ HX1.out info_trn rfl (trn_all _ _ _) ?_)
      refine bodyPost_ret (v := .tuple #[.agg (trn 0 0 0), .bool false]) (results_row_tmp rfl _ _ P 64 _ (0, 0) _ _ rfl rfl HR.out Try.underlying64 rfl info_trn) rfl ?_
      exact HE.out
  · have hb : ¬ b < 1 := fun e => hbad (Or.inl e)
    have hLn : L0 = n := Decidable.byContradiction (fun e => hbad (Or.inr e))
    have HNX : Hid (DrrM.next d b ls = DrrM.scan ls d.r.length d) := Lib.hid (by unfold DrrM.next; rw [HL0.out, HN.out, if_neg hbad])
    clear hbad
    subst hLn
    have hne : ((L0 : Int) != (L0 : Int)) = false := by simp
    have HLR := Lib.hid (qlen_any w1 (H1.out.dm.qs d.q.length (Nat.le_refl _)))
    rw [jobsF_ring, ringI_len] at HLR
    have c1 := H1.out.dm.cells.2
    rw [HN.out] at HLR c1
    obtain ⟨R, hR⟩ : ∃ R, d.r.length = R := ⟨_, rfl⟩
    have HR0 := Lib.hid hR
    rw [hR] at HLR
    have hR16 : R ≤ 16 := by
      have h1 := (H1.out.dm.qs d.q.length (Nat.le_refl _)).limL
      rw [jobsF_ring, ringI_len, show limQ d.q.length d.q.length = (d.q.length : Int) from if_pos rfl, HN.out] at h1
      omega
    clear hR
    have HSTART : Hid (∃ d1 V1, IsDr w1 B s g Q V1 d1 ∧ Touch (dfoot s g d.q.length Q V) w1 w1 ∧ (∀ k, dfoot s g d.q.length Q V1 k → dfoot s g d.q.length Q V k ∨ w1.heap.size ≤ k) ∧ d1.q = d.q ∧ d1.r.length = R ∧ DrrM.scan ls R d = DrrM.scan ls (R - 0) d1) := Lib.hid
      ⟨d, V, H1.out, Touch.refl _ _, fun k hk => Or.inl hk, rfl, HR0.out, rfl⟩
    subst hvl
    obtain ⟨qn, hqn⟩ : ∃ qn, Q L0 = qn := ⟨_, rfl⟩
    rw [hqn] at HLR c1
    have HQN := Lib.hid hqn
    clear hqn
    go_enter Try.func35, Try.ntmps35
    go_wp2_with fail
    refine HC1.out.mono ?_
    rintro e w2 ⟨rfl, hw2⟩
    obtain rfl := hw2.symm
    go_wp2_with fail
    refine HC1.out.mono ?_
    rintro e w2 ⟨rfl, hw2⟩
    obtain rfl := hw2.symm
    go_wp2_with fail
    refine HLR.out.mono ?_
    rintro e w2 ⟨rfl, hw2⟩
    obtain rfl := hw2.symm
    go_wp2_with fail
    go_loopw [8, 9, 30] (fun _ _ vi wr => ∃ i : Nat, vi = .int .i64 (i : Int) ∧ i ≤ R ∧ Hid (∃ d1 V1, IsDr wr B s g Q V1 d1 ∧ Touch (dfoot s g d.q.length Q V) w1 wr ∧ (∀ k, dfoot s g d.q.length Q V1 k → dfoot s g d.q.length Q V k ∨ w1.heap.size ≤ k) ∧ d1.q = d.q ∧ d1.r.length = R ∧ DrrM.scan ls R d = DrrM.scan ls (R - i) d1)) (fun _ _ vi _ => R - (intOf vi).toNat)
    case atStart => exact ⟨0, rfl, by omega, HSTART⟩
    case round =>
      obtain ⟨i, rfl, hi, hh⟩ := hrel
      obtain ⟨d1, V1, hdr, htc, hfr, hq1, hrl, hsc⟩ := hh.out
      have HTC := Lib.hid htc
      have HFR := Lib.hid hfr
      have HSC := Lib.hid hsc
      clear hh htc hfr hsc
      have hL1 : d1.q.length = L0 := by rw [hq1, HN.out]
      have hwsz := HTC.out.size
      by_cases hlt : i < R
      · have hii : (i : Int) < (R : Int) := by omega
        obtain ⟨t, r, hr⟩ : ∃ t r, d1.r = t :: r := by
          cases hd : d1.r with
          | nil => rw [hd] at hrl; simp at hrl; omega
          | cons t r => exact ⟨t, r, rfl⟩
        have htr : t ∈ d1.r := by rw [hr]; exact List.mem_cons_self ..
        have htn := hdr.inv.rng t htr
        have htL : t < L0 := by omega
        obtain ⟨x, l, hjt'⟩ : ∃ x l, d1.job t = x :: l := by
          cases hd : d1.job t with
          | nil => exact absurd hd ((hdr.inv.iff_ t htn).1 htr)
          | cons x l => exact ⟨x, l, rfl⟩
        have hjt : jobsF d1 t = x :: l := by rw [jobsF_job d1 htn]; exact hjt'
        have HF := Lib.hid (qfront_any wr (hdr.dm.qs d1.q.length (Nat.le_refl _)))
        rw [jobsF_ring, hr, show frontN (ringI (t :: r)) = (t : Int) from rfl, show frontE (ringI (t :: r)) = 0 from rfl, hL1, HQN.out] at HF
        have cc := hdr.dm.cells
        rw [hL1, HQN.out] at cc
        obtain ⟨e0, e1⟩ := cc
        have hil : IsInts wr (.slice al L0 cl) ls := by
          refine IsInts.same HI1.out (fun k hk => ?_)
          have h1 := HIW.out k hk (by rw [HL0.out]; omega)
          exact HTC.out.block k (by omega) (HLV.out k hk h1)
        obtain ⟨bz, oz, cz, he1, cx⟩ := hil.cell (k := t) (by rw [HL0.out]; exact htL)
        simp only [Value.slice.injEq] at he1
        obtain ⟨rfl, hz, rfl⟩ := he1
        clear hz hil
        obtain ⟨y, hy⟩ : ∃ y, ls.getD t 0 = y := ⟨_, rfl⟩
        have HY := Lib.hid hy
        rw [hy] at cx
        have i0 : (0 : Int) ≤ (t : Int) := by omega
        have i1 : (t : Int) < (L0 : Int) := by omega
        by_cases hl : y ≥ 1
        · have hl2 : ¬ ls.getD t 0 < 1 := by rw [hy]; omega
          clear hy
          by_cases hyb : y < b
          · have hmo : min b y = y := by omega
            obtain ⟨M, hM⟩ : ∃ M, min (turnC d1.qua d1.crd t t) y = M := ⟨_, rfl⟩
            have HTU := Lib.hid (dturn_any t y M x l wr hdr.dm (by omega) hjt hM)
            have HEN : Hid (∀ w', DStep wr w' B s g d1.q.length Q V1 d1.qua (turnC d1.qua d1.crd t) (jobsF d1) → w'.heap[P]? = some (.cells (trn 0 0 0) 64 (0, 0)) ∧ DNextP w (w'.setRow P (trn (t : Int) x M)) B s g Q V d b ls (.returned (.tuple #[.agg (trn (t : Int) x M), .bool true]))) := Lib.hid (fun w' hd => by
              have hsc := HSC.out
              rw [show R - i = (R - (i + 1)) + 1 by omega, scan_found hr hl2] at hsc
              obtain ⟨V2, b1, b2, b3⟩ := hd
              have hPV1 : ¬ dfoot s g d1.q.length Q V1 P := fun hf => by
                rw [hq1] at hf
                rcases HFR.out P hf with h | h
                · exact HPF.out h
                · omega
              have hPV2 : ¬ dfoot s g d1.q.length Q V2 P := fun hf => by
                rcases b3 P hf with h | h
                · exact hPV1 h
                · have := HTC.out.size; omega
              have hx' : w'.heap[P]? = some (.cells (trn 0 0 0) 64 (0, 0)) := (b2.block P (by have := HTC.out.size; omega) hPV1).trans ((HTC.out.block P (by omega) HPF.out).trans HX1.out)
              have hinv2 : DrrM.Inv (if d1.crd t = 0 then d1.setC t (d1.qua t) else d1) := by
                have := DrrM.Inv.scan (left := ls) (R - (i + 1) + 1) hdr.inv
                rw [scan_found hr hl2] at this
                exact this.1
              have hq2 : (if d1.crd t = 0 then d1.setC t (d1.qua t) else d1).q = d1.q := by split <;> rfl
              have hqq2 : ∀ j, (if d1.crd t = 0 then d1.setC t (d1.qua t) else d1).qua j = d1.qua j := fun j => by split <;> rfl
              obtain ⟨f1, f2⟩ := turned_fun hdr.inv htn
              refine ⟨hx', ?_⟩
              unfold DNextP
              rw [HNX.out, HR0.out, hsc]
              refine ⟨⟨?_, hinv2⟩, hq2.trans hq1, Or.inr ⟨t, x, l, rfl, ?_, ?_⟩⟩
              · rw [hq2]
                refine DStep.ext (q := d1.qua) (c := turnC d1.qua d1.crd t) (J := jobsF d1) ?_ (fun j hj => (hqq2 j).symm) f1 f2
                rw [hq1] at b1 b2 b3 hPV2 ⊢
                refine ⟨V2, b1.same (fun k hk => setRow_other _ _ k _ (fun e => hPV2 (e ▸ hk))), touch_setRow ((Touch.ofBelow HB1.out).trans (HTC.out.trans b2 HFR.out) (fun k hk => Or.inl hk)) (Or.inr (by omega)) _, fun k hk => ?_⟩
                rcases b3 k hk with h | h
                · rcases HFR.out k h with h | h
                  · exact Or.inl h
                  · exact Or.inr (by omega)
                · have := HTC.out.size; exact Or.inr (by omega)
              · have : (if d1.crd t = 0 then d1.setC t (d1.qua t) else d1).job t = d1.job t := by split <;> rfl
                rw [this]; exact hjt'
              · rw [← f1 t htn, HY.out, hmo, hM])
            clear hjt hjt' hr hdr hM
            generalize turnC d1.qua d1.crd t t = tc at *
            go_wp2_with fail
            refine HF.out.mono ?_
            rintro e w3 ⟨rfl, hw3⟩
            obtain rfl := hw3.symm
            go_wp2_with fail
            refine HTU.out.mono ?_
            rintro e w4 ⟨rfl, hd4⟩
            obtain ⟨hx4, he4⟩ := HEN.out w4 hd4
            have HX4 := Lib.hid hx4
            have HE4 := Lib.hid he4
            have HR4 : Hid ((w4.setRow P (trn (t : Int) x M)).heap[P]? = some (.cells (trn (t : Int) x M) 64 (0, 0))) := Lib.hid (setRow_heap _ _ _ _ _ _ HX4.out)
            clear hd4 hx4 he4 HEN
            go_wp2_with (refine wpList_store_row rfl 64 _ _ rfl P (trn (t : Int) x M) rfl rfl 64 _ HX4.out info_trn rfl (trn_all _ _ _) ?_)
            refine bodyPost_ret (v := .tuple #[.agg (trn (t : Int) x M), .bool true]) (results_row_tmp rfl _ _ P 64 _ (0, 0) _ _ rfl rfl HR4.out Try.underlying64 rfl info_trn) rfl ?_
            exact HE4.out
          · have hmo : min b y = b := by omega
            obtain ⟨M, hM⟩ : ∃ M, min (turnC d1.qua d1.crd t t) b = M := ⟨_, rfl⟩
            have HTU := Lib.hid (dturn_any t b M x l wr hdr.dm (by omega) hjt hM)
            have HEN : Hid (∀ w', DStep wr w' B s g d1.q.length Q V1 d1.qua (turnC d1.qua d1.crd t) (jobsF d1) → w'.heap[P]? = some (.cells (trn 0 0 0) 64 (0, 0)) ∧ DNextP w (w'.setRow P (trn (t : Int) x M)) B s g Q V d b ls (.returned (.tuple #[.agg (trn (t : Int) x M), .bool true]))) := Lib.hid (fun w' hd => by
              have hsc := HSC.out
              rw [show R - i = (R - (i + 1)) + 1 by omega, scan_found hr hl2] at hsc
              obtain ⟨V2, b1, b2, b3⟩ := hd
              have hPV1 : ¬ dfoot s g d1.q.length Q V1 P := fun hf => by
                rw [hq1] at hf
                rcases HFR.out P hf with h | h
                · exact HPF.out h
                · omega
              have hPV2 : ¬ dfoot s g d1.q.length Q V2 P := fun hf => by
                rcases b3 P hf with h | h
                · exact hPV1 h
                · have := HTC.out.size; omega
              have hx' : w'.heap[P]? = some (.cells (trn 0 0 0) 64 (0, 0)) := (b2.block P (by have := HTC.out.size; omega) hPV1).trans ((HTC.out.block P (by omega) HPF.out).trans HX1.out)
              have hinv2 : DrrM.Inv (if d1.crd t = 0 then d1.setC t (d1.qua t) else d1) := by
                have := DrrM.Inv.scan (left := ls) (R - (i + 1) + 1) hdr.inv
                rw [scan_found hr hl2] at this
                exact this.1
              have hq2 : (if d1.crd t = 0 then d1.setC t (d1.qua t) else d1).q = d1.q := by split <;> rfl
              have hqq2 : ∀ j, (if d1.crd t = 0 then d1.setC t (d1.qua t) else d1).qua j = d1.qua j := fun j => by split <;> rfl
              obtain ⟨f1, f2⟩ := turned_fun hdr.inv htn
              refine ⟨hx', ?_⟩
              unfold DNextP
              rw [HNX.out, HR0.out, hsc]
              refine ⟨⟨?_, hinv2⟩, hq2.trans hq1, Or.inr ⟨t, x, l, rfl, ?_, ?_⟩⟩
              · rw [hq2]
                refine DStep.ext (q := d1.qua) (c := turnC d1.qua d1.crd t) (J := jobsF d1) ?_ (fun j hj => (hqq2 j).symm) f1 f2
                rw [hq1] at b1 b2 b3 hPV2 ⊢
                refine ⟨V2, b1.same (fun k hk => setRow_other _ _ k _ (fun e => hPV2 (e ▸ hk))), touch_setRow ((Touch.ofBelow HB1.out).trans (HTC.out.trans b2 HFR.out) (fun k hk => Or.inl hk)) (Or.inr (by omega)) _, fun k hk => ?_⟩
                rcases b3 k hk with h | h
                · rcases HFR.out k h with h | h
                  · exact Or.inl h
                  · exact Or.inr (by omega)
                · have := HTC.out.size; exact Or.inr (by omega)
              · have : (if d1.crd t = 0 then d1.setC t (d1.qua t) else d1).job t = d1.job t := by split <;> rfl
                rw [this]; exact hjt'
              · rw [← f1 t htn, HY.out, hmo, hM])
            clear hjt hjt' hr hdr hM
            generalize turnC d1.qua d1.crd t t = tc at *
            go_wp2_with fail
            refine HF.out.mono ?_
            rintro e w3 ⟨rfl, hw3⟩
            obtain rfl := hw3.symm
            go_wp2_with fail
            refine HTU.out.mono ?_
            rintro e w4 ⟨rfl, hd4⟩
            obtain ⟨hx4, he4⟩ := HEN.out w4 hd4
            have HX4 := Lib.hid hx4
            have HE4 := Lib.hid he4
            have HR4 : Hid ((w4.setRow P (trn (t : Int) x M)).heap[P]? = some (.cells (trn (t : Int) x M) 64 (0, 0))) := Lib.hid (setRow_heap _ _ _ _ _ _ HX4.out)
            clear hd4 hx4 he4 HEN
            go_wp2_with (refine wpList_store_row rfl 64 _ _ rfl P (trn (t : Int) x M) rfl rfl 64 _ HX4.out info_trn rfl (trn_all _ _ _) ?_)
            refine bodyPost_ret (v := .tuple #[.agg (trn (t : Int) x M), .bool true]) (results_row_tmp rfl _ _ P 64 _ (0, 0) _ _ rfl rfl HR4.out Try.underlying64 rfl info_trn) rfl ?_
            exact HE4.out
        · have hl2 : ls.getD t 0 < 1 := by rw [hy]; omega
          clear hy
          obtain ⟨d0, d1', d2⟩ := hdr.dm.ten.cells htn
          have f2 := hdr.dm.ten.frozen (t * 3 + 2)
          obtain ⟨w2, hw2⟩ : ∃ w2, wr.setCell ⟨g, t * 3 + 2, none⟩ (.int .i64 0) = w2 := ⟨_, rfl⟩
          obtain ⟨V2, hm2, ht2, hf2⟩ := hdr.dm.setC htn 0
          rw [hw2] at hm2 ht2
          have g1 := hm2.cells.2
          have HRO := Lib.hid (qrotate_any w2 (hm2.qs d1.q.length (Nat.le_refl _)))
          rw [jobsF_ring, ringI_rot] at HRO
          have HNX2 : Hid (∀ w', QStep w2 w' B (Q d1.q.length) (limQ d1.q.length d1.q.length) (V2 d1.q.length) (ringI (DrrM.rotT d1.r)) → ∃ d1 V1, IsDr w' B s g Q V1 d1 ∧ Touch (dfoot s g d.q.length Q V) w1 w' ∧ (∀ k, dfoot s g d.q.length Q V1 k → dfoot s g d.q.length Q V k ∨ w1.heap.size ≤ k) ∧ d1.q = d.q ∧ d1.r.length = R ∧ DrrM.scan ls R d = DrrM.scan ls (R - (i + 1)) d1) := Lib.hid (fun w' hqs => by
            obtain ⟨V3, b1, b2, b3⟩ := DStep.comp ht2 hf2 (hm2.qstep (Nat.le_refl _) hqs)
            obtain ⟨f1, f2⟩ := looked_fun hdr.inv htn 0 (DrrM.rotT d1.r)
            have hinv2 : DrrM.Inv ((d1.setC t 0).setR (DrrM.rotT d1.r)) := (hdr.inv.setC htn ⟨Int.le_refl _, by have := DrrM.qua_pos hdr.inv htn; omega⟩ (Or.inr rfl)).setR (DrrM.rotT_perm _)
            refine ⟨(d1.setC t 0).setR (DrrM.rotT d1.r), V3, ⟨b1.ext (fun _ _ => rfl) f1 f2, hinv2⟩, ?_, fun k hk => ?_, hq1, ?_, ?_⟩
            · rw [hq1] at b2
              exact HTC.out.trans b2 HFR.out
            · rw [hq1] at b3
              rcases b3 k hk with h | h
              · exact HFR.out k h
              · exact Or.inr (by omega)
            · show (DrrM.rotT d1.r).length = R
              rw [(DrrM.rotT_perm d1.r).length_eq]; exact hrl
            · rw [HSC.out, show R - i = (R - (i + 1)) + 1 by omega, scan_next hr hl2])
          rw [hL1, HQN.out] at HRO g1
          rw [hL1, HQN.out] at HNX2
          clear hm2 ht2 hf2 hjt hjt' hr hdr
          go_wp2_with fail
          refine HF.out.mono ?_
          rintro e w3 ⟨rfl, hw3⟩
          obtain rfl := hw3.symm
          go_wp2_with fail
          refine HRO.out.mono ?_
          rintro e w4 ⟨rfl, hq4⟩
          have H4 := Lib.hid (HNX2.out w4 hq4)
          clear hq4
          go_wp2_with fail
          go_roundw
          case rel => exact ⟨i + 1, by go_num, by omega, H4⟩
          case measure => simp [intOf]; omega
      · have hii : ¬ (i : Int) < (R : Int) := by omega
        have hiR : i = R := by omega
        have hPV1 : ¬ dfoot s g d1.q.length Q V1 P := fun hf => by
          rw [hq1] at hf
          rcases HFR.out P hf with h | h
          · exact HPF.out h
          · omega
        have HXR : Hid (wr.heap[P]? = some (.cells (trn 0 0 0) 64 (0, 0))) := Lib.hid ((HTC.out.block P (by omega) HPF.out).trans HX1.out)
        have HR4 : Hid ((wr.setRow P (trn 0 0 0)).heap[P]? = some (.cells (trn 0 0 0) 64 (0, 0))) := Lib.hid (setRow_heap _ _ _ _ _ _ HXR.out)
        have HE4 : Hid (DNextP w (wr.setRow P (trn 0 0 0)) B s g Q V d b ls (.returned (.tuple #[.agg (trn 0 0 0), .bool false]))) := Lib.hid (by
          have hsc := HSC.out
          rw [hiR, Nat.sub_self, show DrrM.scan ls 0 d1 = (d1, none) from rfl] at hsc
          unfold DNextP
          rw [HNX.out, HR0.out, hsc]
          refine ⟨⟨?_, hdr.inv⟩, hq1, Or.inl ⟨rfl, rfl⟩⟩
          have hm := hdr.dm
          rw [hq1] at hm hPV1
          show DStep w _ B s g d1.q.length Q V _ _ _
          rw [hq1]
          refine ⟨V1, hm.same (fun k hk => setRow_other _ _ k _ (fun e => hPV1 (e ▸ hk))), touch_setRow ((Touch.ofBelow HB1.out).trans HTC.out (fun k hk => Or.inl hk)) (Or.inr (by omega)) _, fun k hk => (HFR.out k hk).imp id (fun h => by omega)⟩)
        clear hdr hrl hPV1
        go_wp2_with (refine wpList_store_row rfl 64 _ _ rfl P (trn 0 0 0) rfl rfl 64 _ HXR.out info_trn rfl (trn_all _ _ _) ?_)
        refine bodyPost_ret (v := .tuple #[.agg (trn 0 0 0), .bool false]) (results_row_tmp rfl _ _ P 64 _ (0, 0) _ _ rfl rfl HR4.out Try.underlying64 rfl info_trn) rfl ?_
        exact HE4.out
end
end Go.Proofs.Ytgdgjalfabffcaa

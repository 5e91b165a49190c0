/-
  THE WALKS OF LAYER 12's CODE (package tables): a round, walked.
-/
import Derived.Test.YtmlcdfimcabgkaaDoorTabD
namespace Go.Proofs.YtmlcdfimcabgkaaDoor
open Go.RowKit TabM FreqM HufM
set_option linter.unusedVariables false
theorem IsRR.down {w w' : World} {v : Value} {gs : List (List Int)} (h : IsRR w v gs) (hb : Below w.heap.size w w') : IsRR w' v gs := h.below hb
theorem RdT.drew {H : Nat} {w0 wr : World} {d : Nat → Int} {vL vP : Value} (h : RdT H w0 wr d vL vP) : RdT H w0 wr.drew d vL vP := ⟨h.res, h.cho, h.cnt, h.bel.drew⟩
/-- Rows and numbers in blocks from B on. -/
def Kept (B : Nat) (w : World) (vL vP : Value) (gs : List (List Int)) (ps : List Int) : Prop :=
  ∀ W : World, (∀ k, B ≤ k → k < w.heap.size → W.heap[k]? = w.heap[k]?) → w.heap.size ≤ W.heap.size → IsRR W vL gs ∧ IsInts W vP ps
theorem Kept.now {B : Nat} {w : World} {vL vP : Value} {gs : List (List Int)} {ps : List Int} (h : Kept B w vL vP gs ps) : IsRR w vL gs ∧ IsInts w vP ps := h w (fun _ _ _ => rfl) (Nat.le_refl _)
theorem info_ch : (Tryd.prog.info? 35).map (·.size) = some 2 := by kernel_rfl
theorem ch_all (a b : Option Addr) (m n c d : Nat) : (#[Value.slice a m c, Value.slice b n d] : Array Value).all (·.oneCell') = true := by simp [Value.oneCell']
theorem RdT.start (w : World) (zs : List Int) (rows : List (List Int)) : RdT w.heap.size w (((w.alloc (.cells #[.slice none 0 0, .slice none 0 0] 35)).alloc (.cells #[.slice none 0 0, .slice none 0 0] 35)).alloc (.cells Tryd.zeroCells63 63)) (cq zs rows 0) (.slice none 0 0) (.slice none 0 0) := by
  have s1 : (w.alloc (.cells #[.slice none 0 0, .slice none 0 0] 35)).heap.size = w.heap.size + 1 := by simp
  have s2 : ((w.alloc (.cells #[.slice none 0 0, .slice none 0 0] 35)).alloc (.cells #[.slice none 0 0, .slice none 0 0] 35)).heap.size = w.heap.size + 2 := by simp
  have h1 := heap_alloc_new w (.cells #[.slice none 0 0, .slice none 0 0] 35)
  have h2 := heap_alloc_new (w.alloc (.cells #[.slice none 0 0, .slice none 0 0] 35)) (.cells #[.slice none 0 0, .slice none 0 0] 35)
  have h3 := heap_alloc_new ((w.alloc (.cells #[.slice none 0 0, .slice none 0 0] 35)).alloc (.cells #[.slice none 0 0, .slice none 0 0] 35)) (.cells Tryd.zeroCells63 63)
  rw [s1] at h2
  rw [s2] at h3
  refine ⟨(alloc_old (by rw [s2]; omega)).trans ((alloc_old (by rw [s1]; omega)).trans h1), (alloc_old (by rw [s2]; omega)).trans h2, ?_, (((Below.refl _ _).alloc (Nat.le_refl _) _).alloc (by rw [s1]; omega) _).alloc (by rw [s2]; omega) _⟩
  unfold ArrD
  rw [h3, zero1548]
  rfl
set_option maxRecDepth 100000 in
set_option maxHeartbeats 8000000 in
theorem round12_any (a : Option Addr) (len c : Nat) (zs : List Int) (N : Nat) (vr : Value) (rows : List (List Int)) (w : World) (hI : IsInts w (.slice a len c) zs) (hlen : zs.length = len) (hz : len ≤ 1000) (hc : len ≤ c) (hc2 : c ≤ 9223372036854775807)
    (hr : IsRR w vr rows) (hsy : Syms zs (N : Int)) (hok : TabOk N rows) (h3 : 3 ≤ N) (h258 : N ≤ 258) :
    Calls Tryd.prog 35 #[.slice a len c, .int .i64 (N : Int), vr] w fun e w' => ∃ (vL vP : Value), e = .returned (.agg #[vL, vP]) ∧ Kept w.heap.size w' vL vP (roundM zs N rows) (picksM zs rows (ng zs.length)) ∧ Below w.heap.size w w' := by
  have HV := Lib.hid hI
  have HR := Lib.hid hr
  have HSY := Lib.hid hsy
  have HOK := Lib.hid hok
  obtain ⟨hl2, hl6, _⟩ := hok
  obtain ⟨ar, cr, rfl, _⟩ := hr
  obtain ⟨T, hT⟩ : ∃ T, rows.length = T := ⟨_, rfl⟩
  have HT := Lib.hid hT
  rw [hT] at hl2 hl6 HR ⊢
  have HLEN := Lib.hid hlen
  obtain ⟨Q, hQ⟩ : ∃ Q, ng len = Q := ⟨_, rfl⟩
  have HQ := Lib.hid hQ
  have hQ20 : Q ≤ 20 := by rw [← hQ]; unfold ng; omega
  have HGR := Lib.hid (fun W => groups_any (len : Int) W (by omega) (by omega))
  rw [gn_nat, hQ] at HGR
  have HRM : Hid (∀ p, p < T → (roundM zs N rows).take (p + 1) = (roundM zs N rows).take p ++ [lensF (counts (took zs rows p Q) N)]) := Lib.hid (fun p hp => by
    rw [List.take_succ_eq_append_getElem (by rw [roundM_len]; omega)]
    unfold roundM
    simp only [List.getElem_map, List.getElem_range]
    rw [hlen, hQ])
  have HCO : Hid (∀ p, OfOk (counts (took zs rows p Q) N)) := Lib.hid (fun p => cnt_ok h3 h258 (by have := took_len zs rows p Q; omega))
  obtain ⟨H, hH⟩ : ∃ H, w.heap.size = H := ⟨_, rfl⟩
  have HH := Lib.hid hH
  have HS0 := Lib.hid (RdT.start w zs rows)
  rw [hH] at HS0
  have HEND : Hid (picksM zs rows (ng zs.length) = picksM zs rows Q) := Lib.hid (by rw [hlen, hQ])
  clear hI hT hlen hQ hsy
  go_enter Tryd.func35, Tryd.ntmps35
  go_wp2_with fail
  refine (HGR.out _).mono ?_
  rintro e w3 ⟨rfl, hw3⟩
  rw [hw3] at HS0
  try rw [hw3]
  clear hw3
  try rw [HH.out]
  clear hH
  go_wp2_with fail
  go_loopw [21] (fun vq wr => ∃ (q : Nat) (vP : Value), vq = .int .i64 (q : Int) ∧ q ≤ Q ∧ RdT H w wr (cq zs rows q) (.slice none 0 0) vP ∧ OwnI wr (H + 3) vP (picksM zs rows q)) (fun vq _ => Q - (intOf vq).toNat)
  case atStart => exact ⟨0, _, rfl, by omega, HS0.out, OwnI.nil _ _⟩
  case round =>
    clear HS0
    obtain ⟨q, vP, rfl, hq, hT, hO⟩ := hrel
    have HTT := Lib.hid hT
    have HO := Lib.hid hO
    have hHs := hT.lt
    have HV2 : Hid (IsInts wr (.slice a len c) zs) := Lib.hid (HV.out.below (by rw [HH.out]; exact hT.bel))
    have HR2 : Hid (IsRR wr (.slice ar T cr) rows) := Lib.hid (HR.out.below (by rw [HH.out]; exact hT.bel))
    clear hT hO
    by_cases hqQ : q < Q
    · have hqi : (q : Int) < (Q : Int) := by omega
      have HGK := Lib.hid (groupK_any a len c zs q wr HV2.out HLEN.out (by omega) hc hc2 (by rw [HQ.out]; exact hqQ))
      go_wp2_with fail
      refine HGK.out.mono ?_
      rintro e w4 ⟨vg, rfl, hO4, hB4⟩
      have HB4 := Lib.hid hB4
      have HT4 := Lib.hid (HTT.out.below (hB4.mono (by omega)))
      have HO4 := Lib.hid (HO.out.below hB4)
      have HG4 : Hid (OwnI w4 (H + 3) vg (grp zs q)) := Lib.hid (hO4.lower (by omega))
      have HR4 := Lib.hid (HR2.out.below hB4)
      obtain ⟨ag, cg, rfl⟩ := hO4.slice
      have hgl := grp_len zs q
      have hPl := pickM_lt (grp zs q) (rows := rows) (by rw [HT.out]; omega)
      rw [HT.out] at hPl
      have HCH := Lib.hid (cheapest_any _ _ (grp zs q) rows N w4 HG4.out.ints HR4.out (grp_syms HSY.out q) HOK.out (by omega) h258)
      have HGS := Lib.hid (grp_syms HSY.out q)
      obtain ⟨P, hP⟩ : ∃ P, pickM (grp zs q) rows = P := ⟨_, rfl⟩
      rw [hP] at HCH hPl
      have HPK : Hid (picksM zs rows (q + 1) = picksM zs rows q ++ [(P : Int)]) := Lib.hid (by rw [picksM_succ, hP])
      have HCA : Hid (∀ i, cqm zs rows q P (grp zs q).length i = cq zs rows (q + 1) i) := Lib.hid (fun i => by rw [← hP]; exact cqm_all zs rows q i)
      obtain ⟨G, hG⟩ : ∃ G, (grp zs q).length = G := ⟨_, rfl⟩
      have HG := Lib.hid hG
      rw [hG] at hgl HCH HCA HG4 ⊢
      have hG50 : G ≤ 50 := by omega
      clear hO4 hB4 hP hG hgl HTT HO HV2 HR2 HGK
      go_wp2_with fail
      refine HCH.out.mono ?_
      rintro e w5 ⟨rfl, rfl⟩
      clear HCH
      go_wp2_with fail
      obtain ⟨wz, rfl⟩ : ∃ wz : World, wz = wr := ⟨_, rfl⟩
      go_loopw [35] (fun vm wr2 => ∃ (m : Nat), vm = .int .i64 (m : Int) ∧ m ≤ G ∧ RdT H w wr2 (cqm zs rows q P m) (.slice none 0 0) vP ∧ OwnI wr2 (H + 3) vP (picksM zs rows q) ∧ OwnI wr2 (H + 3) (.slice ag G cg) (grp zs q)) (fun vm _ => G - (intOf vm).toNat)
      case atStart => exact ⟨0, rfl, by omega, HT4.out.ext (by funext i; rw [cqm_zero]), HO4.out, HG4.out⟩
      case round =>
        clear HT4 HO4 HG4
        obtain ⟨m, rfl, hm, hT, hO, hg⟩ := hrel
        have HTT := Lib.hid hT
        have HO := Lib.hid hO
        have HGG := Lib.hid hg
        clear hT hO hg
        by_cases hmG : m < G
        · have hmi : (m : Int) < (G : Int) := by omega
          obtain ⟨b1, o1, k1, he1, c1⟩ := HGG.out.ints.cell (show m < (grp zs q).length by rw [HG.out]; exact hmG)
          rw [HG.out] at he1
          simp only [Value.slice.injEq] at he1
          obtain ⟨rfl, he1b, rfl⟩ := he1
          clear he1b
          have hxr := HGS.out _ (FreqM.getD_mem (grp zs q) m (by rw [HG.out]; exact hmG))
          obtain ⟨s, hs⟩ : ∃ s : Nat, (grp zs q).getD m 0 = (s : Int) := ⟨((grp zs q).getD m 0).toNat, by omega⟩
          rw [hs] at c1 hxr
          have hs258 : s < 258 := by omega
          have hsuc := cqm_succ zs rows q P m s (by rw [HG.out]; exact hmG) hs hs258
          obtain ⟨A, hA⟩ : ∃ A, P * 258 + s = A := ⟨_, rfl⟩
          have hA1548 : A < 1548 := by omega
          obtain ⟨d1, f1⟩ := HTT.out.cnt.cell hA1548
          have hbd := cq_bd zs rows q P m A
          rw [hA] at hsuc
          obtain ⟨y, hy⟩ : ∃ y, cqm zs rows q P m A = y := ⟨_, rfl⟩
          rw [hy] at d1 hbd hsuc
          have HNX : Hid (RdT H w ((wr.setCell ⟨H + 2, A, none⟩ (.int .i64 (y + 1))).drew) (cqm zs rows q P (m + 1)) (.slice none 0 0) vP) := Lib.hid ((HTT.out.setC hA1548 (y + 1)).ext (by funext i; rw [hsuc i])).drew
          have HO2 : Hid (OwnI ((wr.setCell ⟨H + 2, A, none⟩ (.int .i64 (y + 1))).drew) (H + 3) vP (picksM zs rows q)) := Lib.hid ((HO.out.setLow (by show H + 2 < H + 3; omega) _).drewN 1)
          have HG2 : Hid (OwnI ((wr.setCell ⟨H + 2, A, none⟩ (.int .i64 (y + 1))).drew) (H + 3) (.slice (some ⟨b1, o1, none⟩) G cg) (grp zs q)) := Lib.hid ((HGG.out.setLow (by show H + 2 < H + 3; omega) _).drewN 1)
          have hP6 : (P : Int) < 6 := by omega
          have hsi : (s : Int) < 258 := by omega
          have hy1 : IntKind.i64.wrap (y + 1) = y + 1 := IntWalk.i64_in _ (by omega)
          have hA2 : P * 258 + s = A := hA
          clear hs hsuc hy hbd hA hxr
          go_wp2_with fail
          go_region
          generalize ((wr.setCell ⟨H + 2, A, none⟩ (.int .i64 (y + 1))).drew) = w6 at *
          clear d1 f1 hy1 hA2
          go_wp2_with fail
          go_roundw
          case rel => exact ⟨m + 1, by go_num, by omega, HNX.out, HO2.out, HG2.out⟩
          case measure => simp [intOf]; omega
        · have hmG2 : m = G := by omega
          have HT7 : Hid (RdT H w wr (cq zs rows (q + 1)) (.slice none 0 0) vP) := Lib.hid (HTT.out.ext (by funext i; rw [hmG2, HCA.out i]))
          have hmi : ¬ (m : Int) < (G : Int) := by omega
          obtain ⟨e0, e1, g0, g1⟩ := HT7.out.cells
          obtain ⟨avP, cvP, rfl⟩ := HO.out.slice
          have hpl := picksM_len zs rows q
          have HPL := Lib.hid hpl
          rw [hpl] at HO HT7 e1 ⊢
          have hHs2 := HT7.out.lt
          clear hmG2 hpl HTT
          go_wp2_with (at_builtin; refine push_int wr rfl _ _ rfl (H + 3) _ (picksM zs rows q) (P : Int) HO.out rfl rfl (by rw [HPL.out]; omega) (by omega) ?_)
          intro v8 w8 hO8 hB8
          have HT8 := Lib.hid (HT7.out.below hB8)
          have HO8 : Hid (OwnI w8 (H + 3) v8 (picksM zs rows (q + 1))) := Lib.hid (by rw [HPK.out]; exact hO8)
          obtain ⟨e0, e1, g0, g1⟩ := HT8.out.cells
          have HT9 := Lib.hid (HT8.out.setP v8)
          have HO9 := Lib.hid (HO8.out.setLow (p := ⟨H + 1, 1, none⟩) (by show H + 1 < H + 3; omega) v8)
          obtain ⟨av8, cv8, hv8⟩ := hO8.slice
          rw [show (picksM zs rows q ++ [(P : Int)]).length = q + 1 by rw [List.length_append, HPL.out]; rfl] at hv8
          subst hv8
          clear hO8 hB8
          go_wp2_with fail
          go_roundw
          case rel => exact ⟨q + 1, _, by go_num, by omega, HT9.out, HO9.out⟩
          case measure => simp [intOf]; omega
    · obtain rfl : q = Q := by omega
      have hqi : ¬ (q : Int) < (q : Int) := by omega
      obtain ⟨avP, cvP, hvP⟩ := HO.out.slice
      subst hvP
      go_wp2_with fail
      obtain ⟨wz, rfl⟩ : ∃ wz : World, wz = wr := ⟨_, rfl⟩
      go_loopw [57] (fun vp wr2 => ∃ (p bn : Nat) (vL : Value), vp = .int .i64 (p : Int) ∧ p ≤ T ∧ RdT H w wr2 (cq zs rows q) vL (.slice avP (picksM zs rows q).length cvP) ∧ OwnI wr2 (H + 3) (.slice avP (picksM zs rows q).length cvP) (picksM zs rows q) ∧ OwnRI wr2 (H + 3) bn vL ((roundM zs N rows).take p) ∧ (∀ k, (Value.slice avP (picksM zs rows q).length cvP).ownBlock = some k → vL.ownBlock ≠ some k)) (fun vp _ => T - (intOf vp).toNat)
      case atStart => exact ⟨0, H + 3, .slice none 0 0, rfl, by omega, HTT.out, HO.out, OwnRI.nil _ _ (by omega), fun k _ h => by simp [Value.ownBlock] at h⟩
      case round =>
        clear HTT HO HV2 HR2
        obtain ⟨p, bn, vL, rfl, hp, hT, hO, hL, hD⟩ := hrel
        have HD := Lib.hid hD
        clear hD
        have HTT := Lib.hid hT
        have HO := Lib.hid hO
        have HL := Lib.hid hL
        have hHs2 := hT.lt
        have hbn := hL.2.1
        have hbn3 := hL.1
        obtain ⟨aL, cL, rfl⟩ := hL.slice
        obtain ⟨e0, e1, g0, g1⟩ := hT.cells
        have hll : ((roundM zs N rows).take p).length = p := by rw [List.length_take, roundM_len, HT.out]; omega
        have HLL := Lib.hid hll
        rw [hll] at HL HTT e0 HD
        clear hT hO hL hll
        by_cases hpT : p < T
        · have hpi : (p : Int) < (T : Int) := by omega
          have hp6 : (p : Int) < 6 := by omega
          have HIC := Lib.hid (cq_row HTT.out.cnt (show p < 6 by omega) h258 258)
          have hsl := fun W => slice258p W (H + 2) (p * 258) N h258
          have HLO := Lib.hid (of_loc _ _ wr HIC.out (by rw [counts_len]; omega))
          have HRS := Lib.hid (HRM.out p hpT)
          have HCC := Lib.hid (HCO.out p)
          have hN258 : (N : Int) ≤ 258 := by omega
          go_wp2_with fail
          refine HLO.out.mono ?_
          rintro e w4 ⟨r, rs, err, rfl, hI4, hp4, hB4, ho4⟩
          obtain ⟨hrs, rfl⟩ := OfP.fun hp4 HCC.out
          rw [← hrs] at HRS
          have hrl : rs.length = N := by
            have := (lensF_whole HCC.out).1
            rw [← hrs, counts_len] at this
            exact this
          have HI4 := Lib.hid hI4
          have hul : Hid (∀ k, r.ownBlock = some k → bn ≤ k ∧ k < w4.heap.size) := Lib.hid (fun k hk => by
            have h5 := ho4 k hk
            refine ⟨by omega, ?_⟩
            obtain ⟨b5, o5, c5, he5, hc5⟩ := hI4.cell (k := 0) (by omega)
            rw [he5] at hk
            simp only [Value.ownBlock, Option.some.injEq] at hk
            subst hk
            exact cell_lt hc5)
          obtain ⟨a4, c4, rfl, _⟩ := hI4
          have HT4 := Lib.hid (HTT.out.below (hB4.mono (by omega)))
          have HO4 := Lib.hid (HO.out.below hB4)
          have HL4 := Lib.hid (HL.out.below (hB4.mono hbn))
          obtain ⟨x0, x1, y0, y1⟩ := HT4.out.cells
          have hLl := HLL.out
          have HLB : Hid (((roundM zs N rows).take p).length + 1 ≤ 1099511627776) := Lib.hid (by omega)
          clear hp4 hB4 ho4 hrs hrl hsl HLO HIC hLl
          go_wp2_with (at_builtin; go_loud (refine push_rowI w4 rfl _ _ rfl (H + 3) bn _ _ _ rs HL4.out HI4.out hul.out rfl rfl HLB.out ?_))
          intro v8 w8 hL8 hB8 hk8 hv8
          have HT8 := Lib.hid (HT4.out.below hB8)
          have HO8 : Hid (OwnI w8 (H + 3) (.slice avP (picksM zs rows q).length cvP) (picksM zs rows q)) := Lib.hid (HO4.out.same (fun k hk => hk8 k (HO4.out.lt k hk).2 (HD.out k hk)))
          have HD8 : Hid (∀ k, (Value.slice avP (picksM zs rows q).length cvP).ownBlock = some k → v8.ownBlock ≠ some k) := Lib.hid (fun k hk e => by
            rcases hv8 k e with h | h
            · exact HD.out k hk h
            · have := (HO4.out.lt k hk).2; omega)
          obtain ⟨x0, x1, y0, y1⟩ := HT8.out.cells
          have HT9 := Lib.hid (HT8.out.setL v8)
          have HO9 := Lib.hid (HO8.out.setLow (p := ⟨H + 1, 0, none⟩) (by show H + 1 < H + 3; omega) v8)
          have HL9 : Hid (OwnRI (w8.setCell ⟨H + 1, 0, none⟩ v8) (H + 3) w8.heap.size v8 ((roundM zs N rows).take (p + 1))) := Lib.hid (by
            rw [HRS.out]
            exact hL8.same (fun k hk _ => heap_setCell_other _ _ _ _ (by show k ≠ H + 1; omega)) (by simp))
          obtain ⟨a8, c8, hv9⟩ := hL8.slice
          rw [show ((roundM zs N rows).take p ++ [rs]).length = p + 1 by rw [List.length_append, HLL.out]; rfl] at hv9
          subst hv9
          clear hL8 hB8 hk8 hv8
          go_wp2_with fail
          go_roundw
          case rel => exact ⟨p + 1, w8.heap.size, _, by go_num, by omega, HT9.out, HO9.out, HL9.out, HD8.out⟩
          case measure => simp [intOf]; omega
        · obtain rfl : p = T := by omega
          have hpi : ¬ (p : Int) < (p : Int) := by omega
          have hall : (roundM zs N rows).take p = roundM zs N rows := List.take_of_length_le (by rw [roundM_len, HT.out]; exact Nat.le_refl _)
          rw [hall] at HL
          have HKK : Hid (Kept w.heap.size (wr.setRow H #[.slice aL p cL, .slice avP (picksM zs rows q).length cvP]) (.slice aL p cL) (.slice avP (picksM zs rows q).length cvP) (roundM zs N rows) (picksM zs rows (ng zs.length))) := Lib.hid (by
            intro W hW hs
            rw [HH.out] at hW
            rw [setRow_size] at hW hs
            refine ⟨(HL.out.same (fun k hk hk2 => (hW k (by omega) (by omega)).trans (setRow_other wr H k _ (by omega))) hs).rr, ?_⟩
            rw [HEND.out]
            exact (HO.out.same (fun k hk => by have h5 := HO.out.lt k hk; exact (hW k (by omega) h5.2).trans (setRow_other wr H k _ (by omega)))).ints)
          have HBB : Hid (Below H w (wr.setRow H #[.slice aL p cL, .slice avP (picksM zs rows q).length cvP])) := Lib.hid (below_setRow HTT.out.bel (Nat.le_refl _) _)
          have hcho := HTT.out.cho
          have hres := HTT.out.res
          have hi := info_ch
          have hu := Tryd.underlying35
          obtain ⟨M, hM⟩ : ∃ M, (picksM zs rows q).length = M := ⟨_, rfl⟩
          rw [hM] at hcho HKK HBB ⊢
          clear hM hall
          go_wp2_with (first | (refine wpList_load_row rfl 35 _ rfl (H + 1) rfl 35 #[.slice aL p cL, .slice avP M cvP] (0, 0) _ hcho hu rfl hi ?_) | (refine wpList_store_row rfl 35 _ _ rfl H #[.slice aL p cL, .slice avP M cvP] rfl rfl 35 _ hres hi rfl (ch_all _ _ _ _ _ _) ?_))
          refine bodyPost_ret (v := .agg #[.slice aL p cL, .slice avP M cvP]) (results_cell_row rfl _ _ H 35 _ (0, 0) _ rfl (setRow_heap _ _ _ _ _ _ hres) hu rfl hi) rfl ⟨_, _, rfl, HKK.out, by rw [HH.out]; exact HBB.out⟩
end Go.Proofs.YtmlcdfimcabgkaaDoor

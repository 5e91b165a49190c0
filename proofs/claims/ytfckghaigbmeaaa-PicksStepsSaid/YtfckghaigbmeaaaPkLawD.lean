/-
  LAYER 13's STATEMENTS: PicksSteps.
-/
import Derived.Test.YtfckghaigbmeaaaPkLawC
import Derived.Test.YtfckghaigbmeaaaPieces
import Derived.Deep.RegionHeld3
namespace Go.Proofs.Ytfckghaigbmeaaa
open Go.RowKit PkM BitM
set_option linter.unusedVariables false
set_option maxRecDepth 100000 in
set_option maxHeartbeats 2000000 in
theorem picksSteps.far (s : ByteArray) (c : Int) (w : World) (hs : s.size ≤ maxLen) (h : 60 < s.size ∨ c < 0 ∨ (s.size : Int) < c) :
    Calls Try.prog 5 #[.string s, .int .i64 c] w fun e w' => e = .returned (.bool true) ∧ Below w.heap.size w w' := by
  have H3 := Lib.hid (fun W => pkThree_any W)
  unfold maxLen at hs
  by_cases h1 : (60 : Int) < (s.size : Int)
  · clear h
    go_enter Try.func5, Try.ntmps5
    go_wp2_with fail
    refine (H3.out _).mono ?_
    rintro e w9 ⟨rfl, hb9⟩
    have HB9 := Lib.hid hb9
    clear hb9
    go_wp2_with fail
    go_ret
    exact ⟨rfl, HB9.out⟩
  · by_cases h2 : c < 0
    · clear h
      go_enter Try.func5, Try.ntmps5
      go_wp2_with fail
      refine (H3.out _).mono ?_
      rintro e w9 ⟨rfl, hb9⟩
      have HB9 := Lib.hid hb9
      clear hb9
      go_wp2_with fail
      go_ret
      exact ⟨rfl, HB9.out⟩
    · have h3 : (s.size : Int) < c := by omega
      clear h
      go_enter Try.func5, Try.ntmps5
      go_wp2_with fail
      refine (H3.out _).mono ?_
      rintro e w9 ⟨rfl, hb9⟩
      have HB9 := Lib.hid hb9
      clear hb9
      go_wp2_with fail
      go_ret
      exact ⟨rfl, HB9.out⟩
/-- What the document tells: picks, how many tables, how many bits, how many were looked at, an error. -/
structure GP where
  ps : List Nat
  t : Nat
  k : Nat
  to : Nat
  err : Int
/-- What the loop of PicksSteps knows of the world. -/
structure StP (w wr : World) (b rb G a : Nat) (pv v1 u : Value) (lc : List UInt8) (t n : Nat) (ps o : List Nat) (bad : Bool) (g : GP) : Prop where
  pk : IsPk wr b pv t n ps o bad
  rdr : IsReader wr rb v1 lc 0 0 a
  sep : ∀ k, foot rb v1 k → ¬ foot b pv k
  fr : ∀ k, foot rb v1 k → w.heap.size ≤ k ∧ k ≠ G ∧ u.ownBlock ≠ some k
  fb : ∀ k, foot b pv k → w.heap.size ≤ k ∧ k ≠ G ∧ u.ownBlock ≠ some k
  ub : ∀ j, u.ownBlock = some j → j < G
  got : wr.heap[G]? = some (.cells #[u, .int .i64 (g.t : Int), .int .i64 (g.k : Int), .int .i64 (g.to : Int), .int .i64 g.err] 47 (0, 0))
  row : IsInts wr u (toI g.ps)
  bel : Below w.heap.size w wr
section
variable {w wr : World} {b rb G a : Nat} {pv v1 u : Value} {lc : List UInt8} {t n : Nat} {ps o : List Nat} {bad : Bool} {g : GP}
theorem StP.lt (h : StP w wr b rb G a pv v1 u lc t n ps o bad g) : G < wr.heap.size := (Array.getElem?_eq_some_iff.1 h.got).1
theorem StP.cells (h : StP w wr b rb G a pv v1 u lc t n ps o bad g) : wr.cell? ⟨G, 0, none⟩ = some u ∧ wr.cell? ⟨G, 1, none⟩ = some (.int .i64 (g.t : Int)) ∧ wr.cell? ⟨G, 2, none⟩ = some (.int .i64 (g.k : Int)) ∧ wr.cell? ⟨G, 3, none⟩ = some (.int .i64 (g.to : Int)) ∧ wr.cell? ⟨G, 4, none⟩ = some (.int .i64 g.err) := by
  refine ⟨?_, ?_, ?_, ?_, ?_⟩ <;> (rw [cell_of_row _ _ _ _ _ _ h.got]; rfl)
theorem StP.below (h : StP w wr b rb G a pv v1 u lc t n ps o bad g) {w2 : World} (hb : Below wr.heap.size wr w2) : StP w w2 b rb G a pv v1 u lc t n ps o bad g :=
  ⟨h.pk.below hb, h.rdr.other (Touch.ofBelow (S := fun _ => False) hb) (fun _ _ h => h), h.sep, h.fr, h.fb, h.ub, (hb.block G h.lt).trans h.got, h.row.below hb, h.bel.trans (hb.mono h.bel.size)⟩
theorem StP.drewN (h : StP w wr b rb G a pv v1 u lc t n ps o bad g) (m : Nat) : StP w (wr.drewN m) b rb G a pv v1 u lc t n ps o bad g :=
  h.below ⟨rfl, rfl, rfl, Nat.le_refl _, fun _ _ => rfl⟩
theorem StP.step (h : StP w wr b rb G a pv v1 u lc t n ps o bad g) {w2 : World} {a2 t2 n2 : Nat} {ps2 o2 : List Nat} {bad2 : Bool} {pv2 : Value}
    (hp : IsPk w2 b pv2 t2 n2 ps2 o2 bad2) (hr : IsReader w2 rb v1 lc 0 0 a2) (ht : Touch (fun k => foot b pv k ∨ k = rb) wr w2) (hf : ∀ k, pv2.ownBlock = some k → pv.ownBlock = some k ∨ wr.heap.size ≤ k) : StP w w2 b rb G a2 pv2 v1 u lc t2 n2 ps2 o2 bad2 g := by
  have hG := h.lt
  have hrl := h.rdr.lt
  have hsz := h.bel.size
  have hnew : ∀ k, foot b pv2 k → foot b pv k ∨ wr.heap.size ≤ k := fun k hk => by
    rcases hk with rfl | hk
    · exact Or.inl (Or.inl rfl)
    · rcases hf k hk with e | e
      · exact Or.inl (Or.inr e)
      · exact Or.inr e
  have hG2 : ¬ (foot b pv G ∨ G = rb) := by
    rintro (e | e)
    · exact (h.fb G e).2.1 rfl
    · exact (h.fr rb (Or.inl rfl)).2.1 e.symm
  refine ⟨hp, hr, fun k hk hh => ?_, h.fr, fun k hk => ?_, h.ub, (ht.block G hG hG2).trans h.got, h.row.other ht (fun k hk hh => ?_), h.bel.trans (ht.below h.bel.size (fun i hi => ?_))⟩
  · rcases hnew k hh with e | e
    · exact h.sep k hk e
    · have := hrl k hk
      omega
  · rcases hnew k hk with e | e
    · exact h.fb k e
    · refine ⟨by omega, by omega, fun hh => ?_⟩
      have := h.ub k hh
      omega
  · rcases hh with e | e
    · exact (h.fb k e).2.2 hk
    · exact (h.fr rb (Or.inl rfl)).2.2 (e ▸ hk)
  · rcases hi with e | e
    · exact (h.fb i e).1
    · rw [e]
      exact (h.fr rb (Or.inl rfl)).1
theorem StP.more (h : StP w wr b rb G a pv v1 u lc t n ps o bad g) {w2 : World} {v3 : Value} {lc2 : List UInt8} (hr : IsReader w2 rb v3 lc2 0 0 a) (ht : Touch (foot rb v1) wr w2) (ho : ∀ k, v3.ownBlock = some k → v1.ownBlock = some k ∨ wr.heap.size ≤ k) : StP w w2 b rb G a pv v3 u lc2 t n ps o bad g := by
  have hG := h.lt
  have hpl := h.pk.lt
  have hsz := h.bel.size
  have hnew : ∀ k, foot rb v3 k → foot rb v1 k ∨ wr.heap.size ≤ k := fun k hk => by
    rcases hk with rfl | hk
    · exact Or.inl (Or.inl rfl)
    · rcases ho k hk with e | e
      · exact Or.inl (Or.inr e)
      · exact Or.inr e
  refine ⟨h.pk.other ht (fun k hk hh => h.sep k hh hk), hr, fun k hk hh => ?_, fun k hk => ?_, h.fb, h.ub, (ht.block G hG (fun hh => (h.fr G hh).2.1 rfl)).trans h.got, h.row.other ht (fun k hk hh => (h.fr k hh).2.2 hk), h.bel.trans (ht.below h.bel.size (fun i hi => (h.fr i hi).1))⟩
  · rcases hnew k hk with e | e
    · exact h.sep k e hh
    · have := hpl k hh
      omega
  · rcases hnew k hk with e | e
    · exact h.fr k e
    · refine ⟨by omega, by omega, fun hh => ?_⟩
      have := h.ub k hh
      omega
end
set_option maxRecDepth 100000 in
set_option maxHeartbeats 8000000 in
theorem picksSteps.good (s : ByteArray) (c : Nat) (w : World) (hs : s.size ≤ 60) (hc : c ≤ s.size) :
    Calls Try.prog 5 #[.string s, .int .i64 (c : Int)] w fun e w' => e = .returned (.bool true) ∧ Below w.heap.size w w' := by
  have H3 := Lib.hid (fun W => pkThree_any W)
  have hll : s.data.toList.length = s.size := rfl
  have h1 : ¬ (60 : Int) < (s.size : Int) := by omega
  have h2 : ¬ (s.size : Int) < (c : Int) := by omega
  have hci : (c : Int) ≤ (s.size : Int) := by omega
  have HLL := Lib.hid hll
  have HBT := Lib.hid (fun W => bitsTxt_any s W (by omega))
  have hBL : (bitsOf s.data.toList).length = 8 * s.size := by rw [bitsOf_length, hll]
  have HRR := Lib.hid (fun W => rread13_any (bitsOf s.data.toList) W (by omega))
  have HX1 : Hid ((s.extract 0 c).data.toList = s.data.toList.take c) := Lib.hid (ext_takeD s c)
  have HX2 : Hid ((s.extract c s.size).data.toList = s.data.toList.drop c) := Lib.hid (ext_dataD s c)
  have hx1s : (s.extract 0 c).size ≤ 60 := by rw [ByteArray.size_extract]; omega
  have hx2s : (s.extract c s.size).size ≤ 60 := by rw [ByteArray.size_extract]; omega
  generalize hE1 : s.extract 0 c = E1 at *
  generalize hE2 : s.extract c s.size = E2 at *
  have HE2 := Lib.hid hE2
  obtain ⟨Q, hQ⟩ : ∃ Q, bitsOf s.data.toList = Q := ⟨_, rfl⟩
  have HQ := Lib.hid hQ
  rw [hQ] at HBT HRR hBL
  have HBL := Lib.hid hBL
  obtain ⟨S, hS⟩ : ∃ S, s.data.toList = S := ⟨_, rfl⟩
  rw [hS] at HLL HX1 HX2 HQ
  clear hll hBL hQ hS
  go_enter Try.func5, Try.ntmps5
  go_wp2_with fail
  refine (pnew_any w).mono ?_
  rintro e w1 ⟨rfl, hD1, hB1⟩
  obtain ⟨b, hb⟩ : ∃ b, w.heap.size = b := ⟨_, rfl⟩
  have HBE := Lib.hid hb
  rw [hb] at hD1 ⊢
  have HD1 := Lib.hid hD1
  have HB1 := Lib.hid hB1
  have hbl1 : Hid (b < w1.heap.size) := Lib.hid (hD1.lt b (Or.inl rfl)).2
  clear hD1 hB1 hb
  go_wp2_with fail
  try rw [hE1]
  refine (newReader_any E1 w1 (by unfold maxLen; omega)).mono ?_
  rintro e w2 ⟨rb, v1, rfl, hr2, hb2, hf2⟩
  rw [HX1.out] at hr2
  have HR2 := Lib.hid hr2
  have HB2 := Lib.hid (HB1.out.trans (hb2.mono HB1.out.size))
  have HD2 : Hid (IsPk w2 b (.slice none 0 0) 0 0 [] [0, 0, 0, 0, 0, 0] false) := Lib.hid (HD1.out.below hb2)
  have HF2 : Hid (∀ k, foot rb v1 k → w1.heap.size ≤ k ∧ k < w2.heap.size) := Lib.hid (fun k hk => ⟨hf2 k hk, hr2.lt k hk⟩)
  clear hr2 hb2 hf2 HD1 HB1
  go_wp2_with fail
  refine (HBT.out _).mono ?_
  rintro e w3 ⟨rfl, rfl⟩
  go_wp2_with fail
  refine (HRR.out _).mono ?_
  rintro e w4 ⟨u, ps2, t2, k2, to2, err2, rfl, hi4, hb4, hp4, ho4⟩
  obtain ⟨g, hg⟩ : ∃ g : GP, g = ⟨ps2, t2, k2, to2, err2⟩ := ⟨_, rfl⟩
  have HP4 : Hid (GotP Q g.ps g.t g.k g.to g.err) := Lib.hid (by rw [hg]; exact hp4)
  have hlen2 := (got_len hp4).1
  obtain ⟨au, cu, rfl, hcu⟩ := hi4
  obtain ⟨L2, hL2⟩ : ∃ L2, (toI ps2).length = L2 := ⟨_, rfl⟩
  have HL2 : Hid (L2 ≤ 32767) := Lib.hid (by rw [← hL2, toI_length]; exact hlen2)
  rw [hL2] at ho4
  have HI4 : Hid (IsInts w4 (.slice au L2 cu) (toI g.ps)) := Lib.hid (by rw [hg]; exact ⟨au, cu, by rw [hL2], hcu⟩)
  rw [hL2]
  have e1 : t2 = g.t := by rw [hg]
  have e2 : k2 = g.k := by rw [hg]
  have e3 : to2 = g.to := by rw [hg]
  have e4 : err2 = g.err := by rw [hg]
  have HLG : Hid ((toI g.ps).length = L2) := Lib.hid (by rw [hg]; exact hL2)
  rw [e1, e2, e3, e4]
  have hb5 := (Below.refl w4.heap.size w4).alloc (Nat.le_refl _) (.cells #[.slice au L2 cu, .int .i64 (g.t : Int), .int .i64 (g.k : Int), .int .i64 (g.to : Int), .int .i64 g.err] 47)
  have hb35 := hb4.trans (hb5.mono hb4.size)
  have HST : Hid (StP w (w4.alloc (.cells #[.slice au L2 cu, .int .i64 (g.t : Int), .int .i64 (g.k : Int), .int .i64 (g.to : Int), .int .i64 g.err] 47)) b rb w4.heap.size 0 (.slice none 0 0) v1 (.slice au L2 cu) (cm false S c) 0 0 [] [0, 0, 0, 0, 0, 0] false g) := Lib.hid
    ⟨HD2.out.below hb35, HR2.out.other (Touch.ofBelow (S := fun _ => False) hb35) (fun _ _ h => h),
     fun k hk hh => by
       have h5 := HF2.out k hk
       have h7 := hbl1.out
       rcases hh with e | e
       · omega
       · exact absurd e (by simp [Value.ownBlock]),
     fun k hk => by
       have h5 := HF2.out k hk
       have h6 := hbl1.out
       have h7 := HBE.out
       have h8 := hb4.size
       refine ⟨by omega, by omega, fun hh => ?_⟩
       have h9 := (ho4 k hh).1
       omega,
     fun k hk => by
       have h5 := HF2.out rb (Or.inl rfl)
       have h6 := hbl1.out
       have h7 := HBE.out
       have h8 := hb4.size
       rcases hk with e | e
       · refine ⟨by omega, by omega, fun hh => ?_⟩
         have h9 := (ho4 k hh).1
         omega
       · exact absurd e (by simp [Value.ownBlock]),
     fun j hj => (ho4 j hj).2,
     heap_alloc_new w4 _, HI4.out.below hb5, HB2.out.trans (hb35.mono HB2.out.size)⟩
  obtain ⟨G, hG⟩ : ∃ G, w4.heap.size = G := ⟨_, rfl⟩
  rw [hG] at HST
  clear hcu hL2 hb4 hb5 hb35 hp4 ho4 HI4 HD2 HR2 HB2 HF2 hbl1 hlen2
  clear e1 e2 e3 e4 hg
  have hsz0 : (8 : Int) * (s.size : Int) + 9 ≤ 489 := by omega
  go_wp2_with fail
  try rw [hG]
  generalize w4.alloc (.cells #[.slice au L2 cu, .int .i64 (g.t : Int), .int .i64 (g.k : Int), .int .i64 (g.to : Int), .int .i64 g.err] 47) = w5 at *
  clear hG
  go_loopw [8, 37] (fun vcome vi wr => ∃ (i a : Nat) (come : Bool) (pv v2 : Value) (t n : Nat) (ps o : List Nat), vi = .int .i64 (i : Int) ∧ vcome = .bool come ∧ i ≤ a + (if come then 1 else 0) ∧ StP w wr b rb G a pv v2 (.slice au L2 cu) (cm come S c) t n ps o false g ∧ Rt Q a t n ps o) (fun _ vi _ => 489 - (intOf vi).toNat)
  case atStart => exact ⟨0, 0, false, _, v1, 0, 0, [], _, rfl, rfl, Nat.zero_le _, HST.out, Rt.start _ _⟩
  case round =>
    clear HST
    obtain ⟨i, a, come, pv, v2, t, n, ps, o, rfl, rfl, hia, hst, hRt⟩ := hrel
    have HST := Lib.hid hst
    have HRt := Lib.hid hRt
    have hcl := cm_len come S c
    have hale : a ≤ 8 * (cm come S c).length := by have := hst.rdr.2.2.2.2; omega
    have hSl : S.length = s.size := HLL.out
    have hia2 : i ≤ 8 * s.size + 1 := by
      have : (if come then 1 else 0) ≤ 1 := by split <;> omega
      omega
    have hic : (i : Int) < 8 * (s.size : Int) + 9 := by omega
    have HIA := Lib.hid hia
    have HALE := Lib.hid hale
    have HSPL := Lib.hid (cm_rest come S c a hale)
    rw [HQ.out] at HSPL
    have hbnd := hRt.bnd
    have hLC : Hid (0 + (cm come S c).length ≤ 1099511627776) := Lib.hid (by omega)
    clear hst hRt hia hcl hale hSl
    by_cases hl : 1 ≤ n ∧ ps.length = n
    · have hall := HRt.out.all hl.1 hl.2
      have hp := HP4.out
      unfold GotP at hp
      rw [hall.1] at hp
      obtain ⟨ep, et, ek, _, ee⟩ := hp
      have et2 : g.t = t := et.trans hall.2
      have HDN := Lib.hid (pdone_any b pv t n ps o false true wr HST.out.pk ⟨fun _ => hl, fun _ => rfl⟩)
      have HLE := Lib.hid hl
      have HEP := Lib.hid ep
      have HLP : Hid ((toI ps).length ≤ 9223372036854775807) := Lib.hid (by rw [← ep, HLG.out]; have := HL2.out; omega)
      clear hl hbnd hall et ep
      go_wp2_with fail
      refine HDN.out.mono ?_
      rintro e w3 ⟨rfl, m3, hw3⟩
      have HS3 : Hid (StP w w3 b rb G a pv v2 (.slice au L2 cu) (cm come S c) t n ps o false g) := Lib.hid (by rw [hw3]; exact HST.out.drewN m3)
      have HSD := Lib.hid (HS3.out.drewN 1)
      obtain ⟨d0, d1, d2, _, d4⟩ := HS3.out.cells
      rw [et2] at d1
      rw [ek] at d2
      rw [ee] at d4
      have HET := Lib.hid et2
      have HEK := Lib.hid ek
      have HEE := Lib.hid ee
      have HCL : Hid (∀ W, StP w W b rb G a pv v2 (.slice au L2 cu) (cm come S c) t n ps o false g → W.cell? ⟨G, 0, none⟩ = some (.slice au L2 cu) ∧ W.cell? ⟨G, 1, none⟩ = some (.int .i64 (t : Int)) ∧ W.cell? ⟨G, 2, none⟩ = some (.int .i64 (a : Int)) ∧ W.cell? ⟨G, 4, none⟩ = some (.int .i64 0)) := Lib.hid (fun W hW => by
        obtain ⟨y0, y1, y2, _, y4⟩ := hW.cells
        rw [HET.out] at y1
        rw [HEK.out] at y2
        rw [HEE.out] at y4
        exact ⟨y0, y1, y2, y4⟩)
      clear hw3 HST HDN et2 ek ee
      have hp1 : 1 ≤ ps.length := by have := HLE.out; omega
      go_wp2_with fail
      go_region_held3 (fun W => W.cell? ⟨G, 0, none⟩ = some (.slice au L2 cu) ∧ W.cell? ⟨G, 1, none⟩ = some (.int .i64 (t : Int)) ∧ W.cell? ⟨G, 2, none⟩ = some (.int .i64 (a : Int)) ∧ W.cell? ⟨G, 4, none⟩ = some (.int .i64 0)) (go_keep)
        (first
          | (go_at_call 30; refine (pstep_done b rb pv t n ps o false _ (by exact HSD.out.pk) HLE.out.1 HLE.out.2).mono ?_; rintro e wA ⟨rfl, mA, hwA⟩; have HSA : Hid (StP w wA b rb G a pv v2 (.slice au L2 cu) (cm come S c) t n ps o false g) := Lib.hid (by rw [hwA]; exact HSD.out.drewN mA); obtain ⟨a0, a1, a2, a4⟩ := HCL.out _ HSA.out; clear hwA)
          | (go_at_call 27; refine (rat_any rb v2 _ 0 0 a _ (by exact HSA.out.rdr)).mono ?_; rintro e wB ⟨rfl, rfl⟩)
          | (go_at_call 31; refine (ptables_any b pv t n ps o false _ (by exact HSA.out.pk)).mono ?_; rintro e wB2 ⟨rfl, rfl⟩)
          | (go_at_call 32; refine (ppicks_any b pv t n ps o false _ (by exact HSA.out.pk) hp1).mono ?_; rintro e wC ⟨vC, rfl, hOC, hbC⟩; have HSC := Lib.hid (HSA.out.below hbC); have HOC := Lib.hid hOC.ints; obtain ⟨x0, x1, x2, x4⟩ := HCL.out _ HSC.out; clear hOC hbC)
          | (go_at_call 26; refine (ints_any _ _ (toI ps) (toI ps) true _ (by exact HOC.out) (by rw [← HEP.out]; exact HSC.out.row) ⟨fun _ => rfl, fun _ => rfl⟩ HLP.out HLP.out).mono ?_; rintro e wD ⟨rfl, mD, hwD⟩; have HSE : Hid (StP w wD b rb G a pv v2 (.slice au L2 cu) (cm come S c) t n ps o false g) := Lib.hid (by rw [hwD]; exact HSC.out.drewN mD); obtain ⟨y0, y1, y2, y4⟩ := HCL.out _ HSE.out; clear hwD)
          | (go_at_call 9; refine (H3.out _).mono ?_; rintro e wE ⟨rfl, hbE⟩; have HSF := Lib.hid (HSE.out.below hbE); obtain ⟨z0, z1, z2, z4⟩ := HCL.out _ HSF.out; clear hbE))
      all_goals go_wp2_with fail
      all_goals go_ret
      all_goals exact ⟨rfl, HSF.out.bel⟩
    · have hln : n = 0 ∨ (ps.length < n ∧ n ≤ 32767 ∧ t ≤ 6) := by omega
      have HLN := Lib.hid hln
      have HDN := Lib.hid (pdone_any b pv t n ps o false false wr HST.out.pk ⟨fun e => (by cases e), fun e => absurd e hl⟩)
      have HNL := Lib.hid hl
      clear hl hbnd hln
      go_wp2_with fail
      refine HDN.out.mono ?_
      rintro e w3 ⟨rfl, m3, hw3⟩
      have HS3 : Hid (StP w w3 b rb G a pv v2 (.slice au L2 cu) (cm come S c) t n ps o false g) := Lib.hid (by rw [hw3]; exact HST.out.drewN m3)
      clear hw3 HST HDN
      go_wp2_with fail
      refine (rat_any rb v2 _ 0 0 a w3 HS3.out.rdr).mono ?_
      rintro e w6 ⟨rfl, rfl⟩
      have HSP := pstepc_any b rb pv t n ps o false v2 (cm come S c) 0 0 a _ HS3.out.pk HS3.out.rdr hLC.out HS3.out.sep HLN.out
      rw [Nat.mul_zero, Nat.sub_zero] at HSP
      have HSPH := Lib.hid HSP
      have HDS := HRt.out.step (by have := HLN.out; omega) ((bitsOf (cm come S c)).drop a) (rest come S c) HSPL.out
      have hql : ((bitsOf (cm come S c)).drop a).length = 8 * (cm come S c).length - a := by rw [List.length_drop, bitsOf_length]
      rw [hql] at HDS
      have HDSH := Lib.hid HDS
      generalize hod : pstep ((bitsOf (cm come S c)).drop a) t n ps o false = O at *
      clear hod HSP HDS hql
      go_wp2_with fail
      refine HSPH.out.mono ?_
      rintro e w7 ⟨pv7, rfl, hD7, hR7, hT7, hF7⟩
      have HST7 := Lib.hid (HS3.out.step hD7 hR7 hT7 hF7)
      clear hD7 hR7 hT7 hF7 HSPH
      rcases HDSH.out with ⟨e1, e2, e3, e4, e5, _⟩ | ⟨e1, e2, e3, e4, e5, e6⟩ | ⟨e1, e2⟩
      · rw [e2] at HST7
        have HE5 := Lib.hid e5
        rw [e1]
        clear e1 e2 e4 e5 HDSH
        go_wp2_with fail
        go_roundw
        case rel => exact ⟨i + 1, a + O.used, come, pv7, v2, O.t, O.n, O.ps, O.o, by go_num, rfl, by have := HIA.out; omega, HST7.out, HE5.out⟩
        case measure => simp [intOf]; omega
      · have hp := HP4.out
        unfold GotP at hp
        rw [e4] at hp
        obtain ⟨_, _, _, ek, ee⟩ := hp
        rw [e2] at HST7
        obtain ⟨P, hP⟩ : ∃ P, a + O.used = P := ⟨_, rfl⟩
        rw [hP] at HST7 ek
        have HLN7 : Hid (O.n = 0 ∨ (O.ps.length < O.n ∧ O.n ≤ 32767 ∧ t ≤ 6)) := Lib.hid (by rw [e5, e6]; exact HLN.out)
        have HNL7 : Hid (¬ (1 ≤ O.n ∧ O.ps.length = O.n)) := Lib.hid (by rw [e5, e6]; exact HNL.out)
        obtain ⟨_, _, _, d3, d4⟩ := HST7.out.cells
        rw [ek] at d3
        rw [ee] at d4
        have HEK := Lib.hid ek
        have HEE := Lib.hid ee
        have HCL : Hid (∀ W pv', StP w W b rb G P pv' v2 (.slice au L2 cu) (cm come S c) O.t O.n O.ps O.o true g → W.cell? ⟨G, 3, none⟩ = some (.int .i64 (P : Int)) ∧ W.cell? ⟨G, 4, none⟩ = some (.int .i64 25)) := Lib.hid (fun W pv' hW => by
          obtain ⟨_, _, _, y3, y4⟩ := hW.cells
          rw [HEK.out] at y3
          rw [HEE.out] at y4
          exact ⟨y3, y4⟩)
        have HS7D := Lib.hid (HST7.out.drewN 1)
        have HSTB : Hid (∀ W, StP w W b rb G P pv7 v2 (.slice au L2 cu) (cm come S c) O.t O.n O.ps O.o true g → Calls Try.prog 30 #[.pointer (some ⟨b, 0, none⟩), .pointer (some ⟨rb, 0, none⟩)] W fun e w' => e = .returned (.int .i64 25) ∧ ∃ pv9, StP w w' b rb G P pv9 v2 (.slice au L2 cu) (cm come S c) O.t O.n O.ps O.o true g) := Lib.hid (fun W hW => by
          refine (pstepb_any b rb pv7 O.t O.n O.ps O.o v2 (cm come S c) 0 0 P W hW.pk hW.rdr HNL7.out).mono ?_
          rintro e w9 ⟨rfl, m, hw9⟩
          exact ⟨rfl, pv7, by rw [hw9]; exact hW.drewN m⟩)
        rw [e1]
        clear e1 e2 e3 e4 e5 e6 hP HDSH ek ee
        go_wp2_with fail
        go_region_held3 (fun W => W.cell? ⟨G, 3, none⟩ = some (.int .i64 (P : Int)) ∧ W.cell? ⟨G, 4, none⟩ = some (.int .i64 25)) (go_keep)
          (first
            | (go_at_call 27; refine (rat_any rb v2 _ 0 0 P _ (by exact HS7D.out.rdr)).mono ?_; rintro e wB ⟨rfl, rfl⟩)
            | (go_at_call 30; refine (HSTB.out _ (by exact HS7D.out)).mono ?_; rintro e wA ⟨rfl, pvA, hA⟩; have HSA := Lib.hid hA; obtain ⟨a3, a4⟩ := HCL.out _ _ hA; clear hA)
            | (go_at_call 27; refine (rat_any rb v2 _ 0 0 P _ (by exact HSA.out.rdr)).mono ?_; rintro e wB ⟨rfl, rfl⟩)
            | (go_at_call 29; refine (pdone_any b _ O.t O.n O.ps O.o true false _ (by exact HSA.out.pk) ⟨fun e => (by cases e), fun e => absurd e HNL7.out⟩).mono ?_; rintro e wC ⟨rfl, mC, hwC⟩; have HSC : Hid (StP w wC b rb G P pvA v2 (.slice au L2 cu) (cm come S c) O.t O.n O.ps O.o true g) := Lib.hid (by rw [hwC]; exact HSA.out.drewN mC); obtain ⟨x3, x4⟩ := HCL.out _ _ HSC.out; clear hwC)
            | (go_at_call 9; refine (H3.out _).mono ?_; rintro e wE ⟨rfl, hbE⟩; have HSF := Lib.hid (HSC.out.below hbE); obtain ⟨z3, z4⟩ := HCL.out _ _ HSF.out; clear hbE))
        all_goals go_wp2_with fail
        all_goals go_ret
        all_goals exact ⟨rfl, HSF.out.bel⟩
      · subst e1
        have HST7' : Hid (StP w w7 b rb G a pv7 v2 (.slice au L2 cu) (cm come S c) t n ps o false g) := Lib.hid HST7.out
        clear HST7 HDSH
        cases come with
        | true =>
          have hp := HP4.out
          unfold GotP at hp
          rw [e2 (by first | rfl | trivial)] at hp
          obtain ⟨_, _, _, _, ee⟩ := hp
          obtain ⟨_, _, _, _, d4⟩ := HST7'.out.cells
          rw [ee] at d4
          clear e2 ee
          go_wp2_with fail
          refine (rat_any rb v2 _ 0 0 a w7 HST7'.out.rdr).mono ?_
          rintro e w8 ⟨rfl, rfl⟩
          go_wp2_with fail
          refine (H3.out _).mono ?_
          rintro e w12 ⟨rfl, hb12⟩
          have HB12 := Lib.hid (HST7'.out.bel.trans (hb12.mono HST7'.out.bel.size))
          clear hb12
          go_wp2_with fail
          go_ret
          exact ⟨rfl, HB12.out⟩
        | false =>
          have HMO := Lib.hid (more_any rb v2 (cm false S c) 0 0 a E2 w7 HST7'.out.rdr (by have h5 := cm_len false S c; have h6 := HLL.out; omega))
          rw [HX2.out, cm_more] at HMO
          clear e2
          go_wp2_with fail
          refine (rat_any rb v2 _ 0 0 a w7 HST7'.out.rdr).mono ?_
          rintro e w8 ⟨rfl, rfl⟩
          go_wp2_with fail
          try rw [HE2.out]
          refine HMO.out.mono ?_
          rintro e w9 ⟨rfl, v3, hR9, hT9, ho9⟩
          have HST9 := Lib.hid (HST7'.out.more hR9 hT9 ho9)
          clear hR9 hT9 ho9 HMO
          go_wp2_with fail
          go_roundw
          case rel => exact ⟨i + 1, a, true, pv7, v3, t, n, ps, o, by go_num, rfl, by have := HIA.out; simp at this ⊢; omega, HST9.out, HRt.out⟩
          case measure => simp [intOf]; omega
theorem picksSteps.walk (s : ByteArray) (c : Int) (w : World) (hs : s.size ≤ maxLen) (hc : (Lit.int .i64 c).wf = true) :
    Calls Try.prog 5 #[.string s, .int .i64 c] w fun e w' => e = .returned (.bool true) ∧ Below w.heap.size w w' := by
  by_cases h : 60 < s.size ∨ c < 0 ∨ (s.size : Int) < c
  · exact picksSteps.far s c w hs h
  · obtain ⟨C, rfl⟩ : ∃ C : Nat, c = (C : Int) := ⟨c.toNat, by omega⟩
    exact picksSteps.good s C w (by omega) (by omega)
end Go.Proofs.Ytfckghaigbmeaaa

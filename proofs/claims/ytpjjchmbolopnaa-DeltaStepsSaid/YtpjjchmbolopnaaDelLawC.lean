/-
  LAYER 11's STATEMENTS: DeltaSteps.
-/
import Derived.Test.YtpjjchmbolopnaaDelLawB
import Derived.Deep.RegionHeld3
namespace Go.Proofs.Ytpjjchmbolopnaa
open Go.RowKit DelM BitM
set_option linter.unusedVariables false
set_option maxRecDepth 100000 in
set_option maxHeartbeats 2000000 in
theorem deltaSteps.far (s : ByteArray) (c n : Int) (w : World) (hs : s.size ≤ maxLen) (h : 60 < s.size ∨ c < 0 ∨ (s.size : Int) < c ∨ n < 3 ∨ 258 < n) :
    Calls Try.prog 5 #[.string s, .int .i64 c, .int .i64 n] w fun e w' => e = .returned (.bool true) ∧ Below w.heap.size w w' := by
  have H3 := Lib.hid (fun W => delThree_any W)
  unfold maxLen at hs
  by_cases h1 : (60 : Int) < (s.size : Int)
  · clear h
    go_enter Try.func5, Try.ntmps5
    go_wp2_with fail
    refine (H3.out _).mono ?_
    rintro e w9 ⟨rfl, hb9⟩
    have HB9 := Lib.hid hb9
    clear hb9
    go_wp2_with fail
    go_ret
    exact ⟨rfl, HB9.out⟩
  · by_cases h2 : c < 0
    · clear h
      go_enter Try.func5, Try.ntmps5
      go_wp2_with fail
      refine (H3.out _).mono ?_
      rintro e w9 ⟨rfl, hb9⟩
      have HB9 := Lib.hid hb9
      clear hb9
      go_wp2_with fail
      go_ret
      exact ⟨rfl, HB9.out⟩
    · by_cases h3 : (s.size : Int) < c
      · clear h
        go_enter Try.func5, Try.ntmps5
        go_wp2_with fail
        refine (H3.out _).mono ?_
        rintro e w9 ⟨rfl, hb9⟩
        have HB9 := Lib.hid hb9
        clear hb9
        go_wp2_with fail
        go_ret
        exact ⟨rfl, HB9.out⟩
      · have HSZ := Lib.hid (fun W => lsize_any n false W ⟨fun e => (by cases e), fun e => by omega⟩)
        clear h
        go_enter Try.func5, Try.ntmps5
        go_wp2_with fail
        refine (HSZ.out _).mono ?_
        rintro e w8 ⟨rfl, rfl⟩
        go_wp2_with fail
        refine (H3.out _).mono ?_
        rintro e w9 ⟨rfl, hb9⟩
        have HB9 := Lib.hid hb9
        clear hb9
        go_wp2_with fail
        go_ret
        exact ⟨rfl, HB9.out⟩
theorem ext_dataD (t : ByteArray) (n : Nat) : (t.extract n t.size).data.toList = t.data.toList.drop n := by
  have e : t.size = t.data.toList.length := rfl
  rw [ByteArray.data_extract, e]
  simp only [Array.toList_extract, List.extract_eq_take_drop]
  rw [List.take_of_length_le (by simp)]
theorem ext_takeD (s : ByteArray) (c : Nat) : (s.extract 0 c).data.toList = s.data.toList.take c := by
  rw [ByteArray.data_extract]
  simp only [Array.toList_extract, List.extract_eq_take_drop, List.drop_zero, Nat.sub_zero]
/-- The bytes that are there. -/
def cm (come : Bool) (S : List UInt8) (c : Nat) : List UInt8 := if come then S else S.take c
def rest (come : Bool) (S : List UInt8) (c : Nat) : List Bool := if come then [] else bitsOf (S.drop c)
theorem cm_rest (come : Bool) (S : List UInt8) (c a : Nat) (ha : a ≤ 8 * (cm come S c).length) : (bitsOf S).drop a = (bitsOf (cm come S c)).drop a ++ rest come S c := by
  cases come with
  | true => simp [cm, rest]
  | false =>
    have e : bitsOf S = bitsOf (S.take c) ++ bitsOf (S.drop c) := by rw [← bitsOf_append, List.take_append_drop]
    show (bitsOf S).drop a = (bitsOf (S.take c)).drop a ++ bitsOf (S.drop c)
    rw [e, List.drop_append_of_le_length (by rw [bitsOf_length]; exact ha)]
theorem cm_len (come : Bool) (S : List UInt8) (c : Nat) : (cm come S c).length ≤ S.length := by
  cases come with
  | true => exact Nat.le_refl _
  | false => show (S.take c).length ≤ _; rw [List.length_take]; omega
theorem cm_more (S : List UInt8) (c : Nat) : cm false S c ++ S.drop c = cm true S c := List.take_append_drop c S
/-- What the loop of DeltaSteps knows of the world. -/
structure StI (w wr : World) (b rb G N a : Nat) (v1 u : Value) (lc : List UInt8) (ls ls2 : List Int) (now err2 : Int) (k2 : Nat) (bad : Bool) : Prop where
  del : IsDel wr b N ls now bad
  rdr : IsReader wr rb v1 lc 0 0 a
  ft : ∀ k, foot rb v1 k → w.heap.size ≤ k ∧ k ≠ b ∧ k ≠ G ∧ u.ownBlock ≠ some k
  got : wr.heap[G]? = some (.cells #[u, .int .i64 (k2 : Int), .int .i64 err2] 47 (0, 0))
  row : IsInts wr u ls2
  bel : Below w.heap.size w wr
theorem StI.lt {w wr : World} {b rb G N a : Nat} {v1 u : Value} {lc : List UInt8} {ls ls2 : List Int} {now err2 : Int} {k2 : Nat} {bad : Bool} (h : StI w wr b rb G N a v1 u lc ls ls2 now err2 k2 bad) : G < wr.heap.size := (Array.getElem?_eq_some_iff.1 h.got).1
theorem StI.cells {w wr : World} {b rb G N a : Nat} {v1 u : Value} {lc : List UInt8} {ls ls2 : List Int} {now err2 : Int} {k2 : Nat} {bad : Bool} (h : StI w wr b rb G N a v1 u lc ls ls2 now err2 k2 bad) : wr.cell? ⟨G, 0, none⟩ = some u ∧ wr.cell? ⟨G, 1, none⟩ = some (.int .i64 (k2 : Int)) ∧ wr.cell? ⟨G, 2, none⟩ = some (.int .i64 err2) := by
  refine ⟨?_, ?_, ?_⟩ <;> (rw [cell_of_row _ _ _ _ _ _ h.got]; rfl)
theorem StI.drewN {w wr : World} {b rb G N a : Nat} {v1 u : Value} {lc : List UInt8} {ls ls2 : List Int} {now err2 : Int} {k2 : Nat} {bad : Bool} (h : StI w wr b rb G N a v1 u lc ls ls2 now err2 k2 bad) (m : Nat) : StI w (wr.drewN m) b rb G N a v1 u lc ls ls2 now err2 k2 bad :=
  ⟨h.del.other (touch_drewN (fun _ => False) _ m) (fun h => h), h.rdr.drewN m, h.ft, h.got, h.row.other (touch_drewN (fun _ => False) _ m) (fun _ _ h => h), h.bel.trans ⟨rfl, rfl, rfl, Nat.le_refl _, fun _ _ => rfl⟩⟩
theorem StI.below {w wr : World} {b rb G N a : Nat} {v1 u : Value} {lc : List UInt8} {ls ls2 : List Int} {now err2 : Int} {k2 : Nat} {bad : Bool} (h : StI w wr b rb G N a v1 u lc ls ls2 now err2 k2 bad) {w2 : World} (hb : Below wr.heap.size wr w2) : StI w w2 b rb G N a v1 u lc ls ls2 now err2 k2 bad :=
  ⟨h.del.other (Touch.ofBelow (S := fun _ => False) hb) (fun h => h), h.rdr.other (Touch.ofBelow (S := fun _ => False) hb) (fun _ _ h => h), h.ft, (hb.block G h.lt).trans h.got, h.row.below hb, h.bel.trans (hb.mono h.bel.size)⟩
theorem StI.step {w wr : World} {b rb G N a : Nat} {v1 u : Value} {lc : List UInt8} {ls ls2 : List Int} {now err2 : Int} {k2 : Nat} {bad : Bool} (h : StI w wr b rb G N a v1 u lc ls ls2 now err2 k2 bad) {w2 : World} {a2 : Nat} {ls3 : List Int} {now3 : Int} {bad3 : Bool} (hwb : w.heap.size ≤ b) (hG : G ≠ b) (hu : u.ownBlock ≠ some b)
    (ht : Touch (fun k => k = b ∨ k = rb) wr w2) (hd : IsDel w2 b N ls3 now3 bad3) (hr : IsReader w2 rb v1 lc 0 0 a2) : StI w w2 b rb G N a2 v1 u lc ls3 ls2 now3 err2 k2 bad3 := by
  have hf := h.ft rb (Or.inl rfl)
  refine ⟨hd, hr, h.ft, (ht.block G h.lt (by rintro (e | e); exact hG e; exact hf.2.2.1 e.symm)).trans h.got, h.row.other ht (fun k hk => by
    rintro (e | e)
    · exact hu (e ▸ hk)
    · exact hf.2.2.2 (e ▸ hk)), h.bel.trans (ht.below h.bel.size (by
    rintro i (e | e)
    · omega
    · omega))⟩
theorem StI.more {w wr : World} {b rb G N a : Nat} {v1 u : Value} {lc : List UInt8} {ls ls2 : List Int} {now err2 : Int} {k2 : Nat} {bad : Bool} (h : StI w wr b rb G N a v1 u lc ls ls2 now err2 k2 bad) {w2 : World} {v3 : Value} {lc2 : List UInt8} (hu : ∀ j, u.ownBlock = some j → j < G)
    (hr : IsReader w2 rb v3 lc2 0 0 a) (ht : Touch (foot rb v1) wr w2) (ho : ∀ k, v3.ownBlock = some k → v1.ownBlock = some k ∨ wr.heap.size ≤ k) : StI w w2 b rb G N a v3 u lc2 ls ls2 now err2 k2 bad := by
  have hbl := h.del.lt
  have hgl := h.lt
  have hbs := h.bel.size
  refine ⟨h.del.other ht (fun hf => (h.ft b hf).2.1 rfl), hr, fun k hk => ?_, (ht.block G h.lt (fun hf => (h.ft G hf).2.2.1 rfl)).trans h.got, h.row.other ht (fun k hk hf => (h.ft k hf).2.2.2 hk), h.bel.trans (ht.below h.bel.size (fun i hi => (h.ft i hi).1))⟩
  rcases hk with hk | hk
  · exact h.ft k (Or.inl hk)
  · rcases ho k hk with h1 | h1
    · exact h.ft k (Or.inr h1)
    · exact ⟨by omega, by omega, by omega, fun hh => by have := hu k hh; omega⟩
set_option maxRecDepth 100000 in
set_option maxHeartbeats 8000000 in
theorem deltaSteps.good (s : ByteArray) (c N : Nat) (w : World) (hs : s.size ≤ 60) (hc : c ≤ s.size) (h3 : 3 ≤ N) (h258 : N ≤ 258) :
    Calls Try.prog 5 #[.string s, .int .i64 (c : Int), .int .i64 (N : Int)] w fun e w' => e = .returned (.bool true) ∧ Below w.heap.size w w' := by
  have H3 := Lib.hid (fun W => delThree_any W)
  have hll : s.data.toList.length = s.size := rfl
  have h1 : ¬ (60 : Int) < (s.size : Int) := by omega
  have h2 : ¬ (s.size : Int) < (c : Int) := by omega
  have hci : (c : Int) ≤ (s.size : Int) := by omega
  have HSZ := Lib.hid (fun W => lsize_any (N : Int) true W ⟨fun _ => by omega, fun _ => rfl⟩)
  have HLL := Lib.hid hll
  have HBT := Lib.hid (fun W => bitsTxt_any s W (by omega))
  have hBL : (bitsOf s.data.toList).length = 8 * s.size := by rw [bitsOf_length, hll]
  have HRR := Lib.hid (fun W => rread11_any (bitsOf s.data.toList) N W (by omega) h258)
  have HX1 : Hid ((s.extract 0 c).data.toList = s.data.toList.take c) := Lib.hid (ext_takeD s c)
  have HX2 : Hid ((s.extract c s.size).data.toList = s.data.toList.drop c) := Lib.hid (ext_dataD s c)
  have hx1s : (s.extract 0 c).size ≤ 60 := by rw [ByteArray.size_extract]; omega
  have hx2s : (s.extract c s.size).size ≤ 60 := by rw [ByteArray.size_extract]; omega
  generalize hE1 : s.extract 0 c = E1 at *
  generalize hE2 : s.extract c s.size = E2 at *
  have HE2 := Lib.hid hE2
  obtain ⟨Q, hQ⟩ : ∃ Q, bitsOf s.data.toList = Q := ⟨_, rfl⟩
  have HQ := Lib.hid hQ
  rw [hQ] at HBT HRR hBL
  have HBL := Lib.hid hBL
  obtain ⟨S, hS⟩ : ∃ S, s.data.toList = S := ⟨_, rfl⟩
  rw [hS] at HLL HX1 HX2 HQ
  clear hll hBL hQ hS
  go_enter Try.func5, Try.ntmps5
  go_wp2_with fail
  refine (HSZ.out _).mono ?_
  rintro e w' ⟨rfl, rfl⟩
  go_wp2_with fail
  refine (dnew_yes N w' h3 h258).mono ?_
  rintro e w1 ⟨rfl, hD1, hB1⟩
  obtain ⟨b, hb⟩ : ∃ b, w'.heap.size = b := ⟨_, rfl⟩
  have HBE := Lib.hid hb
  rw [hb] at hD1 ⊢
  have HD1 := Lib.hid hD1
  have HB1 := Lib.hid hB1
  have hbl1 : Hid (b < w1.heap.size) := Lib.hid hD1.lt
  clear hD1 hB1 hb
  go_wp2_with fail
  try rw [hE1]
  refine (newReader_any E1 w1 (by unfold maxLen; omega)).mono ?_
  rintro e w2 ⟨rb, v1, rfl, hr2, hb2, hf2⟩
  rw [HX1.out] at hr2
  have HR2 := Lib.hid hr2
  have HB2 := Lib.hid (HB1.out.trans (hb2.mono HB1.out.size))
  have HD2 : Hid (IsDel w2 b N [] 0 false) := Lib.hid (HD1.out.other (Touch.ofBelow (S := fun _ => False) hb2) (fun h => h))
  have HF2 : Hid (∀ k, foot rb v1 k → w1.heap.size ≤ k ∧ k < w2.heap.size) := Lib.hid (fun k hk => ⟨hf2 k hk, hr2.lt k hk⟩)
  clear hr2 hb2 hf2 HD1 HB1
  go_wp2_with fail
  refine (HBT.out _).mono ?_
  rintro e w3 ⟨rfl, rfl⟩
  go_wp2_with fail
  refine (HRR.out _).mono ?_
  rintro e w4 ⟨u, ls2, k2, err2, rfl, hi4, hb4, hp4, ho4⟩
  have HP4 := Lib.hid hp4
  obtain ⟨au, cu, rfl, hcu⟩ := hi4
  obtain ⟨L2, hL2⟩ : ∃ L2, ls2.length = L2 := ⟨_, rfl⟩
  have HL2 := Lib.hid hL2
  rw [hL2] at ho4
  have HI4 : Hid (IsInts w4 (.slice au L2 cu) ls2) := Lib.hid ⟨au, cu, by rw [hL2], hcu⟩
  rw [hL2]
  have hb5 := (Below.refl w4.heap.size w4).alloc (Nat.le_refl _) (.cells #[.slice au L2 cu, .int .i64 (k2 : Int), .int .i64 err2] 47)
  have hb35 := hb4.trans (hb5.mono hb4.size)
  have HST : Hid (StI w' (w4.alloc (.cells #[.slice au L2 cu, .int .i64 (k2 : Int), .int .i64 err2] 47)) b rb w4.heap.size N 0 v1 (.slice au L2 cu) (cm false S c) [] ls2 0 err2 k2 false) := Lib.hid
    ⟨HD2.out.other (Touch.ofBelow (S := fun _ => False) hb35) (fun h => h), HR2.out.other (Touch.ofBelow (S := fun _ => False) hb35) (fun _ _ h => h),
     fun k hk => by
       have h5 := HF2.out k hk
       have h6 := hbl1.out
       have h7 := HBE.out
       have h8 := hb4.size
       refine ⟨by omega, by omega, by omega, fun hh => ?_⟩
       have h9 := (ho4 k hh).1
       omega,
     heap_alloc_new w4 _, HI4.out.below hb5, HB2.out.trans (hb35.mono HB2.out.size)⟩
  have HGB : Hid (w4.heap.size ≠ b ∧ (Value.slice au L2 cu).ownBlock ≠ some b) := Lib.hid ⟨by have := hbl1.out; have := hb4.size; have := HR2.out.lt rb (Or.inl rfl); have := HF2.out rb (Or.inl rfl); omega, fun hh => by have h9 := (ho4 b hh).1; have := hbl1.out; have := HF2.out rb (Or.inl rfl); omega⟩
  have HUB : Hid (∀ j, (Value.slice au L2 cu).ownBlock = some j → j < w4.heap.size) := Lib.hid (fun j hj => (ho4 j hj).2)
  obtain ⟨G, hG⟩ : ∃ G, w4.heap.size = G := ⟨_, rfl⟩
  rw [hG] at HST HGB HUB
  clear hcu hL2 hb4 hb5 hb35 hp4 ho4 HI4 HD2 HR2 HB2 HF2 hbl1
  have hsz0 : (8 : Int) * (s.size : Int) + 9 ≤ 489 := by omega
  go_wp2_with fail
  try rw [hG]
  generalize w4.alloc (.cells #[.slice au L2 cu, .int .i64 (k2 : Int), .int .i64 err2] 47) = w5 at *
  clear hG
  go_loopw [11, 52] (fun vcome vi wr => ∃ (i a : Nat) (come : Bool) (v2 : Value) (ls : List Int) (now : Int), vi = .int .i64 (i : Int) ∧ vcome = .bool come ∧ i ≤ a + (if come then 1 else 0) ∧ StI w' wr b rb G N a v2 (.slice au L2 cu) (cm come S c) ls ls2 now err2 k2 false ∧ Rt Q N a ls now) (fun _ vi _ => 489 - (intOf vi).toNat)
  case atStart => exact ⟨0, 0, false, v1, [], 0, rfl, rfl, Nat.zero_le _, HST.out, Rt.start _ _⟩
  case round =>
    clear HST
    obtain ⟨i, a, come, v2, ls, now, rfl, rfl, hia, hst, hRt⟩ := hrel
    have HST := Lib.hid hst
    have HRt := Lib.hid hRt
    have hcl := cm_len come S c
    have hale : a ≤ 8 * (cm come S c).length := by have := hst.rdr.2.2.2.2; omega
    have hSl : S.length = s.size := HLL.out
    have hia2 : i ≤ 8 * s.size + 1 := by
      have : (if come then 1 else 0) ≤ 1 := by split <;> omega
      omega
    have hic : (i : Int) < 8 * (s.size : Int) + 9 := by omega
    have HIA := Lib.hid hia
    have HALE := Lib.hid hale
    have HSPL := Lib.hid (cm_rest come S c a hale)
    rw [HQ.out] at HSPL
    have hnow := hRt.now
    have hlN := hst.del.le.1
    have hLC : Hid (0 + (cm come S c).length ≤ 1099511627776) := Lib.hid (by omega)
    clear hst hRt hia hcl hale hSl
    by_cases hl : ls.length = N
    · have hp := HP4.out
      unfold ReadP at hp
      rw [HRt.out.all hl (by omega)] at hp
      obtain ⟨rfl, rfl, rfl⟩ := hp
      have HDN := Lib.hid (ddone_any b N ls2 now false true wr HST.out.del ⟨fun _ => hl, fun _ => rfl⟩)
      have HLB : Hid (ls2.length ≤ 9223372036854775807) := Lib.hid (by omega)
      have HLE := Lib.hid hl
      clear hl
      go_wp2_with fail
      refine HDN.out.mono ?_
      rintro e w3 ⟨rfl, m3, hw3⟩
      have HS3 : Hid (StI w' w3 b rb G N k2 v2 (.slice au L2 cu) (cm come S c) ls2 ls2 now 0 k2 false) := Lib.hid (by rw [hw3]; exact HST.out.drewN m3)
      have HSD := Lib.hid (HS3.out.drewN 1)
      obtain ⟨d0, d1, d2⟩ := HS3.out.cells
      clear hw3 HST HDN HS3
      go_wp2_with fail
      go_region_held3 (fun W => W.cell? ⟨G, 0, none⟩ = some (.slice au L2 cu) ∧ W.cell? ⟨G, 1, none⟩ = some (.int .i64 (k2 : Int)) ∧ W.cell? ⟨G, 2, none⟩ = some (.int .i64 0)) (go_keep)
        (first
          | (go_at_call 31; refine (dstep_done b rb N ls2 now false _ (by exact HSD.out.del) HLE.out).mono ?_; rintro e wA ⟨rfl, hbA⟩; have HSA := Lib.hid (HSD.out.below hbA); obtain ⟨a0, a1, a2⟩ := HSA.out.cells; clear hbA)
          | (go_at_call 25; refine (rat_any rb v2 _ 0 0 k2 _ (by exact HSA.out.rdr)).mono ?_; rintro e wB ⟨rfl, rfl⟩)
          | (go_at_call 32; refine (dlens_any b N ls2 now false _ (by exact HSA.out.del)).mono ?_; rintro e wC ⟨vC, rfl, hOC, hbC⟩; have HSC := Lib.hid (HSA.out.below hbC); have HOC := Lib.hid hOC.ints; obtain ⟨x0, x1, x2⟩ := HSC.out.cells; clear hOC hbC)
          | (go_at_call 28; refine (ints_any _ _ ls2 ls2 true _ (by exact HOC.out) (by exact HSC.out.row) ⟨fun _ => rfl, fun _ => rfl⟩ HLB.out HLB.out).mono ?_; rintro e wD ⟨rfl, mD, hwD⟩; have HSE : Hid (StI w' wD b rb G N k2 v2 (.slice au L2 cu) (cm come S c) ls2 ls2 now 0 k2 false) := Lib.hid (by rw [hwD]; exact HSC.out.drewN mD); obtain ⟨y0, y1, y2⟩ := HSE.out.cells; clear hwD)
          | (go_at_call 9; refine (H3.out _).mono ?_; rintro e wE ⟨rfl, hbE⟩; have HSF := Lib.hid (HSE.out.below hbE); obtain ⟨z0, z1, z2⟩ := HSF.out.cells; clear hbE))
      all_goals go_wp2_with fail
      all_goals go_ret
      all_goals exact ⟨rfl, HSF.out.bel⟩
    · have hlN2 : ls.length < N := by omega
      have HDN := Lib.hid (ddone_any b N ls now false false wr HST.out.del ⟨fun e => (by cases e), fun e => by omega⟩)
      go_wp2_with fail
      refine HDN.out.mono ?_
      rintro e w3 ⟨rfl, m3, hw3⟩
      have HS3 : Hid (StI w' w3 b rb G N a v2 (.slice au L2 cu) (cm come S c) ls ls2 now err2 k2 false) := Lib.hid (by rw [hw3]; exact HST.out.drewN m3)
      clear hw3 HST HDN
      go_wp2_with fail
      refine (rat_any rb v2 _ 0 0 a w3 HS3.out.rdr).mono ?_
      rintro e w6 ⟨rfl, rfl⟩
      have HSP := dstepc_any b rb N ls now false v2 (cm come S c) 0 0 a _ HS3.out.del HS3.out.rdr hLC.out (fun k hk => (HS3.out.ft k hk).2.1) hlN2 (Or.inl hnow)
      rw [Nat.mul_zero, Nat.sub_zero] at HSP
      have HSPH := Lib.hid HSP
      have HDS := HRt.out.step hlN2 ((bitsOf (cm come S c)).drop a) (rest come S c) HSPL.out
      have hql : ((bitsOf (cm come S c)).drop a).length = 8 * (cm come S c).length - a := by rw [List.length_drop, bitsOf_length]
      rw [hql] at HDS
      have HDSH := Lib.hid HDS
      generalize hod : dstep ((bitsOf (cm come S c)).drop a) ls now false = o at *
      clear hod HSP HDS hql
      go_wp2_with fail
      refine HSPH.out.mono ?_
      rintro e w7 ⟨rfl, hD7, hR7, hT7⟩
      have HD7 := Lib.hid hD7
      have HR7 := Lib.hid hR7
      have HT7 := Lib.hid hT7
      clear hD7 hR7 hT7 HSPH
      rcases HDSH.out with ⟨e1, e2, e3, e4, e5⟩ | ⟨e1, e2, e3, e4, e5⟩ | ⟨e1, e2⟩
      · have HST7 := Lib.hid (HS3.out.step (by rw [HBE.out]; exact Nat.le_refl _) HGB.out.1 HGB.out.2 HT7.out HD7.out HR7.out)
        rw [e2] at HST7
        have HE5 := Lib.hid e5
        rw [e1]
        clear e1 e2 e4 e5 HDSH
        go_wp2_with fail
        go_roundw
        case rel => exact ⟨i + 1, a + o.used, come, v2, o.ls, o.now, by go_num, rfl, by have := HIA.out; omega, HST7.out, HE5.out⟩
        case measure => simp [intOf]; omega
      · have hp := HP4.out
        unfold ReadP at hp
        rw [e4] at hp
        obtain ⟨rfl, rfl, rfl⟩ := hp
        have HST7 := Lib.hid (HS3.out.step (by rw [HBE.out]; exact Nat.le_refl _) HGB.out.1 HGB.out.2 HT7.out HD7.out HR7.out)
        have e5' := e5
        rw [e2, e5'] at HST7
        obtain ⟨P, hP⟩ : ∃ P, a + o.used = P := ⟨_, rfl⟩
        rw [hP] at HST7
        have HSP := dstepc_any b rb N ls o.now true v2 (cm come S c) 0 0 P w7 HST7.out.del HST7.out.rdr hLC.out (fun k hk => (HS3.out.ft k hk).2.1) hlN2 (Or.inr rfl)
        rw [dstep_bad] at HSP
        have HSPH := Lib.hid HSP
        obtain ⟨d0, d1, d2⟩ := HST7.out.cells
        rw [e1]
        clear e1 e2 e3 e4 e5 e5' hP HSP HDSH
        go_wp2_with fail
        refine (rat_any rb v2 _ 0 0 P w7 HST7.out.rdr).mono ?_
        rintro e w8 ⟨rfl, rfl⟩
        go_wp2_with fail
        refine HSPH.out.mono ?_
        rintro e w9 ⟨rfl, hD9, hR9, hT9⟩
        have HST9 := Lib.hid (HST7.out.step (by rw [HBE.out]; exact Nat.le_refl _) HGB.out.1 HGB.out.2 hT9 hD9 hR9)
        have hz : P + 0 = P := Nat.add_zero P
        have HST9' : Hid (StI w' w9 b rb G N P v2 (.slice au L2 cu) (cm come S c) ls [] o.now 22 0 true) := Lib.hid HST9.out
        clear hD9 hR9 hT9 HSPH HST9 hz
        go_wp2_with fail
        refine (rat_any rb v2 _ 0 0 P w9 HST9'.out.rdr).mono ?_
        rintro e w10 ⟨rfl, rfl⟩
        go_wp2_with fail
        refine (ddone_any b N ls o.now true false _ HST9'.out.del ⟨fun e => (by cases e), fun e => by omega⟩).mono ?_
        rintro e w11 ⟨rfl, m11, hw11⟩
        have HB11 : Hid (Below w'.heap.size w' w11) := Lib.hid (by rw [hw11]; exact HST9'.out.bel.trans ⟨rfl, rfl, rfl, Nat.le_refl _, fun _ _ => rfl⟩)
        clear hw11
        go_wp2_with fail
        refine (H3.out _).mono ?_
        rintro e w12 ⟨rfl, hb12⟩
        have HB12 := Lib.hid (HB11.out.trans (hb12.mono HB11.out.size))
        clear hb12
        go_wp2_with fail
        go_ret
        exact ⟨rfl, HB12.out⟩
      · subst e1
        have HST7 := Lib.hid (HS3.out.step (by rw [HBE.out]; exact Nat.le_refl _) HGB.out.1 HGB.out.2 HT7.out HD7.out HR7.out)
        have HST7' : Hid (StI w' w7 b rb G N a v2 (.slice au L2 cu) (cm come S c) ls ls2 now err2 k2 false) := Lib.hid HST7.out
        clear HST7 HD7 HR7 HT7 HDSH
        cases come with
        | true =>
          have hp := HP4.out
          unfold ReadP at hp
          rw [e2 (by first | rfl | trivial)] at hp
          obtain ⟨rfl, rfl, rfl⟩ := hp
          obtain ⟨d0, d1, d2⟩ := HST7'.out.cells
          clear e2
          go_wp2_with fail
          refine (rat_any rb v2 _ 0 0 a w7 HST7'.out.rdr).mono ?_
          rintro e w8 ⟨rfl, rfl⟩
          go_wp2_with fail
          refine (H3.out _).mono ?_
          rintro e w12 ⟨rfl, hb12⟩
          have HB12 := Lib.hid (HST7'.out.bel.trans (hb12.mono HST7'.out.bel.size))
          clear hb12
          go_wp2_with fail
          go_ret
          exact ⟨rfl, HB12.out⟩
        | false =>
          have HMO := Lib.hid (more_any rb v2 (cm false S c) 0 0 a E2 w7 HST7'.out.rdr (by have h5 := cm_len false S c; have h6 := HLL.out; omega))
          rw [HX2.out, cm_more] at HMO
          clear e2
          go_wp2_with fail
          refine (rat_any rb v2 _ 0 0 a w7 HST7'.out.rdr).mono ?_
          rintro e w8 ⟨rfl, rfl⟩
          go_wp2_with fail
          try rw [HE2.out]
          refine HMO.out.mono ?_
          rintro e w9 ⟨rfl, v3, hR9, hT9, ho9⟩
          have HST9 := Lib.hid (HST7'.out.more HUB.out hR9 hT9 ho9)
          clear hR9 hT9 ho9 HMO
          go_wp2_with fail
          go_roundw
          case rel => exact ⟨i + 1, a, true, v3, ls, now, by go_num, rfl, by have := HIA.out; simp at this ⊢; omega, HST9.out, HRt.out⟩
          case measure => simp [intOf]; omega
theorem deltaSteps.walk (s : ByteArray) (c n : Int) (w : World) (hs : s.size ≤ maxLen) (hc : (Lit.int .i64 c).wf = true) (hn : (Lit.int .i64 n).wf = true) :
    Calls Try.prog 5 #[.string s, .int .i64 c, .int .i64 n] w fun e w' => e = .returned (.bool true) ∧ Below w.heap.size w w' := by
  by_cases h : 60 < s.size ∨ c < 0 ∨ (s.size : Int) < c ∨ n < 3 ∨ 258 < n
  · exact deltaSteps.far s c n w hs h
  · obtain ⟨C, rfl⟩ : ∃ C : Nat, c = (C : Int) := ⟨c.toNat, by omega⟩
    obtain ⟨N, rfl⟩ : ∃ N : Nat, n = (N : Int) := ⟨n.toNat, by omega⟩
    exact deltaSteps.good s C N w (by omega) (by omega) (by omega) (by omega)
end Go.Proofs.Ytpjjchmbolopnaa

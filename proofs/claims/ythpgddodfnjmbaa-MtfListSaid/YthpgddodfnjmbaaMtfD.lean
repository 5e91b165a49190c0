/-
  THE WALKS OF LAYER 6's CODE (package mtf): Decode; two rows of numbers held against one another.
-/
import Derived.Test.YthpgddodfnjmbaaMtfC
import Derived.Test.YthpgddodfnjmbaaBuild
namespace Go.Proofs.Ythpgddodfnjmbaa
open Go.RowKit UsedM MtfM
set_option linter.unusedVariables false

/-! ### Symbols at places, one by one -/
/-- The symbols at the first k places, and the order behind them. -/
def decK (l : List UInt8) (zs : List Int) : Nat → Option (List UInt8 × List UInt8)
  | 0 => some ([], l)
  | k + 1 => match decK l zs k with
    | none => none
    | some (s, m) => if zs.getD k 0 < 0 ∨ (m.length : Int) ≤ zs.getD k 0 then none else some (s ++ [m.getD (zs.getD k 0).toNat 0], touch m (zs.getD k 0).toNat)
theorem decK_succ (l : List UInt8) (zs : List Int) (k : Nat) : decK l zs (k + 1) = match decK l zs k with
    | none => none
    | some (s, m) => if zs.getD k 0 < 0 ∨ (m.length : Int) ≤ zs.getD k 0 then none else some (s ++ [m.getD (zs.getD k 0).toNat 0], touch m (zs.getD k 0).toNat) := rfl
theorem decK_none (l : List UInt8) (zs : List Int) : ∀ (d k : Nat), decK l zs k = none → decK l zs (k + d) = none
  | 0, k, h => h
  | d + 1, k, h => by rw [← Nat.add_assoc, decK_succ, decK_none l zs d k h]
theorem decK_len (l : List UInt8) (zs : List Int) : ∀ (k : Nat) s m, decK l zs k = some (s, m) → s.length = k ∧ m.length = l.length
  | 0, s, m, h => by cases h; exact ⟨rfl, rfl⟩
  | k + 1, s, m, h => by
    rw [decK_succ] at h
    split at h
    · cases h
    · rename_i ys o ho
      have ih := decK_len l zs k ys o ho
      split at h
      · cases h
      · rename_i hlt
        cases h
        rw [touch_length o _ (by omega)]
        simp [ih.1, ih.2]
/-- What Decode tells. -/
def DecP (zs : List Int) (l : List UInt8) (s : List UInt8) (err : Nat) : Prop :=
  (¬ IsSyms l ∧ s = [] ∧ err = 1) ∨ (IsSyms l ∧ decK l zs zs.length = none ∧ s = [] ∧ err = 1) ∨ (IsSyms l ∧ (∃ m, decK l zs zs.length = some (s, m)) ∧ err = 0)
theorem DecP.same {zs : List Int} {l s u : List UInt8} {e f : Nat} (h : DecP zs l s e) (k : DecP zs l u f) : s = u ∧ e = f := by
  rcases h with ⟨h1, rfl, rfl⟩ | ⟨h1, h2, rfl, rfl⟩ | ⟨h1, ⟨m, h2⟩, rfl⟩ <;> rcases k with ⟨k1, rfl, rfl⟩ | ⟨k1, k2, rfl, rfl⟩ | ⟨k1, ⟨n, k2⟩, rfl⟩
  · exact ⟨rfl, rfl⟩
  · exact absurd k1 h1
  · exact absurd k1 h1
  · exact absurd h1 k1
  · exact ⟨rfl, rfl⟩
  · rw [h2] at k2; cases k2
  · exact absurd h1 k1
  · rw [h2] at k2; cases k2
  · rw [h2] at k2; cases k2; exact ⟨rfl, rfl⟩
theorem dec_step {l : List UInt8} {zs : List Int} {k : Nat} {s m : List UInt8} (h : decK l zs k = some (s, m)) (z : Int) (hz : zs.getD k 0 = z) :
    ((z < 0 ∨ (m.length : Int) ≤ z) ∧ decK l zs (k + 1) = none) ∨ ∃ (o : Nat) (x : UInt8), z = (o : Int) ∧ m[o]? = some x ∧ decK l zs (k + 1) = some (s ++ [x], touch m o) := by
  have hs := decK_succ l zs k
  rw [h, hz] at hs
  by_cases hb : z < 0 ∨ (m.length : Int) ≤ z
  · refine Or.inl ⟨hb, ?_⟩
    rw [hs]
    simp only
    rw [if_pos hb]
  · obtain ⟨o, rfl⟩ : ∃ o : Nat, z = (o : Int) := ⟨z.toNat, by omega⟩
    have ho : o < m.length := by omega
    refine Or.inr ⟨o, m[o], rfl, List.getElem?_eq_getElem ho, ?_⟩
    rw [hs]
    simp only
    rw [if_neg hb]
    have : (o : Int).toNat = o := by omega
    rw [this, List.getD_eq_getElem?_getD, List.getElem?_eq_getElem ho]
    rfl
theorem IsInts.cell {w : World} {v : Value} {zs : List Int} (h : IsInts w v zs) {k : Nat} (hk : k < zs.length) : ∃ b off cap, v = .slice (some ⟨b, off, none⟩) zs.length cap ∧ w.cell? ⟨b, off + k, none⟩ = some (.int .i64 (zs.getD k 0)) := by
  obtain ⟨a, cap, rfl, hc⟩ := h
  obtain ⟨b, off, rfl, hcell⟩ := hc k zs[k] (List.getElem?_eq_getElem hk)
  refine ⟨b, off, cap, rfl, ?_⟩
  rw [hcell, List.getD_eq_getElem?_getD, List.getElem?_eq_getElem hk]
  rfl
set_option maxRecDepth 100000 in
set_option maxHeartbeats 1000000 in
theorem ints_any (v u : Value) (zs ys : List Int) (r : Bool) (w : World) (hv : IsInts w v zs) (hu : IsInts w u ys) (hr : r = true ↔ zs = ys) (hz1 : zs.length ≤ 9223372036854775807) (hz2 : ys.length ≤ 9223372036854775807) :
    Calls Try.prog 48 #[v, u] w fun e w' => e = .returned (.bool r) ∧ ∃ n, w' = w.drewN n := by
  have HV := Lib.hid hv
  have HU := Lib.hid hu
  obtain ⟨a, cap, rfl, _⟩ := hv
  obtain ⟨a2, cap2, rfl, _⟩ := hu
  by_cases hl : zs.length = ys.length
  · have hli : (zs.length : Int) = (ys.length : Int) := by omega
    have HR := Lib.hid hr
    clear hr
    have hne : ((zs.length : Int) != (ys.length : Int)) = false := by rw [bne_eq_false_iff_eq]; exact hli
    go_enter Try.func48, Try.ntmps48
    go_wp2_with fail
    go_loopw [13] (fun i wr => ∃ k n : Nat, k ≤ zs.length ∧ i = .int .i64 k ∧ wr = w.drewN n ∧ ∀ j, j < k → zs.getD j 0 = ys.getD j 0) (fun i _ => zs.length - (intOf i).toNat)
    case atStart => exact ⟨0, 0, by omega, rfl, rfl, fun j hj => by omega⟩
    case round =>
      obtain ⟨k, n, hk, rfl, rfl, hA⟩ := hrel
      have HA := Lib.hid hA
      clear hA
      by_cases hlk : k < zs.length
      · have hki : (k : Int) < (zs.length : Int) := by omega
        have hki2 : (k : Int) < (ys.length : Int) := by omega
        obtain ⟨b1, o1, k1, he1, c1⟩ := HV.out.cell hlk
        obtain ⟨b2, o2, k2, he2, c2⟩ := HU.out.cell (show k < ys.length by omega)
        simp only [Value.slice.injEq] at he1 he2
        obtain ⟨rfl, _, rfl⟩ := he1
        obtain ⟨rfl, _, rfl⟩ := he2
        obtain ⟨x, hx⟩ : ∃ x, zs.getD k 0 = x := ⟨_, rfl⟩
        obtain ⟨y, hy⟩ : ∃ y, ys.getD k 0 = y := ⟨_, rfl⟩
        rw [hx] at c1
        rw [hy] at c2
        have HX := Lib.hid hx
        have HY := Lib.hid hy
        clear hx hy
        by_cases hxy : x = y
        · subst hxy
          go_wp2_with fail
          go_quiet (fail)
          go_wp2_with fail
          go_roundw
          case rel => exact ⟨k + 1, _, by omega, by go_num, rfl, fun j hj => by
            by_cases e : j = k
            · subst e; rw [HX.out, HY.out]
            · exact HA.out j (by omega)⟩
          case measure => simp [intOf]; omega
        · have hd : (x != y) = true := by rw [bne_iff_ne]; exact hxy
          have hrf : r = false := by
            rw [Bool.eq_false_iff, Ne, HR.out]
            rintro rfl
            exact hxy (HX.out.symm.trans HY.out)
          subst hrf
          clear hxy
          go_wp2_with fail
          go_quiet (fail)
          go_wp2_with fail
          go_ret
          exact ⟨rfl, _, drewN_add _ _ _⟩
      · obtain rfl : k = zs.length := by omega
        have hrt : r = true := by
          rw [HR.out]
          apply List.ext_getElem hl
          intro i h1 h2
          have := HA.out i h1
          rw [List.getD_eq_getElem?_getD, List.getD_eq_getElem?_getD, List.getElem?_eq_getElem h1, List.getElem?_eq_getElem h2] at this
          exact this
        subst hrt
        go_wp2_with fail
        go_ret
        exact ⟨rfl, n, rfl⟩
  · have hne : ((zs.length : Int) != (ys.length : Int)) = true := by rw [bne_iff_ne]; omega
    have hrf : r = false := by
      rw [Bool.eq_false_iff, Ne, hr]
      rintro rfl
      exact hl rfl
    subst hrf
    clear hr
    go_enter Try.func48, Try.ntmps48
    go_wp2_with fail
    go_ret
    exact ⟨rfl, 0, rfl⟩
/-! ### Decode -/
theorem byteCells_snoc (s : List UInt8) (x : UInt8) : Lib.byteCells (s ++ [x]) = Lib.byteCells s ++ [.int .u8 (x.toNat : Int)] := by
  unfold Lib.byteCells
  rw [List.map_append]
  rfl
set_option maxRecDepth 100000 in
set_option maxHeartbeats 1000000 in
theorem decode_any (v : Value) (zs : List Int) (t : ByteArray) (w : World) (hv : IsInts w v zs) (hz : zs.length ≤ 300) (ht : t.size ≤ 9223372036854775807) :
    Calls Try.prog 49 #[v, .string t] w fun e w' => ∃ (s : List UInt8) (err : Nat), e = .returned (.tuple #[.string ⟨s.toArray⟩, .int .i64 (err : Int)]) ∧ Below w.heap.size w w' ∧ DecP zs t.data.toList s err := by
  have HV := Lib.hid hv
  obtain ⟨a, cap, rfl, _⟩ := hv
  by_cases hy : IsSyms t.data.toList
  · have htz : t.size ≤ 256 := isSyms_le hy
    have HNEW := Lib.hid (fun w => new_yes t w htz hy)
    have hsi : (zs.length : Int) ≤ 300 := by omega
    go_enter Try.func49, Try.ntmps49
    go_wp2_with fail
    refine (HNEW.out w).mono ?_
    rintro e w1 ⟨rfl, hL, hB⟩
    have HL := Lib.hid hL
    have HB := Lib.hid hB
    have hlw := hL.lt
    have hbk : (w1.alloc (.cells #[.pointer none, .slice none 0 0] 94)).heap[w1.heap.size]? = some (.cells #[.pointer none, .slice none 0 0] 94 (0, 0)) := heap_alloc_new _ _
    have HBK := Lib.hid hbk
    clear hL hB hbk
    go_wp2_with fail
    refine (Try.Builder_Grow_fresh w1.heap.size w1.heap.size zs.length _ (Nat.le_refl _) HBK.out (by simp) (by omega)).mono ?_
    rintro e w2 ⟨rfl, hU, hb2⟩
    have hb12 : Below w1.heap.size w1 w2 := ((Below.refl w1.heap.size w1).alloc (Nat.le_refl _) _).trans hb2
    have HL2 := Lib.hid (HL.out.below hb12 hlw)
    have HB2 := Lib.hid (HB.out.trans (hb12.mono HB.out.size))
    have HU2 := Lib.hid (show Used w1.heap.size w1.heap.size (Lib.byteCells []) w2 from hU)
    have hg2 : w1.heap.size ≤ w2.heap.size := hb12.size
    generalize hg : w1.heap.size = g at *
    clear hU hb2 hb12
    go_wp2_with fail
    go_loopw [26] (fun i wr => ∃ (k : Nat) (s m : List UInt8), k ≤ zs.length ∧ i = .int .i64 k ∧ decK t.data.toList zs k = some (s, m) ∧ IsList wr w.heap.size m ∧ Used g g (Lib.byteCells s) wr ∧ Below w.heap.size w wr ∧ g ≤ wr.heap.size) (fun i _ => zs.length - (intOf i).toNat)
    case atStart => exact ⟨0, [], _, by omega, rfl, rfl, HL2.out, HU2.out, HB2.out, hg2⟩
    case round =>
      clear HL2 HB2 HU2 hg2 HBK HL HB
      obtain ⟨k, s, m, hk, rfl, hd, hL, hU, hB, hgw⟩ := hrel
      have HD := Lib.hid hd
      have HL := Lib.hid hL
      have HU := Lib.hid hU
      have HB := Lib.hid hB
      clear hd hL hU hB
      by_cases hlk : k < zs.length
      · have hki : (k : Int) < (zs.length : Int) := by omega
        obtain ⟨b1, o1, k1, he1, c1⟩ := (HV.out.below HB.out).cell hlk
        simp only [Value.slice.injEq] at he1
        obtain ⟨rfl, _, rfl⟩ := he1
        obtain ⟨z, hzz⟩ : ∃ z, zs.getD k 0 = z := ⟨_, rfl⟩
        rw [hzz] at c1
        have hsl := (decK_len _ _ _ _ _ HD.out).1
        rcases dec_step HD.out z hzz with ⟨hbad, hnone⟩ | ⟨o, x, rfl, hx, hsome⟩
        · have hfin : decK t.data.toList zs zs.length = none := by
            have := decK_none t.data.toList zs (zs.length - (k + 1)) (k + 1) hnone
            rwa [show k + 1 + (zs.length - (k + 1)) = zs.length by omega] at this
          have HF := Lib.hid hfin
          have HBD := Lib.hid hbad
          clear hbad hnone hfin hzz hsl
          go_wp2_with fail
          refine (at_bad w.heap.size z m wr HL.out HBD.out).mono ?_
          rintro e w' ⟨rfl, rfl⟩
          go_wp2_with fail
          go_ret2
          exact ⟨[], 1, rfl, HB.out, Or.inr (Or.inl ⟨hy, HF.out, rfl, rfl⟩)⟩
        · have HX := Lib.hid hx
          have HS := Lib.hid hsome
          have hcl : (Lib.byteCells s).length + 1 ≤ 140737488355328 := by
            unfold Lib.byteCells
            rw [List.length_map, hsl]; omega
          clear hx hsome hzz hsl
          go_wp2_with fail
          refine (at_any w.heap.size o x m wr HL.out HX.out).mono ?_
          rintro e w3 ⟨rfl, h1, h2⟩
          have HU3 := Lib.hid (HU.out.other h2 (fun j hj _ e => by have e' : j = w.heap.size := e; omega))
          have HL3 := Lib.hid h1
          have hg3 : g ≤ w3.heap.size := Nat.le_trans hgw h2.size
          have HB3 := Lib.hid (HB.out.trans (h2.below HB.out.size (fun i hi => by have hi' : i = w.heap.size := hi; omega)))
          clear h1 h2
          go_wp2_with fail
          refine (writeByte_any g g _ (x.toNat : Int) w3 HU3.out hcl hg3).mono ?_
          rintro e w4 ⟨rfl, hU4, hb4⟩
          rw [← byteCells_snoc] at hU4
          have HU4 := Lib.hid hU4
          have HL4 := Lib.hid (HL3.out.below hb4 hlw)
          have HB4 := Lib.hid (HB3.out.trans (hb4.mono (by omega)))
          have hg4 : g ≤ w4.heap.size := Nat.le_trans hg3 hb4.size
          clear hU4 hb4
          go_wp2_with fail
          go_roundw
          case rel => exact ⟨k + 1, _, _, by omega, by go_num, HS.out, HL4.out, HU4.out, HB4.out, hg4⟩
          case measure => simp [intOf]; omega
      · obtain rfl : k = zs.length := by omega
        go_wp2_with fail
        refine (Try.Builder_String_any g g s wr (Or.inr HU.out) hgw).mono ?_
        rintro e w5 ⟨rfl, hb5⟩
        have HB5 := Lib.hid (HB.out.trans (hb5.mono (by omega)))
        clear hb5
        go_wp2_with fail
        go_ret2
        exact ⟨s, 0, rfl, HB5.out, Or.inr (Or.inr ⟨hy, ⟨m, HD.out⟩, rfl⟩)⟩
  · have HNEW := Lib.hid (fun w => new_no t w ht hy)
    go_enter Try.func49, Try.ntmps49
    go_wp2_with fail
    refine (HNEW.out w).mono ?_
    rintro e w' ⟨rfl, n, rfl⟩
    go_wp2_with fail
    go_ret2
    exact ⟨[], 1, rfl, below_drewN w n, Or.inl ⟨hy, rfl, rfl⟩⟩
end Go.Proofs.Ythpgddodfnjmbaa

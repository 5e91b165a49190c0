/-
  THE WALKS OF LAYER 6's CODE (package mtf): Encode; rows of numbers.
-/
import Derived.Test.YthpgddodfnjmbaaMtfB
import Derived.Laws.OwnMore
namespace Go.Proofs.Ythpgddodfnjmbaa
open Go.RowKit UsedM MtfM
set_option linter.unusedVariables false

/-! ### Places, one by one -/
/-- The places of the first k bytes, and the order behind them. -/
def encK (l : List UInt8) (s : List UInt8) : Nat → Option (List Int × List UInt8)
  | 0 => some ([], l)
  | k + 1 => match encK l s k with
    | none => none
    | some (zs, m) => if Lib.indexByte m (s.getD k 0) < 0 then none else some (zs ++ [Lib.indexByte m (s.getD k 0)], touch m (Lib.indexByte m (s.getD k 0)).toNat)
theorem encK_succ (l s : List UInt8) (k : Nat) : encK l s (k + 1) = match encK l s k with
    | none => none
    | some (zs, m) => if Lib.indexByte m (s.getD k 0) < 0 then none else some (zs ++ [Lib.indexByte m (s.getD k 0)], touch m (Lib.indexByte m (s.getD k 0)).toNat) := rfl
theorem encK_none (l s : List UInt8) : ∀ (d k : Nat), encK l s k = none → encK l s (k + d) = none
  | 0, k, h => h
  | d + 1, k, h => by rw [← Nat.add_assoc, encK_succ, encK_none l s d k h]
theorem encK_len (l s : List UInt8) : ∀ (k : Nat) zs m, encK l s k = some (zs, m) → zs.length = k ∧ m.length = l.length
  | 0, zs, m, h => by cases h; exact ⟨rfl, rfl⟩
  | k + 1, zs, m, h => by
    rw [encK_succ] at h
    split at h
    · cases h
    · rename_i ys o ho
      have ih := encK_len l s k ys o ho
      split at h
      · cases h
      · rename_i hlt
        cases h
        rcases place_cases o (s.getD k 0) with h1 | ⟨p, h1, h2, _⟩
        · rw [h1] at hlt; omega
        · rw [h1, touch_length o _ (by simpa using h2)]
          simp [ih.1, ih.2]
/-- What Encode tells. -/
def EncP (s l : List UInt8) (zs : List Int) (err : Nat) : Prop :=
  (¬ IsSyms l ∧ zs = [] ∧ err = 1) ∨ (IsSyms l ∧ encK l s s.length = none ∧ zs = [] ∧ err = 6) ∨ (IsSyms l ∧ (∃ m, encK l s s.length = some (zs, m)) ∧ err = 0)
theorem EncP.same {s l : List UInt8} {zs ys : List Int} {e f : Nat} (h : EncP s l zs e) (k : EncP s l ys f) : zs = ys ∧ e = f := by
  rcases h with ⟨h1, rfl, rfl⟩ | ⟨h1, h2, rfl, rfl⟩ | ⟨h1, ⟨m, h2⟩, rfl⟩ <;> rcases k with ⟨k1, rfl, rfl⟩ | ⟨k1, k2, rfl, rfl⟩ | ⟨k1, ⟨n, k2⟩, rfl⟩
  · exact ⟨rfl, rfl⟩
  · exact absurd k1 h1
  · exact absurd k1 h1
  · exact absurd h1 k1
  · exact ⟨rfl, rfl⟩
  · rw [h2] at k2; cases k2
  · exact absurd h1 k1
  · rw [h2] at k2; cases k2
  · rw [h2] at k2; cases k2; exact ⟨rfl, rfl⟩

/-! ### Rows of numbers -/
/-- v is a row of the numbers zs. -/
def IsInts (w : World) (v : Value) (zs : List Int) : Prop := ∃ a cap, v = .slice a zs.length cap ∧ ∀ i x, zs[i]? = some x → ∃ b off, a = some ⟨b, off, none⟩ ∧ w.cell? ⟨b, off + i, none⟩ = some (.int .i64 x)
theorem cell_lt {w : World} {p : Addr} {v : Value} (h : w.cell? p = some v) : p.block < w.heap.size := by
  by_cases hlt : p.block < w.heap.size
  · exact hlt
  · exfalso
    unfold World.cell? at h
    rw [Array.getElem?_eq_none (by omega)] at h
    cases h
theorem IsInts.below {w w' : World} {v : Value} {zs : List Int} (h : IsInts w v zs) (hb : Below w.heap.size w w') : IsInts w' v zs := by
  obtain ⟨a, cap, hv, hc⟩ := h
  refine ⟨a, cap, hv, fun i x hx => ?_⟩
  obtain ⟨b, off, ha, hcell⟩ := hc i x hx
  exact ⟨b, off, ha, (hb.cell (cell_lt hcell)).trans hcell⟩
theorem IsInts.nil (w : World) : IsInts w (.slice none 0 0) [] := ⟨none, 0, rfl, fun i x hx => by simp at hx⟩
def iv64 (x : Int) : Value := .int .i64 x
theorem ints_of_row {w : World} {g N cap : Nat} {zs : List Int} {rest : List Value} {t : TypeId} (h : w.heap[g]? = some (.cells (zs.map iv64 ++ rest).toArray t (0, 0))) (hN : N = zs.length) : IsInts w (.slice (some ⟨g, 0, none⟩) N cap) zs := by
  subst hN
  refine ⟨_, cap, rfl, fun i x hx => ⟨g, 0, rfl, ?_⟩⟩
  have hi := (List.getElem?_eq_some_iff.1 hx).1
  rw [cell_of_row _ _ _ _ _ _ h, Nat.zero_add, List.getElem?_toArray, List.getElem?_append_left (by simpa using hi), List.getElem?_map, hx]
  rfl
theorem set_row (n k : Nat) (zs : List Int) (x : Int) (hk : k < n) (hz : zs.length = k) : ((zs.map iv64 ++ List.replicate (n - k) (iv64 0)).toArray).setIfInBounds k (.int .i64 x) = ((zs ++ [x]).map iv64 ++ List.replicate (n - (k + 1)) (iv64 0)).toArray := by
  apply Array.toList_inj.1
  rw [Array.toList_setIfInBounds]
  have e : n - k = (n - (k + 1)) + 1 := by omega
  show (zs.map iv64 ++ List.replicate (n - k) (iv64 0)).set k (.int .i64 x) = (zs ++ [x]).map iv64 ++ List.replicate (n - (k + 1)) (iv64 0)
  rw [List.set_append_right _ _ (by simp [hz]), e, List.replicate_succ]
  simp [hz, iv64]
theorem made_row (n : Nat) : madeCells #[Value.int .i64 0] n = (([] : List Int).map iv64 ++ List.replicate (n - 0) (iv64 0)).toArray := by
  apply Array.toList_inj.1
  rw [toList_madeCells_one]
  rfl
set_option maxHeartbeats 1000000 in
theorem make_ints (n : Nat) (hn : n ≤ 300) (W : World) : (Instr.makeSlice 61 (.int .i64 (n : Int)) (.int .i64 (n : Int))).run Try.prog W = .ok (.slice (some ⟨W.heap.size, 0, none⟩) n n) (W.alloc (.cells (madeCells #[Value.int .i64 0] n) 3)) := by
  obtain ⟨i0, hi, hz0, hz1, hz2⟩ := info_parts (show (Try.prog.info? 3).map (fun i => (i.zero, i.size, i.bytes)) = some (some (.int .i64 0), 1, 8) by kernel_rfl)
  have := run_make (P := Try.prog) W 61 3 i0 (.int .i64 0) Try.underlying61 hi hz0 .i64 .i64 (n : Int) (n : Int) (by omega) (by omega) (by rw [hz2]; omega) (by omega)
  rw [hz1] at this
  simpa [Value.cells] using this
set_option maxRecDepth 100000 in
set_option maxHeartbeats 1000000 in
theorem encode_any (s t : ByteArray) (w : World) (hs : s.size ≤ 300) (ht : t.size ≤ 9223372036854775807) :
    Calls Try.prog 46 #[.string s, .string t] w fun e w' => ∃ (v : Value) (zs : List Int) (err : Nat), e = .returned (.tuple #[v, .int .i64 (err : Int)]) ∧ IsInts w' v zs ∧ Below w.heap.size w w' ∧ EncP s.data.toList t.data.toList zs err := by
  by_cases hy : IsSyms t.data.toList
  · have htz : t.size ≤ 256 := isSyms_le hy
    have HNEW := Lib.hid (fun w => new_yes t w htz hy)
    have hlt : t.data.toList.length = t.size := rfl
    have hls : s.data.toList.length = s.size := rfl
    have HMK := Lib.hid (fun W => make_ints s.size hs W)
    have hsi : (s.size : Int) ≤ 300 := by omega
    go_enter Try.func46, Try.ntmps46
    go_wp2_with fail
    refine (HNEW.out w).mono ?_
    rintro e w1 ⟨rfl, hL, hB⟩
    have hmk := HMK.out w1
    have hrow : (w1.alloc (.cells (madeCells #[Value.int .i64 0] s.size) 3)).heap[w1.heap.size]? = some (.cells (([] : List Int).map iv64 ++ List.replicate (s.size - 0) (iv64 0)).toArray 3 (0, 0)) := by
      rw [← made_row]; exact heap_alloc_new _ _
    have hL1 : IsList (w1.alloc (.cells (madeCells #[Value.int .i64 0] s.size) 3)) w.heap.size t.data.toList := hL.below ((Below.refl w1.heap.size w1).alloc (Nat.le_refl _) _) hL.lt
    have hB1 : Below w.heap.size w (w1.alloc (.cells (madeCells #[Value.int .i64 0] s.size) 3)) := hB.alloc hB.size _
    have hlw := hL.lt
    generalize hg : w1.heap.size = g at *
    have HL1 := Lib.hid hL1
    have HB1 := Lib.hid hB1
    have HR1 := Lib.hid hrow
    generalize w1.alloc (.cells (madeCells #[Value.int .i64 0] s.size) 3) = w2 at *
    clear hL hB hrow hL1 hB1
    have hgw : w.heap.size < g := hlw
    go_wp2_with fail
    go_loopw [7, 23] (fun e i wr => ∃ (k : Nat) (zs : List Int) (m : List UInt8), k ≤ s.size ∧ i = .int .i64 k ∧ e = .int .i64 0 ∧ encK t.data.toList s.data.toList k = some (zs, m) ∧ IsList wr w.heap.size m ∧ Below w.heap.size w wr ∧ wr.heap[g]? = some (.cells (zs.map iv64 ++ List.replicate (s.size - k) (iv64 0)).toArray 3 (0, 0))) (fun _ i _ => s.size - (intOf i).toNat)
    case atStart => exact ⟨0, [], _, by omega, rfl, rfl, rfl, HL1.out, HB1.out, HR1.out⟩
    case round =>
      clear HL1 HB1 HR1
      obtain ⟨k, zs, m, hk, rfl, rfl, he, hL, hB, hR⟩ := hrel
      have HE := Lib.hid he
      have HL := Lib.hid hL
      have HB := Lib.hid hB
      have HR := Lib.hid hR
      clear he hL hB hR
      by_cases hlk : k < s.size
      · have hki : (k : Int) < (s.size : Int) := by omega
        have hgd : s.data.toList.getD k 0 = s[k] := by
          rw [List.getD_eq_getElem?_getD, List.getElem?_eq_getElem (by simpa using hlk)]
          rfl
        have hzl := (encK_len _ _ _ _ _ HE.out).1
        have hstep := encK_succ t.data.toList s.data.toList k
        rw [HE.out, hgd] at hstep
        have HST := Lib.hid hstep
        clear hstep hgd
        have hxk := s[k].toNat_lt
        have HCL : Hid (∀ W : World, W.heap[g]? = some (.cells (zs.map iv64 ++ List.replicate (s.size - k) (iv64 0)).toArray 3 (0, 0)) → W.cell? ⟨g, k, none⟩ = some (.int .i64 0) ∧ W.frozen? ⟨g, k, none⟩ = false ∧
            ∀ x : Int, (W.setCell ⟨g, k, none⟩ (.int .i64 x)).heap[g]? = some (.cells ((zs ++ [x]).map iv64 ++ List.replicate (s.size - (k + 1)) (iv64 0)).toArray 3 (0, 0))) := Lib.hid (fun W hW => by
          refine ⟨?_, frozen_of_row _ _ _ _ _ hW, fun x => ?_⟩
          · rw [cell_of_row _ _ _ _ _ _ hW, List.getElem?_toArray, List.getElem?_append_right (by simp [hzl])]
            have hkk : k - (zs.map iv64).length = 0 := by rw [List.length_map, hzl]; omega
            rw [hkk, List.getElem?_replicate, if_pos (by omega)]
            rfl
          · rw [← set_row s.size k zs x hlk hzl]
            exact heap_setCell_same _ _ k _ _ _ hW)
        rcases place_cases m s[k] with hp | ⟨o, hp, ho, hx⟩
        · have hnone : encK t.data.toList s.data.toList (k + 1) = none := by rw [HST.out]; simp only [hp]; rfl
          have hfin : encK t.data.toList s.data.toList s.size = none := by
            have := encK_none t.data.toList s.data.toList (s.size - (k + 1)) (k + 1) hnone
            rwa [show k + 1 + (s.size - (k + 1)) = s.size by omega] at this
          have HF := Lib.hid hfin
          have HP := Lib.hid hp
          clear hnone hfin hp hzl
          go_wp2_with fail
          refine (find_none w.heap.size s[k] m wr HL.out HP.out).mono ?_
          rintro e w' ⟨rfl, n, rfl⟩
          obtain ⟨d0, d1, _⟩ := HCL.out (wr.drewN n) HR.out
          go_wp2_with fail
          go_ret2
          exact ⟨_, [], 6, rfl, IsInts.nil _, (HB.out.trans ((below_drewN wr n).mono HB.out.size)).setCell (by show w.heap.size ≤ g; omega) _, Or.inr (Or.inl ⟨hy, HF.out, rfl, rfl⟩)⟩
        · have hsome : encK t.data.toList s.data.toList (k + 1) = some (zs ++ [(o : Int)], touch m o) := by
            rw [HST.out]
            simp only [hp]
            rw [if_neg (by omega)]
            rfl
          have HS := Lib.hid hsome
          have HP := Lib.hid hp
          have HX := Lib.hid hx
          clear hsome hp hx hzl
          go_wp2_with fail
          refine (find_some w.heap.size o s[k] m wr HL.out HP.out HX.out).mono ?_
          rintro e w3 ⟨rfl, h1, h2⟩
          have hlg : g < wr.heap.size := (Array.getElem?_eq_some_iff.1 HR.out).1
          have hr3 : w3.heap[g]? = some (.cells (zs.map iv64 ++ List.replicate (s.size - k) (iv64 0)).toArray 3 (0, 0)) := (h2.block g hlg (fun e => by have e' : g = w.heap.size := e; omega)).trans HR.out
          obtain ⟨d0, d1, d2⟩ := HCL.out w3 hr3
          have HL3 := Lib.hid (h1.other ((Touch.refl (· = g) w3).setCell (p := ⟨g, k, none⟩) (Or.inl rfl) (.int .i64 (o : Int))) (fun e => by have e' : w.heap.size = g := e; omega))
          have HB3 := Lib.hid ((HB.out.trans (h2.below HB.out.size (fun i hi => by have hi' : i = w.heap.size := hi; omega))).setCell (p := ⟨g, k, none⟩) (by show w.heap.size ≤ g; omega) (.int .i64 (o : Int)))
          have HD2 := Lib.hid (d2 (o : Int))
          clear h1 h2 hr3 d2
          go_wp2_with fail
          go_roundw
          case rel => exact ⟨k + 1, _, _, by omega, by go_num, rfl, HS.out, HL3.out, HB3.out, HD2.out⟩
          case measure => simp [intOf]; omega
      · obtain rfl : k = s.size := by omega
        have hzl := (encK_len _ _ _ _ _ HE.out).1
        go_wp2_with fail
        go_ret2
        exact ⟨_, zs, 0, rfl, ints_of_row HR.out hzl.symm, HB.out, Or.inr (Or.inr ⟨hy, ⟨m, HE.out⟩, rfl⟩)⟩
  · have HNEW := Lib.hid (fun w => new_no t w ht hy)
    go_enter Try.func46, Try.ntmps46
    go_wp2_with fail
    refine (HNEW.out w).mono ?_
    rintro e w' ⟨rfl, n, rfl⟩
    go_wp2_with fail
    go_ret2
    exact ⟨_, [], 1, rfl, IsInts.nil _, below_drewN w n, Or.inl ⟨hy, rfl, rfl⟩⟩
end Go.Proofs.Ythpgddodfnjmbaa

/-
  THE WALKS OF LAYER 3 (package rle): Piece, Encode.
-/
import Derived.Test.YtfaalgogagpimaaDoorRleD
import Derived.Test.YtfaalgogagpimaaDoorBuild
namespace Go.Proofs.YtfaalgogagpimaaDoor
open Go.RowKit RleM
set_option linter.unusedVariables false
def u8s (l : List UInt8) : List Value := l.map u8v
theorem slice5 (W : World) (b n : Nat) (hn : n ≤ 5) : (Instr.sliceAt 58 (.pointer (some ⟨b, 0, none⟩)) none (some (.int .i64 (n : Int))) none).run Tryd.prog W = .ok (.slice (some ⟨b, 0, none⟩) n 5) W := by
  have e : Tryd.prog.arrayLen 58 = 5 := by kernel_rfl
  have hs : (sizeOf (Tryd.prog.elem 58)).run Tryd.prog W = .ok 1 W := by kernel_rfl
  rw [run_sliceAt_array_h W _ ⟨b, 0, none⟩ (by kernel_rfl) .i64 (n : Int) (by omega) (by rw [e]; omega), hs]
  simp [Result.andThen, slicedAt, e, Addr.add]
theorem sz_le (n : Nat) : sz n ≤ 5 := by unfold sz; split <;> omega
theorem five_cells {w : World} (x0 x1 x2 x3 x4 : UInt8) : ∀ j x, [x0, x1, x2, x3, x4][j]? = some x → (w.alloc (.cells #[.int .u8 (x0.toNat : Int), .int .u8 (x1.toNat : Int), .int .u8 (x2.toNat : Int), .int .u8 (x3.toNat : Int), .int .u8 (x4.toNat : Int)] 58)).cell? ⟨w.heap.size, j, none⟩ = some (u8v x) := by
  intro j x hj
  rw [cell_of_row _ _ _ _ _ _ (heap_alloc_new w _)]
  have : j < 5 := (List.getElem?_eq_some_iff.1 hj).1
  rcases (by omega : j = 0 ∨ j = 1 ∨ j = 2 ∨ j = 3 ∨ j = 4) with rfl | rfl | rfl | rfl | rfl <;> simp at hj <;> subst hj <;> rfl
set_option maxHeartbeats 400000 in
theorem piece_bad (C X : Int) (w : World) (h : X < 1 ∨ 255 < X) : Calls Tryd.prog 16 #[.agg #[.int .u8 C, .int .i64 X]] w fun e w' => e = .returned (.tuple #[.string ByteArray.empty, .int .i64 1]) ∧ Below w.heap.size w w' := by
  rcases h with h | h
  · go_enter Tryd.func16, Tryd.ntmps16
    go_wp2_with fail
    go_ret2
    exact ⟨rfl, (Below.refl _ _).alloc (Nat.le_refl _) _⟩
  · have h2 : ¬ X < 1 := by omega
    go_enter Tryd.func16, Tryd.ntmps16
    go_wp2_with fail
    go_ret2
    exact ⟨rfl, (Below.refl _ _).alloc (Nat.le_refl _) _⟩
set_option maxRecDepth 100000 in
set_option maxHeartbeats 1000000 in
theorem piece_any (p : Pc) (w : World) (hT : Sizes w) (h1 : 1 ≤ p.2) (h2 : p.2 ≤ 255) :
    Calls Tryd.prog 16 #[pcv p] w fun e w' => e = .returned (.tuple #[.string ⟨(packP p).toArray⟩, .int .i64 0]) ∧ Below w.heap.size w w' := by
  have HT := Lib.hid hT
  have hsz := sz_le p.2
  obtain ⟨x0, x1, x2, x3, x4, hx⟩ := five_of (told5_length p)
  have HX := Lib.hid hx
  have k1 : (1 : Int) ≤ (p.2 : Int) := by omega
  have k2 : (p.2 : Int) ≤ 255 := by omega
  clear hT hx
  unfold pcv
  go_enter Tryd.func16, Tryd.ntmps16
  go_wp2_with fail
  refine (packed_any p _ (HT.out.touch ((Touch.refl (fun _ => False) w).alloc _) (fun h => h)) h1 h2).mono ?_
  rintro e w1 ⟨rfl, hb⟩
  rw [HX.out]
  have HB := Lib.hid hb
  clear hb
  simp only [List.map_cons, List.map_nil, u8v]
  have hcv := bytes_conv (w1.alloc (.cells #[.int .u8 (x0.toNat : Int), .int .u8 (x1.toNat : Int), .int .u8 (x2.toNat : Int), .int .u8 (x3.toNat : Int), .int .u8 (x4.toNat : Int)] 58)) w1.heap.size 5 ((told5 p).take (sz p.2)) (sz p.2) (by rw [List.length_take, told5_length]; omega) (fun j x hj => by
    rw [HX.out] at hj
    exact five_cells x0 x1 x2 x3 x4 j x (by rw [List.getElem?_take] at hj; split at hj; exact hj; cases hj))
  rw [told5_take] at hcv
  have hsl := slice5 (w1.alloc (.cells #[.int .u8 (x0.toNat : Int), .int .u8 (x1.toNat : Int), .int .u8 (x2.toNat : Int), .int .u8 (x3.toNat : Int), .int .u8 (x4.toNat : Int)] 58)) w1.heap.size (sz p.2) hsz
  go_wp2_with fail
  go_ret2
  exact ⟨rfl, ((((Below.refl w.heap.size w).alloc (Nat.le_refl _) _).trans (HB.out.mono (by simp))).alloc (by have := HB.out.size; simp at this; omega) _)⟩
/-- WHAT THE CLOSURE OF Encode KEEPS. -/
structure Packs (w0 : World) (b : Nat) (l : List UInt8) (w : World) : Prop where
  used : Used w0.heap.size b (u8s l) w
  below : Below w0.heap.size w0 w
theorem Packs.drewN {w0 w : World} {b : Nat} {l : List UInt8} (h : Packs w0 b l w) (m : Nat) : Packs w0 b l (w.drewN m) :=
  ⟨h.used.drewN m, h.below.trans ⟨rfl, rfl, rfl, Nat.le_refl _, fun _ _ => rfl⟩⟩
theorem u8s_one (l : List UInt8) : ∀ u ∈ u8s l, u.oneCell' = true := by
  intro u hu
  obtain ⟨x, _, rfl⟩ := List.mem_map.1 hu
  rfl
set_option maxRecDepth 100000 in
set_option maxHeartbeats 1000000 in
theorem encodeTell_any (w0 w : World) (b : Nat) (l : List UInt8) (p : Pc) (h : Packs w0 b l w) (hT : Sizes w) (h1 : 1 ≤ p.2) (h2 : p.2 ≤ 255) (hn : l.length ≤ 1099511627776) :
    Calls Tryd.prog 41 #[pcv p, .pointer (some ⟨b, 0, none⟩)] w fun e w' => e = .returned (.tuple #[]) ∧ Packs w0 b (l ++ packP p) w' := by
  have HT := Lib.hid hT
  have hsz := sz_le p.2
  have H := Lib.hid h
  obtain ⟨x0, x1, x2, x3, x4, hx⟩ := five_of (told5_length p)
  have HX := Lib.hid hx
  clear hT hx h
  unfold pcv
  go_enter Tryd.func41, Tryd.ntmps41
  go_wp2_with fail
  refine (packed_any p _ (HT.out.touch ((Touch.refl (fun _ => False) w).alloc _) (fun h => h)) h1 h2).mono ?_
  rintro e w1 ⟨rfl, hb⟩
  rw [HX.out]
  have hlt1 : w.heap.size + 1 ≤ w1.heap.size := by have := hb.size; simpa using this
  have hu1 : Used w0.heap.size b (u8s l) w1 := (H.out.used.alloc _).other (Touch.ofBelow hb) (fun k _ _ h => h)
  have HB := Lib.hid (((H.out.below.alloc H.out.below.size (.cells #[.int .u8 (p.1.toNat : Int), .int .i64 (p.2 : Int)] 23)).trans (hb.mono (by have := H.out.below.size; simp; omega))))
  have hs0 : w0.heap.size ≤ w1.heap.size := HB.out.size
  have HU1 := Lib.hid hu1
  clear hb hu1
  simp only [List.map_cons, List.map_nil, u8v]
  have hsl := slice5 (w1.alloc (.cells #[.int .u8 (x0.toNat : Int), .int .u8 (x1.toNat : Int), .int .u8 (x2.toNat : Int), .int .u8 (x3.toNat : Int), .int .u8 (x4.toNat : Int)] 58)) w1.heap.size (sz p.2) hsz
  go_wp2_with fail
  refine (write_any w0.heap.size b (u8s l) ⟨w1.heap.size, 0, none⟩ (sz p.2) 5 (u8s (packP p)) _ (HU1.out.alloc _) (by rw [u8s, List.length_map, packP_sz]) (fun j u hj => ?_) (u8s_one _) (by rw [u8s, List.length_map]; omega) (by simp; omega)).mono ?_
  · rw [Addr.add_lit, Nat.zero_add]
    rw [u8s, List.getElem?_map, ← told5_take, List.getElem?_take] at hj
    split at hj
    · rw [HX.out] at hj
      obtain ⟨x, hx, rfl⟩ := Option.map_eq_some_iff.1 hj
      exact five_cells x0 x1 x2 x3 x4 j x hx
    · cases hj
  · rintro e w2 ⟨rfl, hu2, hb2⟩
    have HU2 := Lib.hid hu2
    have HB2 := Lib.hid ((HB.out.alloc hs0 (.cells #[.int .u8 (x0.toNat : Int), .int .u8 (x1.toNat : Int), .int .u8 (x2.toNat : Int), .int .u8 (x3.toNat : Int), .int .u8 (x4.toNat : Int)] 58)).trans hb2)
    clear hu2 hb2
    go_wp2_with fail
    go_end0
    exact ⟨rfl, by have := HU2.out; rwa [u8s, u8s, ← List.map_append] at this, HB2.out⟩
theorem byteCells_u8s (l : List UInt8) : Lib.byteCells l = u8s l := rfl
set_option maxRecDepth 100000 in
set_option maxHeartbeats 1000000 in
theorem encode_any (s : ByteArray) (w : World) (hs : s.size ≤ 549755813888) (hT : Sizes w) :
    Calls Tryd.prog 18 #[.string s] w fun e w' => e = .returned (.string ⟨(encode s.data.toList).toArray⟩) ∧ Below w.heap.size w w' := by
  have HT := Lib.hid hT
  have hes := encode_small s.data.toList
  have hz : s.data.toList.length = s.size := rfl
  have hes2 : (encode s.data.toList).length ≤ 1099511627776 := by omega
  clear hT hes hz
  go_enter Tryd.func18, Tryd.ntmps18
  go_wp2_with fail
  refine (sizeOf_any s _ hs (HT.out.touch ((Touch.refl (fun _ => False) w).alloc _) (fun h => h))).mono ?_
  rintro e w1 ⟨rfl, hb1⟩
  have hk1 : w1.heap[w.heap.size]? = some (.cells #[.pointer none, .slice none 0 0] 63 (0, 0)) := (hb1.block w.heap.size (by simp)).trans (heap_alloc_new w _)
  have HB1 := Lib.hid (((Below.refl w.heap.size w).alloc (Nat.le_refl _) (.cells #[.pointer none, .slice none 0 0] 63)).trans (hb1.mono (by simp)))
  have hs1 : w.heap.size ≤ w1.heap.size := HB1.out.size
  have HK1 := Lib.hid hk1
  clear hb1 hk1
  go_wp2_with fail
  refine (Tryd.Builder_Grow_fresh w.heap.size w.heap.size (encode s.data.toList).length w1 (Nat.le_refl _) HK1.out hs1 (by omega)).mono ?_
  rintro e w2 ⟨rfl, hu2, hb2⟩
  have HU2 := Lib.hid hu2
  have HB2 := Lib.hid (HB1.out.trans hb2)
  clear hu2 hb2
  go_wp2_with fail
  refine (rows_any 41 #[.pointer (some ⟨w.heap.size, 0, none⟩)] (fun ps w' => Packs w w.heap.size (pack ps) w') s _ (by unfold maxLen; omega) (enters_of Tryd.func41 (by kernel_rfl) rfl) (fun ps w' n h => h.drewN n) (fun ps p qs w' hps h => ?_) ?_).mono ?_
  · obtain ⟨h1, h2, h3⟩ := pack_parts hps
    have hz : s.data.toList.length = s.size := rfl
    rw [pack_append, pack_one]
    rw [pack_append, List.length_append] at h3
    exact encodeTell_any w w' w.heap.size _ p h (HT.out.below h.below HT.out.lt) h1 h2 (by omega)
  · exact ⟨HU2.out, HB2.out⟩
  · rintro e w3 ⟨rfl, hu3, hb3⟩
    have HU3 := Lib.hid hu3
    have HB3 := Lib.hid hb3
    have hs3 := hb3.size
    clear hu3 hb3
    go_wp2_with fail
    refine (Tryd.Builder_String_any w.heap.size w.heap.size (encode s.data.toList) w3 (Or.inr HU3.out) hs3).mono ?_
    rintro e w4 ⟨rfl, hb4⟩
    have HB4 := Lib.hid (HB3.out.trans hb4)
    clear hb4
    go_wp2_with fail
    go_ret
    exact ⟨rfl, HB4.out⟩
end Go.Proofs.YtfaalgogagpimaaDoor

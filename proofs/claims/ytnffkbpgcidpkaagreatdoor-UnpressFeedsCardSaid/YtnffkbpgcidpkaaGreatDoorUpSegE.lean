/-
  MERGED by seg.py out of: BitsRef StrMath UsA UpA UpB UpC UpD UsB UsC.
-/
import Derived.Test.YtnffkbpgcidpkaaGreatDoorUpSegD
namespace Go.Proofs.YtnffkbpgcidpkaaGreatDoor
open Go.RowKit BitM
set_option linter.unusedVariables false
/-- A row of bits as a text. -/
def chr (b : Bool) : UInt8 := if b then 49 else 48
def txt (q : List Bool) : ByteArray := ⟨(q.map chr).toArray⟩
theorem txt_size (q : List Bool) : (txt q).size = q.length := by show (q.map chr).toArray.size = _; simp
theorem txt_append (p q : List Bool) : txt p ++ txt q = txt (p ++ q) := by
  apply ByteArray.ext
  simp [txt]
theorem txt_nil : txt [] = ⟨#[]⟩ := rfl
theorem field_cons (X k : Nat) : field X (k + 1) = (X / 2 ^ k % 2 == 1) :: field X k := by
  apply num_inj
  · simp [field_length]
  · have e : num ((X / 2 ^ k % 2 == 1) :: field X k) = bn (X / 2 ^ k % 2 == 1) * 2 ^ (field X k).length + num (field X k) := num_append [X / 2 ^ k % 2 == 1] (field X k) |>.trans (by rw [show num [X / 2 ^ k % 2 == 1] = bn (X / 2 ^ k % 2 == 1) from Nat.zero_add _])
    have hb : bn (X / 2 ^ k % 2 == 1) = X / 2 ^ k % 2 := by
      have : X / 2 ^ k % 2 = 0 ∨ X / 2 ^ k % 2 = 1 := by omega
      rcases this with h | h <;> simp [h, bn]
    rw [e, hb, field_length, field_num, field_num, Nat.pow_succ, Nat.mod_mul, Nat.mul_comm, Nat.add_comm]
theorem one_txt (v : Nat) : (⟨#[48, 49]⟩ : ByteArray).extract (v % 2) (v % 2 + 1) = txt [v % 2 == 1] := by
  have : v % 2 = 0 ∨ v % 2 = 1 := by omega
  rcases this with h | h <;> rw [h] <;> decide
set_option maxHeartbeats 400000 in
theorem fieldTxt_any (X n : Nat) (w : World) (hn : n ≤ 32) (hX32 : X < 4294967296) : Calls Tryz.prog 53 #[.int .u32 (X : Int), .int .i64 (n : Int)] w fun e w' => e = .returned (.string (txt (field X n))) ∧ w = w' := by
  go_enter Tryz.func53, Tryz.ntmps53
  go_wp2_with fail
  go_loop [0, 5, 7] (fun v s i => ∃ k : Nat, k ≤ n ∧ i = .int .i64 k ∧ v = .int .u32 ((X / 2 ^ k : Nat) : Int) ∧ s = .string (txt (field X k))) (fun _ _ i => n - (intOf i).toNat)
  case atStart => exact ⟨0, by omega, rfl, by simp, rfl⟩
  case round =>
    obtain ⟨k, hk, rfl, rfl, rfl⟩ := hrel
    have hv : X / 2 ^ k ≤ X := Nat.div_le_self _ _
    by_cases hlt : k < n
    · have h1 := one_txt (X / 2 ^ k)
      have hf := Lib.hid (field_cons X k)
      have hd : Hid (X / 2 ^ k / 2 = X / 2 ^ (k + 1)) := Lib.hid (by rw [Nat.pow_succ, Nat.div_div_eq_div_mul])
      have hsz : (txt [X / 2 ^ k % 2 == 1]).size + (txt (field X k)).size ≤ 64 := by rw [txt_size, txt_size, field_length]; simp; omega
      generalize X / 2 ^ k = V at *
      go_wp2_with fail
      go_round
      case rel => exact ⟨k + 1, by omega, by go_num, iv (by rw [← hd.out]; simp), by rw [txt_append, hf.out]; rfl⟩
      case measure => simp [intOf]; omega
    · obtain rfl : k = n := by omega
      go_wp2_with fail
      go_ret
      exact ⟨rfl, rfl⟩
set_option maxHeartbeats 400000 in
theorem bitsTxt_any (s : ByteArray) (w : World) (hs : s.size ≤ 1099511627776) : Calls Tryz.prog 45 #[.string s] w fun e w' => e = .returned (.string (txt (bitsOf s.data.toList))) ∧ w = w' := by
  go_enter Tryz.func45, Tryz.ntmps45
  go_wp2_with fail
  go_loop [3, 4] (fun o i => ∃ k : Nat, k ≤ s.size ∧ i = .int .i64 k ∧ o = .string (txt (bitsOf (s.data.toList.take k)))) (fun _ i => s.size - (intOf i).toNat)
  case atStart => exact ⟨0, by omega, rfl, rfl⟩
  case round =>
    obtain ⟨k, hk, rfl, rfl⟩ := hrel
    by_cases hlt : k < s.size
    · have hc := s[k].toNat_lt
      have hsz : (txt (bitsOf (s.data.toList.take k))).size + (txt (field s[k].toNat 8)).size ≤ 10000000000000 := by
        rw [txt_size, txt_size, field_length, bitsOf_length, List.length_take]; omega
      have HT : Hid (bitsOf (s.data.toList.take (k + 1)) = bitsOf (s.data.toList.take k) ++ field s[k].toNat 8) := Lib.hid (by
        rw [List.take_succ_eq_append_getElem (by simpa using hlt), bitsOf_append]
        congr 1)
      go_wp2_with fail
      refine (fieldTxt_any s[k].toNat 8 w (by omega) (by omega)).mono ?_
      rintro e w' ⟨rfl, rfl⟩
      go_wp2_with fail
      go_round
      case rel => exact ⟨k + 1, by omega, by go_num, by rw [txt_append, HT.out]⟩
      case measure => simp [intOf]; omega
    · obtain rfl : k = s.size := by omega
      go_wp2_with fail
      go_ret
      rw [List.take_of_length_le (by simp)]
      exact ⟨rfl, rfl⟩
theorem txt_get (q : List Bool) (k : Nat) (hk : k < q.length) (h : k < (txt q).size) : ((txt q)[k].toNat : Int) = 48 + (bn q[k] : Int) := by
  have e : (txt q)[k] = chr q[k] := by
    have h2 : (txt q).data[k]'(by simpa [txt] using hk) = chr q[k] := by simp [txt]
    exact h2
  rw [e]
  unfold chr bn
  split <;> rfl
set_option maxHeartbeats 400000 in
theorem number_any (q : List Bool) (w : World) (hq : q.length ≤ 32) : Calls Tryz.prog 77 #[.string (txt q)] w fun e w' => e = .returned (.int .u32 (num q : Int)) ∧ w = w' := by
  have hts := txt_size q
  have HTS := Lib.hid hts
  have hz : ((txt q).size : Int) = (q.length : Int) := by omega
  clear hts
  go_enter Tryz.func77, Tryz.ntmps77
  go_wp2_with fail
  go_loop [3, 4] (fun v i => ∃ k : Nat, k ≤ q.length ∧ i = .int .i64 k ∧ v = .int .u32 (num (q.take k) : Int)) (fun _ i => q.length - (intOf i).toNat)
  case atStart => exact ⟨0, by omega, rfl, rfl⟩
  case round =>
    obtain ⟨k, hk, rfl, rfl⟩ := hrel
    by_cases hlt : k < q.length
    · have hlz : k < (txt q).size := by have := HTS.out; omega
      have hg := txt_get q k hlt hlz
      have hb := bn_lt q[k]
      have hv : num (q.take k) < 2 ^ 31 := Nat.lt_of_lt_of_le (num_lt _) (Nat.pow_le_pow_right (by omega) (by simp; omega))
      have HN : Hid (num (q.take (k + 1)) = 2 * num (q.take k) + bn q[k]) := Lib.hid (by rw [List.take_succ_eq_append_getElem hlt, num_snoc])
      generalize num (q.take k) = V at *
      generalize bn q[k] = B at *
      go_wp2_with fail
      go_round
      case rel => exact ⟨k + 1, by omega, by go_num, iv (by rw [HN.out]; omega)⟩
      case measure => simp [intOf]; omega
    · obtain rfl : k = q.length := by omega
      go_wp2_with fail
      go_ret
      exact ⟨rfl, rfl⟩
end Go.Proofs.YtnffkbpgcidpkaaGreatDoor
namespace Go.Proofs.YtnffkbpgcidpkaaGreatDoor
open Go.RowKit BitM
set_option linter.unusedVariables false
/-- The magic of a block. -/
def blockQ : List Bool := field 3227993 24 ++ field 2511705 24
def tailQ : List Bool := field 1536581 24 ++ field 3690640 24
/-- A beginning's bytes, and their bits. -/
def headAt (L j : Nat) : Nat := [66, 90, 104, 48 + L].getD j 0
def headQ (L : Nat) : Nat → List Bool
  | 0 => []
  | j + 1 => headQ L j ++ field (headAt L j) 8
theorem headAt_lt (L j : Nat) (hL : L ≤ 9) (hj : j < 4) : headAt L j < 256 := by
  rcases (by omega : j = 0 ∨ j = 1 ∨ j = 2 ∨ j = 3) with rfl | rfl | rfl | rfl <;> simp [headAt] <;> omega
theorem headQ_len (L : Nat) : ∀ j, (headQ L j).length = 8 * j
  | 0 => rfl
  | j + 1 => by unfold headQ; rw [List.length_append, field_length, headQ_len L j]; omega
theorem digit_cut (L : Nat) (h9 : L ≤ 9) : (⟨#[48, 49, 50, 51, 52, 53, 54, 55, 56, 57]⟩ : ByteArray).extract L (L + 1) = ⟨#[UInt8.ofNat (48 + L)]⟩ := by
  rcases (by omega : L = 0 ∨ L = 1 ∨ L = 2 ∨ L = 3 ∨ L = 4 ∨ L = 5 ∨ L = 6 ∨ L = 7 ∨ L = 8 ∨ L = 9) with rfl | rfl | rfl | rfl | rfl | rfl | rfl | rfl | rfl | rfl <;> rfl
theorem head_bits (L : Nat) (h9 : L ≤ 9) : bitsOf ((⟨#[66, 90, 104]⟩ : ByteArray) ++ ⟨#[UInt8.ofNat (48 + L)]⟩).data.toList = headQ L 4 := by
  rcases (by omega : L = 0 ∨ L = 1 ∨ L = 2 ∨ L = 3 ∨ L = 4 ∨ L = 5 ∨ L = 6 ∨ L = 7 ∨ L = 8 ∨ L = 9) with rfl | rfl | rfl | rfl | rfl | rfl | rfl | rfl | rfl | rfl <;> decide +kernel
theorem end_txt : txt tailQ = ⟨#[48,48,48,49,48,49,49,49,48,49,49,49,48,48,49,48,48,49,48,48,48,49,48,49,48,48,49,49,49,48,48,48,48,49,48,49,48,48,48,48,49,48,48,49,48,48,48,48]⟩ := by decide +kernel
theorem magic_txt : txt blockQ = ⟨#[48,48,49,49,48,48,48,49,48,49,48,48,48,48,48,49,48,49,48,49,49,48,48,49,48,48,49,48,48,49,49,48,48,49,48,49,48,48,49,49,48,49,48,49,49,48,48,49]⟩ := by decide +kernel
end Go.Proofs.YtnffkbpgcidpkaaGreatDoor
namespace Go.Proofs.YtnffkbpgcidpkaaGreatDoor
open Go.RowKit BitM
set_option linter.unusedVariables false
set_option linter.unusedSimpArgs false
/-- WHAT THE TABLE OF LETTERS READS AS. -/
structure Lets (w : World) : Prop where
  c0 : w.cell? ⟨0, 0, none⟩ = some (.int .u8 66)
  c1 : w.cell? ⟨0, 1, none⟩ = some (.int .u8 90)
  c2 : w.cell? ⟨0, 2, none⟩ = some (.int .u8 104)
theorem Lets.lt {w : World} (h : Lets w) : 0 < w.heap.size := World.block_lt_of_cell? w ⟨0, 0, none⟩ h.c0
theorem Lets.touch {w w' : World} {S : Nat → Prop} (h : Lets w) (ht : Touch S w w') (hS : ¬ S 0) : Lets w' := by
  have e : ∀ o, w'.cell? ⟨0, o, none⟩ = w.cell? ⟨0, o, none⟩ := fun o => by
    have := ht.block _ h.lt hS
    simp only [World.cell?, this]
  exact ⟨(e 0).trans h.c0, (e 1).trans h.c1, (e 2).trans h.c2⟩
theorem Lets.below {w w' : World} {B : Nat} (h : Lets w) (hb : Below B w w') (hB : 0 < B) : Lets w' := by
  have e : ∀ o, w'.cell? ⟨0, o, none⟩ = w.cell? ⟨0, o, none⟩ := fun o => hb.cell (p := ⟨0, o, none⟩) hB
  exact ⟨(e 0).trans h.c0, (e 1).trans h.c1, (e 2).trans h.c2⟩
/-- A reader of streams, with no block begun, no sum, no error. -/
def usV (U due lev : Int) (en : Bool) : Array Value := #[.int .i64 U, .int .i64 due, .int .i64 lev, .pointer none, .string ⟨#[]⟩, .int .i64 0, .int .u32 0, .int .u32 0, .bool en, .int .i64 0]
def Us (w : World) (b : Nat) (U due lev : Int) (en : Bool) : Prop := w.heap[b]? = some (.cells (usV U due lev en) 71 (0, 0))
theorem Us.cells {w : World} {b : Nat} {U due lev : Int} {en : Bool} (h : Us w b U due lev en) : w.cell? ⟨b, 0, none⟩ = some (.int .i64 U) ∧ w.cell? ⟨b, 1, none⟩ = some (.int .i64 due) ∧ w.cell? ⟨b, 2, none⟩ = some (.int .i64 lev) ∧ w.cell? ⟨b, 3, none⟩ = some (.pointer none) ∧ w.cell? ⟨b, 7, none⟩ = some (.int .u32 0) ∧ w.cell? ⟨b, 8, none⟩ = some (.bool en) ∧ w.cell? ⟨b, 9, none⟩ = some (.int .i64 0) := by
  unfold Us at h
  refine ⟨?_, ?_, ?_, ?_, ?_, ?_, ?_⟩ <;> (rw [cell_of_row _ _ _ _ _ _ h]; rfl)
theorem Us.frozen {w : World} {b : Nat} {U due lev : Int} {en : Bool} (h : Us w b U due lev en) (i : Nat) : w.frozen? ⟨b, i, none⟩ = false := frozen_of_row _ _ _ _ _ h
theorem Us.lt {w : World} {b : Nat} {U due lev : Int} {en : Bool} (h : Us w b U due lev en) : b < w.heap.size := (Array.getElem?_eq_some_iff.1 h).1
theorem Us.touch {w w' : World} {b : Nat} {U due lev : Int} {en : Bool} (h : Us w b U due lev en) {S : Nat → Prop} (ht : Touch S w w') (hS : ¬ S b) : Us w' b U due lev en := (ht.block b h.lt hS).trans h
theorem Us.due {w : World} {b : Nat} {U due lev : Int} {en : Bool} (h : Us w b U due lev en) (d : Int) : Us (w.setCell ⟨b, 1, none⟩ (.int .i64 d)) b U d lev en := heap_setCell_same w b 1 _ _ _ h
theorem Us.lev {w : World} {b : Nat} {U due lev : Int} {en : Bool} (h : Us w b U due lev en) (d : Int) : Us (w.setCell ⟨b, 2, none⟩ (.int .i64 d)) b U due d en := heap_setCell_same w b 2 _ _ _ h
theorem Us.ok {w : World} {b : Nat} {U due lev : Int} {en : Bool} (h : Us w b U due lev en) : Us (w.setCell ⟨b, 9, none⟩ (.int .i64 0)) b U due lev en := heap_setCell_same w b 9 _ _ _ h
theorem Us.fin {w : World} {b : Nat} {U due lev : Int} {en : Bool} (h : Us w b U due lev en) : Us (w.setCell ⟨b, 7, none⟩ (.int .u32 0)) b U due lev en := heap_setCell_same w b 7 _ _ _ h
theorem Us.en_ {w : World} {b : Nat} {U due lev : Int} {en : Bool} (h : Us w b U due lev en) (e : Bool) : Us (w.setCell ⟨b, 8, none⟩ (.bool e)) b U due lev e := heap_setCell_same w b 8 _ _ _ h
set_option maxRecDepth 100000 in
set_option maxHeartbeats 4000000 in
theorem usnew_bad (U : Int) (w : World) (hu : -9223372036854775808 ≤ U ∧ U ≤ 9223372036854775807) (h : U < 24 ∨ 100000 < U) : Calls Tryz.prog 25 #[.int .i64 U] w fun e w' => e = .returned (.tuple #[.pointer none, .int .i64 1]) ∧ w' = w := by
  have HR := Lib.hid (show Calls Tryz.prog 34 #[.int .i64 1, .int .i64 U] w fun e w' => e = .returned (.tuple #[.int .i64 0, .int .i64 1]) ∧ w' = w by
    have := room19_any 1 U w (by omega) hu
    rw [if_pos (by omega)] at this
    exact this)
  clear h
  go_enter Tryz.func25, Tryz.ntmps25
  go_wp2_with fail
  refine HR.out.mono ?_
  rintro e w1 ⟨rfl, rfl⟩
  go_wp2_with fail
  go_ret2
  exact ⟨rfl, rfl⟩
theorem us_built (U : Int) : Tryz.prog.built 71 [(0, .int .i64 U)] = some (usV U 0 0 false) := by kernel_rfl
set_option maxRecDepth 100000 in
set_option maxHeartbeats 4000000 in
theorem usnew_any (U : Int) (w : World) (h : 24 ≤ U ∧ U ≤ 100000) : Calls Tryz.prog 25 #[.int .i64 U] w fun e w' => e = .returned (.tuple #[.pointer (some ⟨w.heap.size, 0, none⟩), .int .i64 0]) ∧ Us w' w.heap.size U 0 0 false ∧ Below w.heap.size w w' := by
  have HR := Lib.hid (show Calls Tryz.prog 34 #[.int .i64 1, .int .i64 U] w fun e w' => e = .returned (.tuple #[.int .i64 (1 * U - 19), .int .i64 0]) ∧ w' = w by
    have := room19_any 1 U w (by omega) (by omega)
    rw [if_neg (by omega)] at this
    exact this)
  have hbt := us_built U
  have hN := heap_alloc_new w (.cells (usV U 0 0 false) 71)
  have HN := Lib.hid hN
  have HB := Lib.hid ((Below.refl w.heap.size w).alloc (Nat.le_refl _) (.cells (usV U 0 0 false) 71))
  clear hN
  go_enter Tryz.func25, Tryz.ntmps25
  go_wp2_with fail
  refine HR.out.mono ?_
  rintro e w1 ⟨rfl, hw1⟩
  obtain rfl := hw1.symm
  go_wp2_with (first | (refine wpList_build_one rfl 71 0 _ rfl _ rfl _ hbt ?_))
  go_ret2
  exact ⟨rfl, HN.out, HB.out⟩
set_option maxRecDepth 100000 in
set_option maxHeartbeats 4000000 in
theorem usletter0 (b rb : Nat) (rv : Value) (l : List UInt8) (dr sp p : Nat) (U : Int) (w : World) (h : Us w b U 0 0 false) (hL : Lets w) (hr : IsReader w rb rv l dr sp p) (hb : b ≠ rb) (hnb : ∀ k, foot rb rv k → k ≠ b) (hg1 : 0 ≠ rb) (hg2 : 0 ≠ b)
    (hp : p + 8 ≤ 8 * (dr + l.length)) (hs : dr + l.length ≤ 1000000) (hc : num (((bitsOf l).drop (p - 8 * dr)).take 8) = 66) :
    Calls Tryz.prog 104 #[.pointer (some ⟨b, 0, none⟩), .pointer (some ⟨rb, 0, none⟩)] w fun e w' => e = .returned (.int .i64 0) ∧ Us w' b U 1 0 false ∧ IsReader w' rb rv l dr sp (p + 8) ∧ Touch (fun k => k = b ∨ k = rb) w w' := by
  have HG := Lib.hid (get_any rb rv l dr sp p 8 w hr (by omega) (by omega) hp)
  rw [hc, show ((66 : Nat) : Int) = 66 from rfl] at HG
  have HU := Lib.hid h
  have HL := Lib.hid hL
  have HX := Lib.hid (show b ≠ rb ∧ 0 ≠ rb ∧ 0 ≠ b from ⟨hb, hg1, hg2⟩)
  have HNB := Lib.hid hnb
  clear h hL hr hb hg1 hg2 hc hnb
  go_enter Tryz.func104, Tryz.ntmps104
  go_wp2_with fail
  refine HG.out.mono ?_
  rintro e w1 ⟨rfl, hr1, ht1⟩
  have HU1 := Lib.hid (HU.out.touch ht1 (fun e => HX.out.1 e))
  have HL1 := HL.out.touch ht1 (fun e => HX.out.2.1 e)
  have HR1 := Lib.hid hr1
  have HT1 := Lib.hid ht1
  obtain ⟨c0, c1, c2, c3, c7, c8, c9⟩ := HU1.out.cells
  have f1 := HU1.out.frozen 1
  obtain ⟨W2, hW2⟩ : ∃ W2, w1.setCell ⟨b, 1, none⟩ (.int .i64 1) = W2 := ⟨_, rfl⟩
  have ht2 : Touch (· = b) w1 W2 := by rw [← hW2]; exact touch_cell (Touch.refl _ _)
  have HU2 := Lib.hid (show Us W2 b U 1 0 false by rw [← hW2]; exact HU1.out.due 1)
  obtain ⟨l0, l1, l2⟩ := HL1.touch ht2 (fun e => HX.out.2.2 e)
  have HR2 := Lib.hid (HR1.out.other ht2 (fun k hk => HNB.out k hk))
  have HT2 := Lib.hid (show Touch (fun k => k = b ∨ k = rb) w W2 from (HT1.out.mono (fun k hk => Or.inr hk)).trans ht2 (fun k hk => Or.inl (Or.inl hk)))
  clear hr1 ht1 ht2 HL1
  go_wp2_with fail
  go_ret
  exact ⟨rfl, HU2.out, HR2.out, HT2.out⟩
set_option maxRecDepth 100000 in
set_option maxHeartbeats 4000000 in
theorem usletter1 (b rb : Nat) (rv : Value) (l : List UInt8) (dr sp p : Nat) (U : Int) (w : World) (h : Us w b U 1 0 false) (hL : Lets w) (hr : IsReader w rb rv l dr sp p) (hb : b ≠ rb) (hnb : ∀ k, foot rb rv k → k ≠ b) (hg1 : 0 ≠ rb) (hg2 : 0 ≠ b)
    (hp : p + 8 ≤ 8 * (dr + l.length)) (hs : dr + l.length ≤ 1000000) (hc : num (((bitsOf l).drop (p - 8 * dr)).take 8) = 90) :
    Calls Tryz.prog 104 #[.pointer (some ⟨b, 0, none⟩), .pointer (some ⟨rb, 0, none⟩)] w fun e w' => e = .returned (.int .i64 0) ∧ Us w' b U 2 0 false ∧ IsReader w' rb rv l dr sp (p + 8) ∧ Touch (fun k => k = b ∨ k = rb) w w' := by
  have HG := Lib.hid (get_any rb rv l dr sp p 8 w hr (by omega) (by omega) hp)
  rw [hc, show ((90 : Nat) : Int) = 90 from rfl] at HG
  have HU := Lib.hid h
  have HL := Lib.hid hL
  have HX := Lib.hid (show b ≠ rb ∧ 0 ≠ rb ∧ 0 ≠ b from ⟨hb, hg1, hg2⟩)
  have HNB := Lib.hid hnb
  clear h hL hr hb hg1 hg2 hc hnb
  go_enter Tryz.func104, Tryz.ntmps104
  go_wp2_with fail
  refine HG.out.mono ?_
  rintro e w1 ⟨rfl, hr1, ht1⟩
  have HU1 := Lib.hid (HU.out.touch ht1 (fun e => HX.out.1 e))
  have HL1 := HL.out.touch ht1 (fun e => HX.out.2.1 e)
  have HR1 := Lib.hid hr1
  have HT1 := Lib.hid ht1
  obtain ⟨c0, c1, c2, c3, c7, c8, c9⟩ := HU1.out.cells
  have f1 := HU1.out.frozen 1
  obtain ⟨W2, hW2⟩ : ∃ W2, w1.setCell ⟨b, 1, none⟩ (.int .i64 2) = W2 := ⟨_, rfl⟩
  have ht2 : Touch (· = b) w1 W2 := by rw [← hW2]; exact touch_cell (Touch.refl _ _)
  have HU2 := Lib.hid (show Us W2 b U 2 0 false by rw [← hW2]; exact HU1.out.due 2)
  obtain ⟨l0, l1, l2⟩ := HL1.touch ht2 (fun e => HX.out.2.2 e)
  have HR2 := Lib.hid (HR1.out.other ht2 (fun k hk => HNB.out k hk))
  have HT2 := Lib.hid (show Touch (fun k => k = b ∨ k = rb) w W2 from (HT1.out.mono (fun k hk => Or.inr hk)).trans ht2 (fun k hk => Or.inl (Or.inl hk)))
  clear hr1 ht1 ht2 HL1
  go_wp2_with fail
  go_ret
  exact ⟨rfl, HU2.out, HR2.out, HT2.out⟩
set_option maxRecDepth 100000 in
set_option maxHeartbeats 4000000 in
theorem usletter2 (b rb : Nat) (rv : Value) (l : List UInt8) (dr sp p : Nat) (U : Int) (w : World) (h : Us w b U 2 0 false) (hL : Lets w) (hr : IsReader w rb rv l dr sp p) (hb : b ≠ rb) (hnb : ∀ k, foot rb rv k → k ≠ b) (hg1 : 0 ≠ rb) (hg2 : 0 ≠ b)
    (hp : p + 8 ≤ 8 * (dr + l.length)) (hs : dr + l.length ≤ 1000000) (hc : num (((bitsOf l).drop (p - 8 * dr)).take 8) = 104) :
    Calls Tryz.prog 104 #[.pointer (some ⟨b, 0, none⟩), .pointer (some ⟨rb, 0, none⟩)] w fun e w' => e = .returned (.int .i64 0) ∧ Us w' b U 3 0 false ∧ IsReader w' rb rv l dr sp (p + 8) ∧ Touch (fun k => k = b ∨ k = rb) w w' := by
  have HG := Lib.hid (get_any rb rv l dr sp p 8 w hr (by omega) (by omega) hp)
  rw [hc, show ((104 : Nat) : Int) = 104 from rfl] at HG
  have HU := Lib.hid h
  have HL := Lib.hid hL
  have HX := Lib.hid (show b ≠ rb ∧ 0 ≠ rb ∧ 0 ≠ b from ⟨hb, hg1, hg2⟩)
  have HNB := Lib.hid hnb
  clear h hL hr hb hg1 hg2 hc hnb
  go_enter Tryz.func104, Tryz.ntmps104
  go_wp2_with fail
  refine HG.out.mono ?_
  rintro e w1 ⟨rfl, hr1, ht1⟩
  have HU1 := Lib.hid (HU.out.touch ht1 (fun e => HX.out.1 e))
  have HL1 := HL.out.touch ht1 (fun e => HX.out.2.1 e)
  have HR1 := Lib.hid hr1
  have HT1 := Lib.hid ht1
  obtain ⟨c0, c1, c2, c3, c7, c8, c9⟩ := HU1.out.cells
  have f1 := HU1.out.frozen 1
  obtain ⟨W2, hW2⟩ : ∃ W2, w1.setCell ⟨b, 1, none⟩ (.int .i64 3) = W2 := ⟨_, rfl⟩
  have ht2 : Touch (· = b) w1 W2 := by rw [← hW2]; exact touch_cell (Touch.refl _ _)
  have HU2 := Lib.hid (show Us W2 b U 3 0 false by rw [← hW2]; exact HU1.out.due 3)
  obtain ⟨l0, l1, l2⟩ := HL1.touch ht2 (fun e => HX.out.2.2 e)
  have HR2 := Lib.hid (HR1.out.other ht2 (fun k hk => HNB.out k hk))
  have HT2 := Lib.hid (show Touch (fun k => k = b ∨ k = rb) w W2 from (HT1.out.mono (fun k hk => Or.inr hk)).trans ht2 (fun k hk => Or.inl (Or.inl hk)))
  clear hr1 ht1 ht2 HL1
  go_wp2_with fail
  go_ret
  exact ⟨rfl, HU2.out, HR2.out, HT2.out⟩
end Go.Proofs.YtnffkbpgcidpkaaGreatDoor
namespace Go.Proofs.YtnffkbpgcidpkaaGreatDoor
open Go.RowKit BitM
set_option linter.unusedVariables false
set_option linter.unusedSimpArgs false
/-- An expander that holds no block, told nothing, and did not fail. -/
def xpV (win lim : Int) (fb ub pk sm : Nat) (en sh dn : Bool) (st : Int) : Array Value := #[.int .i64 win, .int .i64 lim, .pointer (some ⟨fb, 0, none⟩), .bool en, .pointer (some ⟨ub, 0, none⟩), .bool sh, .pointer none, .pointer (some ⟨pk, 0, none⟩), .pointer (some ⟨sm, 0, none⟩), .slice none 0 0, .bool dn, .int .i64 0, .int .i64 st]
def XpObj (w : World) (x : Nat) (win lim : Int) (fb ub pk sm : Nat) (en sh dn : Bool) (st : Int) : Prop := w.heap[x]? = some (.cells (xpV win lim fb ub pk sm en sh dn st) 52 (0, 0))
section
variable {w : World} {x : Nat} {win lim : Int} {fb ub pk sm : Nat} {en sh dn : Bool} {st : Int}
theorem XpObj.cells (h : XpObj w x win lim fb ub pk sm en sh dn st) : w.cell? ⟨x, 0, none⟩ = some (.int .i64 win) ∧ w.cell? ⟨x, 1, none⟩ = some (.int .i64 lim) ∧ w.cell? ⟨x, 2, none⟩ = some (.pointer (some ⟨fb, 0, none⟩)) ∧ w.cell? ⟨x, 3, none⟩ = some (.bool en) ∧ w.cell? ⟨x, 4, none⟩ = some (.pointer (some ⟨ub, 0, none⟩)) ∧ w.cell? ⟨x, 5, none⟩ = some (.bool sh) ∧ w.cell? ⟨x, 6, none⟩ = some (.pointer none) ∧ w.cell? ⟨x, 9, none⟩ = some (.slice none 0 0) ∧ w.cell? ⟨x, 10, none⟩ = some (.bool dn) ∧ w.cell? ⟨x, 11, none⟩ = some (.int .i64 0) ∧ w.cell? ⟨x, 12, none⟩ = some (.int .i64 st) := by
  unfold XpObj at h
  refine ⟨?_, ?_, ?_, ?_, ?_, ?_, ?_, ?_, ?_, ?_, ?_⟩ <;> (rw [cell_of_row _ _ _ _ _ _ h]; rfl)
theorem XpObj.frozen (h : XpObj w x win lim fb ub pk sm en sh dn st) (i : Nat) : w.frozen? ⟨x, i, none⟩ = false := frozen_of_row _ _ _ _ _ h
theorem XpObj.lt (h : XpObj w x win lim fb ub pk sm en sh dn st) : x < w.heap.size := (Array.getElem?_eq_some_iff.1 h).1
theorem XpObj.touch {w' : World} (h : XpObj w x win lim fb ub pk sm en sh dn st) {S : Nat → Prop} (ht : Touch S w w') (hS : ¬ S x) : XpObj w' x win lim fb ub pk sm en sh dn st := (ht.block x h.lt hS).trans h
theorem XpObj.setEn (h : XpObj w x win lim fb ub pk sm en sh dn st) (b : Bool) : XpObj (w.setCell ⟨x, 3, none⟩ (.bool b)) x win lim fb ub pk sm b sh dn st := heap_setCell_same w x 3 _ _ _ h
theorem XpObj.setSh (h : XpObj w x win lim fb ub pk sm en sh dn st) (b : Bool) : XpObj (w.setCell ⟨x, 5, none⟩ (.bool b)) x win lim fb ub pk sm en b dn st := heap_setCell_same w x 5 _ _ _ h
theorem XpObj.setDn (h : XpObj w x win lim fb ub pk sm en sh dn st) (b : Bool) : XpObj (w.setCell ⟨x, 10, none⟩ (.bool b)) x win lim fb ub pk sm en sh b st := heap_setCell_same w x 10 _ _ _ h
theorem XpObj.setSt (h : XpObj w x win lim fb ub pk sm en sh dn st) (n : Int) : XpObj (w.setCell ⟨x, 12, none⟩ (.int .i64 n)) x win lim fb ub pk sm en sh dn n := heap_setCell_same w x 12 _ _ _ h
end
set_option maxHeartbeats 1000000 in
theorem xpmade_nil (w : World) : Calls Tryz.prog 31 #[.pointer none] w fun e w' => e = .returned (.bool false) ∧ w' = w := by
  go_enter Tryz.func31, Tryz.ntmps31
  go_wp2_with fail
  go_ret
  exact ⟨rfl, rfl⟩
set_option maxHeartbeats 1000000 in
theorem xpfeed_nil (s : ByteArray) (w : World) : Calls Tryz.prog 18 #[.pointer none, .string s] w fun e w' => e = .returned (.int .i64 0) ∧ w' = w := by
  go_enter Tryz.func18, Tryz.ntmps18
  go_wp2_with fail
  refine (xpmade_nil _).mono ?_
  rintro e w1 ⟨rfl, rfl⟩
  go_wp2_with fail
  go_ret
  exact ⟨rfl, rfl⟩
set_option maxHeartbeats 1000000 in
theorem xpend_nil (w : World) : Calls Tryz.prog 19 #[.pointer none] w fun e w' => e = .returned (.int .i64 7) ∧ w' = w := by
  go_enter Tryz.func19, Tryz.ntmps19
  go_wp2_with fail
  refine (xpmade_nil _).mono ?_
  rintro e w1 ⟨rfl, rfl⟩
  go_wp2_with fail
  go_ret
  exact ⟨rfl, rfl⟩
set_option maxHeartbeats 1000000 in
theorem xpstep_nil (n : Int) (w : World) : Calls Tryz.prog 16 #[.pointer none, .int .i64 n] w fun e w' => e = .returned (.int .i64 0) ∧ w' = w := by
  go_enter Tryz.func16, Tryz.ntmps16
  go_wp2_with fail
  go_ret
  exact ⟨rfl, rfl⟩
set_option maxHeartbeats 1000000 in
theorem xpstopped_nil (w : World) : Calls Tryz.prog 15 #[.pointer none] w fun e w' => e = .returned (.bool true) ∧ w' = w := by
  go_enter Tryz.func15, Tryz.ntmps15
  go_wp2_with fail
  refine (xpmade_nil _).mono ?_
  rintro e w1 ⟨rfl, rfl⟩
  go_wp2_with fail
  go_ret
  exact ⟨rfl, rfl⟩
set_option maxHeartbeats 1000000 in
theorem xpwaiting_nil (w : World) : Calls Tryz.prog 11 #[.pointer none] w fun e w' => e = .returned (.int .i64 0) ∧ w' = w := by
  go_enter Tryz.func11, Tryz.ntmps11
  go_wp2_with fail
  go_ret
  exact ⟨rfl, rfl⟩
set_option maxHeartbeats 1000000 in
theorem xpdone_nil (w : World) : Calls Tryz.prog 13 #[.pointer none] w fun e w' => e = .returned (.bool false) ∧ w' = w := by
  go_enter Tryz.func13, Tryz.ntmps13
  go_wp2_with fail
  go_ret
  exact ⟨rfl, rfl⟩
set_option maxHeartbeats 1000000 in
theorem xperr_nil (w : World) : Calls Tryz.prog 14 #[.pointer none] w fun e w' => e = .returned (.int .i64 0) ∧ w' = w := by
  go_enter Tryz.func14, Tryz.ntmps14
  go_wp2_with fail
  go_ret
  exact ⟨rfl, rfl⟩
set_option maxHeartbeats 1000000 in
theorem xpsteps_nil (w : World) : Calls Tryz.prog 17 #[.pointer none] w fun e w' => e = .returned (.int .i64 0) ∧ w' = w := by
  go_enter Tryz.func17, Tryz.ntmps17
  go_wp2_with fail
  go_ret
  exact ⟨rfl, rfl⟩
set_option maxHeartbeats 1000000 in
theorem xpheld_nil (w : World) : Calls Tryz.prog 12 #[.pointer none] w fun e w' => e = .returned (.int .i64 0) ∧ w' = w := by
  go_enter Tryz.func12, Tryz.ntmps12
  go_wp2_with fail
  go_ret
  exact ⟨rfl, rfl⟩
end Go.Proofs.YtnffkbpgcidpkaaGreatDoor
namespace Go.Proofs.YtnffkbpgcidpkaaGreatDoor
open Go.RowKit BitM
set_option linter.unusedVariables false
set_option linter.unusedSimpArgs false
section
variable {x : Nat} {win lim : Int} {fb ub pk sm : Nat} {en sh dn : Bool} {st : Int}
set_option maxHeartbeats 1000000 in
theorem xpmade_any (w : World) (h : XpObj w x win lim fb ub pk sm en sh dn st) (hw : 0 < win) : Calls Tryz.prog 31 #[.pointer (some ⟨x, 0, none⟩)] w fun e w' => e = .returned (.bool true) ∧ w' = w := by
  obtain ⟨c0, c1, c2, c3, c4, c5, c6, c9, c10, c11, c12⟩ := h.cells
  have hw2 : win > 0 := hw
  clear h
  go_enter Tryz.func31, Tryz.ntmps31
  go_wp2_with fail
  go_ret
  exact ⟨rfl, rfl⟩
set_option maxHeartbeats 1000000 in
theorem xpstopped_any (w : World) (h : XpObj w x win lim fb ub pk sm en sh dn st) (hw : 0 < win) : Calls Tryz.prog 15 #[.pointer (some ⟨x, 0, none⟩)] w fun e w' => e = .returned (.bool (dn || sh)) ∧ w' = w := by
  have HM := Lib.hid (xpmade_any w h hw)
  obtain ⟨c0, c1, c2, c3, c4, c5, c6, c9, c10, c11, c12⟩ := h.cells
  clear h
  cases dn
  all_goals
    go_enter Tryz.func15, Tryz.ntmps15
    go_wp2_with fail
    refine HM.out.mono ?_
    rintro e w1 ⟨rfl, hw1⟩
    obtain rfl := hw1.symm
    go_wp2_with fail
    go_ret
    first | exact ⟨rfl, rfl⟩ | (refine ⟨?_, rfl⟩; simp)
set_option maxHeartbeats 1000000 in
theorem xpwaiting_any (w : World) (h : XpObj w x win lim fb ub pk sm en sh dn st) : Calls Tryz.prog 11 #[.pointer (some ⟨x, 0, none⟩)] w fun e w' => e = .returned (.int .i64 0) ∧ w' = w := by
  obtain ⟨c0, c1, c2, c3, c4, c5, c6, c9, c10, c11, c12⟩ := h.cells
  clear h
  go_enter Tryz.func11, Tryz.ntmps11
  go_wp2_with fail
  go_ret
  exact ⟨rfl, rfl⟩
set_option maxHeartbeats 1000000 in
theorem xpdone_any (w : World) (h : XpObj w x win lim fb ub pk sm en sh dn st) : Calls Tryz.prog 13 #[.pointer (some ⟨x, 0, none⟩)] w fun e w' => e = .returned (.bool dn) ∧ w' = w := by
  obtain ⟨c0, c1, c2, c3, c4, c5, c6, c9, c10, c11, c12⟩ := h.cells
  clear h
  go_enter Tryz.func13, Tryz.ntmps13
  go_wp2_with fail
  go_ret
  exact ⟨rfl, rfl⟩
set_option maxHeartbeats 1000000 in
theorem xperr_any (w : World) (h : XpObj w x win lim fb ub pk sm en sh dn st) : Calls Tryz.prog 14 #[.pointer (some ⟨x, 0, none⟩)] w fun e w' => e = .returned (.int .i64 0) ∧ w' = w := by
  obtain ⟨c0, c1, c2, c3, c4, c5, c6, c9, c10, c11, c12⟩ := h.cells
  clear h
  go_enter Tryz.func14, Tryz.ntmps14
  go_wp2_with fail
  go_ret
  exact ⟨rfl, rfl⟩
set_option maxHeartbeats 1000000 in
theorem xpsteps_any (w : World) (h : XpObj w x win lim fb ub pk sm en sh dn st) : Calls Tryz.prog 17 #[.pointer (some ⟨x, 0, none⟩)] w fun e w' => e = .returned (.int .i64 st) ∧ w' = w := by
  obtain ⟨c0, c1, c2, c3, c4, c5, c6, c9, c10, c11, c12⟩ := h.cells
  clear h
  go_enter Tryz.func17, Tryz.ntmps17
  go_wp2_with fail
  go_ret
  exact ⟨rfl, rfl⟩
set_option maxHeartbeats 1000000 in
theorem xpend_shut (w : World) (h : XpObj w x win lim fb ub pk sm true sh dn st) (hw : 0 < win) : Calls Tryz.prog 19 #[.pointer (some ⟨x, 0, none⟩)] w fun e w' => e = .returned (.int .i64 7) ∧ w' = w := by
  have HM := Lib.hid (xpmade_any w h hw)
  obtain ⟨c0, c1, c2, c3, c4, c5, c6, c9, c10, c11, c12⟩ := h.cells
  clear h
  go_enter Tryz.func19, Tryz.ntmps19
  go_wp2_with fail
  refine HM.out.mono ?_
  rintro e w1 ⟨rfl, hw1⟩
  obtain rfl := hw1.symm
  go_wp2_with fail
  go_ret
  exact ⟨rfl, rfl⟩
set_option maxRecDepth 100000 in
set_option maxHeartbeats 2000000 in
theorem xpend_any (w : World) (h : XpObj w x win lim fb ub pk sm false sh dn st) (hw : 0 < win) : Calls Tryz.prog 19 #[.pointer (some ⟨x, 0, none⟩)] w fun e w' => e = .returned (.int .i64 0) ∧ XpObj w' x win lim fb ub pk sm true false dn st ∧ Touch (· = x) w w' := by
  have HM := Lib.hid (xpmade_any w h hw)
  obtain ⟨c0, c1, c2, c3, c4, c5, c6, c9, c10, c11, c12⟩ := h.cells
  have f3 := h.frozen 3
  obtain ⟨W2, hW2⟩ : ∃ W2, w.setCell ⟨x, 3, none⟩ (.bool true) = W2 := ⟨_, rfl⟩
  have h2 : XpObj W2 x win lim fb ub pk sm true sh dn st := by rw [← hW2]; exact h.setEn true
  have ht2 : Touch (· = x) w W2 := by rw [← hW2]; exact touch_cell (Touch.refl _ _)
  have f5 := h2.frozen 5
  obtain ⟨_, _, _, _, _, d5, _⟩ := h2.cells
  obtain ⟨W3, hW3⟩ : ∃ W3, W2.setCell ⟨x, 5, none⟩ (.bool false) = W3 := ⟨_, rfl⟩
  have H3 := Lib.hid (show XpObj W3 x win lim fb ub pk sm true false dn st by rw [← hW3]; exact h2.setSh false)
  have HT3 := Lib.hid (show Touch (· = x) w W3 by rw [← hW3]; exact touch_cell ht2)
  clear h h2 ht2
  go_enter Tryz.func19, Tryz.ntmps19
  go_wp2_with fail
  refine HM.out.mono ?_
  rintro e w1 ⟨rfl, hw1⟩
  obtain rfl := hw1.symm
  go_wp2_with fail
  go_ret
  exact ⟨rfl, H3.out, HT3.out⟩
end
end Go.Proofs.YtnffkbpgcidpkaaGreatDoor
namespace Go.Proofs.YtnffkbpgcidpkaaGreatDoor
open Go.RowKit BitM
set_option linter.unusedVariables false
set_option linter.unusedSimpArgs false
/-- May an expander be? -/
def xpMay (U win lim : Int) : Prop := 24 ≤ U ∧ U ≤ 100000 ∧ 64 ≤ win ∧ win ≤ 1048576 ∧ 1 ≤ lim ∧ lim ≤ 65536
set_option maxRecDepth 100000 in
set_option maxHeartbeats 4000000 in
theorem xpmay_yes (U win lim : Int) (w : World) (h : xpMay U win lim) : Calls Tryz.prog 21 #[.int .i64 U, .int .i64 win, .int .i64 lim] w fun e w' => e = .returned (.bool true) ∧ Below w.heap.size w w' := by
  obtain ⟨h1, h2, h3, h4, h5, h6⟩ := h
  have HN := Lib.hid (usnew_any U w ⟨h1, h2⟩)
  have g3 : win ≥ 64 := h3
  have g5 : lim ≥ 1 := h5
  go_enter Tryz.func21, Tryz.ntmps21
  go_wp2_with fail
  refine HN.out.mono ?_
  rintro e w1 ⟨rfl, _, hb1⟩
  have HB1 := Lib.hid hb1
  clear hb1
  go_wp2_with fail
  go_ret
  exact ⟨rfl, HB1.out⟩
set_option maxRecDepth 100000 in
set_option maxHeartbeats 4000000 in
theorem xpmay_no (U win lim : Int) (w : World) (hU : -9223372036854775808 ≤ U ∧ U ≤ 9223372036854775807) (h : ¬ xpMay U win lim) : Calls Tryz.prog 21 #[.int .i64 U, .int .i64 win, .int .i64 lim] w fun e w' => e = .returned (.bool false) ∧ Below w.heap.size w w' := by
  have hcase : (U < 24 ∨ 100000 < U) ∨ ((24 ≤ U ∧ U ≤ 100000) ∧ (¬ win ≥ 64 ∨ (win ≥ 64 ∧ ¬ win ≤ 1048576) ∨ (win ≥ 64 ∧ win ≤ 1048576 ∧ ¬ lim ≥ 1) ∨ (win ≥ 64 ∧ win ≤ 1048576 ∧ lim ≥ 1 ∧ ¬ lim ≤ 65536))) := by
    unfold xpMay at h
    omega
  clear h
  rcases hcase with hb | ⟨hU2, hr⟩
  · have HN := Lib.hid (usnew_bad U w hU hb)
    clear hb
    go_enter Tryz.func21, Tryz.ntmps21
    go_wp2_with fail
    refine HN.out.mono ?_
    rintro e w1 ⟨rfl, hw1⟩
    obtain rfl := hw1.symm
    go_wp2_with fail
    go_ret
    exact ⟨rfl, Below.refl _ _⟩
  · have HN := Lib.hid (usnew_any U w hU2)
    clear hU2
    rcases hr with k1 | ⟨k1, k2⟩ | ⟨k1, k2, k3⟩ | ⟨k1, k2, k3, k4⟩
    all_goals
      go_enter Tryz.func21, Tryz.ntmps21
      go_wp2_with fail
      refine HN.out.mono ?_
      rintro e w1 ⟨rfl, _, hb1⟩
      have HB1 := Lib.hid hb1
      clear hb1
      go_wp2_with fail
      go_ret
      first | exact ⟨rfl, HB1.out⟩ | (refine ⟨?_, HB1.out⟩; show Ending.returned (Value.bool (decide (lim ≤ 65536))) = _; rw [decide_eq_false (by omega)])
set_option maxRecDepth 100000 in
set_option maxHeartbeats 4000000 in
theorem xpneed_yes (U win lim : Int) (w : World) (h : xpMay U win lim) : Calls Tryz.prog 7 #[.int .i64 U, .int .i64 win, .int .i64 lim] w fun e w' => e = .returned (.tuple #[.int .i64 (win + lim + 36 * U + 40960), .int .i64 0]) ∧ Below w.heap.size w w' := by
  have HM := Lib.hid (xpmay_yes U win lim w h)
  obtain ⟨h1, h2, h3, h4, h5, h6⟩ := h
  go_enter Tryz.func7, Tryz.ntmps7
  go_wp2_with fail
  refine HM.out.mono ?_
  rintro e w1 ⟨rfl, hb1⟩
  have HB1 := Lib.hid hb1
  clear hb1
  go_wp2_with fail
  go_ret2
  exact ⟨rfl, HB1.out⟩
set_option maxRecDepth 100000 in
set_option maxHeartbeats 4000000 in
theorem xpneed_no (U win lim : Int) (w : World) (hU : -9223372036854775808 ≤ U ∧ U ≤ 9223372036854775807) (h : ¬ xpMay U win lim) : Calls Tryz.prog 7 #[.int .i64 U, .int .i64 win, .int .i64 lim] w fun e w' => e = .returned (.tuple #[.int .i64 0, .int .i64 1]) ∧ Below w.heap.size w w' := by
  have HM := Lib.hid (xpmay_no U win lim w hU h)
  clear h
  go_enter Tryz.func7, Tryz.ntmps7
  go_wp2_with fail
  refine HM.out.mono ?_
  rintro e w1 ⟨rfl, hb1⟩
  have HB1 := Lib.hid hb1
  clear hb1
  go_wp2_with fail
  go_ret2
  exact ⟨rfl, HB1.out⟩
end Go.Proofs.YtnffkbpgcidpkaaGreatDoor
namespace Go.Proofs.YtnffkbpgcidpkaaGreatDoor
open Go.RowKit BitM
set_option linter.unusedVariables false
set_option linter.unusedSimpArgs false
theorem wpList_build_five {P : Program} {ops : Array Oper} {rest : List Oper} {o : Oper} {a : Act} {w : World} {Q : Exit → Act → World → Prop} (hg : o.guard = none) (t : TypeId) (n1 n2 n3 n4 n5 : Nat) (y1 y2 y3 y4 y5 : Operand) (ho : o.op = .build t #[(n1, y1), (n2, y2), (n3, y3), (n4, y4), (n5, y5)]) (v1 v2 v3 v4 v5 : Value) (h1 : a.eval y1 = v1) (h2 : a.eval y2 = v2) (h3 : a.eval y3 = v3) (h4 : a.eval y4 = v4) (h5 : a.eval y5 = v5) (Z : Array Value)
    (hb : P.built t [(n1, v1), (n2, v2), (n3, v3), (n4, v4), (n5, v5)] = some Z) (h : wpList P ops Q rest (a.put o.dst (.agg Z)) w) : wpList P ops Q (o :: rest) a w := by
  subst h1 h2 h3 h4 h5
  refine wpList_build hg t _ ho ?_ ?_
  · simp [hb]
  · simpa [hb] using h
set_option maxHeartbeats 2000000 in
theorem newunp_ptr (w : World) : Calls Tryz.prog 23 #[] w fun e w' => (∃ b, e = .returned (.pointer (some ⟨b, 0, none⟩))) ∧ Below w.heap.size w w' := by
  have HB := Lib.hid (fun o => (Below.refl w.heap.size w).alloc (Nat.le_refl _) o)
  go_enter Tryz.func23, Tryz.ntmps23
  go_wp2_with fail
  go_ret
  exact ⟨⟨_, rfl⟩, HB.out _⟩
set_option maxHeartbeats 2000000 in
theorem crcnew_ptr (w : World) : Calls Tryz.prog 24 #[] w fun e w' => (∃ b, e = .returned (.pointer (some ⟨b, 0, none⟩))) ∧ Below w.heap.size w w' := by
  have HB := Lib.hid (fun o => (Below.refl w.heap.size w).alloc (Nat.le_refl _) o)
  go_enter Tryz.func24, Tryz.ntmps24
  go_wp2_with fail
  go_ret
  exact ⟨⟨_, rfl⟩, HB.out _⟩
def xpV0 (win lim : Int) (fb pk sm : Nat) : Array Value := #[.int .i64 win, .int .i64 lim, .pointer (some ⟨fb, 0, none⟩), .bool false, .pointer none, .bool false, .pointer none, .pointer (some ⟨pk, 0, none⟩), .pointer (some ⟨sm, 0, none⟩), .slice none 0 0, .bool false, .int .i64 0, .int .i64 0]
theorem xp_built (win lim : Int) (fb pk sm : Nat) : Tryz.prog.built 52 [(0, .int .i64 win), (1, .int .i64 lim), (2, .pointer (some ⟨fb, 0, none⟩)), (7, .pointer (some ⟨pk, 0, none⟩)), (8, .pointer (some ⟨sm, 0, none⟩))] = some (xpV0 win lim fb pk sm) := by kernel_rfl
/-- An expander, its reader of bits and its reader of streams. -/
structure Xs (B : Nat) (w : World) (x fb ub pk sm : Nat) (rv : Value) (l : List UInt8) (dr sp p : Nat) (win lim U due lev : Int) (uen en sh dn : Bool) (st : Int) : Prop where
  obj : XpObj w x win lim fb ub pk sm en sh dn st
  rdr : IsReader w fb rv l dr sp p
  us : Us w ub U due lev uen
  ap : x ≠ ub
  own : ∀ k, foot fb rv k → k ≠ x ∧ k ≠ ub ∧ B ≤ k
  base : B ≤ x ∧ B ≤ ub
def XnewP (w : World) (win lim U : Int) (e : Ending) (w' : World) : Prop := ∃ x fb ub pk sm rv, e = .returned (.tuple #[.pointer (some ⟨x, 0, none⟩), .int .i64 0]) ∧ Xs w.heap.size w' x fb ub pk sm rv [] 0 0 0 win lim U 0 0 false false false false 0 ∧ Below w.heap.size w w'
set_option maxRecDepth 100000 in
set_option maxHeartbeats 4000000 in
theorem xpnew_any (U win lim : Int) (w : World) (h : xpMay U win lim) : Calls Tryz.prog 6 #[.int .i64 U, .int .i64 win, .int .i64 lim] w fun e w' => XnewP w win lim U e w' := by
  have HM := Lib.hid (xpmay_yes U win lim w h)
  have HUN := Lib.hid (fun W => usnew_any U W ⟨h.1, h.2.1⟩)
  have HNR := Lib.hid (fun W => newReader_any ⟨#[]⟩ W (by decide))
  clear h
  go_enter Tryz.func6, Tryz.ntmps6
  go_wp2_with fail
  refine HM.out.mono ?_
  rintro e w1 ⟨rfl, hb1⟩
  have HB1 := Lib.hid hb1
  clear hb1
  go_wp2_with fail
  refine (HNR.out _).mono ?_
  rintro e w2 ⟨fb, rv, rfl, hr2, hb2, hf2⟩
  have HR2 := Lib.hid hr2
  have HF2 := Lib.hid (show ∀ k, foot fb rv k → w.heap.size ≤ k ∧ k < w2.heap.size from fun k hk => ⟨Nat.le_trans HB1.out.size (hf2 k hk), (hr2.lt k hk)⟩)
  have HB2 := Lib.hid (HB1.out.trans (hb2.mono HB1.out.size))
  clear hr2 hb2 hf2
  go_wp2_with fail
  refine (newunp_ptr _).mono ?_
  rintro e w3 ⟨⟨pk, rfl⟩, hb3⟩
  have HR3 := Lib.hid (HR2.out.other (Touch.ofBelow (S := fun _ => False) hb3) (fun _ _ e => e))
  have HB3 := Lib.hid (HB2.out.trans (hb3.mono HB2.out.size))
  have hs23 := hb3.size
  clear hb3
  go_wp2_with fail
  refine (crcnew_ptr _).mono ?_
  rintro e w4 ⟨⟨sm, rfl⟩, hb4⟩
  have HR4 := Lib.hid (HR3.out.other (Touch.ofBelow (S := fun _ => False) hb4) (fun _ _ e => e))
  have HB4 := Lib.hid (HB3.out.trans (hb4.mono HB3.out.size))
  have hs34 := hb4.size
  have hbt := xp_built win lim fb pk sm
  clear hb4
  obtain ⟨w5, hw5⟩ : ∃ w5, w4.alloc (.cells (xpV0 win lim fb pk sm) 52) = w5 := ⟨_, rfl⟩
  have hb5 : Below w4.heap.size w4 w5 := by rw [← hw5]; exact (Below.refl _ _).alloc (Nat.le_refl _) _
  have hx5 : w5.heap[w4.heap.size]? = some (.cells (xpV0 win lim fb pk sm) 52 (0, 0)) := by rw [← hw5]; exact heap_alloc_new _ _
  have hz5 : w4.heap.size < w5.heap.size := (Array.getElem?_eq_some_iff.1 hx5).1
  have HX5 := Lib.hid hx5
  have HR5 := Lib.hid (HR4.out.other (Touch.ofBelow (S := fun _ => False) hb5) (fun _ _ e => e))
  have HB5 := Lib.hid (HB4.out.trans (hb5.mono HB4.out.size))
  clear hb5 hx5
  go_wp2_with (first | (refine wpList_build_five rfl 52 0 1 2 7 8 _ _ _ _ _ rfl _ _ _ _ _ rfl rfl rfl rfl rfl _ hbt ?_))
  refine (HUN.out _).mono ?_
  rintro e w6 ⟨rfl, hu6, hb6⟩
  have hx6 : w6.heap[w4.heap.size]? = some (.cells (xpV0 win lim fb pk sm) 52 (0, 0)) := (hb6.block _ hz5).trans HX5.out
  have c4 : w6.cell? ⟨w4.heap.size, 4, none⟩ = some (.pointer none) := by rw [cell_of_row _ _ 4 _ _ _ hx6]; rfl
  have f4 : w6.frozen? ⟨w4.heap.size, 4, none⟩ = false := frozen_of_row _ _ _ _ _ hx6
  obtain ⟨W7, hW7⟩ : ∃ W7, w6.setCell ⟨w4.heap.size, 4, none⟩ (.pointer (some ⟨w5.heap.size, 0, none⟩)) = W7 := ⟨_, rfl⟩
  have ht7 : Touch (· = w4.heap.size) w6 W7 := by rw [← hW7]; exact touch_cell (Touch.refl _ _)
  have hs := HB4.out.size
  have HZ := Lib.hid (show XnewP w win lim U (.returned (.tuple #[.pointer (some ⟨w4.heap.size, 0, none⟩), .int .i64 0])) W7 from
    ⟨w4.heap.size, fb, w5.heap.size, pk, sm, rv, rfl, ⟨by rw [← hW7]; exact heap_setCell_same w6 w4.heap.size 4 _ _ _ hx6, (HR5.out.other (Touch.ofBelow (S := fun _ => False) hb6) (fun _ _ e => e)).other ht7 (fun k hk e => by have h1 := (HF2.out k hk).2; have e2 : k = w4.heap.size := e; omega), hu6.touch ht7 (fun e => by have e2 : w5.heap.size = w4.heap.size := e; omega), by omega, fun k hk => by have := HF2.out k hk; omega, by omega⟩, (HB5.out.trans (hb6.mono HB5.out.size)).trans (ht7.below (by have := hb6.size; omega) (fun k hk => by have e2 : k = w4.heap.size := hk; omega))⟩)
  clear hu6 hb6 hx6 ht7 hw5
  go_wp2_with fail
  go_ret2
  exact HZ.out
end Go.Proofs.YtnffkbpgcidpkaaGreatDoor
namespace Go.Proofs.YtnffkbpgcidpkaaGreatDoor
open Go.RowKit BitM
set_option linter.unusedVariables false
set_option linter.unusedSimpArgs false
theorem touch_or2 {b rb : Nat} {w w1 w2 : World} (h1 : Touch (· = rb) w w1) (h2 : Touch (· = b) w1 w2) : Touch (fun k => k = b ∨ k = rb) w w2 := (h1.mono (fun k hk => Or.inr hk)).trans h2 (fun k hk => Or.inl (Or.inl hk))
set_option maxRecDepth 100000 in
set_option maxHeartbeats 4000000 in
theorem uslevel (b rb : Nat) (rv : Value) (l : List UInt8) (dr sp p : Nat) (U : Int) (w : World) (h : Us w b U 3 0 false) (hr : IsReader w rb rv l dr sp p) (hb : b ≠ rb) (hnb : ∀ k, foot rb rv k → k ≠ b)
    (hs : dr + l.length ≤ 1000000) (hp : p + 8 ≤ 8 * (dr + l.length)) (hc : num (((bitsOf l).drop (p - 8 * dr)).take 8) = 49) :
    Calls Tryz.prog 104 #[.pointer (some ⟨b, 0, none⟩), .pointer (some ⟨rb, 0, none⟩)] w fun e w' => e = .returned (.int .i64 0) ∧ Us w' b U 4 1 false ∧ IsReader w' rb rv l dr sp (p + 8) ∧ Touch (fun k => k = b ∨ k = rb) w w' := by
  have HG := Lib.hid (get_any rb rv l dr sp p 8 w hr (by omega) (by omega) hp)
  rw [hc, show ((49 : Nat) : Int) = 49 from rfl] at HG
  have HU := Lib.hid h
  have HB := Lib.hid hb
  have HNB := Lib.hid hnb
  clear h hr hb hc hnb
  go_enter Tryz.func104, Tryz.ntmps104
  go_wp2_with fail
  refine HG.out.mono ?_
  rintro e w1 ⟨rfl, hr1, ht1⟩
  have HU1 := Lib.hid (HU.out.touch ht1 (fun e => HB.out e))
  have HR1 := Lib.hid hr1
  obtain ⟨c0, c1, c2, c3, c7, c8, c9⟩ := HU1.out.cells
  have f1 := HU1.out.frozen 1
  obtain ⟨W2, hW2⟩ : ∃ W2, w1.setCell ⟨b, 1, none⟩ (.int .i64 4) = W2 := ⟨_, rfl⟩
  have hU2 : Us W2 b U 4 0 false := by rw [← hW2]; exact HU1.out.due 4
  have ht2 : Touch (· = b) w1 W2 := by rw [← hW2]; exact touch_cell (Touch.refl _ _)
  have f2 := hU2.frozen 2
  obtain ⟨e0, e1, e2, _⟩ := hU2.cells
  obtain ⟨W3, hW3⟩ : ∃ W3, W2.setCell ⟨b, 2, none⟩ (.int .i64 1) = W3 := ⟨_, rfl⟩
  have hU3 : Us W3 b U 4 1 false := by rw [← hW3]; exact hU2.lev 1
  have ht3 : Touch (· = b) w1 W3 := by rw [← hW3]; exact touch_cell ht2
  obtain ⟨d0, d1, d2, _⟩ := hU3.cells
  have HU3 := Lib.hid hU3
  have HR3 := Lib.hid (HR1.out.other ht3 (fun k hk => HNB.out k hk))
  have HT3 := Lib.hid (touch_or2 ht1 ht3)
  clear hr1 ht1 ht2 ht3 hU2 hU3
  go_wp2_with fail
  go_ret
  exact ⟨rfl, HU3.out, HR3.out, HT3.out⟩
set_option maxHeartbeats 4000000 in
theorem usshort {ue : Bool} (d lv : Int) (b rb : Nat) (rv : Value) (l : List UInt8) (dr sp p : Nat) (U : Int) (w : World) (h : Us w b U d lv ue) (hr : IsReader w rb rv l dr sp p) (hb : b ≠ rb) (hnb : ∀ k, foot rb rv k → k ≠ b)
    (hs : dr + l.length ≤ 1000000) (hp : 8 * (dr + l.length) < p + 8) :
    Calls Tryz.prog 104 #[.pointer (some ⟨b, 0, none⟩), .pointer (some ⟨rb, 0, none⟩)] w fun e w' => e = .returned (.int .i64 3) ∧ ∃ n, w' = w.drewN n := by
  have HG := Lib.hid (get_short rb rv l dr sp p 8 w hr (by omega) (by omega) hp)
  rw [show ((8 : Nat) : Int) = 8 from rfl] at HG
  clear h hr hb hnb
  go_enter Tryz.func104, Tryz.ntmps104
  go_wp2_with fail
  refine HG.out.mono ?_
  rintro e w1 ⟨rfl, n, rfl⟩
  go_wp2_with fail
  go_ret
  exact ⟨rfl, n, rfl⟩
set_option maxRecDepth 100000 in
set_option maxHeartbeats 4000000 in
theorem usmagic (b rb : Nat) (rv : Value) (l : List UInt8) (dr sp p : Nat) (U : Int) (w : World) (h : Us w b U 4 1 false) (hr : IsReader w rb rv l dr sp p) (hb : b ≠ rb) (hnb : ∀ k, foot rb rv k → k ≠ b)
    (hs : dr + l.length ≤ 1000000) (hp : p + 48 ≤ 8 * (dr + l.length)) (hc : num (((bitsOf l).drop (p - 8 * dr)).take 24) = 1536581) (hc2 : num (((bitsOf l).drop (p + 24 - 8 * dr)).take 24) = 3690640) :
    Calls Tryz.prog 101 #[.pointer (some ⟨b, 0, none⟩), .pointer (some ⟨rb, 0, none⟩)] w fun e w' => e = .returned (.int .i64 0) ∧ Us w' b U 6 1 false ∧ IsReader w' rb rv l dr sp (p + 48) ∧ Touch (fun k => k = b ∨ k = rb) w w' := by
  obtain ⟨L, hL⟩ : ∃ L, 8 * (dr + l.length) - p = L := ⟨_, rfl⟩
  have HLF := Lib.hid (rleft_any rb rv l dr sp p L w hr (by omega) hL)
  have hL48 : ¬ (L : Int) < 48 := by omega
  have HU := Lib.hid h
  have HR := Lib.hid hr
  have HB := Lib.hid hb
  have HNB := Lib.hid hnb
  clear h hr hb hnb hL
  go_enter Tryz.func101, Tryz.ntmps101
  go_wp2_with fail
  refine HLF.out.mono ?_
  rintro e w0 ⟨rfl, m, hw0⟩
  have ht0 : Touch (fun _ => False) w w0 := by rw [hw0]; exact touch_drewN _ w m
  have HU0 := Lib.hid (HU.out.touch ht0 (fun e => e))
  have HT0 := Lib.hid ht0
  have HG := Lib.hid (get_any rb rv l dr sp p 24 w0 (HR.out.other ht0 (fun _ _ e => e)) (by omega) (by omega) (by omega))
  rw [hc, show ((1536581 : Nat) : Int) = 1536581 from rfl, show ((24 : Nat) : Int) = 24 from rfl] at HG
  clear hw0 ht0 hc
  go_wp2_with fail
  refine HG.out.mono ?_
  rintro e w1 ⟨rfl, hr1, ht1⟩
  have HU1 := Lib.hid (HU0.out.touch ht1 (fun e => HB.out e))
  have HG2 := Lib.hid (get_any rb rv l dr sp (p + 24) 24 w1 hr1 (by omega) (by omega) (by omega))
  rw [hc2, show ((3690640 : Nat) : Int) = 3690640 from rfl, show ((24 : Nat) : Int) = 24 from rfl] at HG2
  have HT1 := Lib.hid (HT0.out.mono (T := (· = rb)) (fun _ e => e.elim) |>.trans ht1 (fun k hk => Or.inl hk))
  clear hr1 ht1 hc2
  go_wp2_with fail
  refine HG2.out.mono ?_
  rintro e w2 ⟨rfl, hr2, ht2⟩
  have HU2 := Lib.hid (HU1.out.touch ht2 (fun e => HB.out e))
  have HR2 := Lib.hid hr2
  have HT2 := Lib.hid (HT1.out.trans ht2 (fun k hk => Or.inl hk))
  obtain ⟨c0, c1, c2, c3, c7, c8, c9⟩ := HU2.out.cells
  have f1 := HU2.out.frozen 1
  obtain ⟨W3, hW3⟩ : ∃ W3, w2.setCell ⟨b, 1, none⟩ (.int .i64 6) = W3 := ⟨_, rfl⟩
  have ht3 : Touch (· = b) w2 W3 := by rw [← hW3]; exact touch_cell (Touch.refl _ _)
  have HU3 := Lib.hid (show Us W3 b U 6 1 false by rw [← hW3]; exact HU2.out.due 6)
  have HR3 := Lib.hid (HR2.out.other ht3 (fun k hk => HNB.out k hk))
  have HT3 := Lib.hid (touch_or2 HT2.out ht3)
  clear hr2 ht2 ht3
  go_wp2_with fail
  go_ret
  refine ⟨rfl, HU3.out, ?_, HT3.out⟩
  have := HR3.out
  rwa [show p + 24 + 24 = p + 48 by omega] at this
set_option maxRecDepth 100000 in
set_option maxHeartbeats 4000000 in
theorem usend (b rb : Nat) (rv : Value) (l : List UInt8) (dr sp p : Nat) (U : Int) (w : World) (h : Us w b U 6 1 false) (hr : IsReader w rb rv l dr sp p) (hb : b ≠ rb) (hnb : ∀ k, foot rb rv k → k ≠ b)
    (hs : dr + l.length ≤ 1000000) (hp : p + 32 = 8 * (dr + l.length)) (hc : num (((bitsOf l).drop (p - 8 * dr)).take 32) = 0) :
    Calls Tryz.prog 103 #[.pointer (some ⟨b, 0, none⟩), .pointer (some ⟨rb, 0, none⟩)] w fun e w' => e = .returned (.tuple #[.int .i64 2, .int .i64 0]) ∧ Us w' b U 0 1 true ∧ IsReader w' rb rv l dr sp (p + 32) ∧ Touch (fun k => k = b ∨ k = rb) w w' := by
  have HG := Lib.hid (get_any rb rv l dr sp p 32 w hr (by omega) (by omega) (by omega))
  rw [hc, show ((0 : Nat) : Int) = 0 from rfl, show ((32 : Nat) : Int) = 32 from rfl] at HG
  have HU := Lib.hid h
  have HB := Lib.hid hb
  have HNB := Lib.hid hnb
  clear h hr hb hnb hc
  go_enter Tryz.func103, Tryz.ntmps103
  go_wp2_with fail
  refine HG.out.mono ?_
  rintro e w1 ⟨rfl, hr1, ht1⟩
  have HU1 := Lib.hid (HU.out.touch ht1 (fun e => HB.out e))
  have HAL := Lib.hid (align_any rb rv l dr sp (p + 32) (p + 32) w1 hr1 (by omega) (by omega))
  have HT1 := Lib.hid ht1
  clear hr1 ht1
  go_wp2_with fail
  refine HAL.out.mono ?_
  rintro e w2 ⟨rfl, hr2, ht2⟩
  have HU2 := Lib.hid (HU1.out.touch ht2 (fun e => HB.out e))
  have HT2 := Lib.hid (HT1.out.trans ht2 (fun k hk => Or.inl hk))
  obtain ⟨c0, c1, c2, c3, c7, c8, c9⟩ := HU2.out.cells
  have f7 := HU2.out.frozen 7
  obtain ⟨W3, hW3⟩ : ∃ W3, w2.setCell ⟨b, 7, none⟩ (.int .u32 0) = W3 := ⟨_, rfl⟩
  have hU3 : Us W3 b U 6 1 false := by rw [← hW3]; exact HU2.out.fin
  have ht3 : Touch (· = b) w2 W3 := by rw [← hW3]; exact touch_cell (Touch.refl _ _)
  have f8 := hU3.frozen 8
  obtain ⟨_, _, _, _, _, e8, _⟩ := hU3.cells
  obtain ⟨W4, hW4⟩ : ∃ W4, W3.setCell ⟨b, 8, none⟩ (.bool true) = W4 := ⟨_, rfl⟩
  have hU4 : Us W4 b U 6 1 true := by rw [← hW4]; exact hU3.en_ true
  have ht4 : Touch (· = b) w2 W4 := by rw [← hW4]; exact touch_cell ht3
  have f1 := hU4.frozen 1
  obtain ⟨_, e1, _⟩ := hU4.cells
  obtain ⟨W5, hW5⟩ : ∃ W5, W4.setCell ⟨b, 1, none⟩ (.int .i64 0) = W5 := ⟨_, rfl⟩
  have HU5 := Lib.hid (show Us W5 b U 0 1 true by rw [← hW5]; exact hU4.due 0)
  have ht5 : Touch (· = b) w2 W5 := by rw [← hW5]; exact touch_cell ht4
  have HR5 := Lib.hid (hr2.other ht5 (fun k hk => HNB.out k hk))
  have HT5 := Lib.hid (touch_or2 HT2.out ht5)
  clear hr2 ht2 ht3 ht4 ht5 hU3 hU4
  go_wp2_with fail
  go_ret2
  exact ⟨rfl, HU5.out, HR5.out, HT5.out⟩
end Go.Proofs.YtnffkbpgcidpkaaGreatDoor
namespace Go.Proofs.YtnffkbpgcidpkaaGreatDoor
open Go.RowKit BitM
set_option linter.unusedVariables false
set_option linter.unusedSimpArgs false
set_option maxHeartbeats 2000000 in
theorem usstepL (d c : Int) {R : World → Prop} (b rb : Nat) (w : World) (c1 : w.cell? ⟨b, 1, none⟩ = some (.int .i64 d)) (h4 : (d == 4) = false) (h5 : (d == 5) = false) (h6 : (d == 6) = false)
    (hq : Calls Tryz.prog 104 #[.pointer (some ⟨b, 0, none⟩), .pointer (some ⟨rb, 0, none⟩)] w fun e w' => e = .returned (.int .i64 c) ∧ R w') :
    Calls Tryz.prog 79 #[.pointer (some ⟨b, 0, none⟩), .pointer (some ⟨rb, 0, none⟩)] w fun e w' => e = .returned (.tuple #[.int .i64 0, .int .i64 c]) ∧ R w' := by
  have HQ := Lib.hid hq
  clear hq
  go_enter Tryz.func79, Tryz.ntmps79
  go_wp2_with fail
  refine HQ.out.mono ?_
  rintro e w1 ⟨rfl, hR⟩
  have HR := Lib.hid hR
  clear hR
  go_wp2_with fail
  go_ret2
  exact ⟨rfl, HR.out⟩
set_option maxHeartbeats 2000000 in
theorem usstepM {R : World → Prop} (b rb : Nat) (w : World) (c1 : w.cell? ⟨b, 1, none⟩ = some (.int .i64 4))
    (hq : Calls Tryz.prog 101 #[.pointer (some ⟨b, 0, none⟩), .pointer (some ⟨rb, 0, none⟩)] w fun e w' => e = .returned (.int .i64 0) ∧ R w') :
    Calls Tryz.prog 79 #[.pointer (some ⟨b, 0, none⟩), .pointer (some ⟨rb, 0, none⟩)] w fun e w' => e = .returned (.tuple #[.int .i64 0, .int .i64 0]) ∧ R w' := by
  have HQ := Lib.hid hq
  clear hq
  go_enter Tryz.func79, Tryz.ntmps79
  go_wp2_with fail
  refine HQ.out.mono ?_
  rintro e w1 ⟨rfl, hR⟩
  have HR := Lib.hid hR
  clear hR
  go_wp2_with fail
  go_ret2
  exact ⟨rfl, HR.out⟩
set_option maxHeartbeats 2000000 in
theorem usstepE {R : World → Prop} (b rb : Nat) (w : World) (c1 : w.cell? ⟨b, 1, none⟩ = some (.int .i64 6))
    (hq : Calls Tryz.prog 103 #[.pointer (some ⟨b, 0, none⟩), .pointer (some ⟨rb, 0, none⟩)] w fun e w' => e = .returned (.tuple #[.int .i64 2, .int .i64 0]) ∧ R w') :
    Calls Tryz.prog 79 #[.pointer (some ⟨b, 0, none⟩), .pointer (some ⟨rb, 0, none⟩)] w fun e w' => e = .returned (.tuple #[.int .i64 2, .int .i64 0]) ∧ R w' := by
  have HQ := Lib.hid hq
  clear hq
  go_enter Tryz.func79, Tryz.ntmps79
  go_wp2_with fail
  refine HQ.out.mono ?_
  rintro e w1 ⟨rfl, hR⟩
  have HR := Lib.hid hR
  clear hR
  go_wp2_with fail
  go_ret2
  exact ⟨rfl, HR.out⟩
/-- What a step that is right leaves. -/
def UsP (w : World) (b rb : Nat) (rv : Value) (l : List UInt8) (dr sp p : Nat) (U due lev : Int) (en : Bool) (w' : World) : Prop := Us w' b U due lev en ∧ IsReader w' rb rv l dr sp p ∧ Touch (fun k => k = b ∨ k = rb) w w'
set_option maxHeartbeats 2000000 in
theorem usStep_ok (what : Int) (b rb : Nat) (rv : Value) (l : List UInt8) (dr sp p : Nat) (U d lv : Int) (en : Bool) (d2 lv2 : Int) (en2 : Bool) (w : World) (hU : (U == 0) = false) (h : Us w b U d lv en) (hnb : ∀ k, foot rb rv k → k ≠ b)
    (hq : Calls Tryz.prog 79 #[.pointer (some ⟨b, 0, none⟩), .pointer (some ⟨rb, 0, none⟩)] w fun e w' => e = .returned (.tuple #[.int .i64 what, .int .i64 0]) ∧ UsP w b rb rv l dr sp p U d2 lv2 en2 w') :
    Calls Tryz.prog 56 #[.pointer (some ⟨b, 0, none⟩), .pointer (some ⟨rb, 0, none⟩)] w fun e w' => e = .returned (.tuple #[.int .i64 what, .int .i64 0]) ∧ UsP w b rb rv l dr sp p U d2 lv2 en2 w' := by
  obtain ⟨c0, c1, c2, c3, c7, c8, c9⟩ := h.cells
  have HQ := Lib.hid hq
  have HNB := Lib.hid hnb
  clear hq h hnb
  go_enter Tryz.func56, Tryz.ntmps56
  go_wp2_with fail
  refine HQ.out.mono ?_
  rintro e w1 ⟨rfl, k1, k2, k3⟩
  obtain ⟨_, _, _, _, _, _, e9⟩ := k1.cells
  have f9 := k1.frozen 9
  obtain ⟨W2, hW2⟩ : ∃ W2, w1.setCell ⟨b, 9, none⟩ (.int .i64 0) = W2 := ⟨_, rfl⟩
  have ht2 : Touch (· = b) w1 W2 := by rw [← hW2]; exact touch_cell (Touch.refl _ _)
  have HZ := Lib.hid (show UsP w b rb rv l dr sp p U d2 lv2 en2 W2 from ⟨by rw [← hW2]; exact k1.ok, k2.other ht2 (fun k hk => HNB.out k hk), k3.trans ht2 (fun k hk => Or.inl (Or.inl hk))⟩)
  clear k1 k2 k3 ht2 c0 c1 c2 c3 c7 c8 c9
  go_wp2_with fail
  go_ret2
  exact ⟨rfl, HZ.out⟩
set_option maxHeartbeats 2000000 in
theorem usStep_short (b rb : Nat) (U d lv : Int) (en : Bool) (w : World) (hU : (U == 0) = false) (h : Us w b U d lv en)
    (hq : Calls Tryz.prog 79 #[.pointer (some ⟨b, 0, none⟩), .pointer (some ⟨rb, 0, none⟩)] w fun e w' => e = .returned (.tuple #[.int .i64 0, .int .i64 3]) ∧ ∃ n, w' = w.drewN n) :
    Calls Tryz.prog 56 #[.pointer (some ⟨b, 0, none⟩), .pointer (some ⟨rb, 0, none⟩)] w fun e w' => e = .returned (.tuple #[.int .i64 0, .int .i64 3]) ∧ ∃ n, w' = w.drewN n := by
  obtain ⟨c0, c1, c2, c3, c7, c8, c9⟩ := h.cells
  have HQ := Lib.hid hq
  clear hq h
  go_enter Tryz.func56, Tryz.ntmps56
  go_wp2_with fail
  refine HQ.out.mono ?_
  rintro e w1 ⟨rfl, n, rfl⟩
  go_wp2_with fail
  go_ret2
  exact ⟨rfl, n, rfl⟩
set_option maxHeartbeats 1000000 in
theorem usmay_any (b : Nat) (U lv : Int) (w : World) (h : Us w b U 0 lv true) : Calls Tryz.prog 58 #[.pointer (some ⟨b, 0, none⟩)] w fun e w' => e = .returned (.bool true) ∧ w' = w := by
  obtain ⟨c0, c1, c2, c3, c7, c8, c9⟩ := h.cells
  clear h
  go_enter Tryz.func58, Tryz.ntmps58
  go_wp2_with fail
  go_ret
  exact ⟨rfl, rfl⟩
end Go.Proofs.YtnffkbpgcidpkaaGreatDoor

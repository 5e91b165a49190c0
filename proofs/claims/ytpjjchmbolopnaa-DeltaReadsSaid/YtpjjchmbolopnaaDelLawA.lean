/-
  LAYER 11's STATEMENTS: three lengths; DeltaNil, DeltaWrites.
-/
import Derived.Test.YtpjjchmbolopnaaDelE
import Derived.Test.YtpjjchmbolopnaaDelB
import Derived.Test.YtpjjchmbolopnaaDelRef
import Derived.Test.YtpjjchmbolopnaaBitsPack
namespace Go.Proofs.Ytpjjchmbolopnaa
open Go.RowKit DelM BitM
set_option linter.unusedVariables false
theorem IsInts.other {w w' : World} {v : Value} {zs : List Int} (h : IsInts w v zs) {S : Nat → Prop} (ht : Touch S w w') (hS : ∀ k, v.ownBlock = some k → ¬ S k) : IsInts w' v zs := by
  obtain ⟨a, cap, rfl, hc⟩ := h
  refine ⟨a, cap, rfl, fun i x hx => ?_⟩
  obtain ⟨b, off, ha, hb⟩ := hc i x hx
  refine ⟨b, off, ha, ?_⟩
  rw [World.cell?_of_block (w := w) (a := ⟨b, off + i, none⟩) (ht.block b (cell_lt hb) (hS b (by rw [ha]; rfl)))]
  exact hb
theorem three_q : [] ++ allB [2, 1, 2] = [false, false, false, true, false, false, true, true, false, true, false, false] := by decide
theorem three_pad : byts ([false, false, false, true, false, false, true, true, false, true, false, false] ++ padding [false, false, false, true, false, false, true, true, false, true, false, false]) = [19, 64] := by decide
theorem three_rd : rd ((bitsOf [19, 64]).drop 0) 3 = .ok [2, 1, 2] 12 := by decide
theorem three_may : May [2, 1, 2] := ⟨by decide, by decide, by decide⟩
set_option maxRecDepth 100000 in
set_option maxHeartbeats 2000000 in
theorem delThree_any (w : World) : Calls Try.prog 9 #[] w fun e w' => e = .returned (.bool true) ∧ Below w.heap.size w w' := by
  have HM := Lib.hid three_may
  go_enter Try.func9, Try.ntmps9
  go_wp2_with fail
  refine (newWriter_any w).mono ?_
  rintro e w1 ⟨rfl, hw1, hb1⟩
  have W2 : Hid (IsWriter (w1.alloc (.cells #[.int .i64 2, .int .i64 1, .int .i64 2] 3)) w.heap.size (.slice none 0 0) [] 0) := Lib.hid (hw1.other (Touch.ofBelow (S := fun _ => False) ((Below.refl _ _).alloc (Nat.le_refl _) _)) (fun _ _ h => h))
  have I2 : Hid (IsInts (w1.alloc (.cells #[.int .i64 2, .int .i64 1, .int .i64 2] 3)) (.slice (some ⟨w1.heap.size, 0, none⟩) 3 3) [2, 1, 2]) := Lib.hid (ints_lit w1 2 1 2)
  have B2 : Hid (Below w.heap.size w (w1.alloc (.cells #[.int .i64 2, .int .i64 1, .int .i64 2] 3))) := Lib.hid (hb1.alloc hb1.size _)
  have hlt : Hid (w.heap.size < w1.heap.size) := Lib.hid (hw1.lt _ (Or.inl rfl)).1
  clear hw1 hb1
  go_wp2_with fail
  refine (dwrite_any w.heap.size _ _ [2, 1, 2] [] 0 _ W2.out (fun w' ht => I2.out.other ht (by
    intro k hk hf
    simp [Value.ownBlock] at hk
    subst hk
    rcases hf with h | h
    · have := hlt.out; omega
    · simp [Value.ownBlock] at h)) HM.out (by simp)).mono ?_
  rintro e w3 ⟨rfl, v3, hw3, ht3, _⟩
  rw [three_q] at hw3
  have W3 := Lib.hid hw3
  have B3 := Lib.hid (B2.out.trans (ht3.below B2.out.size (fun i hi => (W2.out.lt i hi).2)))
  clear hw3 ht3
  go_wp2_with fail
  refine (wlen_any _ _ _ _ w3 W3.out).mono ?_
  rintro e w' ⟨rfl, rfl⟩
  go_wp2_with fail
  refine (wpad_any _ _ _ _ w3 W3.out (by simp)).mono ?_
  rintro e w4 ⟨rfl, v4, hw4, ht4, _⟩
  have W4 := Lib.hid hw4
  have B4 := Lib.hid (B3.out.trans (ht4.below B3.out.size (fun i hi => (W3.out.lt i hi).2)))
  clear hw4 ht4
  go_wp2_with fail
  refine (wtake_any _ _ _ _ w4 W4.out).mono ?_
  rintro e w5 ⟨rfl, _, ht5⟩
  have B5 := Lib.hid (B4.out.trans (ht5.below B4.out.size (fun i hi => (W4.out.lt i hi).2)))
  rw [three_pad, List.drop_zero]
  clear ht5
  go_wp2_with fail
  refine (newReader_any _ w5 (by show 2 ≤ maxLen; decide)).mono ?_
  rintro e w6 ⟨b, v6, rfl, hr6, hb6, hf6⟩
  have R6 := Lib.hid hr6
  have B6 := Lib.hid (B5.out.trans (hb6.mono B5.out.size))
  have F6 := Lib.hid hf6
  have S5 := Lib.hid B5.out.size
  clear hr6 hb6 hf6
  go_wp2_with fail
  refine (dread_any b 3 v6 _ 0 0 0 w6 R6.out (by simp) (by omega) (by omega)).mono ?_
  rintro e w7 ⟨u, ls, err, k, rfl, hi7, hp7, hr7, ht7⟩
  have hp8 : RdP ((bitsOf [19, 64]).drop 0) 3 ls err k := hp7
  unfold RdP at hp8
  rw [three_rd] at hp8
  obtain ⟨rfl, rfl, rfl⟩ := hp8
  have HI7 := Lib.hid hi7
  have B7 := Lib.hid (B6.out.trans (ht7.below B6.out.size (fun i hi => by have h1 := F6.out b (Or.inl rfl); have h2 : i = b := hi; have h3 := S5.out; omega)))
  clear hp7 hr7 ht7 hi7
  have HI8 : Hid (IsInts (w7.alloc (.cells #[.int .i64 2, .int .i64 1, .int .i64 2] 3)) u [2, 1, 2]) := Lib.hid (HI7.out.alloc _)
  have I8 : Hid (IsInts (w7.alloc (.cells #[.int .i64 2, .int .i64 1, .int .i64 2] 3)) (.slice (some ⟨w7.heap.size, 0, none⟩) 3 3) [2, 1, 2]) := Lib.hid (ints_lit w7 2 1 2)
  have B8 := Lib.hid (B7.out.alloc B7.out.size (.cells #[.int .i64 2, .int .i64 1, .int .i64 2] 3))
  go_wp2_with fail
  refine (ints_any _ _ [2, 1, 2] [2, 1, 2] true _ HI8.out I8.out ⟨fun _ => rfl, fun _ => rfl⟩ (by simp) (by simp)).mono ?_
  rintro e w9 ⟨rfl, m9, hw9⟩
  have B9 : Hid (Below w.heap.size w w9) := Lib.hid (by rw [hw9]; exact B8.out.trans ⟨rfl, rfl, rfl, Nat.le_refl _, fun _ _ => rfl⟩)
  clear hw9
  go_wp2_with fail
  go_ret
  exact ⟨rfl, B9.out⟩
set_option maxRecDepth 100000 in
set_option maxHeartbeats 2000000 in
theorem deltaNil.walk (l : Option Addr) (llen lcap : Nat) (lz : List Int) (n : Int) (w : World) (hl : IsRow .i64 w l llen lcap lz) (hn : (Lit.int .i64 n).wf = true) :
    Calls Try.prog 7 #[.slice l llen lcap, .int .i64 n] w fun e w' => e = .returned (.bool true) ∧ Below w.heap.size w w' := by
  have H3 := Lib.hid (fun W => delThree_any W)
  clear hl hn
  go_enter Try.func7, Try.ntmps7
  go_wp2_with fail
  refine (dnew_yes 3 w (by omega) (by omega)).mono ?_
  rintro e w1 ⟨rfl, hd1, hb1⟩
  have HD1 := Lib.hid hd1
  have HB1 := Lib.hid hb1
  clear hd1 hb1
  go_wp2_with fail
  refine (dread_nil _ w1).mono ?_
  rintro e w2 ⟨rfl, rfl⟩
  go_wp2_with fail
  refine (dwrite_nil _ w2).mono ?_
  rintro e w3 ⟨rfl, rfl⟩
  go_wp2_with fail
  refine (newReader_any _ w3 (by show 1 ≤ maxLen; decide)).mono ?_
  rintro e w4 ⟨b, v4, rfl, hr4, hb4, hf4⟩
  have HB4 := Lib.hid (HB1.out.trans (hb4.mono HB1.out.size))
  clear hr4 hb4 hf4
  go_wp2_with fail
  refine (dstep_nild _ w4).mono ?_
  rintro e w5 ⟨rfl, hb5⟩
  have HB5 := Lib.hid (HB4.out.trans (hb5.mono HB4.out.size))
  clear hb5
  go_wp2_with fail
  refine (dstep_nilr _ w5).mono ?_
  rintro e w6 ⟨rfl, hb6⟩
  have HB6 := Lib.hid (HB5.out.trans (hb6.mono HB5.out.size))
  clear hb6
  go_wp2_with fail
  refine (ddone_nil w6).mono ?_
  rintro e w7 ⟨rfl, m, hw7⟩
  have HB7 : Hid (Below w.heap.size w w7) := Lib.hid (by rw [hw7]; exact HB6.out.trans ⟨rfl, rfl, rfl, Nat.le_refl _, fun _ _ => rfl⟩)
  clear hw7
  go_wp2_with fail
  refine (dlens_nil w7).mono ?_
  rintro e w8 ⟨rfl, rfl⟩
  go_wp2_with fail
  refine (H3.out _).mono ?_
  rintro e w9 ⟨rfl, hb9⟩
  have HB9 := Lib.hid (HB7.out.trans (hb9.mono HB7.out.size))
  clear hb9
  go_wp2_with fail
  go_ret
  exact ⟨rfl, HB9.out⟩
/-! ### DeltaWrites -/
def Fits (X : Nat) (n : Int) : Prop := ∃ m : Nat, n = (m : Int) ∧ m ≤ 32 ∧ X < 2 ^ m
theorem fits_not (X : Nat) (n : Int) (w : World) (h : ¬ Fits X n) (hX : X < 4294967296) : Calls Try.prog 8 #[.int .u32 (X : Int), .int .i64 n] w fun e w' => e = .returned (.bool false) ∧ w = w' := by
  by_cases h0 : n < 0 ∨ 32 < n
  · exact fits_out _ n w h0
  · obtain ⟨m, rfl⟩ : ∃ m : Nat, n = (m : Int) := ⟨n.toNat, by omega⟩
    refine fits_big X m w (by omega) ?_ hX
    rcases Nat.lt_or_ge X (2 ^ m) with h1 | h1
    · exact absurd ⟨m, rfl, by omega, h1⟩ h
    · exact h1
set_option maxRecDepth 100000 in
set_option maxHeartbeats 2000000 in
theorem deltaWrites.far (l : Option Addr) (llen lcap : Nat) (X : Nat) (n : Int) (w : World) (h : (60 < llen ∧ llen ≤ 258) ∨ ¬ Fits X n) (hX : X < 4294967296) :
    Calls Try.prog 3 #[.slice l llen lcap, .int .u32 (X : Int), .int .i64 n] w fun e w' => e = .returned (.bool true) ∧ Below w.heap.size w w' := by
  have H3 := Lib.hid (fun W => delThree_any W)
  by_cases hr : 60 < llen ∧ llen ≤ 258
  · have h1 : (60 : Int) < (llen : Int) := by omega
    have h2 : (llen : Int) ≤ 258 := by omega
    clear h hr
    go_enter Try.func3, Try.ntmps3
    go_wp2_with fail
    refine (H3.out _).mono ?_
    rintro e w9 ⟨rfl, hb9⟩
    have HB9 := Lib.hid hb9
    clear hb9
    go_wp2_with fail
    go_ret
    exact ⟨rfl, HB9.out⟩
  · have HF := Lib.hid (fits_not X n w (h.resolve_left hr) hX)
    by_cases h1 : 60 < llen
    · have h1i : (60 : Int) < (llen : Int) := by omega
      have h2i : ¬ (llen : Int) ≤ 258 := by omega
      clear h hr h1
      go_enter Try.func3, Try.ntmps3
      go_wp2_with fail
      refine HF.out.mono ?_
      rintro e w1 ⟨rfl, rfl⟩
      go_wp2_with fail
      refine (H3.out _).mono ?_
      rintro e w9 ⟨rfl, hb9⟩
      have HB9 := Lib.hid hb9
      clear hb9
      go_wp2_with fail
      go_ret
      exact ⟨rfl, HB9.out⟩
    · have h1i : ¬ (60 : Int) < (llen : Int) := by omega
      clear h hr h1
      go_enter Try.func3, Try.ntmps3
      go_wp2_with fail
      refine HF.out.mono ?_
      rintro e w1 ⟨rfl, rfl⟩
      go_wp2_with fail
      refine (H3.out _).mono ?_
      rintro e w9 ⟨rfl, hb9⟩
      have HB9 := Lib.hid hb9
      clear hb9
      go_wp2_with fail
      go_ret
      exact ⟨rfl, HB9.out⟩
set_option maxRecDepth 100000 in
set_option maxHeartbeats 2000000 in
theorem deltaWrites.bad (l : Option Addr) (llen lcap : Nat) (zs : List Int) (X m : Nat) (w : World) (hI : IsInts w (.slice l llen lcap) zs) (hlen : zs.length = llen) (hcap : llen ≤ 9223372036854775807) (h : llen ≤ 60 ∨ 258 < llen) (hm : m ≤ 32) (hf : X < 2 ^ m) (hX : X < 4294967296) (hmay : ¬ May zs) :
    Calls Try.prog 3 #[.slice l llen lcap, .int .u32 (X : Int), .int .i64 (m : Int)] w fun e w' => e = .returned (.bool true) ∧ Below w.heap.size w w' := by
  have H3 := Lib.hid (fun W => delThree_any W)
  have HF := Lib.hid (fits_yes X m w hm hf hX)
  have HI := Lib.hid hI
  have HMB := Lib.hid hmay
  have HLE := Lib.hid (show zs.length ≤ 9223372036854775807 by omega)
  have hfl : ([] ++ field X m).length = m := by rw [List.nil_append, field_length]
  have HFL := Lib.hid hfl
  clear hI hlen hmay hfl
  rcases h with h | h
  all_goals
    first
    | have h1i : ¬ (60 : Int) < (llen : Int) := by omega
    | (have h1i : (60 : Int) < (llen : Int) := by omega
       have h2i : ¬ (llen : Int) ≤ 258 := by omega)
    clear h
    go_enter Try.func3, Try.ntmps3
    go_wp2_with fail
    refine HF.out.mono ?_
    rintro e w1 ⟨rfl, rfl⟩
    go_wp2_with fail
    refine (newWriter_any w).mono ?_
    rintro e w2 ⟨rfl, hw2, hb2⟩
    have HW2 := Lib.hid hw2
    have HB2 := Lib.hid hb2
    clear hw2 hb2
    go_wp2_with fail
    refine (put_any w.heap.size _ [] 0 X m w2 HW2.out hm hf (by simp)).mono ?_
    rintro e w3 ⟨rfl, v3, hw3, ht3, _⟩
    have HW3 := Lib.hid hw3
    have HB3 := Lib.hid (HB2.out.trans (ht3.below HB2.out.size (fun i hi => (HW2.out.lt i hi).2)))
    have HI3 := Lib.hid (HI.out.below HB3.out)
    clear hw3 ht3
    go_wp2_with fail
    refine (dwrite_no _ _ zs w3 HI3.out HMB.out HLE.out).mono ?_
    rintro e w4 ⟨rfl, rfl⟩
    go_wp2_with fail
    refine (dbits_no _ zs _ HI3.out HMB.out HLE.out).mono ?_
    rintro e w5 ⟨rfl, rfl⟩
    go_wp2_with fail
    refine (rmay11_any _ zs false _ HI3.out ⟨fun e => (by cases e), fun e => absurd e HMB.out⟩ HLE.out).mono ?_
    rintro e w6 ⟨rfl, rfl⟩
    go_wp2_with fail
    refine (wlen_any _ _ _ _ _ HW3.out).mono ?_
    rintro e w7 ⟨rfl, rfl⟩
    rw [HFL.out]
    go_wp2_with fail
    refine (H3.out _).mono ?_
    rintro e w9 ⟨rfl, hb9⟩
    have HB9 := Lib.hid (HB3.out.trans (hb9.mono HB3.out.size))
    clear hb9
    go_wp2_with fail
    go_ret
    exact ⟨rfl, HB9.out⟩
set_option maxRecDepth 100000 in
set_option maxHeartbeats 2000000 in
theorem deltaWrites.good (l : Option Addr) (llen lcap : Nat) (zs : List Int) (X m : Nat) (w : World) (hI : IsInts w (.slice l llen lcap) zs) (hlen : zs.length = llen) (h : llen ≤ 60) (hm : m ≤ 32) (hf : X < 2 ^ m) (hX : X < 4294967296) (hmay : May zs) :
    Calls Try.prog 3 #[.slice l llen lcap, .int .u32 (X : Int), .int .i64 (m : Int)] w fun e w' => e = .returned (.bool true) ∧ Below w.heap.size w w' := by
  have H3 := Lib.hid (fun W => delThree_any W)
  have HF := Lib.hid (fun W => fits_yes X m W hm hf hX)
  have HFT := Lib.hid (fun W => fieldTxt_any X m W hm hX)
  have HI := Lib.hid hI
  have HMB := Lib.hid hmay
  have HLE := Lib.hid (show zs.length ≤ 9223372036854775807 by omega)
  have h1i : ¬ (60 : Int) < (llen : Int) := by omega
  have hal : Hid ((allB zs).length ≤ 20000) := Lib.hid (by
    have h1 := (encK_le hmay (k := zs.length) (Nat.le_refl _)).1
    rw [allB_length]
    omega)
  obtain ⟨Q, hQ⟩ : ∃ Q, field X m ++ allB zs = Q := ⟨_, rfl⟩
  have HQ := Lib.hid hQ
  have HQL : Hid (Q.length ≤ 30000) := Lib.hid (by rw [← hQ, List.length_append, field_length]; have := hal.out; omega)
  have HPK := Lib.hid (fun W => pack_any Q W (by have := HQL.out; omega))
  have hs1 : (txt (field X m)).size ≤ 40 := by rw [txt_size, field_length]; omega
  have hs2 : (txt (allB zs)).size ≤ 20000 := by rw [txt_size]; exact hal.out
  have HTT : Hid (txt (field X m) ++ txt (allB zs) = txt Q) := Lib.hid (by rw [txt_append, hQ])
  have hlb : ((allB zs).length : Int) = ((txt (allB zs)).size : Int) := by rw [txt_size]
  have HRB := Lib.hid (fun W (hv : IsInts W (.slice l llen lcap) zs) => rbits11_any _ zs W hv hmay)
  have HDB := Lib.hid (fun W (hv : IsInts W (.slice l llen lcap) zs) => dbits_any _ zs W hv hmay)
  rw [hlb] at HDB
  clear hI hlen hmay hlb hQ h
  generalize hS1 : txt (field X m) = S1 at *
  generalize hS2 : txt (allB zs) = S2 at *
  clear hS1 hS2
  go_enter Try.func3, Try.ntmps3
  go_wp2_with fail
  refine (HF.out _).mono ?_
  rintro e w1 ⟨rfl, rfl⟩
  go_wp2_with fail
  refine (newWriter_any w).mono ?_
  rintro e w2 ⟨rfl, hw2, hb2⟩
  have HW2 := Lib.hid hw2
  have HB2 := Lib.hid hb2
  clear hw2 hb2
  go_wp2_with fail
  refine (put_any w.heap.size _ [] 0 X m w2 HW2.out hm hf (by simp)).mono ?_
  rintro e w3 ⟨rfl, v3, hw3, ht3, _⟩
  have HW3 := Lib.hid hw3
  have HB3 := Lib.hid (HB2.out.trans (ht3.below HB2.out.size (fun i hi => (HW2.out.lt i hi).2)))
  clear hw3 ht3
  go_wp2_with fail
  refine (dwrite_any _ v3 _ zs _ 0 w3 HW3.out (fun w' ht => HI.out.below (HB3.out.trans (ht.below HB3.out.size (fun i hi => (HW3.out.lt i hi).2)))) HMB.out (by rw [List.nil_append, field_length]; omega)).mono ?_
  rintro e w4 ⟨rfl, v4, hw4, ht4, _⟩
  rw [List.nil_append, HQ.out] at hw4
  have HW4 := Lib.hid hw4
  have HB4 := Lib.hid (HB3.out.trans (ht4.below HB3.out.size (fun i hi => (HW3.out.lt i hi).2)))
  clear hw4 ht4
  go_wp2_with fail
  refine (HDB.out w4 (HI.out.below HB4.out)).mono ?_
  rintro e w5 ⟨rfl, k5, hw5⟩
  have HW5 : Hid (IsWriter w5 w.heap.size v4 Q 0) := Lib.hid (by rw [hw5]; exact HW4.out.other (touch_drewN (fun _ => False) _ k5) (fun _ _ h => h))
  have HB5 : Hid (Below w.heap.size w w5) := Lib.hid (by rw [hw5]; exact HB4.out.trans ⟨rfl, rfl, rfl, Nat.le_refl _, fun _ _ => rfl⟩)
  clear hw5
  go_wp2_with fail
  refine (rmay11_any _ zs true _ (HI.out.below HB5.out) ⟨fun _ => HMB.out, fun _ => rfl⟩ HLE.out).mono ?_
  rintro e w6 ⟨rfl, rfl⟩
  go_wp2_with fail
  refine (HRB.out _ (HI.out.below HB5.out)).mono ?_
  rintro e w7 ⟨rfl, rfl⟩
  go_wp2_with fail
  refine (wpad_any _ v4 Q 0 _ HW5.out (by have := HQL.out; omega)).mono ?_
  rintro e w8 ⟨rfl, v8, h8a, h8b, h8c⟩
  have HW8 := Lib.hid h8a
  have HB8 := Lib.hid (HB5.out.trans (h8b.below HB5.out.size (fun i hi => (HW5.out.lt i hi).2)))
  clear h8a h8b h8c
  go_wp2_with fail
  refine (wtake_any _ v8 _ 0 w8 HW8.out).mono ?_
  rintro e w9 ⟨rfl, _, h9b⟩
  have HB9 := Lib.hid (HB8.out.trans (h9b.below HB8.out.size (fun i hi => (HW8.out.lt i hi).2)))
  rw [List.drop_zero]
  clear h9b
  go_wp2_with fail
  refine (HFT.out _).mono ?_
  rintro e w10 ⟨rfl, rfl⟩
  go_wp2_with fail
  rw [HTT.out]
  refine (HPK.out _).mono ?_
  rintro e w11 ⟨rfl, hb11⟩
  have HB11 := Lib.hid (HB9.out.trans (hb11.mono HB9.out.size))
  clear hb11
  generalize (⟨(byts (Q ++ padding Q)).toArray⟩ : ByteArray) = T at *
  go_wp2_with fail
  refine (H3.out _).mono ?_
  rintro e w12 ⟨rfl, hb12⟩
  have HB12 := Lib.hid (HB11.out.trans (hb12.mono HB11.out.size))
  clear hb12
  go_wp2_with fail
  go_ret
  exact ⟨rfl, HB12.out⟩
theorem deltaWrites.walk (l : Option Addr) (llen lcap : Nat) (lz : List Int) (v n : Int) (w : World) (hl : IsRow .i64 w l llen lcap lz) (hv : (Lit.int .u32 v).wf = true) (hn : (Lit.int .i64 n).wf = true) :
    Calls Try.prog 3 #[.slice l llen lcap, .int .u32 v, .int .i64 n] w fun e w' => e = .returned (.bool true) ∧ Below w.heap.size w w' := by
  obtain ⟨hI, hlen⟩ := ints_in hl
  obtain ⟨hl1, hl2⟩ := isRow_len hl
  generalize List.take llen lz = zs at *
  simp only [Lit.wf, Bool.and_eq_true, decide_eq_true_eq] at hv
  have hv2 : 0 ≤ v ∧ v ≤ 4294967295 := hv
  clear hv
  obtain ⟨X, rfl⟩ : ∃ X : Nat, v = (X : Int) := ⟨v.toNat, by omega⟩
  have hX : X < 4294967296 := by omega
  by_cases hfar : (60 < llen ∧ llen ≤ 258) ∨ ¬ Fits X n
  · exact deltaWrites.far l llen lcap X n w hfar hX
  · have hfit : Fits X n := Classical.not_not.1 (fun h => hfar (Or.inr h))
    have hr : llen ≤ 60 ∨ 258 < llen := by
      have : ¬ (60 < llen ∧ llen ≤ 258) := fun h => hfar (Or.inl h)
      omega
    obtain ⟨m, rfl, hm, hf⟩ := hfit
    by_cases hmay : May zs
    · have h1 := hmay.2.1
      exact deltaWrites.good l llen lcap zs X m w hI hlen (by omega) hm hf hX hmay
    · exact deltaWrites.bad l llen lcap zs X m w hI hlen (by omega) hr hm hf hX hmay
end Go.Proofs.Ytpjjchmbolopnaa

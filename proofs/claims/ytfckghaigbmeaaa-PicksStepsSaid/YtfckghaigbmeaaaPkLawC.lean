/-
  LAYER 13's STATEMENTS: PicksBack, PicksReads.
-/
import Derived.Test.YtfckghaigbmeaaaPkLawA
import Derived.Test.YtfckghaigbmeaaaPkRefB
import Derived.Deep.Cut
import Derived.BigRegion
import Derived.BigQuiet
namespace Go.Proofs.Ytfckghaigbmeaaa
open Go.RowKit PkM BitM
set_option linter.unusedVariables false
set_option maxRecDepth 100000 in
set_option maxHeartbeats 2000000 in
theorem picksBack.far (l : Option Addr) (llen lcap : Nat) (zs : List Int) (t : Int) (s : ByteArray) (w : World) (hI : IsInts w (.slice l llen lcap) zs) (hle : zs.length ≤ 9223372036854775807) (hs : s.size ≤ maxLen) (h : 300 < llen ∨ 100 < s.size ∨ ¬ MayI zs t) :
    Calls Try.prog 6 #[.slice l llen lcap, .int .i64 t, .string s] w fun e w' => e = .returned (.bool true) ∧ Below w.heap.size w w' := by
  have H3 := Lib.hid (fun W => pkThree_any W)
  unfold maxLen at hs
  by_cases h0 : 300 < llen
  · have h0i : (300 : Int) < (llen : Int) := by omega
    clear h hI
    go_enter Try.func6, Try.ntmps6
    go_wp2_with fail
    refine (H3.out _).mono ?_
    rintro e w9 ⟨rfl, hb9⟩
    have HB9 := Lib.hid hb9
    clear hb9
    go_wp2_with fail
    go_ret
    exact ⟨rfl, HB9.out⟩
  have h0i : ¬ (300 : Int) < (llen : Int) := by omega
  by_cases h1 : 100 < s.size
  · have h1i : (100 : Int) < (s.size : Int) := by omega
    clear h hI
    go_enter Try.func6, Try.ntmps6
    go_wp2_with fail
    refine (H3.out _).mono ?_
    rintro e w9 ⟨rfl, hb9⟩
    have HB9 := Lib.hid hb9
    clear hb9
    go_wp2_with fail
    go_ret
    exact ⟨rfl, HB9.out⟩
  · have h1i : ¬ (100 : Int) < (s.size : Int) := by omega
    have HM := Lib.hid (rmay13_any _ zs t false w hI ⟨fun e => (by cases e), fun e => absurd e ((h.resolve_left h0).resolve_left h1)⟩ hle)
    clear h hI
    go_enter Try.func6, Try.ntmps6
    go_wp2_with fail
    refine HM.out.mono ?_
    rintro e w1 ⟨rfl, rfl⟩
    go_wp2_with fail
    refine (H3.out _).mono ?_
    rintro e w9 ⟨rfl, hb9⟩
    have HB9 := Lib.hid hb9
    clear hb9
    go_wp2_with fail
    go_ret
    exact ⟨rfl, HB9.out⟩
set_option maxRecDepth 100000 in
set_option maxHeartbeats 2000000 in
theorem picksBack.good (l : Option Addr) (llen lcap : Nat) (ps : List Nat) (t : Nat) (s : ByteArray) (w : World) (hI : IsInts w (.slice l llen lcap) (toI ps)) (hlen : (toI ps).length = llen) (hl3 : llen ≤ 300) (hs : s.size ≤ 100) (hmay : May ps t) :
    Calls Try.prog 6 #[.slice l llen lcap, .int .i64 (t : Int), .string s] w fun e w' => e = .returned (.bool true) ∧ Below w.heap.size w w' := by
  have H3 := Lib.hid (fun W => pkThree_any W)
  have HI := Lib.hid hI
  have HMB := Lib.hid hmay
  have HLE := Lib.hid (show (toI ps).length ≤ 9223372036854775807 by omega)
  have h0i : ¬ (300 : Int) < (llen : Int) := by omega
  have h1i : ¬ (100 : Int) < (s.size : Int) := by omega
  have hpl : ps.length ≤ 300 := by rw [← toI_length, hlen]; exact hl3
  have hek := encK_len ps hmay.2.1 hmay.2.2.2.2 ps.length (Nat.le_refl _)
  have hal : (allB ps t).length = 18 + (encK ps ps.length).length := enc_all
  have hRD : Hid (∀ q, rd (allB ps t ++ q) = .ok ps (allB ps t).length ∧ num ((allB ps t ++ q).take 3) = t) := Lib.hid (fun q => ⟨(rd_all hmay q).1, (rd_all hmay q).2.1⟩)
  obtain ⟨Q, hQ⟩ : ∃ Q, allB ps t = Q := ⟨_, rfl⟩
  have HQ := Lib.hid hQ
  obtain ⟨L, hL⟩ : ∃ L, Q.length = L := ⟨_, rfl⟩
  have HL := Lib.hid hL
  have hLb : L ≤ 20000 := by rw [hQ, hL] at hal; omega
  rw [hQ, hL] at hRD
  have hTS : (⟨(byts (Q ++ padding Q)).toArray⟩ : ByteArray).size ≤ 2600 := by
    show (byts (Q ++ padding Q)).length ≤ _
    obtain ⟨n, hn1, hn2⟩ := pad_bytes Q
    rw [byts_length]
    omega
  have HTB := Lib.hid (taken_bits Q s)
  obtain ⟨T, hT⟩ : ∃ T : ByteArray, (⟨(byts (Q ++ padding Q)).toArray⟩ : ByteArray) = T := ⟨_, rfl⟩
  have HT := Lib.hid hT
  rw [hT] at hTS HTB
  have hcs : (T ++ s).size = T.size + s.size := by
    show (T ++ s).data.size = _
    rw [ByteArray.data_append, Array.size_append]
    rfl
  have HCS := Lib.hid hcs
  clear hI hlen hmay hek hal hQ hL hT hcs hpl
  go_enter Try.func6, Try.ntmps6
  go_wp2_with fail
  refine (rmay13_any _ (toI ps) (t : Int) true w HI.out ⟨fun _ => HMB.out.int, fun _ => rfl⟩ HLE.out).mono ?_
  rintro e w1 ⟨rfl, rfl⟩
  go_wp2_with fail
  refine (newWriter_any w1).mono ?_
  rintro e w2 ⟨rfl, hw2, hb2⟩
  have HW2 := Lib.hid hw2
  have HB2 := Lib.hid hb2
  clear hw2 hb2
  go_wp2_with fail
  refine (pwrite_any _ _ _ ps t _ 0 w2 HW2.out (fun w' ht => HI.out.below (HB2.out.trans (ht.below HB2.out.size (fun i hi => (HW2.out.lt i hi).2)))) HMB.out (by simp)).mono ?_
  rintro e w4 ⟨rfl, v4, hw4, ht4, _⟩
  rw [List.nil_append, HQ.out] at hw4
  have HW4 := Lib.hid hw4
  have HB4 := Lib.hid (HB2.out.trans (ht4.below HB2.out.size (fun i hi => (HW2.out.lt i hi).2)))
  clear hw4 ht4
  go_wp2_with fail
  refine (wlen_any _ v4 Q 0 w4 HW4.out).mono ?_
  rintro e w5 ⟨rfl, rfl⟩
  rw [HL.out]
  go_wp2_with fail
  refine (wpad_any _ v4 Q 0 _ HW4.out (by have := HL.out; omega)).mono ?_
  rintro e w8 ⟨rfl, v8, h8a, h8b, h8c⟩
  have HW8 := Lib.hid h8a
  have HB8 := Lib.hid (HB4.out.trans (h8b.below HB4.out.size (fun i hi => (HW4.out.lt i hi).2)))
  clear h8a h8b h8c
  go_wp2_with fail
  refine (wtake_any _ v8 _ 0 w8 HW8.out).mono ?_
  rintro e w9 ⟨rfl, _, h9b⟩
  have HB9 := Lib.hid (HB8.out.trans (h9b.below HB8.out.size (fun i hi => (HW8.out.lt i hi).2)))
  rw [List.drop_zero, HT.out]
  clear h9b
  go_wp2_with fail
  refine (newReader_any _ w9 (by rw [HCS.out]; unfold maxLen; omega)).mono ?_
  rintro e w10 ⟨b, v10, rfl, hr10, hb10, hf10⟩
  have HR10 := Lib.hid hr10
  have HB10 := Lib.hid (HB9.out.trans (hb10.mono HB9.out.size))
  have HF10 := Lib.hid (hf10 b (Or.inl rfl))
  have HS9 := Lib.hid HB9.out.size
  have HLL : Hid ((T ++ s).data.toList.length = T.size + s.size) := Lib.hid HCS.out
  clear hr10 hb10 hf10
  go_wp2_with fail
  refine (pread_any b v10 _ 0 0 0 w10 HR10.out (by have := HLL.out; omega)).mono ?_
  rintro e w11 ⟨u, ls, t2, err, k, rfl, hi11, hp11, hr11, ht11⟩
  have hp12 : PkRd (bitsOf (T ++ s).data.toList) ls t2 err k := hp11
  unfold PkRd at hp12
  rw [HTB.out, (hRD.out _).1, (hRD.out _).2] at hp12
  obtain ⟨rfl, rfl, rfl, rfl⟩ := hp12
  have HI11 := Lib.hid hi11
  have hz0 : 0 + k = k := Nat.zero_add k
  rw [hz0] at hr11
  have HR11 := Lib.hid hr11
  have HB11 := Lib.hid (HB10.out.trans (ht11.below HB10.out.size (fun i hi => by have h1 := HF10.out; have h2 : i = b := hi; have h3 := HS9.out; omega)))
  clear hp11 hr11 ht11 hi11 hz0
  go_wp2_with fail
  refine (ints_any _ _ (toI ls) (toI ls) true _ (HI.out.below HB11.out) HI11.out ⟨fun _ => rfl, fun _ => rfl⟩ HLE.out HLE.out).mono ?_
  rintro e w12 ⟨rfl, m12, hw12⟩
  have HR12 : Hid (IsReader w12 b v10 (T ++ s).data.toList 0 0 k) := Lib.hid (by rw [hw12]; exact HR11.out.drewN m12)
  have HB12 : Hid (Below w1.heap.size w1 w12) := Lib.hid (by rw [hw12]; exact HB11.out.trans ⟨rfl, rfl, rfl, Nat.le_refl _, fun _ _ => rfl⟩)
  clear hw12
  go_wp2_with fail
  refine (rat_any b v10 _ 0 0 k w12 HR12.out).mono ?_
  rintro e w13 ⟨rfl, rfl⟩
  go_wp2_with fail
  refine (H3.out _).mono ?_
  rintro e w14 ⟨rfl, hb14⟩
  have HB14 := Lib.hid (HB12.out.trans (hb14.mono HB12.out.size))
  clear hb14
  go_wp2_with fail
  go_ret
  exact ⟨rfl, HB14.out⟩
theorem picksBack.walk (l : Option Addr) (llen lcap : Nat) (lz : List Int) (t : Int) (s : ByteArray) (w : World) (hl : IsRow .i64 w l llen lcap lz) (ht : (Lit.int .i64 t).wf = true) (hs : s.size ≤ maxLen) :
    Calls Try.prog 6 #[.slice l llen lcap, .int .i64 t, .string s] w fun e w' => e = .returned (.bool true) ∧ Below w.heap.size w w' := by
  obtain ⟨hI, hlen⟩ := ints_in hl
  obtain ⟨hl1, hl2⟩ := isRow_len hl
  generalize List.take llen lz = zs at *
  by_cases h : 300 < llen ∨ 100 < s.size ∨ ¬ MayI zs t
  · exact picksBack.far l llen lcap zs t s w hI (by omega) hs h
  · have hm : MayI zs t := Classical.not_not.1 (fun e => h (Or.inr (Or.inr e)))
    have h1 : llen ≤ 300 := Nat.not_lt.1 (fun e => h (Or.inl e))
    have h2 : s.size ≤ 100 := Nat.not_lt.1 (fun e => h (Or.inr (Or.inl e)))
    obtain ⟨ps, T, rfl, rfl, hp⟩ := hm.nat
    exact picksBack.good l llen lcap ps T s w hI hlen h1 h2 hp
/-! ### PicksReads -/
theorem same13 {Q : List Bool} {ps ps2 : List Nat} {t t2 k k2 to : Nat} {err err2 : Int} (h : PkRd Q ps t err k) (h2 : GotP Q ps2 t2 k2 to err2) : ps2 = ps ∧ t2 = t ∧ k2 = k ∧ err2 = err := by
  unfold PkRd at h
  unfold GotP at h2
  cases hr : rd Q with
  | short =>
    rw [hr] at h h2
    obtain ⟨rfl, rfl, rfl, rfl⟩ := h
    obtain ⟨rfl, rfl, rfl, rfl, rfl⟩ := h2
    exact ⟨rfl, rfl, rfl, rfl⟩
  | bad n =>
    rw [hr] at h h2
    obtain ⟨rfl, rfl, rfl, rfl⟩ := h
    obtain ⟨rfl, rfl, rfl, _, rfl⟩ := h2
    exact ⟨rfl, rfl, rfl, rfl⟩
  | ok l n =>
    rw [hr] at h h2
    obtain ⟨rfl, rfl, rfl, rfl⟩ := h
    obtain ⟨rfl, rfl, rfl, _, rfl⟩ := h2
    exact ⟨rfl, rfl, rfl, rfl⟩
theorem got_len {Q : List Bool} {ps : List Nat} {t k to : Nat} {err : Int} (h : GotP Q ps t k to err) : ps.length ≤ 32767 ∧ t ≤ 7 ∧ k ≤ Q.length := by
  unfold GotP at h
  cases hr : rd Q with
  | short =>
    rw [hr] at h
    obtain ⟨rfl, rfl, rfl, rfl, rfl⟩ := h
    exact ⟨Nat.zero_le _, Nat.zero_le _, Nat.zero_le _⟩
  | bad n =>
    rw [hr] at h
    obtain ⟨rfl, rfl, rfl, _, rfl⟩ := h
    exact ⟨Nat.zero_le _, Nat.zero_le _, Nat.zero_le _⟩
  | ok l n =>
    rw [hr] at h
    obtain ⟨rfl, rfl, rfl, _, rfl⟩ := h
    unfold rd at hr
    split at hr
    · cases hr
    · rename_i h18
      obtain ⟨_, n2, n3⟩ := num18 (q := Q) (by omega)
      split at hr
      · cases hr
      · generalize hx : run (num (Q.take 3)) (Q.drop 18) (num ((Q.drop 3).take 15)) [0, 1, 2, 3, 4, 5] = x at hr
        cases x with
        | ok l' n' =>
          have h5 := run_len _ _ _ _ _ hx
          rw [List.length_drop] at h5
          simp only [Res.add, Res.ok.injEq] at hr
          obtain ⟨rfl, rfl⟩ := hr
          simp only [List.nil_append]
          omega
        | bad _ => cases hr
        | short => cases hr
set_option maxRecDepth 100000 in
set_option maxHeartbeats 2000000 in
theorem picksReads.far (s : ByteArray) (a : Int) (w : World) (hs : s.size ≤ maxLen) (h : 100 < s.size ∨ a < 0 ∨ 8 * (s.size : Int) < a) :
    Calls Try.prog 4 #[.string s, .int .i64 a] w fun e w' => e = .returned (.bool true) ∧ Below w.heap.size w w' := by
  have H3 := Lib.hid (fun W => pkThree_any W)
  unfold maxLen at hs
  by_cases h1 : 100 < s.size
  · have h1i : (100 : Int) < (s.size : Int) := by omega
    clear h
    go_enter Try.func4, Try.ntmps4
    go_wp2_with fail
    refine (H3.out _).mono ?_
    rintro e w9 ⟨rfl, hb9⟩
    have HB9 := Lib.hid hb9
    clear hb9
    go_wp2_with fail
    go_ret
    exact ⟨rfl, HB9.out⟩
  have h1i : ¬ (100 : Int) < (s.size : Int) := by omega
  by_cases h2 : a < 0
  · clear h
    go_enter Try.func4, Try.ntmps4
    go_wp2_with fail
    refine (H3.out _).mono ?_
    rintro e w9 ⟨rfl, hb9⟩
    have HB9 := Lib.hid hb9
    clear hb9
    go_wp2_with fail
    go_ret
    exact ⟨rfl, HB9.out⟩
  · have h3 : 8 * (s.size : Int) < a := by omega
    clear h
    go_enter Try.func4, Try.ntmps4
    go_wp2_with fail
    refine (H3.out _).mono ?_
    rintro e w9 ⟨rfl, hb9⟩
    have HB9 := Lib.hid hb9
    clear hb9
    go_wp2_with fail
    go_ret
    exact ⟨rfl, HB9.out⟩
set_option maxRecDepth 100000 in
set_option maxHeartbeats 4000000 in
theorem picksReads.good (s : ByteArray) (a : Nat) (w : World) (hs : s.size ≤ 100) (ha : a ≤ 8 * s.size) :
    Calls Try.prog 4 #[.string s, .int .i64 (a : Int)] w fun e w' => e = .returned (.bool true) ∧ Below w.heap.size w w' := by
  have H3 := Lib.hid (fun W => pkThree_any W)
  have hll : s.data.toList.length = s.size := rfl
  have h1 : ¬ (100 : Int) < (s.size : Int) := by omega
  have h2 : ¬ 8 * (s.size : Int) < (a : Int) := by omega
  have HLL := Lib.hid hll
  have HBT := Lib.hid (fun W => bitsTxt_any s W (by omega))
  have hBL : (bitsOf s.data.toList).length = 8 * s.size := by rw [bitsOf_length, hll]
  have HTD := Lib.hid (txt_drop (bitsOf s.data.toList) a (by omega))
  have hts : (txt (bitsOf s.data.toList)).size = 8 * s.size := by rw [txt_size, hBL]
  have hQl : ((bitsOf s.data.toList).drop a).length ≤ 800 := by rw [List.length_drop]; omega
  have HQL := Lib.hid hQl
  have HRR := Lib.hid (fun W => rread13_any ((bitsOf s.data.toList).drop a) W (by omega))
  have hal : (a : Int) ≤ ((txt (bitsOf s.data.toList)).size : Int) := by omega
  have hab : (txt (bitsOf s.data.toList)).size ≤ 800 := by omega
  generalize hS : txt (bitsOf s.data.toList) = S at *
  clear hll hBL hQl hts hS
  go_enter Try.func4, Try.ntmps4
  go_wp2_with fail
  refine (newReader_any s w (by unfold maxLen; omega)).mono ?_
  rintro e w1 ⟨b, v1, rfl, hr1, hb1, hf1⟩
  have HR1 := Lib.hid hr1
  have HB1 := Lib.hid hb1
  have HF1 := Lib.hid (hf1 b (Or.inl rfl))
  clear hr1 hb1 hf1
  go_wp2_with fail
  refine (seek_yes b v1 _ 0 0 0 a w1 HR1.out (by have := HLL.out; omega) (by omega) (by have := HLL.out; omega)).mono ?_
  rintro e w2 ⟨rfl, hr2, ht2⟩
  have HR2 := Lib.hid hr2
  have HB2 := Lib.hid (HB1.out.trans (ht2.below HB1.out.size (fun i hi => by have h1 := HF1.out; have h2 : i = b := hi; omega)))
  clear hr2 ht2
  go_wp2_with fail
  refine (pread_any b v1 _ 0 0 a w2 HR2.out (by have := HLL.out; omega)).mono ?_
  rintro e w3 ⟨u, ps, t, err, k, rfl, hi3, hp3, hr3, ht3⟩
  have HP3 : Hid (PkRd ((bitsOf s.data.toList).drop a) ps t err k) := Lib.hid hp3
  have HI3 := Lib.hid hi3
  have HR3 := Lib.hid hr3
  have HB3 := Lib.hid (HB2.out.trans (ht3.below HB2.out.size (fun i hi => by have h1 := HF1.out; have h2 : i = b := hi; omega)))
  clear hi3 hp3 hr3 ht3
  go_wp2_with fail
  refine (HBT.out _).mono ?_
  rintro e w5 ⟨rfl, rfl⟩
  go_wp2_with fail
  rw [HTD.out]
  refine (HRR.out _).mono ?_
  rintro e w6 ⟨u2, ps2, t2, k2, to2, err2, rfl, hi6, hb6, hp6, _⟩
  obtain ⟨rfl, rfl, rfl, rfl⟩ := same13 HP3.out hp6
  have hls := got_len hp6
  have hpl := Lib.hid (toI_length ps2)
  obtain ⟨au, cu, rfl, hcu⟩ := hi6
  have HI6 : Hid (IsInts w6 (.slice au (toI ps2).length cu) (toI ps2)) := Lib.hid ⟨au, cu, rfl, hcu⟩
  have HI36 := Lib.hid (HI3.out.below hb6)
  have HR6 := Lib.hid (HR3.out.other (Touch.ofBelow (S := fun _ => False) hb6) (fun _ _ h => h))
  have HB6 := Lib.hid (HB3.out.trans (hb6.mono HB3.out.size))
  clear hcu hb6 hp6
  have hb7 := (Below.refl w6.heap.size w6).alloc (Nat.le_refl _) (.cells #[.slice au (toI ps2).length cu, .int .i64 (t2 : Int), .int .i64 (k2 : Int), .int .i64 (to2 : Int), .int .i64 err2] 47)
  have HI7 := Lib.hid (HI6.out.below hb7)
  have HI37 := Lib.hid (HI36.out.below hb7)
  have HR7 := Lib.hid (HR6.out.other (Touch.ofBelow (S := fun _ => False) hb7) (fun _ _ h => h))
  have HB7 := Lib.hid (HB6.out.trans (hb7.mono HB6.out.size))
  have hg7 := heap_alloc_new w6 (.cells #[.slice au (toI ps2).length cu, .int .i64 (t2 : Int), .int .i64 (k2 : Int), .int .i64 (to2 : Int), .int .i64 err2] 47)
  clear hb7 HI6 HI36 HR6
  go_upto_region 7 with fail
  generalize hW7 : w6.alloc (.cells #[.slice au (toI ps2).length cu, .int .i64 (t2 : Int), .int .i64 (k2 : Int), .int .i64 (to2 : Int), .int .i64 err2] 47) = W7 at *
  generalize hG : w6.heap.size = G at *
  have d0 : W7.cell? ⟨G, 0, none⟩ = some (.slice au (toI ps2).length cu) := by rw [cell_of_row _ _ _ _ _ _ hg7]; rfl
  have d1 : W7.cell? ⟨G, 1, none⟩ = some (.int .i64 (t2 : Int)) := by rw [cell_of_row _ _ _ _ _ _ hg7]; rfl
  have d2 : W7.cell? ⟨G, 2, none⟩ = some (.int .i64 (k2 : Int)) := by rw [cell_of_row _ _ _ _ _ _ hg7]; rfl
  have d4 : W7.cell? ⟨G, 4, none⟩ = some (.int .i64 err2) := by rw [cell_of_row _ _ _ _ _ _ hg7]; rfl
  have hlt : G < W7.heap.size := (Array.getElem?_eq_some_iff.1 hg7).1
  have q0 : ∀ sb : Beneath W7.heap.size W7, sb.val.cell? ⟨G, 0, none⟩ = some (.slice au (toI ps2).length cu) := fun sb => Beneath.cell d0 hlt sb
  have q1 : ∀ sb : Beneath W7.heap.size W7, sb.val.cell? ⟨G, 1, none⟩ = some (.int .i64 (t2 : Int)) := fun sb => Beneath.cell d1 hlt sb
  have q2 : ∀ sb : Beneath W7.heap.size W7, sb.val.cell? ⟨G, 2, none⟩ = some (.int .i64 (k2 : Int)) := fun sb => Beneath.cell d2 hlt sb
  have q4 : ∀ sb : Beneath W7.heap.size W7, sb.val.cell? ⟨G, 4, none⟩ = some (.int .i64 err2) := fun sb => Beneath.cell d4 hlt sb
  have hzi : Hid ((toI ps2).length ≤ 9223372036854775807) := Lib.hid (by rw [hpl.out]; omega)
  obtain ⟨P, hP⟩ : ∃ P, a + k2 = P := ⟨_, rfl⟩
  rw [hP] at HR7
  have hPi : (a : Int) + (k2 : Int) = (P : Int) := by omega
  have hPw : Hid (IntKind.i64.wrap ((a : Int) + (k2 : Int)) = (P : Int)) := Lib.hid (by rw [hPi]; exact IntWalk.i64_in _ (by have h5 := HR7.out.2.2.2.2; have h6 := HLL.out; omega))
  have HIB : Hid (∀ sb : Beneath W7.heap.size W7, IsInts sb.val u (toI ps2) ∧ IsInts sb.val (.slice au (toI ps2).length cu) (toI ps2) ∧ IsReader sb.val b v1 s.data.toList 0 0 P) := Lib.hid (fun sb => ⟨HI37.out.below sb.is, HI7.out.below sb.is, HR7.out.other (Touch.ofBelow (S := fun _ => False) sb.is) (fun _ _ h => h)⟩)
  have hPw := hPw.out
  have z1 : (err2 == err2) = true := by simp
  have z2 : ((P : Int) == (P : Int)) = true := by simp
  have z3 : ((t2 : Int) == (t2 : Int)) = true := by simp
  clear hg7 hW7 hP hPi hls hpl
  refine wp_region_beneath W7.heap.size W7 (Below.refl _ _) (by kernel_rfl) (by kernel_rfl) ?_
  repeat (go_big_quiet_step (first
    | (go_at_call 9; rename_i sb; exact Calls.beneath sb (Nat.le_refl _) (H3.out _))
    | (go_at_call 27; rename_i sb; exact Calls.beneath_same sb (rat_any b v1 _ 0 0 P _ (HIB.out sb).2.2))
    | (go_at_call 26; rename_i sb; exact Calls.beneath sb (Nat.le_refl _) ((ints_any _ _ (toI ps2) (toI ps2) true _ (HIB.out sb).1 (HIB.out sb).2.1 ⟨fun _ => rfl, fun _ => rfl⟩ hzi.out hzi.out).mono (by rintro e w' ⟨rfl, m, rfl⟩; exact ⟨rfl, below_drewN _ m⟩)))))
  refine wpQuiet_nil ?_
  rintro _ ⟨sb, rfl⟩
  have HB8 := Lib.hid (HB7.out.trans (sb.is.mono HB7.out.size))
  clear HIB q0 q1 q2 q4
  generalize sb.val = W8 at *
  go_wp2_with fail
  go_ret
  exact ⟨rfl, HB8.out⟩
theorem picksReads.walk (s : ByteArray) (a : Int) (w : World) (hs : s.size ≤ maxLen) (ha : (Lit.int .i64 a).wf = true) :
    Calls Try.prog 4 #[.string s, .int .i64 a] w fun e w' => e = .returned (.bool true) ∧ Below w.heap.size w w' := by
  by_cases h : 100 < s.size ∨ a < 0 ∨ 8 * (s.size : Int) < a
  · exact picksReads.far s a w hs h
  · obtain ⟨A, rfl⟩ : ∃ A : Nat, a = (A : Int) := ⟨a.toNat, by omega⟩
    exact picksReads.good s A w (by omega) (by omega)
end Go.Proofs.Ytfckghaigbmeaaa

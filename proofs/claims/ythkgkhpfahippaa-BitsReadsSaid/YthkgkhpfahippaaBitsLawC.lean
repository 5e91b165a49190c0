/-
  LAYER 1's STATEMENTS: WHAT IS PUT FIELD BY FIELD IS GOT FIELD BY FIELD (1.4).
-/
import Derived.Test.YthkgkhpfahippaaBitsLawB
namespace Go.Proofs.Ythkgkhpfahippaa
open Go.RowKit BitM
set_option linter.unusedVariables false
def OpR.fits (o : OpR) : Bool := decide (0 ≤ o.N ∧ o.N ≤ 32 ∧ o.V < 2 ^ o.N.toNat)
/-- The field that an operation puts. -/
def OpR.up (o : OpR) : List Bool := if o.fits then field o.V o.N.toNat else []
def bitsUp (l : List OpR) : List Bool := l.flatMap OpR.up
theorem OpR.up_length (o : OpR) : o.up.length ≤ 32 := by
  unfold OpR.up
  split
  · rename_i h
    simp only [OpR.fits, decide_eq_true_eq] at h
    rw [field_length]; omega
  · exact Nat.zero_le _
theorem bitsUp_take {l : List OpR} {k : Nat} {o : OpR} (h : l[k]? = some o) : bitsUp (l.take (k + 1)) = bitsUp (l.take k) ++ o.up := by
  rw [List.take_add_one, h]; simp [bitsUp]
theorem bitsUp_length : ∀ (l : List OpR), (bitsUp l).length ≤ 32 * l.length
  | [] => Nat.zero_le _
  | o :: l => by
    have h1 := bitsUp_length l
    have h2 := o.up_length
    have e : bitsUp (o :: l) = o.up ++ bitsUp l := rfl
    rw [e, List.length_append, List.length_cons]; omega
theorem padding_length (q : List Bool) : (padding q).length = (8 - q.length % 8) % 8 := by unfold padding; rw [field_length]
theorem bytsPad (q : List Bool) : bitsOf (byts (q ++ padding q)) = q ++ padding q := by
  refine bitsOf_byts ((q ++ padding q).length / 8) _ ?_
  have := padding_length q
  rw [List.length_append]; omega
theorem bytsPad_length (q : List Bool) : 8 * (byts (q ++ padding q)).length = q.length + (8 - q.length % 8) % 8 := by
  have := padding_length q
  rw [byts_length, List.length_append]; omega
/-- What is got of what was put. -/
theorem got {l : List OpR} {k n : Nat} {o : OpR} (h : l[k]? = some o) (hf : o.fits = true) (hn : o.N = (n : Int)) :
    num (((bitsOf (byts (bitsUp l ++ padding (bitsUp l)))).drop ((bitsUp (l.take k)).length - 8 * 0)).take n) = o.V ∧ (bitsUp (l.take k)).length + n ≤ (bitsUp l).length ∧ n ≤ 32 ∧ o.V < 2 ^ n ∧ bitsUp (l.take (k + 1)) = bitsUp (l.take k) ++ field o.V n := by
  have hlt := (List.getElem?_eq_some_iff.1 h).1
  simp only [OpR.fits, decide_eq_true_eq] at hf
  have hn' : o.N.toNat = n := by omega
  rw [hn'] at hf
  have hup : o.up = field o.V n := by
    unfold OpR.up
    rw [if_pos (by simp only [OpR.fits, decide_eq_true_eq]; rw [hn']; exact hf), hn']
  have hs : bitsUp l = bitsUp (l.take k) ++ (field o.V n ++ bitsUp (l.drop (k + 1))) := by
    have e : bitsUp l = bitsUp (l.take (k + 1)) ++ bitsUp (l.drop (k + 1)) := by
      conv => lhs; rw [← List.take_append_drop (k + 1) l]
      exact List.flatMap_append
    rw [e, bitsUp_take h, hup, List.append_assoc]
  refine ⟨?_, ?_, by omega, hf.2.2, by rw [bitsUp_take h, hup]⟩
  · rw [bytsPad, Nat.mul_zero, Nat.sub_zero]
    conv => lhs; rw [hs]
    rw [List.append_assoc, List.drop_left' rfl, List.append_assoc, List.take_left' (field_length _ _), field_num, Nat.mod_eq_of_lt hf.2.2]
  · rw [hs]; simp [field_length]
theorem unfit {l : List OpR} {k : Nat} {o : OpR} (h : l[k]? = some o) (hf : o.fits = false) : bitsUp (l.take (k + 1)) = bitsUp (l.take k) := by
  rw [bitsUp_take h]
  unfold OpR.up
  rw [hf]; simp
theorem fits_any (o : OpR) (B : Bool) (hB : o.fits = B) (w : World) (hv : o.V < 4294967296) : Calls Try.prog 23 #[.int .u32 (o.V : Int), .int .i64 o.N] w fun e w' => e = .returned (.bool B) ∧ w = w' := by
  subst hB
  by_cases h : 0 ≤ o.N ∧ o.N ≤ 32
  · obtain ⟨n, hn⟩ : ∃ n : Nat, o.N = n := ⟨o.N.toNat, by omega⟩
    by_cases h2 : o.V < 2 ^ n
    · have e : o.fits = true := by simp only [OpR.fits, decide_eq_true_eq]; rw [hn]; exact ⟨by omega, by omega, by simpa using h2⟩
      rw [e, hn]
      exact fits_yes o.V n w (by omega) h2 hv
    · have e : o.fits = false := by simp only [OpR.fits, decide_eq_false_iff_not]; rw [hn]; simpa using fun _ => Nat.le_of_not_lt h2
      rw [e, hn]
      exact fits_big o.V n w (by omega) (by omega) hv
  · have e : o.fits = false := by simp only [OpR.fits, decide_eq_false_iff_not]; omega
    rw [e]
    exact fits_out _ o.N w (by omega)
/-- The cells of a copy that was laid. -/
theorem copy_cells {w w' : World} {o : OpR} {S : Nat → Prop} {t : TypeId} (h : Touch S (w.alloc (.cells #[.int .i64 o.K, .int .i64 o.N, .int .u32 (o.V : Int), .string o.S] t)) w') (hS : ¬ S w.heap.size) :
    w'.cell? ⟨w.heap.size, 1, none⟩ = some (.int .i64 o.N) ∧ w'.cell? ⟨w.heap.size, 2, none⟩ = some (.int .u32 (o.V : Int)) := by
  have hb : w'.heap[w.heap.size]? = some (.cells #[.int .i64 o.K, .int .i64 o.N, .int .u32 (o.V : Int), .string o.S] t) :=
    (h.block w.heap.size (by show w.heap.size < (w.heap.push _).size; simp) hS).trans (by show (w.heap.push _)[w.heap.size]? = _; simp)
  constructor <;> (rw [cell_of_row _ _ _ _ _ _ hb]; rfl)
theorem put_up (b : Nat) (v : Value) (q : List Bool) (tk n : Nat) (o : OpR) (w : World) (h : IsWriter w b v q tk) (hN : o.N = (n : Int)) (hn : n ≤ 32) (hX : o.V < 2 ^ n) (hq : q.length ≤ 1099511627776) :
    Calls Try.prog 22 #[.pointer (some ⟨b, 0, none⟩), .int .u32 (o.V : Int), .int .i64 o.N] w fun e w' =>
      e = .returned (.int .i64 0) ∧ ∃ v1, IsWriter w' b v1 (q ++ field o.V n) tk ∧ Touch (foot b v) w w' := by
  rw [hN]
  refine (put_any b v q tk o.V n w h hn hX hq).mono ?_
  rintro e w' ⟨rfl, v1, h1, h2, _⟩
  exact ⟨rfl, v1, h1, h2⟩
theorem get_up (b : Nat) (v : Value) (l : List UInt8) (dr sp p n : Nat) (o : OpR) (w : World) (h : IsReader w b v l dr sp p) (hN : o.N = (n : Int)) (hs : dr + l.length ≤ 1099511627776) (hn : n ≤ 32) (hp : p + n ≤ 8 * (dr + l.length)) :
    Calls Try.prog 31 #[.pointer (some ⟨b, 0, none⟩), .int .i64 o.N] w fun e w' =>
      e = .returned (.tuple #[.int .u32 (num (((bitsOf l).drop (p - 8 * dr)).take n) : Int), .int .i64 0]) ∧ IsReader w' b v l dr sp (p + n) ∧ Touch (· = b) w w' := by
  rw [hN]
  exact get_any b v l dr sp p n w h hs hn hp
set_option maxRecDepth 100000 in
set_option maxHeartbeats 4000000 in
theorem bitsBack.walk (a : Option Addr) (len cap : Nat) (l : List OpR) (w : World) (w0 : IsOps w a len l) :
    Calls Try.prog 5 #[.slice a len cap] w fun e w' => e = .returned (.bool true) ∧ Below w.heap.size w w' := by
  have H := Lib.hid w0
  have hmax := w0.2.2
  unfold maxLen at hmax
  clear w0
  go_enter Try.func5, Try.ntmps5
  go_wp2_with fail
  refine (large_any a len cap l w H.out).mono ?_
  rintro e wl ⟨bb, rfl, hbl, hlg⟩
  have HL := Lib.hid hbl
  have HG := Lib.hid hlg
  clear hbl hlg
  cases bb with
  | true =>
    go_wp2_with fail
    refine (five_any wl).mono ?_
    rintro e w2 ⟨rfl, hb⟩
    have H2 := Lib.hid hb
    clear hb
    go_wp2_with fail
    go_ret
    exact ⟨rfl, HL.out.trans (H2.out.mono HL.out.size)⟩
  | false =>
    have h60 := (HG.out rfl).1
    have hll := H.out.1.1
    have HSZ : Hid (∀ k, (bitsUp (l.take k)).length ≤ 32 * k) := Lib.hid fun k => by
      have := bitsUp_length (l.take k)
      have := List.length_take_le k l
      omega
    go_wp2_with fail
    refine (newWriter_any wl).mono ?_
    rintro e w1 ⟨rfl, hw1, hb1⟩
    have W1 := Lib.hid hw1
    have B1 := Lib.hid (HL.out.trans (hb1.mono HL.out.size))
    have hbw := HL.out.size
    clear hw1 hb1
    generalize hBW : wl.heap.size = bw at *
    go_wp2_with fail
    go_loopw [4, 18] (fun n i wr => ∃ (k : Nat) (v : Value), k ≤ len ∧ i = .int .i64 k ∧ n = .int .i64 ((bitsUp (l.take k)).length : Int) ∧ IsWriter wr bw v (bitsUp (l.take k)) 0 ∧ Below w.heap.size w wr) (fun _ i _ => len - (intOf i).toNat)
    case atStart => exact ⟨0, _, by omega, rfl, rfl, W1.out, B1.out⟩
    case round =>
      obtain ⟨k, v, hk, rfl, rfl, hW, hB⟩ := hrel
      have HB := Lib.hid hB
      have HW := Lib.hid hW
      clear hB hW
      by_cases hlt : k < len
      · obtain ⟨o, b, off, ho, hok, rfl, c0, c1, c2, c3⟩ := H.out.at_ HB.out hlt
        have hv := hok.v
        have HO := Lib.hid ho
        have hlk := HSZ.out k
        clear ho hok
        obtain ⟨B, hf⟩ : ∃ B, o.fits = B := ⟨_, rfl⟩
        cases B with
        | false =>
          have HU := Lib.hid (unfit HO.out hf)
          have HF := Lib.hid hf
          clear hf
          go_wp2_with fail
          refine (fits_any o _ HF.out _ hv).mono ?_
          rintro e w' ⟨rfl, rfl⟩
          go_wp2_with fail
          go_roundw
          case rel => exact ⟨k + 1, v, by omega, by go_num, by rw [HU.out], by rw [HU.out]; exact HW.out.other ((Touch.refl (fun _ => False) _).alloc _) (fun _ _ h => h), HB.out.alloc HB.out.size _⟩
          case measure => simp [intOf]; omega
        | true =>
          obtain ⟨n, hn⟩ : ∃ n : Nat, o.N = n := by
            have := hf
            simp only [OpR.fits, decide_eq_true_eq] at this
            exact ⟨o.N.toNat, by omega⟩
          obtain ⟨_, hg2, hg3, hg4, hg5⟩ := got HO.out hf hn
          have HF := Lib.hid hf
          have HN := Lib.hid hn
          have HG2 := Lib.hid hg2
          have HG4 := Lib.hid hg4
          have HG5 := Lib.hid hg5
          clear hf hn hg2 hg4 hg5
          go_wp2_with fail
          refine (fits_any o _ HF.out _ hv).mono ?_
          rintro e w' ⟨rfl, rfl⟩
          go_wp2_with fail
          refine (put_up bw v (bitsUp (l.take k)) 0 n o _ (HW.out.other ((Touch.refl (fun _ => False) _).alloc _) (fun _ _ h => h)) HN.out hg3 HG4.out (by omega)).mono ?_
          rintro e w2 ⟨rfl, v1, hw2, ht2⟩
          have W2 := Lib.hid hw2
          have HFT := Lib.hid (fun j (hj : foot bw v j) => HW.out.lt j hj)
          have B2 := Lib.hid ((HB.out.alloc HB.out.size _).trans (ht2.below (Nat.le_trans HB.out.size (by show wr.heap.size ≤ (wr.heap.push _).size; simp)) (fun j hj => Nat.le_trans hbw (HFT.out j hj).2)))
          obtain ⟨d1, d2⟩ := copy_cells ht2 (fun hj => Nat.lt_irrefl _ (HFT.out _ hj).1)
          clear hw2 ht2
          have hnb : (0 : Int) ≤ o.N ∧ o.N ≤ 32 := by rw [HN.out]; omega
          obtain ⟨hn0, hn1⟩ := hnb
          go_wp2_with fail
          go_roundw
          case rel => exact ⟨k + 1, v1, by omega, by go_num, iv (by rw [HG5.out, HN.out, List.length_append, field_length]; omega), by rw [HG5.out]; exact W2.out, B2.out⟩
          case measure => simp [intOf]; omega
      · obtain rfl : k = len := by omega
        have hfull : l.take k = l := List.take_of_length_le (by omega)
        have hlen := HSZ.out k
        have HP1 := Lib.hid (bytsPad_length (bitsUp l))
        rw [hfull] at hlen HW ⊢
        have HFU := Lib.hid hfull
        clear hfull
        go_wp2_with fail
        refine (wpad_any bw v (bitsUp l) 0 wr HW.out (by omega)).mono ?_
        rintro e w4 ⟨rfl, v4, hw4, ht4, _⟩
        have W4 := Lib.hid hw4
        have B4 := Lib.hid (HB.out.trans (ht4.below HB.out.size (fun i hi => Nat.le_trans hbw (HW.out.lt i hi).2)))
        clear hw4 ht4
        go_wp2_with fail
        refine (wtake_any _ _ _ _ w4 W4.out).mono ?_
        rintro e w5 ⟨rfl, hw5, ht5⟩
        have B5 := Lib.hid (B4.out.trans (ht5.below B4.out.size (fun i hi => Nat.le_trans hbw (W4.out.lt i hi).2)))
        clear hw5 ht5
        have hLL : 8 * (byts (bitsUp l ++ padding (bitsUp l))).length ≤ 4000 := by have := HP1.out; omega
        rw [List.drop_zero]
        generalize hL : byts (bitsUp l ++ padding (bitsUp l)) = L at *
        go_wp2_with fail
        refine (newReader_any _ w5 (by show L.length ≤ maxLen; unfold maxLen; omega)).mono ?_
        rintro e w6 ⟨rb, v6, rfl, hr6, hb6, hf6⟩
        have R6 := Lib.hid hr6
        have B6 := Lib.hid (B5.out.trans (hb6.mono B5.out.size))
        have hrb : w.heap.size ≤ rb := Nat.le_trans B5.out.size (hf6 rb (Or.inl rfl))
        clear hr6 hb6 hf6
        go_wp2_with fail
        go_loopw [46] (fun i wr => ∃ (k2 : Nat), k2 ≤ k ∧ i = .int .i64 k2 ∧ IsReader wr rb v6 L 0 0 (bitsUp (l.take k2)).length ∧ Below w.heap.size w wr) (fun i _ => k - (intOf i).toNat)
        case atStart => exact ⟨0, by omega, rfl, R6.out, B6.out⟩
        case round =>
          obtain ⟨k2, hk2, rfl, hR, hB2⟩ := hrel
          have HR := Lib.hid hR
          have HB2 := Lib.hid hB2
          clear hR hB2
          by_cases hlt2 : k2 < k
          · obtain ⟨o, b, off, ho, hok, rfl, c0, c1, c2, c3⟩ := H.out.at_ HB2.out hlt2
            have hv := hok.v
            have HO := Lib.hid ho
            clear ho hok
            obtain ⟨B, hf⟩ : ∃ B, o.fits = B := ⟨_, rfl⟩
            cases B with
            | false =>
              have HU := Lib.hid (unfit HO.out hf)
              have HF := Lib.hid hf
              clear hf
              go_wp2_with fail
              refine (fits_any o _ HF.out _ hv).mono ?_
              rintro e w' ⟨rfl, rfl⟩
              go_wp2_with fail
              go_roundw
              case rel => exact ⟨k2 + 1, by omega, by go_num, by rw [HU.out]; exact HR.out.other ((Touch.refl (fun _ => False) _).alloc _) (fun _ _ h => h), HB2.out.alloc HB2.out.size _⟩
              case measure => simp [intOf]; omega
            | true =>
              obtain ⟨n, hn⟩ : ∃ n : Nat, o.N = n := by
                have := hf
                simp only [OpR.fits, decide_eq_true_eq] at this
                exact ⟨o.N.toNat, by omega⟩
              obtain ⟨hg1, hg2, hg3, hg4, hg5⟩ := got HO.out hf hn
              rw [hL] at hg1
              have HF := Lib.hid hf
              have HN := Lib.hid hn
              have HG2 := Lib.hid hg2
              have HG4 := Lib.hid hg4
              have HG5 := Lib.hid hg5
              have HG1 := Lib.hid hg1
              clear hf hn hg1 hg2 hg4 hg5
              go_wp2_with fail
              refine (fits_any o _ HF.out _ hv).mono ?_
              rintro e w' ⟨rfl, rfl⟩
              go_wp2_with fail
              refine (get_up rb v6 L 0 0 _ n o _ (HR.out.other ((Touch.refl (fun _ => False) _).alloc _) (fun _ _ h => h)) HN.out (by omega) hg3 (by have := HG2.out; have := HP1.out; omega)).mono ?_
              rintro e w7 ⟨rfl, hr7, ht7⟩
              rw [HG1.out]
              have R7 := Lib.hid hr7
              have HLT := Lib.hid (HR.out.lt rb (Or.inl rfl))
              have B7 := Lib.hid ((HB2.out.alloc HB2.out.size _).trans (ht7.below (Nat.le_trans HB2.out.size (by show wr.heap.size ≤ (wr.heap.push _).size; simp)) (fun j hj => by have hj' : j = rb := hj; omega)))
              obtain ⟨d1, d2⟩ := copy_cells ht7 (fun hj => by have hj' : wr.heap.size = rb := hj; have := HLT.out; omega)
              clear hr7 ht7
              have hb2 : Hid ((bitsUp (l.take (k2 + 1))).length = (bitsUp (l.take k2)).length + n) := Lib.hid (by rw [HG5.out, List.length_append, field_length])
              go_wp2_with fail
              go_roundw
              case rel => exact ⟨k2 + 1, by omega, by go_num, by rw [hb2.out]; exact R7.out, B7.out⟩
              case measure => simp [intOf]; omega
          · obtain rfl : k2 = k := by omega
            rw [HFU.out] at HR
            obtain ⟨M, hM⟩ : ∃ M, 8 * (0 + L.length) - (bitsUp l).length = M := ⟨_, rfl⟩
            have hM8 : (M : Int) < 8 := by have := HP1.out; omega
            have HM := Lib.hid hM
            clear hM
            go_wp2_with fail
            refine (rat_any _ _ _ _ _ _ wr HR.out).mono ?_
            rintro e w' ⟨rfl, rfl⟩
            go_wp2_with fail
            refine (rleft_any rb v6 L 0 0 _ M _ HR.out (by omega) HM.out).mono ?_
            rintro e w' ⟨rfl, m, rfl⟩
            go_wp2_with fail
            refine (five_any _).mono ?_
            rintro e w8 ⟨rfl, hb8⟩
            have H8 := Lib.hid hb8
            clear hb8
            go_wp2_with fail
            go_ret
            have hD : Below w.heap.size w (wr.drewN m) := (HB2.out.trans ⟨rfl, rfl, rfl, Nat.le_refl _, fun _ _ => rfl⟩)
            exact ⟨rfl, hD.trans (H8.out.mono hD.size)⟩
end Go.Proofs.Ythkgkhpfahippaa

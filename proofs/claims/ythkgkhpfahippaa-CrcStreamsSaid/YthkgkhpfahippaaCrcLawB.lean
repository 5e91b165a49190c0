/-
  LAYER 2's STATEMENTS (streams' sums).
-/
import Derived.Test.YthkgkhpfahippaaCrcLaw
import Derived.Test.YthkgkhpfahippaaOpen
namespace Go.Proofs.Ythkgkhpfahippaa
open Go.ChangeShapes Go.WideShapes Go.ChangeAt Go.RowKit CrcM
set_option linter.unusedVariables false
def IsU32 (w : World) (a : Option Addr) (len : Nat) (xs : List (BitVec 32)) : Prop :=
  xs.length = len ∧ len ≤ maxLen ∧ ∀ i x, xs[i]? = some x → ∃ b off, a = some ⟨b, off, none⟩ ∧ b < w.heap.size ∧ w.cell? ⟨b, off + i, none⟩ = some (.int .u32 (x.toNat : Int))
theorem IsU32.below {w w' : World} {a : Option Addr} {len : Nat} {xs : List (BitVec 32)} (h : IsU32 w a len xs) (hb : Below w.heap.size w w') : IsU32 w' a len xs :=
  ⟨h.1, h.2.1, fun i x hx => by
    obtain ⟨b, off, ha, hlt, hc⟩ := h.2.2 i x hx
    exact ⟨b, off, ha, Nat.lt_of_lt_of_le hlt hb.size, (hb.cell (p := ⟨b, off + i, none⟩) hlt).trans hc⟩⟩
def strm (xs : List (BitVec 32)) : BitVec 32 := xs.foldl cmb 0#32
theorem strm_take (xs : List (BitVec 32)) (k : Nat) (x : BitVec 32) (h : xs[k]? = some x) : strm (xs.take (k + 1)) = cmb (strm (xs.take k)) x := by
  obtain ⟨hk, rfl⟩ := List.getElem?_eq_some_iff.1 h
  unfold strm
  rw [List.take_succ_eq_append_getElem hk, List.foldl_append]; rfl
set_option maxHeartbeats 400000 in
theorem stream_any (a : Option Addr) (len cap : Nat) (xs : List (BitVec 32)) (w : World) (h : IsU32 w a len xs) :
    Calls Try.prog 48 #[.slice a len cap] w fun e w' => e = .returned (.int .u32 ((strm xs).toNat : Int)) ∧ w = w' := by
  obtain ⟨hl, hmax, hc⟩ := h
  unfold maxLen at hmax
  have HC := Lib.hid hc
  have HL := Lib.hid hl
  clear hc hl
  go_enter Try.func48, Try.ntmps48
  go_wp2_with fail
  go_loop [3, 5, 8] (fun t _ i => ∃ k : Nat, k ≤ len ∧ i = .int .i64 k ∧ t = .int .u32 ((strm (xs.take k)).toNat : Int)) (fun _ _ i => len - (intOf i).toNat)
  case atStart => exact ⟨0, by omega, rfl, rfl⟩
  case round =>
    obtain ⟨k, hk, rfl, rfl⟩ := hrel
    by_cases hlt : k < len
    · have hx : ∃ x, xs[k]? = some x := ⟨xs[k]'(by have := HL.out; omega), List.getElem?_eq_getElem _⟩
      obtain ⟨x, hx⟩ := hx
      obtain ⟨b, off, rfl, _, hcell⟩ := HC.out k x hx
      have HX := Lib.hid (strm_take xs k x hx)
      clear hx
      go_wp2_with fail
      refine (combine_any _ _ _).mono ?_
      rintro e w' ⟨rfl, rfl⟩
      go_wp2_with fail
      go_round
      case rel => exact ⟨k + 1, by omega, by go_num, by rw [HX.out]⟩
      case measure => simp [intOf]; omega
    · obtain rfl : k = len := by omega
      go_wp2_with fail
      go_ret
      rw [List.take_of_length_le (by rw [HL.out]; omega)]
      exact ⟨rfl, rfl⟩
set_option maxHeartbeats 400000 in
theorem refStream_any (a : Option Addr) (len cap : Nat) (xs : List (BitVec 32)) (w : World) (h : IsU32 w a len xs) :
    Calls Try.prog 49 #[.slice a len cap] w fun e w' => e = .returned (.int .u32 ((strm xs).toNat : Int)) ∧ w = w' := by
  obtain ⟨hl, hmax, hc⟩ := h
  unfold maxLen at hmax
  have HC := Lib.hid hc
  have HL := Lib.hid hl
  clear hc hl
  go_enter Try.func49, Try.ntmps49
  go_wp2_with fail
  go_loop [3, 5, 8] (fun t _ i => ∃ k : Nat, k ≤ len ∧ i = .int .i64 k ∧ t = .int .u32 ((strm (xs.take k)).toNat : Int)) (fun _ _ i => len - (intOf i).toNat)
  case atStart => exact ⟨0, by omega, rfl, rfl⟩
  case round =>
    obtain ⟨k, hk, rfl, rfl⟩ := hrel
    by_cases hlt : k < len
    · have hx : ∃ x, xs[k]? = some x := ⟨xs[k]'(by have := HL.out; omega), List.getElem?_eq_getElem _⟩
      obtain ⟨x, hx⟩ := hx
      obtain ⟨b, off, rfl, _, hcell⟩ := HC.out k x hx
      have HX := Lib.hid (strm_take xs k x hx)
      clear hx
      go_wp2_with fail
      refine (refCombine_any _ _ _).mono ?_
      rintro e w' ⟨rfl, rfl⟩
      go_wp2_with fail
      go_round
      case rel => exact ⟨k + 1, by omega, by go_num, by rw [HX.out]⟩
      case measure => simp [intOf]; omega
    · obtain rfl : k = len := by omega
      go_wp2_with fail
      go_ret
      rw [List.take_of_length_le (by rw [HL.out]; omega)]
      exact ⟨rfl, rfl⟩

theorem rot_inj {x y : BitVec 32} (h : rot x = rot y) : x = y := by
  apply BitVec.eq_of_getLsbD_eq
  intro i hi
  unfold rot at h
  by_cases h31 : i = 31
  · subst h31
    have h2 := congrArg (fun v : BitVec 32 => v.getLsbD 0) h
    simp only [BitVec.getLsbD_rotateLeft] at h2
    simpa using h2
  · have h2 := congrArg (fun v : BitVec 32 => v.getLsbD (i + 1)) h
    simp only [BitVec.getLsbD_rotateLeft] at h2
    simpa [show i + 1 < 32 by omega] using h2
theorem cmb_inj_left {x y b : BitVec 32} (h : cmb x b = cmb y b) : x = y := rot_inj (by
  unfold cmb at h
  have := congrArg (· ^^^ b) h
  simpa [BitVec.xor_assoc] using this)
theorem cmb_inj_right {x a b : BitVec 32} (h : cmb x a = cmb x b) : a = b := by
  unfold cmb at h
  have := congrArg (rot x ^^^ ·) h
  simpa [← BitVec.xor_assoc] using this
theorem foldl_cmb_inj (l : List (BitVec 32)) : ∀ {x y : BitVec 32}, l.foldl cmb x = l.foldl cmb y → x = y := by
  induction l with
  | nil => intro x y h; exact h
  | cons b l ih => intro x y h; exact cmb_inj_left (ih h)
/-- ONE SUM CHANGED CHANGES THE STREAM's. -/
theorem strm_set (xs : List (BitVec 32)) (i : Nat) (y : BitVec 32) (hi : i < xs.length) : (strm xs = strm (xs.set i y)) ↔ xs[i] = y := by
  have h1 : xs = xs.take i ++ xs[i] :: xs.drop (i + 1) := by simp
  have h2 : xs.set i y = xs.take i ++ y :: xs.drop (i + 1) := List.set_eq_take_append_cons_drop .. |>.trans (by rw [if_pos hi])
  constructor
  · intro h
    rw [h2] at h
    conv at h => lhs; rw [h1]
    unfold strm at h
    rw [List.foldl_append, List.foldl_append] at h
    exact cmb_inj_right (foldl_cmb_inj _ h)
  · rintro rfl
    rw [List.set_getElem_self]
theorem u32_of_row {w : World} {a : Option Addr} {len cap : Nat} {z : List Int} (h : IsRow .u32 w a len cap z) : ∃ xs, IsU32 w a len xs := by
  rcases h with ⟨rfl, rfl, rfl, rfl⟩ | ⟨x, rfl, hl, hm, hz, hcell, hwf⟩
  · exact ⟨[], rfl, by decide, fun i x h => by simp at h⟩
  · refine ⟨(z.take len).map fun n => BitVec.ofNat 32 n.toNat, by simp; omega, by omega, fun i y hy => ?_⟩
    have hi := (List.getElem?_eq_some_iff.1 hy).1
    simp at hi
    obtain ⟨b, off, spot⟩ := x
    have hspot : spot = none := by simpa [Addr.add] using World.cell?_spot (hcell 0 (by omega))
    subst hspot
    have hc := hcell i (by omega)
    rw [add_plain] at hc
    have hw := hwf (z.getD i 0) (by rw [List.getD_eq_getElem?_getD, List.getElem?_eq_getElem (by omega)]; exact List.getElem_mem _)
    have hx : 0 ≤ z.getD i 0 ∧ z.getD i 0 ≤ 4294967295 := by simpa [Lit.wf, IntKind.min, IntKind.max, IntKind.signed, IntKind.bits] using hw
    refine ⟨b, off, rfl, World.block_lt_of_cell? w _ hc, ?_⟩
    rw [hc]
    have hiz : i < z.length := by omega
    have hil : i < len := by omega
    have : y = BitVec.ofNat 32 (z.getD i 0).toNat := by
      rw [List.getElem?_map, List.getElem?_take, if_pos hil, List.getElem?_eq_getElem hiz] at hy
      rw [List.getD_eq_getElem?_getD, List.getElem?_eq_getElem hiz]
      exact (Option.some.inj hy).symm
    rw [this]
    simp only [Option.some.injEq, Value.int.injEq, true_and, BitVec.toNat_ofNat]
    omega
/-- The row with one changed. -/
def oth (xs : List (BitVec 32)) (p : Int) (y : BitVec 32) : List (BitVec 32) := if 0 ≤ p then xs.set p.toNat y else xs
theorem oth_length (xs : List (BitVec 32)) (p : Int) (y : BitVec 32) : (oth xs p y).length = xs.length := by unfold oth; split <;> simp
theorem oth_take (xs : List (BitVec 32)) (p : Int) (y : BitVec 32) (k : Nat) (x : BitVec 32) (h : xs[k]? = some x) :
    (oth xs p y).take (k + 1) = (oth xs p y).take k ++ [if (k : Int) = p then y else x] := by
  obtain ⟨hk, rfl⟩ := List.getElem?_eq_some_iff.1 h
  have hk' : k < (oth xs p y).length := by rw [oth_length]; exact hk
  rw [List.take_succ_eq_append_getElem hk']
  congr 2
  by_cases hp : 0 ≤ p
  · have e0 : (oth xs p y)[k] = (xs.set p.toNat y)[k]'(by simpa using hk) := by simp only [oth, if_pos hp]
    rw [e0, List.getElem_set]
    by_cases e : (k : Int) = p
    · rw [if_pos e, if_pos (by omega)]
    · rw [if_neg e, if_neg (by omega)]
  · have e0 : (oth xs p y)[k] = xs[k] := by simp only [oth, if_neg hp]
    rw [e0, if_neg (by omega)]
theorem oth_out (xs : List (BitVec 32)) (p : Int) (y : BitVec 32) (h : p < 0 ∨ (xs.length : Int) ≤ p) : oth xs p y = xs := by
  unfold oth
  split
  · exact List.set_eq_of_length_le (by omega)
  · rfl
theorem toNat_beq {x y : BitVec 32} (h : ¬ x = y) : ((x.toNat : Int) == (y.toNat : Int)) = false := by
  simp only [beq_eq_false_iff_ne, ne_eq]
  intro e
  exact h (BitVec.eq_of_toNat_eq (by omega))
def u32v (x : BitVec 32) : Value := .int .u32 (x.toNat : Int)
theorem u32_of_own {w : World} {base e : Nat} {v : Value} {n : Nat} {xs : List (BitVec 32)} (h : w.ownsRow base e 1 v n (xs.map u32v)) (hn : n ≤ maxLen) : ∃ a cap, v = .slice a n cap ∧ IsU32 w a n xs := by
  have hl : xs.length = n := by simpa using h.1
  rcases h.2 with ⟨rfl, rfl⟩ | ⟨g, cap, cur, rfl, _, hg, _⟩
  · refine ⟨none, 0, rfl, hl, hn, fun i x hx => ?_⟩
    have := (List.getElem?_eq_some_iff.1 hx).1
    omega
  · refine ⟨some ⟨g, 0, none⟩, cap, rfl, hl, hn, fun i x hx => ⟨g, 0, rfl, (Array.getElem?_eq_some_iff.1 hg).1, ?_⟩⟩
    have hi := (List.getElem?_eq_some_iff.1 hx).1
    rw [Nat.zero_add, h.cellAt i (by omega)]
    simp [hx, u32v]
theorem info27 : (Try.prog.info? 27).map (fun i => (i.zero, i.size, i.bytes)) = some (some (.int .u32 0), 1, 4) := by kernel_rfl

set_option maxHeartbeats 1000000 in
theorem crcStreams.walk (q0 q1 : Int) (l : Option Addr) (llen lcap : Nat) (lz : List Int) (p : Int) (w : World) (w0 : (Lit.int .u32 q0).wf = true ∧ (Lit.int .u32 q1).wf = true) (w1 : IsRow .u32 w l llen lcap lz) (w2 : (Lit.int .i64 p).wf = true) :
    Calls Try.prog 10 #[.agg #[.int .u32 q0, .int .u32 q1], .slice l llen lcap, .int .i64 p] w fun e w' => e = .returned (.bool true) ∧ Below w.heap.size w w' := by
  obtain ⟨w0a, w0b⟩ := w0
  obtain ⟨X, rfl⟩ := bd_u32 w0a
  obtain ⟨Y, rfl⟩ := bd_u32 w0b
  obtain ⟨xs, hU⟩ := u32_of_row w1
  have hmax := hU.2.1
  unfold maxLen at hmax
  have hp := bd_i64 w2
  obtain ⟨hp1, hp2⟩ := hp
  clear w1
  by_cases h200 : (200 : Int) < llen
  · go_enter Try.func10, Try.ntmps10
    go_wp2_with fail
    refine (nine_any _).mono ?_
    rintro e w1 ⟨rfl, hb1⟩
    have H1 := Lib.hid hb1
    clear hb1
    go_wp2_with fail
    go_ret
    exact ⟨rfl, ((Below.refl _ _).alloc (Nat.le_refl _) _).trans (H1.out.mono (by simp))⟩
  · have HU := Lib.hid hU
    have hU1 := Lib.hid (hU.below ((Below.refl w.heap.size w).alloc (Nat.le_refl _) (.cells #[.int .u32 (X.toNat : Int), .int .u32 (Y.toNat : Int)] 60)))
    clear hU
    obtain ⟨i0, hi, hz0, hz1, hz2⟩ := info_parts info27
    have HI := Lib.hid hi
    have HZ0 := Lib.hid hz0
    have HZ1 := Lib.hid hz1
    have HZ2 := Lib.hid hz2
    clear hi hz0 hz1 hz2
    go_enter Try.func10, Try.ntmps10
    go_wp2_with fail
    refine (combine_any _ _ _).mono ?_
    rintro e w' ⟨rfl, rfl⟩
    go_wp2_with fail
    refine (refCombine_any _ _ _).mono ?_
    rintro e w' ⟨rfl, rfl⟩
    go_wp2_with fail
    refine (stream_any _ _ _ xs _ hU1.out).mono ?_
    rintro e w' ⟨rfl, rfl⟩
    go_wp2_with fail
    refine (refStream_any _ _ _ xs _ hU1.out).mono ?_
    rintro e w' ⟨rfl, rfl⟩
    go_wp2_with fail
    go_loopw [9, 10, 11, 37] (fun o _ _ i wr => ∃ k : Nat, k ≤ llen ∧ i = .int .i64 k ∧ wr.ownsRow w.heap.size 27 1 o k (((oth xs p Y).take k).map u32v) ∧ Below w.heap.size w wr) (fun _ _ _ i _ => llen - (intOf i).toNat)
    case atStart => exact ⟨0, by omega, rfl, World.ownsRow_nil _ _ _ _, (Below.refl _ _).alloc (Nat.le_refl _) _⟩
    case round =>
      obtain ⟨k, hk, rfl, hO, hB⟩ := hrel
      have HO := Lib.hid hO
      have HB := Lib.hid hB
      clear hO hB
      by_cases hlt : k < llen
      · have hx : ∃ x, xs[k]? = some x := ⟨xs[k]'(by have := HU.out.1; omega), List.getElem?_eq_getElem _⟩
        obtain ⟨x, hx⟩ := hx
        obtain ⟨b, off, rfl, hblt, hcell⟩ := HU.out.2.2 k x hx
        have hcell' := (HB.out.cell (p := ⟨b, off + k, none⟩) hblt).trans hcell
        have HT := Lib.hid (oth_take xs p Y k x hx)
        clear hx hcell hblt
        by_cases hkp : ((k : Int) == p) = true
        · have hkp' : (k : Int) = p := by simpa using hkp
          have HK := Lib.hid hkp'
          clear hkp'
          go_wp2_with (at_builtin; refine wpList_append_own _ rfl _ _ 61 rfl w.heap.size 27 i0 (.int .u32 0) 1 4 Try.underlying61 HI.out HZ0.out HZ1.out HZ2.out rfl (by decide) _ _ _ rfl (HO.out.alloc _) ⟨wr.heap.size, 0, none⟩ 1 1 [.int .u32 (Y.toNat : Int)] rfl rfl ?c1 ?c2 ?c3 ?c4 ?c5 ?_)
          case c1 => exact cell_one_new _ _ _
          case c2 => intro u hu; simp at hu; subst hu; rfl
          case c3 => unfold maxLen; omega
          case c4 => omega
          case c5 => have := HB.out.size; simp; omega
          intro v' w1 hown' hgrow _
          have HO' := Lib.hid hown'
          have HG' := Lib.hid hgrow
          clear hown' hgrow
          go_wp2_with fail
          go_roundw
          case rel => 
            refine ⟨k + 1, by omega, by go_num, ?_, ?_⟩
            · have h := HO'.out
              rw [HT.out, List.map_append]
              simpa [HK.out, u32v] using h
            · exact (HB.out.alloc HB.out.size _).grown HG'.out (by have := HB.out.size; simp; omega) (fun j hj => (HO.out.lt j hj).1)
          case measure => simp [intOf]; omega

        · have hkp' : ((k : Int) == p) = false := by simpa using hkp
          have hkn : ¬ (k : Int) = p := by simpa using hkp'
          have HK := Lib.hid hkn
          clear hkn
          go_wp2_with (at_builtin; refine wpList_append_own _ rfl _ _ 61 rfl w.heap.size 27 i0 (.int .u32 0) 1 4 Try.underlying61 HI.out HZ0.out HZ1.out HZ2.out rfl (by decide) _ _ _ rfl (HO.out.alloc _) ⟨wr.heap.size, 0, none⟩ 1 1 [.int .u32 (x.toNat : Int)] rfl rfl ?c1 ?c2 ?c3 ?c4 ?c5 ?_)
          case c1 => exact cell_one_new _ _ _
          case c2 => intro u hu; simp at hu; subst hu; rfl
          case c3 => unfold maxLen; omega
          case c4 => omega
          case c5 => have := HB.out.size; simp; omega
          intro v' w1 hown' hgrow _
          have HO' := Lib.hid hown'
          have HG' := Lib.hid hgrow
          clear hown' hgrow
          go_wp2_with fail
          go_roundw
          case rel => 
            refine ⟨k + 1, by omega, by go_num, ?_, ?_⟩
            · have h := HO'.out
              rw [HT.out, List.map_append]
              simpa [HK.out, u32v] using h
            · exact (HB.out.alloc HB.out.size _).grown HG'.out (by have := HB.out.size; simp; omega) (fun j hj => (HO.out.lt j hj).1)
          case measure => simp [intOf]; omega

      · obtain rfl : k = llen := by omega
        have hlx := HU.out.1
        have HW := Lib.hid (HU.out.below HB.out)
        obtain ⟨ao, c2, rfl, hUo⟩ := u32_of_own HO.out (by unfold maxLen; omega)
        rw [List.take_of_length_le (by rw [oth_length]; omega)] at hUo
        by_cases hneg : p < 0
        · rw [oth_out xs p Y (Or.inl hneg)] at hUo
          have HWo := Lib.hid hUo
          have HLX := Lib.hid hlx
          clear hUo hlx
          go_wp2_with fail
          refine (stream_any _ _ _ xs _ HW.out).mono ?_
          rintro e w' ⟨rfl, rfl⟩
          go_wp2_with fail
          refine (stream_any _ _ _ xs _ HWo.out).mono ?_
          rintro e w' ⟨rfl, rfl⟩
          go_wp2_with fail
          refine (nine_any _).mono ?_
          rintro e w2 ⟨rfl, hb2⟩
          have H2 := Lib.hid hb2
          clear hb2
          go_wp2_with fail
          go_ret
          exact ⟨rfl, HB.out.trans (H2.out.mono HB.out.size)⟩
        · by_cases hbig : (k : Int) ≤ p
          · rw [oth_out xs p Y (Or.inr (by omega))] at hUo
            have HWo := Lib.hid hUo
            have HLX := Lib.hid hlx
            clear hUo hlx
            go_wp2_with fail
            refine (stream_any _ _ _ xs _ HW.out).mono ?_
            rintro e w' ⟨rfl, rfl⟩
            go_wp2_with fail
            refine (stream_any _ _ _ xs _ HWo.out).mono ?_
            rintro e w' ⟨rfl, rfl⟩
            go_wp2_with fail
            refine (nine_any _).mono ?_
            rintro e w2 ⟨rfl, hb2⟩
            have H2 := Lib.hid hb2
            clear hb2
            go_wp2_with fail
            go_ret
            exact ⟨rfl, HB.out.trans (H2.out.mono HB.out.size)⟩
          · obtain ⟨n, rfl⟩ : ∃ n : Nat, p = (n : Int) := ⟨p.toNat, by omega⟩
            have hn : n < xs.length := by omega
            obtain ⟨b, off, rfl, _, hcell⟩ := HW.out.2.2 n xs[n] (List.getElem?_eq_getElem hn)
            have ho : oth xs (n : Int) Y = xs.set n Y := by unfold oth; rw [if_pos (by omega)]; simp
            rw [ho] at hUo
            have HWo := Lib.hid hUo
            have HLX := Lib.hid hlx
            have hs := strm_set xs n Y hn
            clear hUo hlx ho
            by_cases he : xs[n] = Y
            · have hs2 := Lib.hid (hs.2 he)
              have he2 : ((xs[n].toNat : Int) == (Y.toNat : Int)) = true := by rw [he]; simp
              have he3 : ((strm xs).toNat : Int) == ((strm (xs.set n Y)).toNat : Int) := by rw [← hs2.out]; simp
              clear hs
              have HE := Lib.hid he
              clear he
              go_wp2_with fail
              refine (stream_any _ _ _ xs _ HW.out).mono ?_
              rintro e w' ⟨rfl, rfl⟩
              go_wp2_with fail
              refine (stream_any _ _ _ (xs.set n Y) _ HWo.out).mono ?_
              rintro e w' ⟨rfl, rfl⟩
              go_wp2_with fail
              refine (nine_any _).mono ?_
              rintro e w2 ⟨rfl, hb2⟩
              have H2 := Lib.hid hb2
              clear hb2
              go_wp2_with fail
              go_ret
              exact ⟨rfl, HB.out.trans (H2.out.mono HB.out.size)⟩
            · have he2 := toNat_beq he
              have he3 := toNat_beq (fun h => he (hs.1 h))
              clear hs
              have HE := Lib.hid he
              clear he
              go_wp2_with fail
              refine (stream_any _ _ _ xs _ HW.out).mono ?_
              rintro e w' ⟨rfl, rfl⟩
              go_wp2_with fail
              refine (stream_any _ _ _ (xs.set n Y) _ HWo.out).mono ?_
              rintro e w' ⟨rfl, rfl⟩
              go_wp2_with fail
              refine (nine_any _).mono ?_
              rintro e w2 ⟨rfl, hb2⟩
              have H2 := Lib.hid hb2
              clear hb2
              go_wp2_with fail
              go_ret
              exact ⟨rfl, HB.out.trans (H2.out.mono HB.out.size)⟩
end Go.Proofs.Ythkgkhpfahippaa

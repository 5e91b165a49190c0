/-
  LAYER 2's STATEMENTS (bits side by side, turned).
-/
import Derived.Test.YthkgkhpfahippaaCrcLawC
namespace Go.Proofs.Ythkgkhpfahippaa
open Go.ChangeShapes Go.WideShapes Go.ChangeAt Go.RowKit CrcM
set_option linter.unusedVariables false

def topBit : BitVec 32 := 1#32 <<< 31
theorem it_add (a b : Nat) (x : BitVec 32) : it (a + b) x = it a (it b x) := by
  induction a with
  | zero => simp [it]
  | succ a ih => rw [Nat.succ_add]; simp only [it, ih]
theorem it_up : ∀ i : Fin 32, it i.val (1#32 <<< (31 - i.val)) = topBit := by decide +kernel
theorem up_128 : ∀ r : Fin 8, it 8 (up (128 >>> r.val)) = it (8 - r.val) topBit := by decide +kernel
theorem run_xor (l : List UInt8) : ∀ (u v : BitVec 32), run (u ^^^ v) l = run u l ^^^ it (8 * l.length) v := by
  induction l with
  | nil => intro u v; simp [run, it]
  | cons b l ih =>
    intro u v
    show run (nx (u ^^^ v) b) l = run (nx u b) l ^^^ it (8 * (l.length + 1)) v
    have e : nx (u ^^^ v) b = nx u b ^^^ it 8 v := by
      unfold nx
      rw [← it_xor]
      exact congrArg (it 8) (by rw [BitVec.xor_assoc, BitVec.xor_comm v, ← BitVec.xor_assoc])
    rw [e, ih, Nat.mul_add, it_add]
/-- ONE BIT TURNED. -/
theorem crc_flip (l : List UInt8) (k : Nat) (hk : k < 8 * l.length) (y z : UInt8) (hy : l[k / 8]? = some y) (hz : z.toNat = y.toNat ^^^ (128 >>> (k % 8))) :
    crc (l.set (k / 8) z) = crc l ^^^ it (8 * l.length - k) topBit := by
  obtain ⟨hlt, rfl⟩ := List.getElem?_eq_some_iff.1 hy
  have h1 : l = l.take (k / 8) ++ l[k / 8] :: l.drop (k / 8 + 1) := by simp
  have h2 : l.set (k / 8) z = l.take (k / 8) ++ z :: l.drop (k / 8 + 1) := by rw [List.set_eq_take_append_cons_drop, if_pos hlt]
  unfold crc
  rw [h2]
  conv => rhs; lhs; rw [h1]
  rw [run_append, run_append]
  show ng (run (nx _ z) _) = ng (run (nx _ _) _) ^^^ _
  generalize run (ng 0#32) (l.take (k / 8)) = u
  have e : nx u z = nx u l[k / 8] ^^^ it (8 - k % 8) topBit := by
    have := up_128 ⟨k % 8, by omega⟩
    simp only at this
    rw [← this]
    unfold nx
    rw [hz, up_xor, ← BitVec.xor_assoc, it_xor]
  rw [e, run_xor, ← it_add]
  have hlen : (l.drop (k / 8 + 1)).length = l.length - (k / 8 + 1) := by simp
  rw [hlen, show 8 * (l.length - (k / 8 + 1)) + (8 - k % 8) = 8 * l.length - k by omega]
  unfold ng
  rw [BitVec.not_xor_left]
/-- WHAT THE LOOP KNOWS: after i of 32 places, the row l is l0 with the places of M turned. -/
structure Turn (l0 l : List UInt8) (p i : Nat) (M : BitVec 32) (t : Bool) : Prop where
  sum : crc l = crc l0 ^^^ it (8 * l0.length - p) M
  len : l.length = l0.length
  low : ∀ b, b + i < 32 → M.getLsbD b = false
  any : t = true ↔ M ≠ 0#32
theorem Turn.start (l : List UInt8) (p : Nat) : Turn l l p 0 0#32 false := ⟨by rw [it_zero, BitVec.xor_zero], rfl, fun b _ => by simp, by simp⟩
theorem Turn.skip {l0 l : List UInt8} {p i : Nat} {M : BitVec 32} {t : Bool} (h : Turn l0 l p i M t) : Turn l0 l p (i + 1) M t := ⟨h.sum, h.len, fun b hb => h.low b (by omega), h.any⟩
theorem Turn.flip {l0 l : List UInt8} {p i : Nat} {M : BitVec 32} {t : Bool} (h : Turn l0 l p i M t) (hi : i < 32) (hk : p + i < 8 * l0.length) (y z : UInt8) (hy : l[(p + i) / 8]? = some y)
    (hz : z.toNat = y.toNat ^^^ (128 >>> ((p + i) % 8))) : Turn l0 (l.set ((p + i) / 8) z) p (i + 1) (M ^^^ (1#32 <<< (31 - i))) true := by
  have hlen := h.len
  refine ⟨?_, by simpa using h.len, fun b hb => ?_, ?_⟩
  · rw [crc_flip l (p + i) (by omega) y z hy hz, h.sum, hlen, it_xor, BitVec.xor_assoc]
    have e := it_up ⟨i, hi⟩
    simp only at e
    rw [← e, ← it_add, show 8 * l0.length - (p + i) + i = 8 * l0.length - p by omega]
  · rw [BitVec.getLsbD_xor, h.low b (by omega)]
    simp
    omega
  · simp only [true_iff]
    intro e
    have h2 := congrArg (fun v : BitVec 32 => v.getLsbD (31 - i)) e
    simp only [BitVec.getLsbD_xor, h.low (31 - i) (by omega)] at h2
    simp at h2
    omega
theorem Turn.fin {l0 l : List UInt8} {p i : Nat} {M : BitVec 32} {t : Bool} (h : Turn l0 l p i M t) : (((crc l0).toNat : Int) != ((crc l).toNat : Int)) = t := by
  have key : crc l0 = crc l ↔ M = 0#32 := by
    rw [h.sum]
    constructor
    · intro e
      have : crc l0 ^^^ crc l0 = crc l0 ^^^ (crc l0 ^^^ it (8 * l0.length - p) M) := congrArg (crc l0 ^^^ ·) e
      rw [← BitVec.xor_assoc, BitVec.xor_self, BitVec.zero_xor] at this
      exact it_eq_zero this.symm
    · intro e
      rw [e, it_zero, BitVec.xor_zero]
  have hany := h.any
  cases t with
  | true =>
    have hne : crc l0 ≠ crc l := fun e => (hany.1 rfl) (key.1 e)
    rw [bne_iff_ne]
    intro e
    exact hne (BitVec.eq_of_toNat_eq (by omega))
  | false =>
    have he : crc l0 = crc l := key.2 (by
      by_cases e : M = 0#32
      · exact e
      · have := hany.2 e; cases this)
    rw [he]; simp
/-- Block g holds the bytes l, and more behind them. -/
def IsBytes (w : World) (g : Nat) (l : List UInt8) : Prop :=
  ∃ cs lo hi, w.heap[g]? = some (.cells cs 5 (lo, hi)) ∧ l.length ≤ lo ∧ ∀ (i : Nat) (x : UInt8), l[i]? = some x → cs[i]? = some (u8v x)
theorem IsBytes.cell {w : World} {g : Nat} {l : List UInt8} (h : IsBytes w g l) {i : Nat} {x : UInt8} (hx : l[i]? = some x) : w.cell? ⟨g, i, none⟩ = some (u8v x) ∧ w.frozen? ⟨g, i, none⟩ = false := by
  obtain ⟨cs, lo, hi, hg, hl, hc⟩ := h
  have hi := (List.getElem?_eq_some_iff.1 hx).1
  refine ⟨by rw [cell_of_row _ _ _ _ _ _ hg]; exact hc i x hx, ?_⟩
  simp only [World.frozen?, hg]
  simp; omega
theorem IsBytes.lt {w : World} {g : Nat} {l : List UInt8} (h : IsBytes w g l) : g < w.heap.size := by
  obtain ⟨cs, lo, hi, hg, _⟩ := h
  exact (Array.getElem?_eq_some_iff.1 hg).1
theorem IsBytes.set {w : World} {g : Nat} {l : List UInt8} (h : IsBytes w g l) {i : Nat} (hil : i < l.length) (x : UInt8) : IsBytes (w.setCell ⟨g, i, none⟩ (u8v x)) g (l.set i x) := by
  obtain ⟨cs, lo, hi, hg, hl, hc⟩ := h
  have hcs : i < cs.size := by
    have := hc i l[i] (List.getElem?_eq_getElem hil)
    exact (Array.getElem?_eq_some_iff.1 this).1
  refine ⟨cs.setIfInBounds i (u8v x), lo, hi, ?_, by simpa using hl, fun j y hy => ?_⟩
  · simp only [World.setCell, Array.getElem?_modify, if_pos, hg]
    rfl
  · rw [Array.getElem?_setIfInBounds]
    rw [List.getElem?_set] at hy
    by_cases e : i = j
    · subst e
      rw [if_pos rfl, if_pos hcs]
      rw [if_pos rfl, if_pos hil] at hy
      exact congrArg (fun o => o.map u8v) hy
    · rw [if_neg e]
      rw [if_neg e] at hy
      exact hc j y hy
theorem IsBytes.other {w w' : World} {g : Nat} {l : List UInt8} (h : IsBytes w g l) (he : w'.heap[g]? = w.heap[g]?) : IsBytes w' g l := by
  obtain ⟨cs, lo, hi, hg, hl, hc⟩ := h
  exact ⟨cs, lo, hi, he.trans hg, hl, hc⟩
/-- '[]byte(s)'. -/
theorem conv_bytes (w : World) (s : ByteArray) : ∃ cap w', (convert 9 72 (.string s)).run Try.prog w = .ok (.slice (some ⟨w.heap.size, 0, none⟩) s.size cap) w' ∧ IsBytes w' w.heap.size s.data.toList ∧ Below w.heap.size w w' := by
  refine ⟨_, _, run_bytes_of_string w 9 72 5 s Try.underlying9 Try.underlying72 Try.underlying5, ⟨_, _, _, heap_alloc_new _ _, ?_, fun i x hx => ?_⟩, (Below.refl _ _).drew.alloc (Nat.le_refl _) _⟩
  · simp [bytesRow]
  · obtain ⟨hi, rfl⟩ := List.getElem?_eq_some_iff.1 hx
    exact bytesRow_at s _ i (by simpa using hi)
/-- 'string(x)'. -/
theorem bytes_conv {w : World} {g : Nat} {l : List UInt8} (h : IsBytes w g l) (cap : Nat) : (convert 72 9 (.slice (some ⟨g, 0, none⟩) l.length cap)).run Try.prog w = .ok (.string ⟨l.toArray⟩) w :=
  run_convert_bytes_back w 72 9 5 ⟨g, 0, none⟩ cap l Try.underlying72 Try.underlying5 Try.underlying9 (fun j hj => by
    rw [Addr.add_lit, Nat.zero_add, (h.cell (List.getElem?_eq_getElem hj)).1]; rfl)

theorem flip_code (y : UInt8) (r : Nat) (hr : r < 8) : ∃ z : UInt8, z.toNat = y.toNat ^^^ (128 >>> r) ∧ bits BinOp.xor IntKind.u8 (y.toNat : Int) ((128 : Int) / (2 : Int) ^ r) = (z.toNat : Int) := by
  have hy := y.toNat_lt
  have hlt : 128 >>> r < 256 := by rw [Nat.shiftRight_eq_div_pow]; exact Nat.lt_of_le_of_lt (Nat.div_le_self _ _) (by omega)
  have e : (128 : Int) / (2 : Int) ^ r = ((128 >>> r : Nat) : Int) := by rw [Nat.shiftRight_eq_div_pow]; simp
  have hx : y.toNat ^^^ (128 >>> r) < 256 := Nat.xor_lt_two_pow (n := 8) (by omega) (by omega)
  have ez : (UInt8.ofNat (y.toNat ^^^ (128 >>> r))).toNat = y.toNat ^^^ (128 >>> r) := by rw [UInt8.toNat_ofNat']; exact Nat.mod_eq_of_lt hx
  refine ⟨UInt8.ofNat (y.toNat ^^^ (128 >>> r)), ez, ?_⟩
  rw [e, u8_xor_nat _ _ (by omega) hlt, ez]
set_option maxHeartbeats 1000000 in
theorem crcTurned.walk (s : ByteArray) (p : Int) (mask : Int) (w : World) (w0 : s.size ≤ maxLen) (w1 : (Lit.int .i64 p).wf = true) (w2 : (Lit.int .u32 mask).wf = true) :
    Calls Try.prog 13 #[.string s, .int .i64 p, .int .u32 mask] w fun e w' => e = .returned (.bool true) ∧ Below w.heap.size w w' := by
  obtain ⟨X, rfl⟩ := bd_u32 w2
  obtain ⟨hp1, hp2⟩ := bd_i64 w1
  have hmax := w0
  unfold maxLen at hmax
  by_cases h500 : (500 : Int) < s.size
  ·
    go_enter Try.func13, Try.ntmps13
    go_wp2_with fail
    refine (nine_any _).mono ?_
    rintro e w1 ⟨rfl, hb1⟩
    go_wp2_with fail
    go_ret
    exact ⟨rfl, hb1⟩
  · by_cases hneg : p < 0
    ·
      go_enter Try.func13, Try.ntmps13
      go_wp2_with fail
      refine (nine_any _).mono ?_
      rintro e w1 ⟨rfl, hb1⟩
      go_wp2_with fail
      go_ret
      exact ⟨rfl, hb1⟩
    · by_cases hbig : 8 * (s.size : Int) ≤ p
      ·
        go_enter Try.func13, Try.ntmps13
        go_wp2_with fail
        refine (nine_any _).mono ?_
        rintro e w1 ⟨rfl, hb1⟩
        go_wp2_with fail
        go_ret
        exact ⟨rfl, hb1⟩
      · obtain ⟨q, rfl⟩ : ∃ n : Nat, p = (n : Int) := ⟨p.toNat, by omega⟩
        obtain ⟨cap, wc, hconv, hIB, hBB⟩ := conv_bytes w s
        have HIB := Lib.hid hIB
        have HBB := Lib.hid hBB
        clear hIB hBB
        go_enter Try.func13, Try.ntmps13
        go_wp2_with fail
        go_loopw [9, 10, 11, 30] (fun t _ _ i wr => ∃ (k : Nat) (l : List UInt8) (M : BitVec 32) (tb : Bool), k ≤ 32 ∧ i = .int .i64 k ∧ t = .bool tb ∧ Turn s.data.toList l q k M tb ∧ IsBytes wr w.heap.size l ∧ Below w.heap.size w wr) (fun _ _ _ i _ => 32 - (intOf i).toNat)
        case atStart => exact ⟨0, _, _, _, by omega, rfl, rfl, Turn.start _ _, HIB.out, HBB.out⟩
        case round =>
          obtain ⟨k, l, M, tb, hk, rfl, rfl, hT, hI, hB⟩ := hrel
          have HT := Lib.hid hT
          have HI := Lib.hid hI
          have HB := Lib.hid hB
          clear hT hI hB
          by_cases hlt : k < 32
          · by_cases hkn : (q : Int) + k < 8 * (s.size : Int)
            · by_cases hm : (((X.toNat : Int) / 2 ^ k).tmod 2 == 1) = true
              · have hb : (q + k) / 8 < l.length := by have := HT.out.len; have e : s.data.toList.length = s.size := rfl; omega
                obtain ⟨hc, hf⟩ := HI.out.cell (List.getElem?_eq_getElem hb)
                unfold u8v at hc
                have hix : (0 : Int) ≤ ((q : Int) + k) / 8 ∧ ((q : Int) + k) / 8 < s.size := by omega
                obtain ⟨hix0, hix1⟩ := hix
                have HBL := Lib.hid hb
                generalize hy : l[(q + k) / 8] = y at *
                have HY := Lib.hid hy
                clear hb hy
                go_wp2_with fail
                go_region
                go_wp2_with fail
                obtain ⟨z, hz, hcode⟩ := flip_code y ((q + k) % 8) (by omega)
                go_roundw
                case rel =>
                  rw [hcode]
                  refine ⟨k + 1, l.set ((q + k) / 8) z, _, true, by omega, by go_num, rfl, HT.out.flip hlt (by have e : s.data.toList.length = s.size := rfl; omega) y z ?_ hz, HI.out.set HBL.out z, (HB.out.setCell (Nat.le_refl _) _).drew⟩
                  rw [← HY.out]; exact List.getElem?_eq_getElem HBL.out
                case measure => simp [intOf]; omega
              · have hm' : (((X.toNat : Int) / 2 ^ k).tmod 2 == 1) = false := by simpa using hm
                go_wp2_with fail
                go_roundw
                case rel => exact ⟨k + 1, l, M, tb, by omega, by go_num, rfl, HT.out.skip, HI.out, HB.out⟩
                case measure => simp [intOf]; omega
            · go_wp2_with fail
              go_roundw
              case rel => exact ⟨k + 1, l, M, tb, by omega, by go_num, rfl, HT.out.skip, HI.out, HB.out⟩
              case measure => simp [intOf]; omega
          · have hl := HT.out.len
            have e0 : s.data.toList.length = s.size := rfl
            have hfin := HT.out.fin
            have sx : (⟨l.toArray⟩ : ByteArray).size ≤ maxLen := by show l.toArray.size ≤ _; rw [List.size_toArray, hl, e0]; exact w0
            have SX := Lib.hid sx
            have hcv : ∀ z : Beneath wr.heap.size wr, (convert 72 9 (.slice (some ⟨w.heap.size, 0, none⟩) s.size cap)).run Try.prog z.val = .ok (.string ⟨l.toArray⟩) z.val := fun z => by
              have := bytes_conv (HI.out.other (z.is.block _ HI.out.lt)) cap
              rwa [hl, e0] at this
            clear hl e0 sx
            go_wp2_with fail
            refine wp_region_beneath wr.heap.size wr (Below.refl _ _) (by kernel_rfl) (by kernel_rfl) ?_
            repeat (go_big_quiet_step (first
              | (go_at_call_of 44 s; rename_i z; exact Calls.beneath z (Nat.le_refl _) (of_any _ _ w0))
              | (go_at_call 44; rename_i z; exact Calls.beneath z (Nat.le_refl _) (of_any _ _ SX.out))
              | (go_at_call 43; rename_i z; exact Calls.beneath z (Nat.le_refl _) (nine_any _))))
            refine wpQuiet_nil ?_
            rintro _ ⟨z, rfl⟩
            go_wp2_with fail
            go_ret
            exact ⟨rfl, HB.out.trans (z.is.mono HB.out.size)⟩
end Go.Proofs.Ythkgkhpfahippaa

/-
  LAYER 3's STATEMENTS: RleSmall.
-/
import Derived.Test.YtfaalgogagpimaaDoorRleLawA
import Derived.Laws.OwnMore
namespace Go.Proofs.YtfaalgogagpimaaDoor
open Go.RowKit RleM
set_option linter.unusedVariables false
/-- The pieces of a row of like bytes. -/
def rowPs (c : UInt8) (r : Nat) : Nat → List Pc
  | 0 => if r = 0 then [] else [(c, r)]
  | q + 1 => (c, 255) :: rowPs c r q
theorem rowPs_good (c : UInt8) (r : Nat) (hr : r ≤ 254) : ∀ q, RleM.Good (rowPs c r q) ∧ flat (rowPs c r q) = List.replicate (255 * q + r) c ∧ (pack (rowPs c r q)).length = 5 * q + (if r < 4 then r else 5)
  | 0 => by
    unfold rowPs
    by_cases h : r = 0
    · subst h; exact ⟨trivial, rfl, rfl⟩
    · rw [if_neg h]
      refine ⟨⟨by show 1 ≤ r; omega, by show r ≤ 255; omega, (fun _ h => by cases h), trivial⟩, by simp [flat], ?_⟩
      rw [pack_one, packP_length]
      simp
  | q + 1 => by
    obtain ⟨h1, h2, h3⟩ := rowPs_good c r hr q
    unfold rowPs
    refine ⟨⟨by show 1 ≤ 255; omega, Nat.le_refl 255, (fun _ _ => Or.inr rfl), h1⟩, ?_, ?_⟩
    · rw [flat_cons, h2, List.replicate_append_replicate]
      congr 1
      show 255 + (255 * q + r) = _
      omega
    · rw [pack_cons, List.length_append, h3, packP_length]
      simp
      omega
theorem encode_row (c : UInt8) (k : Nat) : (encode (List.replicate k c)).length = 5 * (k / 255) + (if k % 255 < 4 then k % 255 else 5) := by
  obtain ⟨h1, h2, h3⟩ := rowPs_good c (k % 255) (by omega) (k / 255)
  rw [show 255 * (k / 255) + k % 255 = k from Nat.div_add_mod k 255] at h2
  unfold encode
  rw [← h2, pieces_flat _ h1, h3]
set_option maxRecDepth 100000 in
set_option maxHeartbeats 2000000 in
theorem rleSmall.walk (s : ByteArray) (n : Int) (w : World) (hT : Sizes w) (w0 : s.size ≤ maxLen) (w1 : (Lit.int .u16 n).wf = true) :
    Calls Tryd.prog 6 #[.string s, .int .u16 n] w fun e w' => e = .returned (.bool true) ∧ Below w.heap.size w w' := by
  unfold maxLen at w0
  have HT := Lib.hid hT
  clear hT
  by_cases hx0 : (2000 : Int) < s.size
  · go_enter Tryd.func6, Tryd.ntmps6
    go_wp2_with fail
    refine (six_any _ HT.out).mono ?_
    rintro e w8 ⟨rfl, hb8⟩
    have H8 := Lib.hid hb8
    clear hb8
    go_wp2_with fail
    go_ret
    exact ⟨rfl, H8.out⟩
  · have hn : 0 ≤ n ∧ n ≤ 65535 := by
      simp only [Lit.wf] at w1
      simpa [IntKind.min, IntKind.max, IntKind.signed, IntKind.bits] using w1
    obtain ⟨hn0, hn1⟩ := hn
    obtain ⟨K, hK⟩ : ∃ K : Nat, n % 3000 = (K : Int) := ⟨(n % 3000).toNat, by omega⟩
    obtain ⟨R, hR⟩ : ∃ R : Nat, (K : Int) % 255 = (R : Int) := ⟨K % 255, by omega⟩
    obtain ⟨Q, hQ⟩ : ∃ Q : Nat, (K : Int) / 255 = (Q : Int) := ⟨K / 255, by omega⟩
    have hKb : K < 3000 := by omega
    have hRb : R < 255 := by omega
    have hQb : Q < 12 := by omega
    have HE := Lib.hid (show (encode (List.replicate K 0)).length = 5 * Q + (if R < 4 then R else 5) by
      rw [encode_row, show K / 255 = Q from by omega, show K % 255 = R from by omega])
    obtain ⟨l, hl⟩ : ∃ l, s.data.toList = l := ⟨_, rfl⟩
    have hz : s.data.toList.length = s.size := rfl
    have hxs : s = ⟨l.toArray⟩ := hl ▸ text_eq s
    rw [hl] at hz
    have hll : l.length ≤ 2000 := by omega
    obtain ⟨E, hE⟩ : ∃ E, encode l = E := ⟨_, rfl⟩
    have hes := encode_small l
    rw [hE] at hes
    have hes2 : (4 : Int) * (E.length : Int) ≤ 5 * (l.length : Int) := by omega
    have hel : E.length ≤ 2500 := by omega
    subst hxs
    have HSL : (⟨l.toArray⟩ : ByteArray).size = l.length := text_size l
    have HSE : (⟨E.toArray⟩ : ByteArray).size = E.length := text_size E
    have HEE := Lib.hid hE
    have hx1 : ¬ (2000 : Int) < (l.length : Int) := by omega
    clear hE hl hz hx0 hes w1
    obtain ⟨i0, hi, hz0, hz1, hz2⟩ := info_parts info5
    obtain ⟨wm, hmk, hownm, hgm⟩ := run_make_full (P := Tryd.prog) w w.heap.size 41 5 i0 (.int .u8 0) 1 Tryd.underlying41 hi hz0 hz1 .i64 .i64 K (by rw [hz2]; omega) (by unfold maxLen; omega) (Nat.le_refl _)
    have HM := Lib.hid hownm
    have BM := Lib.hid (Below.grown (Below.refl w.heap.size w) hgm (Nat.le_refl _) (fun j hj => by cases hj))
    have HCV : Hid (∀ w1, Below wm.heap.size wm w1 → (convert 41 9 (.slice (some ⟨w.heap.size, 0, none⟩) K K)).run Tryd.prog w1 = .ok (.string ⟨(List.replicate K 0).toArray⟩) w1) := Lib.hid fun w1 hb => by
      refine bytes_conv w1 w.heap.size K (List.replicate K 0) K (by simp) (fun j x hj => ?_)
      have hlt := (hownm.lt w.heap.size rfl).2
      rw [hb.cell (p := ⟨w.heap.size, j, none⟩) hlt]
      have hjk : j < K := by have := (List.getElem?_eq_some_iff.1 hj).1; simpa using this
      have hx : x = 0 := by have := (List.getElem?_eq_some_iff.1 hj).2; simpa using this.symm
      subst hx
      have h1 := hownm.cells (g := w.heap.size) rfl j (.int .u8 0) (by
        show (madeCells #[.int .u8 0] (K * 1)).toList[j]? = _
        rw [toList_madeCells_one, Nat.mul_one]
        simp [hjk])
      rwa [Addr.add_lit, Nat.zero_add] at h1
    clear hownm hgm hi hz0 hz1 hz2 i0
    have hE2 : (⟨(encode (List.replicate K 0)).toArray⟩ : ByteArray).size = (encode (List.replicate K 0)).length := text_size _
    by_cases h4 : (4 : Int) ≤ (R : Int)
    · have hlen : (((encode (List.replicate K 0)).length : Int) == 5 * (Q : Int) + 5) = true := by
        have := HE.out
        rw [if_neg (by omega)] at this
        rw [beq_iff_eq]; omega
      generalize hZ : encode (List.replicate K 0) = Z at *
      have HZ := Lib.hid hZ
      clear hZ
      go_enter Tryd.func6, Tryd.ntmps6
      go_wp2_with fail
      refine (encode_at l E wm (HT.out.below BM.out HT.out.lt) (by omega) HEE.out).mono ?_
      rintro e w1 ⟨rfl, hb1⟩
      have hcv := HCV.out w1 hb1
      have B1 := Lib.hid (BM.out.trans (hb1.mono BM.out.size))
      clear hb1
      go_wp2_with fail
      refine (encode_at (List.replicate K 0) Z w1 (HT.out.below B1.out HT.out.lt) (by simp; omega) HZ.out).mono ?_
      rintro e w2 ⟨rfl, hb2⟩
      have B2 := Lib.hid (B1.out.trans (hb2.mono B1.out.size))
      clear hb2
      go_wp2_with fail
      refine (six_any w2 (HT.out.below B2.out HT.out.lt)).mono ?_
      rintro e w6 ⟨rfl, hb6⟩
      have B6 := Lib.hid (B2.out.trans (hb6.mono B2.out.size))
      clear hb6
      go_wp2_with fail
      go_ret
      exact ⟨rfl, B6.out⟩
    · have hlen : (((encode (List.replicate K 0)).length : Int) == 5 * (Q : Int) + (R : Int)) = true := by
        have := HE.out
        rw [if_pos (by omega)] at this
        rw [beq_iff_eq]; omega
      generalize hZ : encode (List.replicate K 0) = Z at *
      have HZ := Lib.hid hZ
      clear hZ
      go_enter Tryd.func6, Tryd.ntmps6
      go_wp2_with fail
      refine (encode_at l E wm (HT.out.below BM.out HT.out.lt) (by omega) HEE.out).mono ?_
      rintro e w1 ⟨rfl, hb1⟩
      have hcv := HCV.out w1 hb1
      have B1 := Lib.hid (BM.out.trans (hb1.mono BM.out.size))
      clear hb1
      go_wp2_with fail
      refine (encode_at (List.replicate K 0) Z w1 (HT.out.below B1.out HT.out.lt) (by simp; omega) HZ.out).mono ?_
      rintro e w2 ⟨rfl, hb2⟩
      have B2 := Lib.hid (B1.out.trans (hb2.mono B1.out.size))
      clear hb2
      go_wp2_with fail
      refine (six_any w2 (HT.out.below B2.out HT.out.lt)).mono ?_
      rintro e w6 ⟨rfl, hb6⟩
      have B6 := Lib.hid (B2.out.trans (hb6.mono B2.out.size))
      clear hb6
      go_wp2_with fail
      go_ret
      exact ⟨rfl, B6.out⟩
end Go.Proofs.YtfaalgogagpimaaDoor

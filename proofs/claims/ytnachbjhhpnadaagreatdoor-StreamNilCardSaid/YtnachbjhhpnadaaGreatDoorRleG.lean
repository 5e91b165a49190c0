/-
  THE WALKS OF LAYER 3 (package rle): Length, Decode.
-/
import Derived.Test.YtnachbjhhpnadaaGreatDoorRleF
namespace Go.Proofs.YtnachbjhhpnadaaGreatDoor
open Go.RowKit RleM
set_option linter.unusedVariables false
set_option maxHeartbeats 400000 in
theorem lengthTell_any (w0 w : World) (b N : Nat) (c : UInt8) (n : Nat) (h : Counts w0 b N w) (hb : w0.heap.size ≤ b) (hN : N ≤ 1099511627776) (hn : n ≤ 255) :
    Calls Tryz.prog 197 #[.int .u8 (c.toNat : Int), .int .i64 (n : Int), .pointer (some ⟨b, 0, none⟩)] w fun e w' => e = .returned (.tuple #[]) ∧ Counts w0 b (N + n) w' := by
  have c0 := cell_of_row _ _ 0 _ _ _ h.block
  have f0 := frozen_of_row _ _ 0 _ _ h.block
  have H := Lib.hid h
  clear h
  simp at c0
  go_enter Tryz.func197, Tryz.ntmps197
  go_wp2_with fail
  go_end0
  exact ⟨rfl, H.out.put hb (N + n) _ (by simp)⟩
set_option maxHeartbeats 400000 in
theorem decodeTell_any (w0 w : World) (b : Nat) (o : List UInt8) (c : UInt8) (n : Nat) (h : Packs w0 b o w) (hN : o.length ≤ 1099511627776) (hn : n ≤ 255) :
    Calls Tryz.prog 136 #[.int .u8 (c.toNat : Int), .int .i64 (n : Int), .pointer (some ⟨b, 0, none⟩)] w fun e w' => e = .returned (.tuple #[]) ∧ Packs w0 b (o ++ List.replicate n c) w' := by
  have H := Lib.hid h
  clear h
  go_enter Tryz.func136, Tryz.ntmps136
  go_wp2_with fail
  go_loopw [6] (fun i wr => ∃ k : Nat, k ≤ n ∧ i = .int .i64 k ∧ Hid (Packs w0 b (o ++ List.replicate k c) wr)) (fun i _ => n - (intOf i).toNat)
  case atStart => exact ⟨0, by omega, rfl, by simpa using H⟩
  case round =>
    obtain ⟨k, hk, rfl, hP⟩ := hrel
    by_cases hlt : k < n
    · have hs := hP.out.below.size
      go_wp2_with fail
      refine (writeByte_any w0.heap.size b _ (c.toNat : Int) wr hP.out.used (by simp [u8s]; omega) hs).mono ?_
      rintro e w2 ⟨rfl, hu, hb⟩
      have HU := Lib.hid hu
      have HB := Lib.hid hb
      clear hu hb
      go_wp2_with fail
      go_roundw
      case rel =>
        refine ⟨k + 1, by omega, by go_num, Lib.hid ⟨?_, hP.out.below.trans HB.out⟩⟩
        have := HU.out
        rw [List.replicate_succ', ← List.append_assoc]
        rw [u8s, List.map_append]
        exact this
      case measure => simp [intOf]; omega
    · obtain rfl : k = n := by omega
      go_wp2_with fail
      go_end0
      exact ⟨rfl, hP.out⟩
theorem dec_len (l : List UInt8) : (dec l).1.length ≤ 255 * l.length := by
  have h : ∀ (l : List UInt8) (st : UInt8 × Nat) (r : (UInt8 × Nat) × List UInt8), urun st l = some r → r.2.length ≤ 255 * l.length := by
    intro l
    induction l with
    | nil => intro st r h; have : (st, []) = r := by simpa [urun] using h
             subst this; simp
    | cons c l ih =>
      intro st r h
      rw [urun] at h
      obtain ⟨q, hq, h2⟩ := Option.bind_eq_some_iff.1 h
      obtain ⟨q2, hq2, rfl⟩ := Option.map_eq_some_iff.1 h2
      have h3 := ih _ _ hq2
      have h4 : q.2.length ≤ 255 := by
        unfold ustep at hq
        split at hq
        · split at hq
          · cases hq
          · have hc := c.toNat_lt
            obtain rfl := Option.some.inj hq
            simp; omega
        · obtain rfl := Option.some.inj hq
          simp
      simp only [List.length_append, List.length_cons]; omega
  unfold dec res
  cases hr : urun (0, 0) l with
  | none => simp [outc]
  | some r =>
    obtain ⟨st, o⟩ := r
    have := h l _ _ hr
    show (if st.2 = 4 then (([] : List UInt8), 24) else (o, 0)).1.length ≤ _
    split
    · simp
    · exact this
theorem dec_code (l : List UInt8) : (dec l).2 = 0 ∨ (dec l).2 = 24 ∨ (dec l).2 = 25 := by
  unfold dec res
  cases urun (0, 0) l with
  | none => simp [outc]
  | some r =>
    obtain ⟨st, o⟩ := r
    have e : outc (some (st, o)) = if st.2 = 4 then (([] : List UInt8), 24) else (o, 0) := rfl
    rw [e]
    split <;> simp
set_option maxRecDepth 100000 in
set_option maxHeartbeats 1000000 in
theorem rllength_any (s : ByteArray) (w : World) (hs : s.size ≤ 4294967296) :
    Calls Tryz.prog 133 #[.string s] w fun e w' => e = .returned (.tuple #[.int .i64 ((dec s.data.toList).1.length : Int), .int .i64 ((dec s.data.toList).2 : Int)]) ∧ Below w.heap.size w w' := by
  have HE := Lib.hid (dec_err s.data.toList)
  go_enter Tryz.func133, Tryz.ntmps133
  go_wp2_with fail
  refine (unpack_any 197 #[.pointer (some ⟨w.heap.size, 0, none⟩)] (fun o w' => Counts w w.heap.size o.length w') s _ hs (enters_of Tryz.func197 (by kernel_rfl) rfl) (fun o w' n h => h.drewN n) (fun o b n w' h hn ho => ?_) ?_).mono ?_
  · rw [List.length_append, List.length_replicate]
    exact lengthTell_any w w' w.heap.size _ b n h (Nat.le_refl _) (by omega) hn
  · exact ⟨heap_alloc_new _ _, (Below.refl _ _).alloc (Nat.le_refl _) _⟩
  · rintro e w1 ⟨rfl, o, hc, ho⟩
    have c := cell_of_row _ _ 0 _ _ _ hc.block
    have B1 := Lib.hid hc.below
    have HO := Lib.hid ho
    clear hc ho
    simp at c
    by_cases hz : (dec s.data.toList).2 = 0
    · have e1 : o = (dec s.data.toList).1 := HO.out hz
      subst e1
      rw [hz]
      have HZ := Lib.hid hz
      clear hz
      go_wp2_with fail
      go_ret2
      exact ⟨by rw [HZ.out]; rfl, B1.out⟩
    · have hb : (((dec s.data.toList).2 : Int) != 0) = true := by simpa using hz
      have hn : (dec s.data.toList).1 = [] := HE.out hz
      have HN := Lib.hid hn
      clear hn
      go_wp2_with fail
      go_ret2
      exact ⟨by rw [HN.out]; rfl, B1.out⟩
set_option maxRecDepth 100000 in
set_option maxHeartbeats 1000000 in
theorem rldecode_any (s : ByteArray) (w : World) (hs : s.size ≤ 4294967296) :
    Calls Tryz.prog 77 #[.string s] w fun e w' => e = .returned (.tuple #[.string ⟨(dec s.data.toList).1.toArray⟩, .int .i64 ((dec s.data.toList).2 : Int)]) ∧ Below w.heap.size w w' := by
  have HE := Lib.hid (dec_err s.data.toList)
  have hlen := dec_len s.data.toList
  have hz0 : s.data.toList.length = s.size := rfl
  have hlen2 : (dec s.data.toList).1.length ≤ 1099511627776 := by omega
  clear hlen hz0
  go_enter Tryz.func77, Tryz.ntmps77
  go_wp2_with fail
  refine (rllength_any s w hs).mono ?_
  rintro e w1 ⟨rfl, hb1⟩
  have B1 := Lib.hid hb1
  have hs1 := hb1.size
  clear hb1
  by_cases hz : (dec s.data.toList).2 = 0
  · rw [hz]
    have HZ := Lib.hid hz
    clear hz
    go_wp2_with fail
    refine (Tryz.Builder_Grow_fresh w1.heap.size w1.heap.size (dec s.data.toList).1.length _ (Nat.le_refl _) (heap_alloc_new w1 _) (by simp) (by omega)).mono ?_
    rintro e w2 ⟨rfl, hu2, hb2⟩
    have HU2 := Lib.hid hu2
    have HB2 := Lib.hid (((Below.refl w1.heap.size w1).alloc (Nat.le_refl _) (.cells #[.pointer none, .slice none 0 0] 186)).trans hb2)
    clear hu2 hb2
    go_wp2_with fail
    refine (unpack_any 136 #[.pointer (some ⟨w1.heap.size, 0, none⟩)] (fun o w' => Packs w1 w1.heap.size o w') s _ hs (enters_of Tryz.func136 (by kernel_rfl) rfl) (fun o w' n h => h.drewN n) (fun o b n w' h hn ho => ?_) ?_).mono ?_
    · exact decodeTell_any w1 w' w1.heap.size o b n h (by omega) hn
    · exact ⟨HU2.out, HB2.out⟩
    · rintro e w3 ⟨rfl, o, hp, ho⟩
      obtain rfl : o = (dec s.data.toList).1 := ho HZ.out
      have HU3 := Lib.hid hp.used
      have HB3 := Lib.hid hp.below
      have hs3 := hp.below.size
      clear hp ho
      go_wp2_with fail
      refine (Tryz.Builder_String_any w1.heap.size w1.heap.size (dec s.data.toList).1 w3 (Or.inr HU3.out) hs3).mono ?_
      rintro e w4 ⟨rfl, hb4⟩
      have HB4 := Lib.hid (B1.out.trans ((HB3.out.trans hb4).mono hs1))
      clear hb4
      go_wp2_with fail
      go_ret2
      exact ⟨by rw [HZ.out]; rfl, HB4.out⟩
  · have hb : (((dec s.data.toList).2 : Int) != 0) = true := by simpa using hz
    have hn : (dec s.data.toList).1 = [] := HE.out hz
    have HN := Lib.hid hn
    clear hn
    go_wp2_with fail
    go_ret2
    exact ⟨by rw [HN.out]; rfl, B1.out⟩
end Go.Proofs.YtnachbjhhpnadaaGreatDoor

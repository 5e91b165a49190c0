/-
  THE WALKS OF LAYER 3 (package rle): unpacking.
-/
import Derived.Test.YtnachbjhhpnadaaGreatDoorRleE
import Derived.StillTailTactics
namespace Go.Proofs.YtnachbjhhpnadaaGreatDoor
open Go.RowKit RleM
set_option linter.unusedVariables false
theorem data_get {s : ByteArray} {k : Nat} (hk : k < s.size) : s.data.toList[k]? = some s[k] := byte_at rfl hk
theorem take_step {s : ByteArray} {k : Nat} (hk : k < s.size) : s.data.toList.take (k + 1) = s.data.toList.take k ++ [s[k]] := by
  rw [List.take_add_one, data_get hk]; rfl
/-- WHAT THE LOOP OF unpack KNOWS. -/
structure Unp (I : List UInt8 → World → Prop) (s : ByteArray) (k : Nat) (a : UInt8) (n : Nat) (o : List UInt8) (wr : World) : Prop where
  run : urun (0, 0) (s.data.toList.take k) = some ((a, n), o)
  inv : I o wr
  len : o.length ≤ 255 * k
  last : 0 < n → 0 < k ∧ s.data.toList[k - 1]? = some a
/-- A byte that stands for itself. -/
theorem Unp.plain {I : List UInt8 → World → Prop} {s : ByteArray} {k : Nat} {a : UInt8} {n : Nat} {o : List UInt8} {wr w' : World} (h : Unp I s k a n o wr) (hk : k < s.size) (hn : n ≠ 4)
    (m : Nat) (hm : m = if s[k] = a then n + 1 else 1) (hw : I (o ++ List.replicate 1 s[k]) w') : Unp I s (k + 1) s[k] m (o ++ List.replicate 1 s[k]) w' := by
  obtain ⟨h1, h2, h3, h4⟩ := h
  refine ⟨?_, hw, by simp; omega, fun _ => ⟨by omega, by simpa using data_get hk⟩⟩
  rw [take_step hk, urun_snoc, h1]
  simp [ustep, hn, hm]
/-- A count. -/
theorem Unp.count {I : List UInt8 → World → Prop} {s : ByteArray} {k : Nat} {a : UInt8} {o : List UInt8} {wr w' : World} (h : Unp I s k a 4 o wr) (hk : k < s.size) (hc : ¬ 251 < s[k].toNat)
    (hw : I (o ++ List.replicate s[k].toNat a) w') : Unp I s (k + 1) a 0 (o ++ List.replicate s[k].toNat a) w' := by
  obtain ⟨h1, h2, h3, h4⟩ := h
  have := s[k].toNat_lt
  refine ⟨?_, hw, by simp; omega, fun h => by omega⟩
  rw [take_step hk, urun_snoc, h1]
  simp [ustep, hc]
theorem urun_none {st : UInt8 × Nat} (l m : List UInt8) (h : urun st l = none) : urun st (l ++ m) = none := by rw [urun_append, h]; rfl
theorem Unp.bad {I : List UInt8 → World → Prop} {s : ByteArray} {k : Nat} {a : UInt8} {o : List UInt8} {wr : World} (h : Unp I s k a 4 o wr) (hk : k < s.size) (hc : 251 < s[k].toNat) : dec s.data.toList = ([], 25) := by
  obtain ⟨h1, h2, h3, h4⟩ := h
  have h5 : urun (0, 0) (s.data.toList.take (k + 1)) = none := by
    rw [take_step hk, urun_snoc, h1]
    simp [ustep, hc]
  have := urun_none _ (s.data.toList.drop (k + 1)) h5
  rw [List.take_append_drop] at this
  unfold dec res
  rw [this]; rfl
theorem Unp.done {I : List UInt8 → World → Prop} {s : ByteArray} {a : UInt8} {n : Nat} {o : List UInt8} {wr : World} (h : Unp I s s.size a n o wr) : dec s.data.toList = (if n = 4 then ([], 24) else (o, 0)) := by
  have h1 := h.run
  rw [show s.data.toList.take s.size = s.data.toList from List.take_of_length_le (Nat.le_refl _)] at h1
  unfold dec res; rw [h1]; rfl
/-- What unpack leaves. -/
def Left (I : List UInt8 → World → Prop) (l : List UInt8) (w : World) : Prop := ∃ o, I o w ∧ ((dec l).2 = 0 → o = (dec l).1)
set_option maxRecDepth 100000 in
set_option maxHeartbeats 2000000 in
theorem unpack_any (F : FuncId) (caps : Array Value) (I : List UInt8 → World → Prop) (s : ByteArray) (w : World) (hs : s.size ≤ 4294967296)
    (he : ∀ args w, (callFunc F args).run Tryz.prog w = .ok (.enter F args) w) (hd : ∀ o w n, I o w → I o (w.drewN n))
    (hI : ∀ o (b : UInt8) (n : Nat) w, I o w → n ≤ 255 → o.length ≤ 255 * s.size → Calls Tryz.prog F (#[.int .u8 (b.toNat : Int), .int .i64 (n : Int)] ++ caps) w fun e w' => e = .returned (.tuple #[]) ∧ I (o ++ List.replicate n b) w')
    (h0 : I [] w) : Calls Tryz.prog 135 #[.string s, .func (.func F) #[] caps] w fun e w' => e = .returned (.int .i64 ((dec s.data.toList).2 : Int)) ∧ Left I s.data.toList w' := by
  have HI := Lib.hid hI
  have HD := Lib.hid hd
  have H0 := Lib.hid h0
  clear hI hd h0
  go_enter Tryz.func135, Tryz.ntmps135
  go_wp2_with fail
  go_loopw [5, 6, 9] (fun v _ i wr => ∃ (k n : Nat) (a : UInt8) (o : List UInt8), k ≤ s.size ∧ i = .int .i64 k ∧ v = .int .i64 n ∧ n ≤ 4 ∧ Hid (Unp I s k a n o wr)) (fun _ _ i _ => s.size - (intOf i).toNat)
  case atStart => exact ⟨0, 0, 0, [], by omega, rfl, rfl, by omega, Lib.hid ⟨rfl, H0.out, by simp, fun h => by omega⟩⟩
  case round =>
    obtain ⟨k, n, a, o, hk, rfl, rfl, hn, hU⟩ := hrel
    have hol : o.length ≤ 255 * s.size := by have := hU.out.len; omega
    by_cases hlt : k < s.size
    · by_cases h4 : n = 4
      · subst h4
        obtain ⟨hk0, hla⟩ := hU.out.last (by omega)
        have hk1 : k - 1 < s.size := by omega
        have hla2 : s[k - 1] = a := by have := data_get hk1; rw [hla] at this; exact (Option.some.inj this).symm
        have HLA := Lib.hid hla2
        clear hla hla2
        have kk : (0 : Int) < (k : Int) := by omega
        by_cases hc : (251 : Int) < (s[k].toNat : Int)
        · have HBAD := Lib.hid (hU.out.bad hlt (by omega))
          go_wp2_with fail
          go_ret
          exact ⟨by rw [HBAD.out]; rfl, o, hU.out.inv, fun e => by rw [HBAD.out] at e; cases e⟩
        · go_wp2_with fail
          have hix : ∀ W, (Instr.index 9 (.string s) (.int .i64 (IntKind.i64.wrap ((k : Int) - 1)))).run Tryz.prog W = .ok (.int .u8 (a.toNat : Int)) W := fun W => by
            rw [IntWalk.i64_in _ (by omega), run_index_string W 9 s .i64 ((k : Int) - 1) Tryz.underlying9]
            have e : ((k : Int) - 1).toNat = k - 1 := by omega
            simp [e, HLA.out]
            omega
          go_still_tail 9, (by kernel_rfl)
          change wpList _ _ _ _ _ (wr.drewN 1)
          clear hix
          go_wp2_with fail
          have h255 := s[k].toNat_lt
          refine (HI.out o a s[k].toNat _ (HD.out _ _ _ hU.out.inv) (by omega) hol).mono ?_
          rintro e w2 ⟨rfl, hi2⟩
          have HI2 := Lib.hid hi2
          clear hi2
          go_wp2_with fail
          go_roundw
          case rel => exact ⟨k + 1, 0, a, _, by omega, by go_num, rfl, by omega, Lib.hid (hU.out.count hlt (by omega) HI2.out)⟩
          case measure => simp [intOf]; omega
      · have hn4 : ((n : Int) == 4) = false := by rw [beq_eq_false_iff_ne]; omega
        have h255 := s[k].toNat_lt
        have hbk : ∀ W, (Instr.index 9 (.string s) (.int .i64 (k : Int))).run Tryz.prog W = .ok (.int .u8 (s[k].toNat : Int)) W := fun W => by
          rw [run_index_string W 9 s .i64 (k : Int) Tryz.underlying9]
          simp [hlt]
        by_cases hn0 : n = 0
        · subst hn0
          go_wp2_with fail
          go_quiet (fail)
          go_wp2_with fail
          refine (HI.out o s[k] 1 _ (HD.out _ _ _ hU.out.inv) (by omega) hol).mono ?_
          rintro e w2 ⟨rfl, hi2⟩
          have HI2 := Lib.hid hi2
          clear hi2
          go_wp2_with fail
          go_roundw
          case rel => exact ⟨k + 1, 1, s[k], _, by omega, by go_num, rfl, by omega, Lib.hid (hU.out.plain hlt h4 1 (by simp) HI2.out)⟩
          case measure => simp [intOf]; omega
        · obtain ⟨hk0, hla⟩ := hU.out.last (by omega)
          have hk1 : k - 1 < s.size := by omega
          have hla2 : s[k - 1] = a := by have := data_get hk1; rw [hla] at this; exact (Option.some.inj this).symm
          have HLA := Lib.hid hla2
          clear hla hla2
          have hp : 0 < n := by omega
          have hix : ∀ W, (Instr.index 9 (.string s) (.int .i64 (IntKind.i64.wrap ((k : Int) - 1)))).run Tryz.prog W = .ok (.int .u8 (a.toNat : Int)) W := fun W => by
            rw [IntWalk.i64_in _ (by omega), run_index_string W 9 s .i64 ((k : Int) - 1) Tryz.underlying9]
            have e : ((k : Int) - 1).toNat = k - 1 := by omega
            simp [e, HLA.out]
            omega
          by_cases he : s[k] = a
          · have hb : ((s[k].toNat : Int) == (a.toNat : Int)) = true := byte_eq he
            have hb2 : ((s[k].toNat : Int) != (a.toNat : Int)) = false := by rw [he]; simp
            have HE := Lib.hid he
            clear he
            go_wp2_with fail
            go_quiet (fail)
            go_wp2_with fail
            refine (HI.out o s[k] 1 _ (HD.out _ _ _ hU.out.inv) (by omega) hol).mono ?_
            rintro e w2 ⟨rfl, hi2⟩
            have HI2 := Lib.hid hi2
            clear hi2
            go_wp2_with fail
            go_roundw
            case rel => exact ⟨k + 1, n + 1, s[k], _, by omega, by go_num, by go_num, by omega, Lib.hid (hU.out.plain hlt h4 (n + 1) (by rw [if_pos HE.out]) HI2.out)⟩
            case measure => simp [intOf]; omega
          · have hb : ((s[k].toNat : Int) == (a.toNat : Int)) = false := byte_ne he
            have hb2 : ((s[k].toNat : Int) != (a.toNat : Int)) = true := by simp [bne, hb]
            have HE := Lib.hid he
            clear he
            go_wp2_with fail
            go_quiet (fail)
            go_wp2_with fail
            refine (HI.out o s[k] 1 _ (HD.out _ _ _ hU.out.inv) (by omega) hol).mono ?_
            rintro e w2 ⟨rfl, hi2⟩
            have HI2 := Lib.hid hi2
            clear hi2
            go_wp2_with fail
            go_roundw
            case rel => exact ⟨k + 1, 1, s[k], _, by omega, by go_num, rfl, by omega, Lib.hid (hU.out.plain hlt h4 1 (by rw [if_neg HE.out]) HI2.out)⟩
            case measure => simp [intOf]; omega
    · obtain rfl : k = s.size := by omega
      have HDN := Lib.hid hU.out.done
      by_cases h4 : n = 4
      · subst h4
        go_wp2_with fail
        go_ret
        rw [HDN.out]
        exact ⟨rfl, o, hU.out.inv, fun e => by rw [HDN.out] at e; cases e⟩
      · have hn4 : ((n : Int) == 4) = false := by rw [beq_eq_false_iff_ne]; omega
        go_wp2_with fail
        go_ret
        exact ⟨by rw [HDN.out, if_neg h4]; rfl, o, hU.out.inv, fun _ => by rw [HDN.out, if_neg h4]⟩
end Go.Proofs.YtnachbjhhpnadaaGreatDoor

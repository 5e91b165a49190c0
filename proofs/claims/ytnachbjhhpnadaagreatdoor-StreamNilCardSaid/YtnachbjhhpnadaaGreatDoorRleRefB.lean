/-
  THE WALKS OF THE DOCUMENT's ANSWERS OF LAYER 3 (balerref03): Encode, Decode.
-/
import Derived.Test.YtnachbjhhpnadaaGreatDoorRleRef
namespace Go.Proofs.YtnachbjhhpnadaaGreatDoor
open Go.RowKit RleM
set_option linter.unusedVariables false
theorem pack_take {ps : List Pc} {k : Nat} {p : Pc} (h : ps[k]? = some p) : pack (ps.take (k + 1)) = pack (ps.take k) ++ packP p := by
  rw [List.take_add_one, h]
  simp [pack]
theorem pack_take_le {l : List UInt8} (k : Nat) : 4 * (pack ((pieces l).take k)).length ≤ 5 * l.length := by
  have hg := good l
  have hf := flat_pieces l
  rw [← List.take_append_drop k (pieces l)] at hg hf
  have h2 := pack_small _ (good_left hg)
  rw [flat_append] at hf
  have : (flat ((pieces l).take k)).length ≤ l.length := by
    have h3 : l.length = (flat ((pieces l).take k) ++ flat ((pieces l).drop k)).length := by rw [hf]
    rw [List.length_append] at h3; omega
  omega
theorem data_get0 {s : ByteArray} {k : Nat} (hk : k < s.size) : s.data.toList[k]? = some s[k] := byte_at rfl hk
theorem good_mem : ∀ {ps : List Pc} {p : Pc}, RleM.Good ps → p ∈ ps → 1 ≤ p.2 ∧ p.2 ≤ 255
  | q :: ps, p, h, hm => by
    rcases List.mem_cons.1 hm with rfl | hm
    · exact ⟨h.1, h.2.1⟩
    · exact good_mem h.2.2.2 hm
  | [], p, _, hm => by cases hm
set_option maxRecDepth 100000 in
set_option maxHeartbeats 1000000 in
theorem rlrefEncode_any (s : ByteArray) (w : World) (hs : s.size ≤ 549755813888) :
    Calls Tryz.prog 37 #[.string s] w fun e w' => e = .returned (.string ⟨(encode s.data.toList).toArray⟩) ∧ Below w.heap.size w w' := by
  have HG := Lib.hid (good s.data.toList)
  have HL := Lib.hid (fun k => pack_take_le (l := s.data.toList) k)
  have HC := Lib.hid (pieces_count s.data.toList)
  have HZ := Lib.hid (show s.data.toList.length = s.size from rfl)
  have HE := Lib.hid (show encode s.data.toList = pack (pieces s.data.toList) from rfl)
  go_enter Tryz.func37, Tryz.ntmps37
  go_wp2_with fail
  refine (refPieces_any s w hs).mono ?_
  rintro e w1 ⟨v, rfl, hown, hb1⟩
  have hP := pcs_of_own hown
  generalize hps : pieces s.data.toList = ps at *
  have hcnt : ps.length ≤ 549755813888 := by have h1 := HC.out; have h2 := HZ.out; omega
  obtain ⟨a, cap, rfl, hc⟩ := hP
  have HPC : Hid (IsPcs w1 w.heap.size (.slice a ps.length cap) ps) := Lib.hid ⟨a, cap, rfl, hc⟩
  have HB1 := Lib.hid hb1
  have hs1 := hb1.size
  have HPS := Lib.hid hps
  clear hown hb1 hc hps
  go_wp2_with fail
  go_loopw [3, 5, 9] (fun t _ i wr => ∃ k : Nat, k ≤ ps.length ∧ i = .int .i64 k ∧ t = .string ⟨(pack (ps.take k)).toArray⟩ ∧ Hid (Below w1.heap.size w1 wr)) (fun _ _ i _ => ps.length - (intOf i).toNat)
  case atStart => exact ⟨0, by omega, rfl, rfl, Lib.hid (Below.refl _ _)⟩
  case round =>
    obtain ⟨k, hk, rfl, rfl, hB⟩ := hrel
    by_cases hlt : k < ps.length
    · obtain ⟨a2, cap2, hv2, hc2⟩ := HPC.out.later hB.out
      obtain ⟨p, hp⟩ : ∃ p, ps[k]? = some p := ⟨_, List.getElem?_eq_getElem hlt⟩
      obtain ⟨g, ha, hg1, hg2, c0, c1⟩ := hc2 k p hp
      simp only [Value.slice.injEq] at hv2
      obtain ⟨rfl, _, rfl⟩ := hv2
      subst ha
      have hgood := good_mem HG.out (List.mem_of_getElem? hp)
      have HT := Lib.hid (pack_take hp)
      have hll : (pack (ps.take k)).length ≤ 1099511627776 := by have h1 := HL.out k; have h2 := HZ.out; omega
      have hpl : (packP p).length ≤ 5 := by rw [packP_sz]; unfold sz; split <;> omega
      have hsz : (⟨(pack (ps.take k)).toArray⟩ : ByteArray).size + (⟨(packP p).toArray⟩ : ByteArray).size ≤ 2199023255552 := by rw [text_size, text_size]; omega
      have hbs := hB.out.size
      obtain ⟨h2a, h2b⟩ := hgood
      clear hc2 hp h2a hll hpl
      generalize pack (ps.take k) = R at *
      go_wp2_with fail
      refine (refPiece_any p _ h2b).mono ?_
      rintro e w2 ⟨rfl, hb2⟩
      have HB2 := Lib.hid ((hB.out.alloc hbs (.cells #[.int .u8 (p.1.toNat : Int), .int .i64 (p.2 : Int)] 116)).trans (hb2.mono (by simp; omega)))
      clear hb2
      go_wp2_with fail
      go_roundw
      case rel => exact ⟨k + 1, by omega, by go_num, by rw [HT.out, ← text_append], HB2⟩
      case measure => simp [intOf]; omega
    · obtain rfl : k = ps.length := by omega
      have HF := Lib.hid (show ps.take ps.length = ps from List.take_of_length_le (Nat.le_refl _))
      rw [HF.out]
      go_wp2_with fail
      go_ret
      exact ⟨by rw [HE.out]; rfl, HB1.out.trans (hB.out.mono hs1)⟩
theorem four_short {l : List UInt8} (h : l.length < 4) : four l = false := by
  match l, h with
  | [], _ => rfl
  | [_], _ => rfl
  | [_, _], _ => rfl
  | [_, _, _], _ => rfl
theorem four_eq {s : ByteArray} (h : 4 ≤ s.size) : four s.data.toList = (s[0] == s[1] && s[1] == s[2] && s[2] == s[3]) := by
  have e0 := data_get0 (s := s) (k := 0) (by omega)
  have e1 := data_get0 (s := s) (k := 1) (by omega)
  have e2 := data_get0 (s := s) (k := 2) (by omega)
  have e3 := data_get0 (s := s) (k := 3) (by omega)
  generalize hL : s.data.toList = L at *
  match L with
  | [] => simp at e0
  | [_] => simp at e1
  | [_, _] => simp at e2
  | [_, _, _] => simp at e3
  | a :: b :: c :: d :: r =>
    simp at e0 e1 e2 e3
    subst e0 e1 e2 e3
    rfl
theorem beq_byte (a b : UInt8) : ((a.toNat : Int) == (b.toNat : Int)) = (a == b) := by
  by_cases h : a = b
  · rw [byte_eq h]; simp [h]
  · rw [byte_ne h]; simp [h]
set_option maxRecDepth 100000 in
set_option maxHeartbeats 1000000 in
theorem four_any (s : ByteArray) (w : World) (hs : s.size ≤ maxLen) : Calls Tryz.prog 141 #[.string s] w fun e w' => e = .returned (.bool (four s.data.toList)) ∧ ∃ n, w' = w.drewN n := by
  unfold maxLen at hs
  by_cases h4 : (4 : Int) ≤ (s.size : Int)
  · have HF := Lib.hid (four_eq (s := s) (by omega))
    have k0 : 0 < s.size := by omega
    have k1 : 1 < s.size := by omega
    have k2 : 2 < s.size := by omega
    have k3 : 3 < s.size := by omega
    have j1 : (1 : Int) < (s.size : Int) := by omega
    have j2 : (2 : Int) < (s.size : Int) := by omega
    have j3 : (3 : Int) < (s.size : Int) := by omega
    have b0 := beq_byte s[0] s[1]
    have b1 := beq_byte s[1] s[2]
    have b2 := beq_byte s[2] s[3]
    by_cases e0 : (s[0] == s[1]) = true
    · rw [e0] at b0
      by_cases e1 : (s[1] == s[2]) = true
      · rw [e1] at b1
        by_cases e2 : (s[2] == s[3]) = true
        · rw [e2] at b2
          have HR := Lib.hid (show four s.data.toList = true by rw [HF.out, e0, e1, e2]; rfl)
          clear e0 e1 e2
          go_enter Tryz.func141, Tryz.ntmps141
          go_wp2_with fail
          go_quiet (fail)
          go_wp2_with fail
          go_ret
          exact ⟨by rw [HR.out]; rfl, _, rfl⟩
        · have e2' : (s[2] == s[3]) = false := by simpa using e2
          rw [e2'] at b2
          have HR := Lib.hid (show four s.data.toList = false by rw [HF.out, e0, e1, e2']; rfl)
          clear e0 e1 e2 e2'
          go_enter Tryz.func141, Tryz.ntmps141
          go_wp2_with fail
          go_quiet (fail)
          go_wp2_with fail
          go_ret
          exact ⟨by rw [HR.out]; rfl, _, rfl⟩
      · have e1' : (s[1] == s[2]) = false := by simpa using e1
        rw [e1'] at b1
        have HR := Lib.hid (show four s.data.toList = false by rw [HF.out, e0, e1']; rfl)
        clear e0 e1 e1' b2
        go_enter Tryz.func141, Tryz.ntmps141
        go_wp2_with fail
        go_quiet (fail)
        go_wp2_with fail
        go_ret
        exact ⟨by rw [HR.out]; rfl, _, rfl⟩
    · have e0' : (s[0] == s[1]) = false := by simpa using e0
      rw [e0'] at b0
      have HR := Lib.hid (show four s.data.toList = false by rw [HF.out, e0']; rfl)
      clear e0 e0' b1 b2
      go_enter Tryz.func141, Tryz.ntmps141
      go_wp2_with fail
      go_quiet (fail)
      go_wp2_with fail
      go_ret
      exact ⟨by rw [HR.out]; rfl, _, rfl⟩
  · have HR := Lib.hid (show four s.data.toList = false from four_short (by show s.size < 4; omega))
    have hd : decide ((4 : Int) ≤ (s.size : Int)) = false := by simp only [decide_eq_false_iff_not]; exact h4
    go_enter Tryz.func141, Tryz.ntmps141
    go_wp2_with fail
    go_quiet (fail)
    go_wp2_with fail
    go_ret
    exact ⟨by rw [HR.out]; rfl, _, rfl⟩
theorem first_one {s : ByteArray} {c : UInt8} {l : List UInt8} (h : s.data.toList = c :: l) : s.extract 0 1 = ⟨#[c]⟩ := by
  apply ByteArray.ext
  rw [ByteArray.data_extract]
  apply Array.ext'
  rw [Array.toList_extract, h]
  rfl
theorem four_split {l : List UInt8} (h : four l = true) : ∃ c r, l = c :: c :: c :: c :: r := by
  match l, h with
  | a :: b :: c :: d :: r, h =>
    simp only [four, Bool.and_eq_true, beq_iff_eq] at h
    obtain ⟨⟨rfl, rfl⟩, rfl⟩ := h
    exact ⟨a, r, rfl⟩
set_option maxRecDepth 100000 in
set_option maxHeartbeats 2000000 in
theorem rlrefDecode_any (s : ByteArray) (w : World) (hs : s.size ≤ 4294967296) :
    Calls Tryz.prog 79 #[.string s] w fun e w' => e = .returned (.tuple #[.string ⟨(dec s.data.toList).1.toArray⟩, .int .i64 ((dec s.data.toList).2 : Int)]) ∧ ∃ n, w' = w.drewN n := by
  go_enter Tryz.func79, Tryz.ntmps79
  go_wp2_with fail
  go_loopw [0, 4, 27] (fun t v _ wr => ∃ (u : ByteArray) (o : List UInt8) (m : Nat), t = .string u ∧ v = .string ⟨o.toArray⟩ ∧ u.size ≤ s.size ∧ o.length + 255 * u.size ≤ 255 * s.size ∧ Hid (dec s.data.toList = pfx o (dec u.data.toList)) ∧ wr = w.drewN m) (fun t _ _ _ => vsize t)
  case atStart => exact ⟨s, [], 0, rfl, rfl, Nat.le_refl _, by simp, Lib.hid (pfx_nil _ (dec_err _)).symm, rfl⟩
  case round =>
    obtain ⟨u, o, m, rfl, rfl, hu, ho, hd, rfl⟩ := hrel
    by_cases h0 : 0 < u.size
    · have hu3 : u.size ≤ maxLen := by unfold maxLen; omega
      by_cases hf : four u.data.toList = true
      · obtain ⟨c, r, hL⟩ := four_split hf
        have hfo := Lib.hid (first_one hL)
        have hlen : u.size = r.length + 4 := by show u.data.toList.length = _; rw [hL]; rfl
        have h63 : s.size ≤ 4294967296 := hs
        cases r with
        | nil =>
          have hz4 : ((u.size : Int) == 4) = true := by rw [hlen]; rfl
          have HD := Lib.hid (show dec s.data.toList = ([], 24) by rw [hd.out, hL, dec_four_end]; rfl)
          clear hlen
          go_wp2_with fail
          refine (four_any u _ hu3).mono ?_
          rintro e w' ⟨rfl, m2, rfl⟩
          rw [hf]
          clear hf
          go_wp2_with fail
          go_ret2
          exact ⟨by rw [HD.out]; rfl, _, rfl⟩
        | cons n r =>
          have hz4 : ((u.size : Int) == 4) = false := by rw [beq_eq_false_iff_ne, hlen]; simp; omega
          have hk4 : 4 < u.size := by rw [hlen]; simp
          have hn : u[4] = n := by have := byte_at hL hk4; simpa using this.symm
          have hn2 := n.toNat_lt
          have HNN := Lib.hid hn
          clear hn
          have h1s : 1 ≤ u.size := by omega
          have h5s : 5 ≤ u.size := by omega
          by_cases hc : (251 : Int) < (u[4].toNat : Int)
          · have HD := Lib.hid (show dec s.data.toList = ([], 25) by rw [hd.out, hL, dec_four_bad c n r (by rw [← HNN.out]; omega)]; rfl)
            clear hlen
            go_wp2_with fail
            refine (four_any u _ hu3).mono ?_
            rintro e w' ⟨rfl, m2, rfl⟩
            rw [hf]
            clear hf
            go_wp2_with fail
            go_ret2
            exact ⟨by rw [HD.out]; rfl, _, rfl⟩
          · have HD := Lib.hid (show dec u.data.toList = pfx (List.replicate (4 + u[4].toNat) c) (dec r) by rw [hL, dec_four_count c n r (by rw [← HNN.out]; omega), HNN.out])
            have HL := Lib.hid hL
            have hlen2 : u.size = r.length + 5 := by rw [hlen]; rfl
            have hfo2 := hfo.out
            have hu4 := u[4].toNat_lt
            clear hlen hL
            go_wp2_with fail
            refine (four_any u _ hu3).mono ?_
            rintro e w' ⟨rfl, m2, rfl⟩
            rw [hf]
            clear hf
            go_wp2_with fail
            obtain ⟨N, hN⟩ : ∃ N : Nat, 4 + u[4].toNat = N := ⟨_, rfl⟩
            have hN2 : (4 : Int) + (u[4].toNat : Int) = (N : Int) := by omega
            have hN3 : N ≤ 255 := by omega
            rw [hN] at HD
            rw [hN2]
            go_loop [4, 27] (fun v i => ∃ k : Nat, k ≤ N ∧ i = .int .i64 k ∧ v = .string ⟨(o ++ List.replicate k c).toArray⟩) (fun _ i => N - (intOf i).toNat)
            case atStart => exact ⟨0, by omega, rfl, by simp⟩
            case round =>
              obtain ⟨k, hk, rfl, rfl⟩ := hrel
              by_cases hlt : k < N
              · have hsz : (⟨(o ++ List.replicate k c).toArray⟩ : ByteArray).size + (⟨#[c]⟩ : ByteArray).size ≤ 2199023255552 := by
                  rw [text_size, List.length_append, List.length_replicate]; show _ + 1 ≤ _; omega
                have HR := Lib.hid (show (o ++ List.replicate k c) ++ [c] = o ++ List.replicate (k + 1) c by rw [List.replicate_succ', List.append_assoc])
                generalize o ++ List.replicate k c = R at *
                go_wp2_with fail
                go_round
                case rel => exact ⟨k + 1, by omega, by go_num, by rw [← HR.out, ← text_append]⟩
                case measure => simp [intOf]; omega
              · obtain rfl : k = N := by omega
                go_wp2_with fail
                go_roundw
                case rel => exact ⟨_, o ++ List.replicate k c, _, rfl, rfl, by simp [ByteArray.size_extract]; omega, by simp [ByteArray.size_extract]; omega, Lib.hid (by rw [hd.out, HD.out, pfx_pfx, ← hlen2, ext_data, HL.out]; rfl), rfl⟩
                case measure => simp [vsize, ByteArray.size_extract]; omega
      · have hf' : four u.data.toList = false := by simpa using hf
        obtain ⟨c, l, hL⟩ := text_cons h0
        have hfo := first_one hL
        have HD := Lib.hid (show dec u.data.toList = pfx [c] (dec l) by rw [hL] at hf' ⊢; exact dec_one c l hf')
        have HL := Lib.hid hL
        have hsz : (⟨o.toArray⟩ : ByteArray).size + (⟨#[c]⟩ : ByteArray).size ≤ 2199023255552 := by
          rw [text_size]; show _ + 1 ≤ _; omega
        clear hL hf
        have h1s : 1 ≤ u.size := by omega
        go_wp2_with fail
        refine (four_any u _ hu3).mono ?_
        rintro e w' ⟨rfl, m2, rfl⟩
        rw [hf']
        clear hf'
        go_wp2_with fail
        go_roundw
        case rel => exact ⟨_, o ++ [c], _, rfl, by rw [← text_append], by simp [ByteArray.size_extract]; omega, by simp [ByteArray.size_extract]; omega, Lib.hid (by rw [hd.out, HD.out, pfx_pfx, ext_data, HL.out]; rfl), rfl⟩
        case measure => simp [vsize, ByteArray.size_extract]; omega
    · have hz : u.size = 0 := by omega
      have hnil : u.data.toList = [] := List.eq_nil_of_length_eq_zero hz
      have HN := Lib.hid (show dec s.data.toList = (o, 0) by rw [hd.out, hnil]; simp [dec, res, urun, outc, pfx])
      clear hz hnil
      go_wp2_with fail
      go_ret2
      exact ⟨by rw [HN.out]; rfl, _, rfl⟩
end Go.Proofs.YtnachbjhhpnadaaGreatDoor

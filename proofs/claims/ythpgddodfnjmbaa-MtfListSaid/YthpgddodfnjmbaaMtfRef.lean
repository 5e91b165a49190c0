/-
  THE WALKS OF THE DOCUMENT's ANSWERS OF LAYER 6 (balerref06): texts cut and joined.
-/
import Derived.Test.YthpgddodfnjmbaaMtfD
import Derived.Test.YthpgddodfnjmbaaUsedRef
namespace Go.Proofs.Ythpgddodfnjmbaa
open Go.RowKit UsedM MtfM
set_option linter.unusedVariables false
set_option maxHeartbeats 1000000 in
theorem place_any (s : ByteArray) (c : UInt8) (w : World) (hs : s.size ≤ 9223372036854775807) :
    Calls Try.prog 40 #[.string s, .int .u8 (c.toNat : Int)] w fun e w' => e = .returned (.int .i64 (Lib.indexByte s.data.toList c)) ∧ w = w' := by
  have hsl : s.data.toList.length = s.size := rfl
  have hcl := c.toNat_lt
  go_enter Try.func40, Try.ntmps40
  go_wp2_with fail
  go_loop [5] (fun i => ∃ k : Nat, k ≤ s.size ∧ i = .int .i64 k ∧ ∀ j, j < k → s.data.toList[j]? ≠ some c) (fun i => s.size - (intOf i).toNat)
  case atStart => exact ⟨0, by omega, rfl, fun j hj => by omega⟩
  case round =>
    obtain ⟨k, hk, rfl, hn⟩ := hrel
    have HN := Lib.hid hn
    clear hn
    by_cases hlt : k < s.size
    · have hki : (k : Int) < (s.size : Int) := by omega
      have hx := s[k].toNat_lt
      have HG := Lib.hid (show s.data.toList[k]? = some s[k] from List.getElem?_eq_getElem (l := s.data.toList) (by simpa using hlt))
      by_cases he : s[k] = c
      · have hp := place_is (l := s.data.toList) (c := c) (k := k) (by rw [HG.out, he]) HN.out
        have hd : ((s[k].toNat : Int) == (c.toNat : Int)) = true := by rw [he]; exact beq_self_eq_true _
        have HP := Lib.hid hp
        clear he hp
        go_wp2_with fail
        go_ret
        exact ⟨by rw [HP.out]; rfl, rfl⟩
      · have hd : ((s[k].toNat : Int) == (c.toNat : Int)) = false := by
          rw [beq_eq_false_iff_ne]
          intro h
          exact he (UInt8.toNat_inj.1 (by omega))
        have HNE := Lib.hid he
        clear he
        go_wp2_with fail
        go_round
        case rel => exact ⟨k + 1, by omega, by go_num, fun j hj => by
          by_cases e : j = k
          · subst e
            rw [HG.out]
            intro h
            exact HNE.out (by simpa using h)
          · exact HN.out j (by omega)⟩
        case measure => simp [intOf]; omega
    · obtain rfl : k = s.size := by omega
      have hp := place_not (l := s.data.toList) (c := c) (fun j hj => HN.out j (by omega))
      have HP := Lib.hid hp
      clear hp
      go_wp2_with fail
      go_ret
      exact ⟨by rw [HP.out]; rfl, rfl⟩
theorem touch_text (m : List UInt8) (i : Nat) (h : i < m.length) :
    ((⟨m.toArray⟩ : ByteArray).extract i (i + 1) ++ (⟨m.toArray⟩ : ByteArray).extract 0 i) ++ (⟨m.toArray⟩ : ByteArray).extract (i + 1) m.length = ⟨(touch m i).toArray⟩ := by
  apply ByteArray.ext
  apply Array.toList_inj.1
  unfold touch
  simp only [ByteArray.data_append, ByteArray.data_extract, Array.toList_append, List.extract_toArray, List.extract_eq_take_drop]
  simp only [Nat.add_sub_cancel_left, Nat.sub_zero, List.drop_zero]
  rw [List.take_of_length_le (l := m.drop (i + 1)) (by rw [List.length_drop]; exact Nat.le_refl _)]
set_option maxHeartbeats 1000000 in
theorem rtouch_any (m : List UInt8) (i : Nat) (w : World) (hi : i < m.length) (hm : m.length ≤ 256) :
    Calls Try.prog 43 #[.string ⟨m.toArray⟩, .int .i64 (i : Int)] w fun e w' => e = .returned (.string ⟨(touch m i).toArray⟩) ∧ ∃ n, w' = w.drewN n := by
  have HT := touch_text m i hi
  have hsz : (⟨m.toArray⟩ : ByteArray).size = m.length := text_size m
  obtain ⟨L, hL⟩ : ∃ L, m.length = L := ⟨_, rfl⟩
  rw [hL] at HT hsz hi hm
  generalize (⟨m.toArray⟩ : ByteArray) = T at *
  obtain ⟨j, hj⟩ : ∃ j, i + 1 = j := ⟨_, rfl⟩
  rw [hj] at HT
  have z1 : (T.extract i j).size = 1 := by rw [ByteArray.size_extract]; omega
  have z2 : (T.extract 0 i).size = i := by rw [ByteArray.size_extract]; omega
  have z3 : (T.extract j L).size = L - j := by rw [ByteArray.size_extract]; omega
  have z4 : (T.extract i j ++ T.extract 0 i).size = j := by rw [ByteArray.size_append]; omega
  have hji : (i : Int) + 1 = (j : Int) := by omega
  have hjw : IntKind.i64.wrap (j : Int) = (j : Int) := IntWalk.i64_in _ (by omega)
  have b1 : (0 : Int) ≤ (i : Int) := by omega
  have b2 : (i : Int) ≤ (j : Int) := by omega
  have b3 : (j : Int) ≤ (L : Int) := by omega
  have b4 : (i : Int) ≤ (L : Int) := by omega
  have b5 : (0 : Int) ≤ (j : Int) := by omega
  have b6 : (L : Int) ≤ 256 := by omega
  have hc1 : ∀ W, (Op.stringOp .add (T.extract i j) (T.extract 0 i)).run Try.prog W = .ok (.string (T.extract i j ++ T.extract 0 i)) W := fun W => by
    rw [run_string_add_if, if_neg (by omega)]
  have hc2 : ∀ W, (Op.stringOp .add (T.extract i j ++ T.extract 0 i) (T.extract j L)).run Try.prog W = .ok (.string ((T.extract i j ++ T.extract 0 i) ++ T.extract j L)) W := fun W => by
    rw [run_string_add_if, if_neg (by omega)]
  have HTT := Lib.hid HT
  clear HT z1 z2 z3 z4 hL
  go_enter Try.func43, Try.ntmps43
  go_wp2_with fail
  go_quiet (fail)
  go_wp2_with fail
  go_ret
  rw [HTT.out]
  exact ⟨rfl, _, rfl⟩
theorem ints_of_own {w : World} {base e n : Nat} {v : Value} {zs : List Int} (h : w.ownsRow base e 1 v n (zs.map iv64)) : IsInts w v zs := by
  have hl : zs.length = n := by simpa using h.1
  rcases h.2 with ⟨rfl, h0⟩ | ⟨g, cap, cur, rfl, _, hg, _⟩
  · obtain rfl : zs = [] := List.eq_nil_of_length_eq_zero (by omega)
    exact IsInts.nil w
  · subst hl
    refine ⟨_, cap, rfl, fun i x hx => ⟨g, 0, rfl, ?_⟩⟩
    have hi := (List.getElem?_eq_some_iff.1 hx).1
    rw [Nat.zero_add, h.cellAt i (by omega)]
    rw [List.getElem?_map, hx]
    rfl
theorem info_int : (Try.prog.info? 3).map (fun i => (i.zero, i.size, i.bytes)) = some (some (.int .i64 0), 1, 8) := by kernel_rfl
set_option maxRecDepth 100000 in
set_option maxHeartbeats 1000000 in
theorem refEncode_any (s t : ByteArray) (w : World) (hs : s.size ≤ 300) (ht : t.size ≤ 9223372036854775807) :
    Calls Try.prog 47 #[.string s, .string t] w fun e w' => ∃ (v : Value) (zs : List Int) (err : Nat), e = .returned (.tuple #[v, .int .i64 (err : Int)]) ∧ IsInts w' v zs ∧ Below w.heap.size w w' ∧ EncP s.data.toList t.data.toList zs err := by
  by_cases hy : IsSyms t.data.toList
  · have htz : t.size ≤ 256 := isSyms_le hy
    have HIS := Lib.hid (fun w => refIs_any t true w ht ⟨fun _ => hy, fun _ => rfl⟩)
    have hlt : t.data.toList.length = t.size := rfl
    have hls : s.data.toList.length = s.size := rfl
    have hsi : (s.size : Int) ≤ 300 := by omega
    obtain ⟨i0, hi, hz0, hz1, hz2⟩ := info_parts info_int
    have HI := Lib.hid hi
    have HZ0 := Lib.hid hz0
    have HZ1 := Lib.hid hz1
    have HZ2 := Lib.hid hz2
    clear hi hz0 hz1 hz2
    go_enter Try.func47, Try.ntmps47
    go_wp2_with fail
    refine (HIS.out w).mono ?_
    rintro e w1 ⟨rfl, hb⟩
    have HB := Lib.hid hb
    clear hb
    go_wp2_with fail
    go_loopw [6, 7, 8] (fun o d i wr => ∃ (k : Nat) (zs : List Int) (m : List UInt8) (v : Value), k ≤ s.size ∧ i = .int .i64 k ∧ d = .string ⟨m.toArray⟩ ∧ o = v ∧ encK t.data.toList s.data.toList k = some (zs, m) ∧ wr.ownsRow w.heap.size 3 1 v k (zs.map iv64) ∧ Below w.heap.size w wr) (fun _ _ i _ => s.size - (intOf i).toNat)
    case atStart => exact ⟨0, [], t.data.toList, _, by omega, rfl, congrArg Value.string (text_eq t), rfl, rfl, World.ownsRow_nil _ _ _ _, HB.out⟩
    case round =>
      clear HB
      obtain ⟨k, zs, m, v, hk, rfl, rfl, rfl, he, hO, hB⟩ := hrel
      have HE := Lib.hid he
      have HO := Lib.hid hO
      have HB := Lib.hid hB
      clear he hO hB
      by_cases hlk : k < s.size
      · have hki : (k : Int) < (s.size : Int) := by omega
        have hgd : s.data.toList.getD k 0 = s[k] := by
          rw [List.getD_eq_getElem?_getD, List.getElem?_eq_getElem (by simpa using hlk)]
          rfl
        have hlen := encK_len _ _ _ _ _ HE.out
        have hml : m.length ≤ 256 := by omega
        have hstep := encK_succ t.data.toList s.data.toList k
        rw [HE.out, hgd] at hstep
        have HST := Lib.hid hstep
        have HPL := Lib.hid (fun w => place_any ⟨m.toArray⟩ s[k] w (by rw [text_size]; omega))
        clear hstep hgd
        have hxk := s[k].toNat_lt
        have hmt : (⟨m.toArray⟩ : ByteArray).data.toList = m := rfl
        rw [hmt] at HPL
        rcases place_cases m s[k] with hp | ⟨o, hp, ho, hx⟩
        · have hnone : encK t.data.toList s.data.toList (k + 1) = none := by rw [HST.out]; simp only [hp]; rfl
          have hfin : encK t.data.toList s.data.toList s.size = none := by
            have := encK_none t.data.toList s.data.toList (s.size - (k + 1)) (k + 1) hnone
            rwa [show k + 1 + (s.size - (k + 1)) = s.size by omega] at this
          have HF := Lib.hid hfin
          rw [hp] at HPL
          clear hnone hfin hp hlen hmt
          generalize (⟨m.toArray⟩ : ByteArray) = T at *
          go_wp2_with fail
          refine (HPL.out wr).mono ?_
          rintro e w' ⟨rfl, rfl⟩
          go_wp2_with fail
          go_ret2
          exact ⟨_, [], 6, rfl, IsInts.nil _, HB.out, Or.inr (Or.inl ⟨hy, HF.out, rfl, rfl⟩)⟩
        · have hsome : encK t.data.toList s.data.toList (k + 1) = some (zs ++ [(o : Int)], touch m o) := by
            rw [HST.out]
            simp only [hp]
            rw [if_neg (by omega)]
            rfl
          have HS := Lib.hid hsome
          rw [hp] at HPL
          have HTO := Lib.hid (fun w => rtouch_any m o w ho hml)
          have hbw : w.heap.size ≤ wr.heap.size := HB.out.size
          clear hsome hp hx hmt
          generalize (⟨m.toArray⟩ : ByteArray) = T at *
          go_wp2_with fail
          refine (HPL.out wr).mono ?_
          rintro e w' ⟨rfl, rfl⟩
          go_wp2_with (at_builtin; refine wpList_append_own _ rfl _ _ 61 rfl w.heap.size 3 i0 (.int .i64 0) 1 8 Try.underlying61 HI.out HZ0.out HZ1.out HZ2.out rfl (by decide) _ _ _ rfl (HO.out.alloc _) ⟨wr.heap.size, 0, none⟩ 1 1 [.int .i64 (o : Int)] rfl rfl ?c1 ?c2 ?c3 ?c4 ?c5 ?_)
          case c1 => exact news_new _ _ _ _ rfl
          case c2 => intro u hu; simp at hu; subst hu; rfl
          case c3 => unfold maxLen; omega
          case c4 => omega
          case c5 => simp; omega
          intro v' w2 hown' hgrow _
          have HO2 := Lib.hid hown'
          have HB2 := Lib.hid (HB.out.trans (Below.grown ((Below.refl w.heap.size wr).alloc hbw _) hgrow (by simp; omega) (fun j hj => (HO.out.lt j hj).1)))
          clear hown' hgrow
          go_wp2_with fail
          refine (HTO.out w2).mono ?_
          rintro e w3 ⟨rfl, n, rfl⟩
          have HB3 := Lib.hid (HB2.out.trans ((below_drewN w2 n).mono HB2.out.size))
          have HO3 : Hid ((w2.drewN n).ownsRow w.heap.size 3 1 v' (k + 1) ((zs ++ [(o : Int)]).map iv64)) := Lib.hid (by
            rw [List.map_append]
            exact HO2.out)
          go_wp2_with fail
          go_roundw
          case rel => exact ⟨k + 1, _, _, _, by omega, by go_num, rfl, rfl, HS.out, HO3.out, HB3.out⟩
          case measure => simp [intOf]; omega
      · obtain rfl : k = s.size := by omega
        go_wp2_with fail
        go_ret2
        exact ⟨_, zs, 0, rfl, ints_of_own HO.out, HB.out, Or.inr (Or.inr ⟨hy, ⟨m, HE.out⟩, rfl⟩)⟩
  · have HIS := Lib.hid (fun w => refIs_any t false w ht ⟨fun e => (by cases e), fun e => absurd e hy⟩)
    go_enter Try.func47, Try.ntmps47
    go_wp2_with fail
    refine (HIS.out w).mono ?_
    rintro e w1 ⟨rfl, hb⟩
    have HB := Lib.hid hb
    clear hb
    go_wp2_with fail
    go_ret2
    exact ⟨_, [], 1, rfl, IsInts.nil _, HB.out, Or.inl ⟨hy, rfl, rfl⟩⟩
theorem take_one (m : List UInt8) (o : Nat) (x : UInt8) (h : m[o]? = some x) : (⟨m.toArray⟩ : ByteArray).extract o (o + 1) = ⟨#[x]⟩ := by
  obtain ⟨ho, he⟩ := List.getElem?_eq_some_iff.1 h
  apply ByteArray.ext
  apply Array.toList_inj.1
  simp only [ByteArray.data_extract, List.extract_toArray, List.extract_eq_take_drop, Nat.add_sub_cancel_left]
  rw [List.drop_eq_getElem_cons ho, he]
  rfl
set_option maxRecDepth 100000 in
set_option maxHeartbeats 1000000 in
theorem refDecode_any (v : Value) (zs : List Int) (t : ByteArray) (w : World) (hv : IsInts w v zs) (hz : zs.length ≤ 300) (ht : t.size ≤ 9223372036854775807) :
    Calls Try.prog 50 #[v, .string t] w fun e w' => ∃ (s : List UInt8) (err : Nat), e = .returned (.tuple #[.string ⟨s.toArray⟩, .int .i64 (err : Int)]) ∧ Below w.heap.size w w' ∧ DecP zs t.data.toList s err := by
  have HV := Lib.hid hv
  obtain ⟨a, cap, rfl, _⟩ := hv
  by_cases hy : IsSyms t.data.toList
  · have htz : t.size ≤ 256 := isSyms_le hy
    have HIS := Lib.hid (fun w => refIs_any t true w ht ⟨fun _ => hy, fun _ => rfl⟩)
    have hlt : t.data.toList.length = t.size := rfl
    have hsi : (zs.length : Int) ≤ 300 := by omega
    go_enter Try.func50, Try.ntmps50
    go_wp2_with fail
    refine (HIS.out w).mono ?_
    rintro e w1 ⟨rfl, hb⟩
    have HB := Lib.hid hb
    clear hb
    go_wp2_with fail
    go_loopw [6, 7, 16] (fun o d i wr => ∃ (k : Nat) (s m : List UInt8), k ≤ zs.length ∧ i = .int .i64 k ∧ d = .string ⟨m.toArray⟩ ∧ o = .string ⟨s.toArray⟩ ∧ decK t.data.toList zs k = some (s, m) ∧ Below w.heap.size w wr) (fun _ _ i _ => zs.length - (intOf i).toNat)
    case atStart => exact ⟨0, [], t.data.toList, by omega, rfl, congrArg Value.string (text_eq t), rfl, rfl, HB.out⟩
    case round =>
      clear HB
      obtain ⟨k, s, m, hk, rfl, rfl, rfl, hd, hB⟩ := hrel
      have HD := Lib.hid hd
      have HB := Lib.hid hB
      clear hd hB
      by_cases hlk : k < zs.length
      · have hki : (k : Int) < (zs.length : Int) := by omega
        obtain ⟨b1, o1, k1, he1, c1⟩ := (HV.out.below HB.out).cell hlk
        simp only [Value.slice.injEq] at he1
        obtain ⟨rfl, _, rfl⟩ := he1
        obtain ⟨z, hzz⟩ : ∃ z, zs.getD k 0 = z := ⟨_, rfl⟩
        rw [hzz] at c1
        have hlen := decK_len _ _ _ _ _ HD.out
        have hml : m.length ≤ 256 := by omega
        have hmz : (⟨m.toArray⟩ : ByteArray).size = m.length := text_size m
        have hsz : (⟨s.toArray⟩ : ByteArray).size = k := by rw [text_size, hlen.1]
        obtain ⟨L, hL⟩ : ∃ L, m.length = L := ⟨_, rfl⟩
        rcases dec_step HD.out z hzz with ⟨hbad, hnone⟩ | ⟨o, x, rfl, hx, hsome⟩
        · have hfin : decK t.data.toList zs zs.length = none := by
            have := decK_none t.data.toList zs (zs.length - (k + 1)) (k + 1) hnone
            rwa [show k + 1 + (zs.length - (k + 1)) = zs.length by omega] at this
          have HF := Lib.hid hfin
          rw [hL] at hmz hbad
          clear hnone hfin hzz hlen hml hL
          generalize (⟨m.toArray⟩ : ByteArray) = T at *
          generalize (⟨s.toArray⟩ : ByteArray) = O at *
          rcases hbad with hbad | hbad
          · go_wp2_with fail
            go_ret2
            exact ⟨[], 1, rfl, HB.out, Or.inr (Or.inl ⟨hy, HF.out, rfl, rfl⟩)⟩
          · have hz0 : 0 ≤ z := by omega
            go_wp2_with fail
            go_ret2
            exact ⟨[], 1, rfl, HB.out, Or.inr (Or.inl ⟨hy, HF.out, rfl, rfl⟩)⟩
        · have HS := Lib.hid hsome
          have hol := (List.getElem?_eq_some_iff.1 hx).1
          have HTO := Lib.hid (fun w => rtouch_any m o w hol hml)
          have h1 := take_one m o x hx
          obtain ⟨p, hp⟩ : ∃ p, o + 1 = p := ⟨_, rfl⟩
          rw [hp] at h1
          have hop : (o : Int) + 1 = (p : Int) := by omega
          have hpw : IntKind.i64.wrap (p : Int) = (p : Int) := IntWalk.i64_in _ (by omega)
          have b1 : (0 : Int) ≤ (o : Int) := by omega
          have b2 : (o : Int) ≤ (p : Int) := by omega
          have b3 : (p : Int) ≤ (L : Int) := by omega
          have b4 : (o : Int) < (L : Int) := by omega
          have b6 : (L : Int) ≤ 256 := by omega
          have HSX := Lib.hid (text_append s [x])
          have hx1 : (⟨#[x]⟩ : ByteArray).size = 1 := rfl
          have hks : (k : Int) ≤ 300 := by omega
          rw [hL] at hmz
          clear hsome hzz hlen hml hL hx hol
          generalize (⟨m.toArray⟩ : ByteArray) = T at *
          generalize (⟨s.toArray⟩ : ByteArray) = O at *
          have hc1 : ∀ W, (Op.stringOp .add O ⟨#[x]⟩).run Try.prog W = .ok (.string (O ++ ⟨#[x]⟩)) W := fun W => by
            rw [run_string_add_if, if_neg (by omega)]
          go_wp2_with fail
          refine (HTO.out wr).mono ?_
          rintro e w3 ⟨rfl, n, rfl⟩
          have HB3 := Lib.hid (HB.out.trans ((below_drewN wr n).mono HB.out.size))
          go_wp2_with fail
          go_roundw
          case rel => exact ⟨k + 1, s ++ [x], _, by omega, by go_num, rfl, congrArg Value.string HSX.out, HS.out, HB3.out⟩
          case measure => simp [intOf]; omega
      · obtain rfl : k = zs.length := by omega
        go_wp2_with fail
        go_ret2
        exact ⟨s, 0, rfl, HB.out, Or.inr (Or.inr ⟨hy, ⟨m, HD.out⟩, rfl⟩)⟩
  · have HIS := Lib.hid (fun w => refIs_any t false w ht ⟨fun e => (by cases e), fun e => absurd e hy⟩)
    go_enter Try.func50, Try.ntmps50
    go_wp2_with fail
    refine (HIS.out w).mono ?_
    rintro e w1 ⟨rfl, hb⟩
    have HB := Lib.hid hb
    clear hb
    go_wp2_with fail
    go_ret2
    exact ⟨[], 1, rfl, HB.out, Or.inl ⟨hy, rfl, rfl⟩⟩
end Go.Proofs.Ythpgddodfnjmbaa
